/-
  What the methods of an arena of one type of things come to: New, Get, Alloc, Release, Live.
-/
import Derived.Test.YtbdfbgkfhaiccaaDoorAr
namespace Go.Proofs.YtbdfbgkfhaiccaaDoor
open Go.RowKit Go.Maps
set_option linter.unusedVariables false

theorem zeroS (w : World) : (zeroValue 95).run Tryd.prog w = .ok (.pointer none) w := by kernel_rfl

theorem newS (pp : Option Addr) (w : World) : Calls Tryd.prog 9 #[.pointer pp] w fun e w' => e = .returned (.pointer (some ⟨w.heap.size + 1, 0, none⟩)) ∧ Ar 89 97 w' (w.heap.size + 1) w.heap.size (.pointer pp) (fun _ => none) 0 ∧ Turn (fun _ => False) w w' := by
  have hmm := @run_makeMap Tryd.prog
  have HA := Lib.hid (ArF.made w 89 97 (.pointer pp))
  go_enter Tryd.func9, Tryd.ntmps9
  go_wp2_with fail
  go_ret
  exact ⟨rfl, ⟨_, HA.out⟩, ((Turn.refl _ w).alloc _).alloc _⟩

theorem getS_none_w (ab mb : Nat) (i : Int) (g : Nat) (w : World) (h1 : w.cell? ⟨ab, 1, none⟩ = some (.map (some mb))) (l : ab < w.heap.size)
    (hL : ∀ n, (Instr.lookup 87 (.map (some mb)) (.int .i64 i) true).run Tryd.prog ((w.alloc (.cells #[.int .i64 i, .int .u64 (g : Int)] 32)).drewN n) = .ok (.tuple #[.pointer none, .bool false]) ((w.alloc (.cells #[.int .i64 i, .int .u64 (g : Int)] 32)).drewN n)) :
    Calls Tryd.prog 15 #[.pointer (some ⟨ab, 0, none⟩), .agg #[.int .i64 i, .int .u64 (g : Int)]] w fun e w' => e = .returned (.tuple #[.pointer none, .bool false]) ∧ Turn (fun _ => False) w w' := by
  go_enter Tryd.func15, Tryd.ntmps15
  go_wp2_with fail
  go_quiet (fail)
  go_wp2_with fail
  go_quiet (fail)
  go_wp2_with fail
  go_ret2
  first | exact ⟨rfl, (((Turn.refl _ w).alloc _).drewN _).drewN _⟩ | exact ⟨rfl, ((Turn.refl _ w).alloc _).drewN _⟩

theorem getS_some_w (ab mb q : Nat) (i : Int) (g g' : Nat) (w : World) (h1 : w.cell? ⟨ab, 1, none⟩ = some (.map (some mb))) (l : ab < w.heap.size) (lq : q < w.heap.size) (hq : w.cell? ⟨q, 0, none⟩ = some (.int .u64 (g' : Int)))
    (hL : ∀ n, (Instr.lookup 87 (.map (some mb)) (.int .i64 i) true).run Tryd.prog ((w.alloc (.cells #[.int .i64 i, .int .u64 (g : Int)] 32)).drewN n) = .ok (.tuple #[.pointer (some ⟨q, 0, none⟩), .bool true]) ((w.alloc (.cells #[.int .i64 i, .int .u64 (g : Int)] 32)).drewN n)) :
    Calls Tryd.prog 15 #[.pointer (some ⟨ab, 0, none⟩), .agg #[.int .i64 i, .int .u64 (g : Int)]] w fun e w' => e = .returned (if g' = g then .tuple #[.pointer (some ⟨q, 1, none⟩), .bool true] else .tuple #[.pointer none, .bool false]) ∧ Turn (fun _ => False) w w' := by
  by_cases hg : g' = g
  · rw [if_pos hg]
    subst hg
    have b : ((g' : Int) != (g' : Int)) = false := by simp
    go_enter Tryd.func15, Tryd.ntmps15
    go_wp2_with fail
    go_quiet (fail)
    go_wp2_with fail
    go_quiet (fail)
    go_wp2_with fail
    go_ret2
    first | exact ⟨rfl, (((Turn.refl _ w).alloc _).drewN _).drewN _⟩ | exact ⟨rfl, ((Turn.refl _ w).alloc _).drewN _⟩
  · rw [if_neg hg]
    have b : ((g' : Int) != (g : Int)) = true := by simp; omega
    clear hg
    go_enter Tryd.func15, Tryd.ntmps15
    go_wp2_with fail
    go_quiet (fail)
    go_wp2_with fail
    go_quiet (fail)
    go_wp2_with fail
    go_ret2
    first | exact ⟨rfl, (((Turn.refl _ w).alloc _).drewN _).drewN _⟩ | exact ⟨rfl, ((Turn.refl _ w).alloc _).drewN _⟩

theorem lookS {w : World} {ab mb n : Nat} {pp : Value} {M : Nat → Option (Nat × Value)} {f : Int → Option Value} (h : ArF 89 97 w ab mb pp M n f) (i : Int) (hw : (Lit.int .i64 i).wf = true) (o : Obj) (k : Nat) :
    (Instr.lookup 87 (.map (some mb)) (.int .i64 i) true).run Tryd.prog ((w.alloc o).drewN k) = .ok (.tuple #[(f i).getD (.pointer none), .bool (f i).isSome]) ((w.alloc o).drewN k) :=
  (h.2.1.turn (((Turn.refl (fun _ => False) w).alloc o).drewN k) (fun h => h)).look law3 Tryd.underlying3 Tryd.underlying87 (zeroS _) hw

section
variable {w : World} {ab mb n : Nat} {pp : Value} {M : Nat → Option (Nat × Value)}

/-- Get where nothing stands. -/
theorem getS_none (h : Ar 89 97 w ab mb pp M n) (x g : Nat) (hx : x < 9223372036854775808) (hM : M x = none) :
    Calls Tryd.prog 15 #[.pointer (some ⟨ab, 0, none⟩), .agg #[.int .i64 (x : Int), .int .u64 (g : Int)]] w fun e w' => e = .returned (.tuple #[.pointer none, .bool false]) ∧ Turn (fun _ => False) w w' := by
  obtain ⟨f, h⟩ := h
  have hf : f (x : Int) = none := by have := h.2.2.2.1 x; rw [hM] at this; exact this
  refine getS_none_w ab mb x g w (h.1.cell 1) h.1.lt (fun k => ?_)
  rw [lookS h _ (wf64 (by omega) (by omega)), hf]
  rfl

theorem getS_below (h : Ar 89 97 w ab mb pp M n) (i : Int) (g : Nat) (hi : i < 0) (hw : -9223372036854775808 ≤ i) :
    Calls Tryd.prog 15 #[.pointer (some ⟨ab, 0, none⟩), .agg #[.int .i64 i, .int .u64 (g : Int)]] w fun e w' => e = .returned (.tuple #[.pointer none, .bool false]) ∧ Turn (fun _ => False) w w' := by
  obtain ⟨f, h⟩ := h
  refine getS_none_w ab mb i g w (h.1.cell 1) h.1.lt (fun k => ?_)
  rw [lookS h _ (wf64 hw (by omega)), h.2.2.1 i hi]
  rfl

/-- Get where a thing of another generation stands. -/
theorem getS_other (h : Ar 89 97 w ab mb pp M n) (x g g' : Nat) (v : Value) (hx : x < 9223372036854775808) (hM : M x = some (g', v)) (hg : g' ≠ g) :
    Calls Tryd.prog 15 #[.pointer (some ⟨ab, 0, none⟩), .agg #[.int .i64 (x : Int), .int .u64 (g : Int)]] w fun e w' => e = .returned (.tuple #[.pointer none, .bool false]) ∧ Turn (fun _ => False) w w' := by
  obtain ⟨f, h⟩ := h
  have h0 := h.2.2.2.1 x
  rw [hM] at h0
  obtain ⟨q, h1, h2⟩ := h0
  have := getS_some_w ab mb q x g g' w (h.1.cell 1) h.1.lt h2.lt (h2.cell 0) (fun k => by rw [lookS h _ (wf64 (by omega) (by omega)), h1]; rfl)
  rw [if_neg hg] at this
  exact this


/-- Get of what is alive. -/
theorem getS_some (h : Ar 89 97 w ab mb pp M n) (x g : Nat) (v : Value) (hx : x < 9223372036854775808) (hM : M x = some (g, v)) :
    Calls Tryd.prog 15 #[.pointer (some ⟨ab, 0, none⟩), .agg #[.int .i64 (x : Int), .int .u64 (g : Int)]] w (GetYes 97 g v w) := by
  obtain ⟨f, h⟩ := h
  have h0 := h.2.2.2.1 x
  rw [hM] at h0
  obtain ⟨q, h1, h2⟩ := h0
  have := getS_some_w ab mb q x g g w (h.1.cell 1) h.1.lt h2.lt (h2.cell 0) (fun k => by rw [lookS h _ (wf64 (by omega) (by omega)), h1]; rfl)
  rw [if_pos rfl] at this
  exact this.mono fun e w' ⟨he, ht⟩ => ⟨q, he, h2, ht⟩

theorem getS_nil (i : Int) (g : Int) (w : World) : Calls Tryd.prog 15 #[.pointer none, .agg #[.int .i64 i, .int .u64 g]] w fun e w' => e = .returned (.tuple #[.pointer none, .bool false]) ∧ Turn (fun _ => False) w w' := by
  go_enter Tryd.func15, Tryd.ntmps15
  go_wp2_with fail
  go_ret2
  exact ⟨rfl, (Turn.refl _ w).alloc _⟩

theorem liveS (h : Ar 89 97 w ab mb pp M n) : Calls Tryd.prog 20 #[.pointer (some ⟨ab, 0, none⟩)] w fun e w' => e = .returned (.int .i64 (n : Int)) ∧ w = w' := by
  obtain ⟨f, h⟩ := h
  have hl := fun ty => h.2.1.len Tryd.underlying87 ty
  have c1 := h.1.cell 1
  simp at c1
  clear h
  go_enter Tryd.func20, Tryd.ntmps20
  go_wp2_with fail
  go_ret
  exact ⟨rfl, rfl⟩

/-- Alloc, where s is the pool's least free slot. -/
theorem allocS_some {pb gb fb s : Nat} {G : List Nat} {fr : Nat → Bool} (tx : ByteArray) (h : Ar 89 97 w ab mb (.pointer (some ⟨pb, 0, none⟩)) M n) (hP : Pool w pb gb fb G fr) (hT : Tab w) (hs : fr s = true) (hl : ∀ y, y < s → fr y = false) (hM : M s = none) (hn : n < 1000000) :
    Calls Tryd.prog 11 #[.pointer (some ⟨ab, 0, none⟩), .string tx] w fun e w' => e = .returned (.tuple #[.agg #[.int .i64 (s : Int), .int .u64 (G.getD s 0 : Nat)], .int .i64 0]) ∧
      Pool w' pb gb fb G (fun x => fr x && x != s) ∧ Ar 89 97 w' ab mb (.pointer (some ⟨pb, 0, none⟩)) (updM M s (some (G.getD s 0, .string tx))) (n + 1) ∧ Turn (fun i => i = fb ∨ i = mb) w w' := by
  obtain ⟨f, h⟩ := h
  have hsG : s < 4096 := by
    obtain ⟨F, _, _, _, _, _, _, _, _, h2, _, hlt⟩ := hP
    have := hlt s hs
    omega
  have t0 : Turn (fun _ => False) w (w.alloc (.cells #[.int .i64 0, .int .u64 0] 32)) := (Turn.refl _ w).alloc _
  have hP0 := hP.turn t0 (fun h => h) (fun h => h) (fun h => h)
  have TK := Lib.hid (take_some hP0 (hT.turn t0 (fun h => h) hT.pos) hs hl)
  have h0 := h.same t0
  have hfb : ∃ c, At (w.alloc (.cells #[.int .i64 0, .int .u64 0] 32)) fb (.cells c 30 (0, 0)) := by
    obtain ⟨F, _, _, hf, _⟩ := hP0
    exact ⟨_, hf⟩
  obtain ⟨cf, hfb⟩ := hfb
  have nab : ¬ ab = fb := h0.1.ne hfb (by intro e; injection e with _ e; cases e)
  have nmb : ¬ mb = fb := h0.2.1.ne hfb
  have nB : ¬ w.heap.size = fb := (At.new w (.cells #[.int .i64 0, .int .u64 0] 32)).ne hfb (by intro e; injection e with _ e; cases e)
  have npl : ∀ q c, At (w.alloc (.cells #[.int .i64 0, .int .u64 0] 32)) q (.cells c 97 (0, 0)) → ¬ q = fb := fun q c hq => hq.ne hfb (by intro e; injection e with _ e; cases e)
  have hB0 := At.new w (.cells #[.int .i64 0, .int .u64 0] 32)
  have HX := Lib.hid (And.intro h0 (And.intro hP (And.intro npl (And.intro hB0 (And.intro h hT)))))
  have c0 := h.1.cell 0
  simp at c0
  have l0 := h.1.lt
  clear h0 hP hP0 hT npl hB0 h hfb
  generalize G.getD s 0 = g at *
  go_enter Tryd.func11, Tryd.ntmps11
  go_wp2_with fail
  refine TK.out.mono ?_
  rintro e w1 ⟨rfl, hp1, ht1⟩
  obtain ⟨h0, hP, npl, hB0, h, hT⟩ := HX.out
  have h1 := h0.turn ht1 nab nmb npl
  have hB1 := hB0.turn ht1 nB
  have lB := hB1.lt
  have la := h1.1.lt
  have c1 := h1.1.cell 1
  simp at c1
  have t2 : Turn (fun _ => False) w1 (((w1.alloc (.cells #[.int .i64 (s : Int), .int .u64 (g : Int)] 32)).alloc (.cells #[.int .u64 (g : Int), .string tx] 97)).drew) := (((Turn.refl _ w1).alloc _).alloc _).drew
  obtain ⟨w2, hrun, hI2, ht2⟩ := (h1.2.1.turn t2 (fun h => h)).store (v := .pointer (some ⟨w1.heap.size + 1, 0, none⟩)) law3 Tryd.underlying3 Tryd.underlying87 hn (wf64 (i := (s : Int)) (by omega) (by omega))
  have hH : At (((w1.alloc (.cells #[.int .i64 (s : Int), .int .u64 (g : Int)] 32)).alloc (.cells #[.int .u64 (g : Int), .string tx] 97)).drew) w1.heap.size (.cells #[.int .i64 (s : Int), .int .u64 (g : Int)] 32 (0, 0)) :=
    (At.new w1 _).turn (((Turn.refl (fun _ => False) _).alloc _).drew) (fun h => h)
  have hQ : At (((w1.alloc (.cells #[.int .i64 (s : Int), .int .u64 (g : Int)] 32)).alloc (.cells #[.int .u64 (g : Int), .string tx] 97)).drew) (w1.heap.size + 1) (.cells #[.int .u64 (g : Int), .string tx] 97 (0, 0)) := by
    have := At.new (w1.alloc (.cells #[.int .i64 (s : Int), .int .u64 (g : Int)] 32)) (.cells #[.int .u64 (g : Int), .string tx] 97)
    have e : (w1.alloc (.cells #[.int .i64 (s : Int), .int .u64 (g : Int)] 32)).heap.size = w1.heap.size + 1 := by simp
    rw [e] at this
    exact this.turn ((Turn.refl (fun _ => False) _).drew) (fun h => h)
  have hW := h1.same t2
  have hmq : ∀ q c t', At (((w1.alloc (.cells #[.int .i64 (s : Int), .int .u64 (g : Int)] 32)).alloc (.cells #[.int .u64 (g : Int), .string tx] 97)).drew) q (.cells c t' (0, 0)) → ¬ q = mb := fun q c t' hq e => hW.2.1.ne hq e.symm
  have hH2 := hH.turn ht2 (hmq _ _ _ hH)
  have hBW := hB1.turn t2 (fun h => h)
  have hB2 := hBW.turn ht2 (hmq _ _ _ hBW)
  have r0 := hH2.cell 0
  have r1 := hH2.cell 1
  have z0 := hB2.cell 0
  have z1 := hB2.cell 1
  have y0 := hB2.thawed 0
  have y1 := hB2.thawed 1
  have lw2 := hH2.lt
  have HE := Lib.hid (And.intro hp1 (And.intro ht1 (And.intro h1 (And.intro t2 (And.intro hQ (And.intro hI2 (And.intro ht2 hB2)))))))
  clear h0 hP npl hB0 h hT h1 hB1 t2 hI2 ht2 hH hQ hW hmq hH2 hBW hB2 hp1 ht1
  simp at r0 r1 z0 z1
  go_wp2_with fail
  go_region
  go_wp2_with fail
  refine bodyPost_ret (v := .tuple #[.agg #[.int .i64 (s : Int), .int .u64 (g : Int)], .int .i64 0]) (by simp [results, Tryd.results11, go_sem, z0, z1]) rfl ⟨rfl, ?_⟩
  obtain ⟨hp1, ht1, h1, t2, hQ, hI2, ht2, hB2⟩ := HE.out
  obtain ⟨h0, hP, npl, hB0, h, hT⟩ := HX.out
  have h2 := h1.stored t2 hQ (by omega) hM hI2 ht2
  have tE : Turn (· = w.heap.size) w2 ((w2.setCell ⟨w.heap.size, 0, none⟩ (.int .i64 (s : Int))).setCell ⟨w.heap.size, 1, none⟩ (.int .u64 (g : Int))) := ((Turn.refl (· = w.heap.size) w2).setCell (p := ⟨w.heap.size, 0, none⟩) (Or.inl rfl) _).setCell (p := ⟨w.heap.size, 1, none⟩) (Or.inl rfl) _
  have lp := hP.lt
  have lt1 := ht1.size
  have hpm : ∀ i c t', At w1 i (.cells c t' (0, 0)) → ¬ i = mb := fun i c t' hi e => h1.2.1.ne hi e.symm
  have hpw2 : Pool w2 pb gb fb G (fun x => fr x && x != s) := by
    have ⟨F, q1, q2, q3, _⟩ := hp1
    exact (hp1.turn t2 (fun h => h) (fun h => h) (fun h => h)).turn ht2 (hpm _ _ _ q1) (hpm _ _ _ q2) (hpm _ _ _ q3)
  have lmb := h.2.1.lt
  refine ⟨hpw2.turn tE (by omega) (by omega) (by omega), h2.turn tE (by omega) (by omega) ?_, ?_⟩
  · intro q c hq e
    exact hB2.ne hq (by intro e; injection e with _ e; cases e) e.symm
  · have u1 : Turn (fun i => i = fb ∨ i = mb) w w1 := ((Turn.refl (fun i => i = fb ∨ i = mb) w).then t0 (fun i _ hi => hi.elim)).then ht1 (fun i _ hi => Or.inl hi)
    have u2 : Turn (fun i => i = fb ∨ i = mb) w w2 := (u1.then t2 (fun i _ hi => hi.elim)).then ht2 (fun i _ hi => Or.inr hi)
    exact u2.then tE (fun i hi e => by omega)

/-- Alloc, where no slot is free. -/
theorem allocS_full {pb gb fb : Nat} {G : List Nat} {fr : Nat → Bool} (tx : ByteArray) (h : Ar 89 97 w ab mb (.pointer (some ⟨pb, 0, none⟩)) M n) (hP : Pool w pb gb fb G fr) (hl : ∀ y, fr y = false) :
    Calls Tryd.prog 11 #[.pointer (some ⟨ab, 0, none⟩), .string tx] w fun e w' => e = .returned (.tuple #[.agg #[.int .i64 0, .int .u64 0], .int .i64 5]) ∧ Turn (fun _ => False) w w' := by
  obtain ⟨f, h⟩ := h
  have t0 : Turn (fun _ => False) w (w.alloc (.cells #[.int .i64 0, .int .u64 0] 32)) := (Turn.refl _ w).alloc _
  have TK := Lib.hid (take_none (hP.turn t0 (fun h => h) (fun h => h) (fun h => h)) hl)
  have hB0 := At.new w (.cells #[.int .i64 0, .int .u64 0] 32)
  have HX := Lib.hid hB0
  have HT := Lib.hid t0
  have c0 := h.1.cell 0
  simp at c0
  have l0 := h.1.lt
  clear h hP hB0 t0
  go_enter Tryd.func11, Tryd.ntmps11
  go_wp2_with fail
  refine TK.out.mono ?_
  rintro e w1 ⟨rfl, ht1⟩
  have hB1 := HX.out.turn ht1 (fun h => h)
  have z0 := hB1.cell 0
  have z1 := hB1.cell 1
  have y0 := hB1.thawed 0
  have y1 := hB1.thawed 1
  have lB := hB1.lt
  have HE := Lib.hid (HT.out.trans ht1)
  have HB := Lib.hid hB1
  clear ht1 hB1
  simp at z0 z1
  go_wp2_with fail
  have hW : At (((w1.setCell ⟨w.heap.size, 0, none⟩ (.int .i64 0)).setCell ⟨w.heap.size, 1, none⟩ (.int .u64 0)).alloc (.cells #[.int .i64 0, .int .u64 0] 32)) w.heap.size (.cells #[.int .i64 0, .int .u64 0] 32 (0, 0)) :=
    (((HB.out.set 0 (.int .i64 0)).set 1 (.int .u64 0)).turn ((Turn.refl (fun _ => False) _).alloc _) (fun h => h) : _)
  have r0 := hW.cell 0
  have r1 := hW.cell 1
  simp at r0 r1
  exact bodyPost_ret (v := .tuple #[.agg #[.int .i64 0, .int .u64 0], .int .i64 5]) (by simp [results, Tryd.results11, go_sem, r0, r1]) rfl ⟨rfl, ((HE.out.setCell (p := ⟨w.heap.size, 0, none⟩) (Or.inr (Nat.le_refl _)) _).setCell (p := ⟨w.heap.size, 1, none⟩) (Or.inr (Nat.le_refl _)) _).alloc _⟩

/-- Release of what is not alive, by what Get says of it. -/
theorem relS_no_w (i g : Int) (w : World) (G : Hid (Calls Tryd.prog 15 #[.pointer (some ⟨ab, 0, none⟩), .agg #[.int .i64 i, .int .u64 g]] (w.alloc (.cells #[.int .i64 i, .int .u64 g] 32)) fun e w' => e = .returned (.tuple #[.pointer none, .bool false]) ∧ Turn (fun _ => False) (w.alloc (.cells #[.int .i64 i, .int .u64 g] 32)) w')) :
    Calls Tryd.prog 17 #[.pointer (some ⟨ab, 0, none⟩), .agg #[.int .i64 i, .int .u64 g]] w fun e w' => e = .returned (.bool false) ∧ Turn (fun _ => False) w w' := by
  go_enter Tryd.func17, Tryd.ntmps17
  go_wp2_with fail
  refine G.out.mono ?_
  rintro e w1 ⟨rfl, ht1⟩
  have HE := Lib.hid ht1
  clear ht1
  go_wp2_with fail
  go_ret
  exact ⟨rfl, ((Turn.refl _ w).alloc _).trans HE.out⟩

theorem relS_none (h : Ar 89 97 w ab mb pp M n) (x g : Nat) (hx : x < 9223372036854775808) (hM : M x = none) :
    Calls Tryd.prog 17 #[.pointer (some ⟨ab, 0, none⟩), .agg #[.int .i64 (x : Int), .int .u64 (g : Int)]] w fun e w' => e = .returned (.bool false) ∧ Turn (fun _ => False) w w' :=
  relS_no_w x g w (getS_none (h.same ((Turn.refl _ w).alloc _)) x g hx hM)
theorem relS_other (h : Ar 89 97 w ab mb pp M n) (x g g' : Nat) (v : Value) (hx : x < 9223372036854775808) (hM : M x = some (g', v)) (hg : g' ≠ g) :
    Calls Tryd.prog 17 #[.pointer (some ⟨ab, 0, none⟩), .agg #[.int .i64 (x : Int), .int .u64 (g : Int)]] w fun e w' => e = .returned (.bool false) ∧ Turn (fun _ => False) w w' :=
  relS_no_w x g w (getS_other (h.same ((Turn.refl _ w).alloc _)) x g g' v hx hM hg)
theorem relS_below (h : Ar 89 97 w ab mb pp M n) (i : Int) (g : Nat) (hi : i < 0) (hw : -9223372036854775808 ≤ i) :
    Calls Tryd.prog 17 #[.pointer (some ⟨ab, 0, none⟩), .agg #[.int .i64 i, .int .u64 (g : Int)]] w fun e w' => e = .returned (.bool false) ∧ Turn (fun _ => False) w w' :=
  relS_no_w i g w (getS_below (h.same ((Turn.refl _ w).alloc _)) i g hi hw)

/-- Release of what is alive. -/
theorem relS_some {pb gb fb : Nat} {G : List Nat} {fr : Nat → Bool} (h : Ar 89 97 w ab mb (.pointer (some ⟨pb, 0, none⟩)) M n) (hP : Pool w pb gb fb G fr) (x g : Nat) (v : Value) (hx : x < G.length) (hM : M x = some (g, v)) :
    Calls Tryd.prog 17 #[.pointer (some ⟨ab, 0, none⟩), .agg #[.int .i64 (x : Int), .int .u64 (g : Int)]] w fun e w' => e = .returned (.bool true) ∧
      Pool w' pb gb fb (G.set x ((G.getD x 0 + 1) % 18446744073709551616)) (fun y => fr y || y == x) ∧ Ar 89 97 w' ab mb (.pointer (some ⟨pb, 0, none⟩)) (updM M x none) (n - 1) ∧ Turn (fun i => i = gb ∨ i = fb ∨ i = mb) w w' := by
  have hxl : x < 9223372036854775808 := by
    obtain ⟨F, _, _, _, _, _, _, _, _, h2, _⟩ := hP
    omega
  have t0 : Turn (fun _ => False) w (w.alloc (.cells #[.int .i64 (x : Int), .int .u64 (g : Int)] 32)) := (Turn.refl _ w).alloc _
  have GT := Lib.hid (getS_some (h.same t0) x g v hxl hM)
  have HX := Lib.hid (And.intro h (And.intro hP (And.intro t0 (At.new w (.cells #[.int .i64 (x : Int), .int .u64 (g : Int)] 32)))))
  clear h hP t0
  go_enter Tryd.func17, Tryd.ntmps17
  go_wp2_with fail
  refine GT.out.mono ?_
  rintro e w1 ⟨q, rfl, _, ht1⟩
  obtain ⟨h, hP, t0, hB⟩ := HX.out
  obtain ⟨f, h⟩ := h
  have h1 := (h.same t0).same ht1
  have hB1 := hB.turn ht1 (fun h => h)
  have hP1 := (hP.turn t0 (fun h => h) (fun h => h) (fun h => h)).turn ht1 (fun h => h) (fun h => h) (fun h => h)
  have td : Turn (fun _ => False) w1 w1.drew := (Turn.refl _ w1).drew
  obtain ⟨w2, hrun, hI2, ht2⟩ := (h1.2.1.turn td (fun h => h)).drop law3 Tryd.underlying3 Tryd.underlying87 (wf64 (i := (x : Int)) (by omega) (by omega)) 0
  have hpm : ∀ i c t', At w1 i (.cells c t' (0, 0)) → ¬ i = mb := fun i c t' hi e => h1.2.1.ne hi e.symm
  have ha2 := (h1.1.turn td (fun h => h)).turn ht2 (hpm _ _ _ h1.1)
  have hB2 := (hB1.turn td (fun h => h)).turn ht2 (hpm _ _ _ hB1)
  have hP2 : Pool w2 pb gb fb G fr := by
    have ⟨F, q1, q2, q3, _⟩ := hP1
    exact (hP1.turn td (fun h => h) (fun h => h) (fun h => h)).turn ht2 (hpm _ _ _ q1) (hpm _ _ _ q2) (hpm _ _ _ q3)
  have a1 := h1.1.cell 1
  have a2 := ha2.cell 0
  have b1 := hB1.cell 0
  have b2 := hB2.cell 0
  have la := h1.1.lt
  have lB := hB1.lt
  have HE := Lib.hid (And.intro (h1.same td) (And.intro hI2 (And.intro ht2 (And.intro hP2 (And.intro ht1 td)))))
  have GB := Lib.hid (giveBack_any (hP2.turn ((Turn.refl (fun _ => False) w2).drew) (fun h => h) (fun h => h) (fun h => h)) hx)
  clear h hP t0 hB h1 hB1 hP1 td hI2 ht2 hpm ha2 hB2 hP2 ht1
  simp at a1 a2 b1 b2
  go_wp2_with fail
  go_region
  go_wp2_with fail
  go_region_with (go_at_call 37; refine GB.out.mono ?_; rintro e w3 ⟨rfl, hp3, ht3⟩)
  all_goals
    go_wp2_with fail
    go_ret
    refine ⟨rfl, hp3, ?_⟩
    obtain ⟨h, hP, t0, hB⟩ := HX.out
    obtain ⟨h1, hI2, ht2, hP2, ht1, td⟩ := HE.out
    have hA2 := (h1.dropped hM hI2 ht2).same ((Turn.refl (fun _ => False) w2).drew)
    refine ⟨hA2.words ht3 (by decide) (by decide) ?_, ?_⟩
    · intro i hi
      obtain ⟨F, q1, q2, q3, _⟩ := hP2
      rcases hi with rfl | rfl
      · exact ⟨_, q2⟩
      · exact ⟨_, q3⟩
    · have u := ((((Turn.refl (fun i => i = gb ∨ i = fb ∨ i = mb) w).then t0 (fun i _ hi => hi.elim)).then ht1 (fun i _ hi => hi.elim)).then td (fun i _ hi => hi.elim)).then ht2 (fun i _ hi => Or.inr (Or.inr hi))
      exact u.drew.then ht3 (fun i _ hi => hi.elim (fun h => Or.inl h) (fun h => Or.inr (Or.inl h)))
end
end Go.Proofs.YtbdfbgkfhaiccaaDoor
