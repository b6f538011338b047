/-
  Alloc and Release of an arena, with its map's content told.
-/
import Derived.Test.YtbdfbgkfhaiccaaDoorWArS
import Derived.Test.YtbdfbgkfhaiccaaDoorArB
namespace Go.Proofs.YtbdfbgkfhaiccaaDoor
open Go.RowKit Go.Maps
set_option linter.unusedVariables false
section
variable {w : World} {ab mb n : Nat} {pp : Value} {M : Nat → Option (Nat × Value)}
set_option maxRecDepth 100000 in
theorem allocS_F {pb gb fb s : Nat} {G : List Nat} {fr : Nat → Bool} (tx : ByteArray) {f : Int → Option Value} (h : ArF 89 97 w ab mb (.pointer (some ⟨pb, 0, none⟩)) M n f) (hP : Pool w pb gb fb G fr) (hT : Tab w) (hs : fr s = true) (hl : ∀ y, y < s → fr y = false) (hM : M s = none) (hn : n < 1000000) :
    Calls Tryd.prog 11 #[.pointer (some ⟨ab, 0, none⟩), .string tx] w fun e w' => e = .returned (.tuple #[.agg #[.int .i64 (s : Int), .int .u64 (G.getD s 0 : Nat)], .int .i64 0]) ∧
      Pool w' pb gb fb G (fun x => fr x && x != s) ∧ (∃ q, w.heap.size ≤ q ∧ ArF 89 97 w' ab mb (.pointer (some ⟨pb, 0, none⟩)) (updM M s (some (G.getD s 0, .string tx))) (n + 1) (put f (s : Int) (.pointer (some ⟨q, 0, none⟩)))) ∧ Turn (fun i => i = fb ∨ i = mb) w w' := by
  have hsG : s < 4096 := by
    obtain ⟨F, _, _, _, _, _, _, _, _, h2, _, hlt⟩ := hP
    have := hlt s hs
    omega
  have t0 : Turn (fun _ => False) w (w.alloc (.cells #[.int .i64 0, .int .u64 0] 32)) := (Turn.refl _ w).alloc _
  have hP0 := hP.turn t0 (fun h => h) (fun h => h) (fun h => h)
  have TK := Lib.hid (take_some hP0 (hT.turn t0 (fun h => h) hT.pos) hs hl)
  have h0 := h.same t0
  have hfb : ∃ c, At (w.alloc (.cells #[.int .i64 0, .int .u64 0] 32)) fb (.cells c 30 (0, 0)) := by
    obtain ⟨F, _, _, hf, _⟩ := hP0
    exact ⟨_, hf⟩
  obtain ⟨cf, hfb⟩ := hfb
  have nab : ¬ ab = fb := h0.1.ne hfb (by intro e; injection e with _ e; cases e)
  have nmb : ¬ mb = fb := h0.2.1.ne hfb
  have nB : ¬ w.heap.size = fb := (At.new w (.cells #[.int .i64 0, .int .u64 0] 32)).ne hfb (by intro e; injection e with _ e; cases e)
  have npl : ∀ q c, At (w.alloc (.cells #[.int .i64 0, .int .u64 0] 32)) q (.cells c 97 (0, 0)) → ¬ q = fb := fun q c hq => hq.ne hfb (by intro e; injection e with _ e; cases e)
  have hB0 := At.new w (.cells #[.int .i64 0, .int .u64 0] 32)
  have HX := Lib.hid (And.intro h0 (And.intro hP (And.intro npl (And.intro hB0 (And.intro h hT)))))
  have c0 := h.1.cell 0
  simp at c0
  have l0 := h.1.lt
  clear h0 hP hP0 hT npl hB0 h hfb
  generalize G.getD s 0 = g at *
  go_enter Tryd.func11, Tryd.ntmps11
  go_wp2_with fail
  refine TK.out.mono ?_
  rintro e w1 ⟨rfl, hp1, ht1⟩
  obtain ⟨h0, hP, npl, hB0, h, hT⟩ := HX.out
  have h1 := h0.turn ht1 nab nmb npl
  have hB1 := hB0.turn ht1 nB
  have lB := hB1.lt
  have la := h1.1.lt
  have c1 := h1.1.cell 1
  simp at c1
  have t2 : Turn (fun _ => False) w1 (((w1.alloc (.cells #[.int .i64 (s : Int), .int .u64 (g : Int)] 32)).alloc (.cells #[.int .u64 (g : Int), .string tx] 97)).drew) := (((Turn.refl _ w1).alloc _).alloc _).drew
  obtain ⟨w2, hrun, hI2, ht2⟩ := (h1.2.1.turn t2 (fun h => h)).store (v := .pointer (some ⟨w1.heap.size + 1, 0, none⟩)) law3 Tryd.underlying3 Tryd.underlying87 hn (wf64 (i := (s : Int)) (by omega) (by omega))
  have hH : At (((w1.alloc (.cells #[.int .i64 (s : Int), .int .u64 (g : Int)] 32)).alloc (.cells #[.int .u64 (g : Int), .string tx] 97)).drew) w1.heap.size (.cells #[.int .i64 (s : Int), .int .u64 (g : Int)] 32 (0, 0)) :=
    (At.new w1 _).turn (((Turn.refl (fun _ => False) _).alloc _).drew) (fun h => h)
  have hQ : At (((w1.alloc (.cells #[.int .i64 (s : Int), .int .u64 (g : Int)] 32)).alloc (.cells #[.int .u64 (g : Int), .string tx] 97)).drew) (w1.heap.size + 1) (.cells #[.int .u64 (g : Int), .string tx] 97 (0, 0)) := by
    have := At.new (w1.alloc (.cells #[.int .i64 (s : Int), .int .u64 (g : Int)] 32)) (.cells #[.int .u64 (g : Int), .string tx] 97)
    have e : (w1.alloc (.cells #[.int .i64 (s : Int), .int .u64 (g : Int)] 32)).heap.size = w1.heap.size + 1 := by simp
    rw [e] at this
    exact this.turn ((Turn.refl (fun _ => False) _).drew) (fun h => h)
  have hW := h1.same t2
  have hmq : ∀ q c t', At (((w1.alloc (.cells #[.int .i64 (s : Int), .int .u64 (g : Int)] 32)).alloc (.cells #[.int .u64 (g : Int), .string tx] 97)).drew) q (.cells c t' (0, 0)) → ¬ q = mb := fun q c t' hq e => hW.2.1.ne hq e.symm
  have hH2 := hH.turn ht2 (hmq _ _ _ hH)
  have hBW := hB1.turn t2 (fun h => h)
  have hB2 := hBW.turn ht2 (hmq _ _ _ hBW)
  have r0 := hH2.cell 0
  have r1 := hH2.cell 1
  have z0 := hB2.cell 0
  have z1 := hB2.cell 1
  have y0 := hB2.thawed 0
  have y1 := hB2.thawed 1
  have lw2 := hH2.lt
  have HE := Lib.hid (And.intro hp1 (And.intro ht1 (And.intro h1 (And.intro t2 (And.intro hQ (And.intro hI2 (And.intro ht2 hB2)))))))
  clear h0 hP npl hB0 h hT h1 hB1 t2 hI2 ht2 hH hQ hW hmq hH2 hBW hB2 hp1 ht1
  simp at r0 r1 z0 z1
  go_wp2_with fail
  go_region
  go_wp2_with fail
  refine bodyPost_ret (v := .tuple #[.agg #[.int .i64 (s : Int), .int .u64 (g : Int)], .int .i64 0]) (by simp [results, Tryd.results11, go_sem, z0, z1]) rfl ⟨rfl, ?_⟩
  obtain ⟨hp1, ht1, h1, t2, hQ, hI2, ht2, hB2⟩ := HE.out
  obtain ⟨h0, hP, npl, hB0, h, hT⟩ := HX.out
  have h2 := h1.storedF t2 hQ (by omega) hM hI2 ht2
  have tE : Turn (· = w.heap.size) w2 ((w2.setCell ⟨w.heap.size, 0, none⟩ (.int .i64 (s : Int))).setCell ⟨w.heap.size, 1, none⟩ (.int .u64 (g : Int))) := ((Turn.refl (· = w.heap.size) w2).setCell (p := ⟨w.heap.size, 0, none⟩) (Or.inl rfl) _).setCell (p := ⟨w.heap.size, 1, none⟩) (Or.inl rfl) _
  have lp := hP.lt
  have lt1 := ht1.size
  have hpm : ∀ i c t', At w1 i (.cells c t' (0, 0)) → ¬ i = mb := fun i c t' hi e => h1.2.1.ne hi e.symm
  have hpw2 : Pool w2 pb gb fb G (fun x => fr x && x != s) := by
    have ⟨F, q1, q2, q3, _⟩ := hp1
    exact (hp1.turn t2 (fun h => h) (fun h => h) (fun h => h)).turn ht2 (hpm _ _ _ q1) (hpm _ _ _ q2) (hpm _ _ _ q3)
  have lmb := h.2.1.lt
  refine ⟨hpw2.turn tE (by omega) (by omega) (by omega), ⟨w1.heap.size + 1, by omega, h2.turn tE (by omega) (by omega) ?_⟩, ?_⟩
  · intro q c hq e
    exact hB2.ne hq (by intro e; injection e with _ e; cases e) e.symm
  · have u1 : Turn (fun i => i = fb ∨ i = mb) w w1 := ((Turn.refl (fun i => i = fb ∨ i = mb) w).then t0 (fun i _ hi => hi.elim)).then ht1 (fun i _ hi => Or.inl hi)
    have u2 : Turn (fun i => i = fb ∨ i = mb) w w2 := (u1.then t2 (fun i _ hi => hi.elim)).then ht2 (fun i _ hi => Or.inr hi)
    exact u2.then tE (fun i hi e => by omega)

set_option maxRecDepth 100000 in
theorem relS_F {pb gb fb : Nat} {G : List Nat} {fr : Nat → Bool} {f : Int → Option Value} (h : ArF 89 97 w ab mb (.pointer (some ⟨pb, 0, none⟩)) M n f) (hP : Pool w pb gb fb G fr) (x g : Nat) (v : Value) (hx : x < G.length) (hM : M x = some (g, v)) :
    Calls Tryd.prog 17 #[.pointer (some ⟨ab, 0, none⟩), .agg #[.int .i64 (x : Int), .int .u64 (g : Int)]] w fun e w' => e = .returned (.bool true) ∧
      Pool w' pb gb fb (G.set x ((G.getD x 0 + 1) % 18446744073709551616)) (fun y => fr y || y == x) ∧ ArF 89 97 w' ab mb (.pointer (some ⟨pb, 0, none⟩)) (updM M x none) (n - 1) (del f (x : Int)) ∧ Turn (fun i => i = gb ∨ i = fb ∨ i = mb) w w' := by
  have hxl : x < 9223372036854775808 := by
    obtain ⟨F, _, _, _, _, _, _, _, _, h2, _⟩ := hP
    omega
  have t0 : Turn (fun _ => False) w (w.alloc (.cells #[.int .i64 (x : Int), .int .u64 (g : Int)] 32)) := (Turn.refl _ w).alloc _
  have GT := Lib.hid (getS_some ⟨f, h.same t0⟩ x g v hxl hM)
  have HX := Lib.hid (And.intro h (And.intro hP (And.intro t0 (At.new w (.cells #[.int .i64 (x : Int), .int .u64 (g : Int)] 32)))))
  clear h hP t0
  go_enter Tryd.func17, Tryd.ntmps17
  go_wp2_with fail
  refine GT.out.mono ?_
  rintro e w1 ⟨q, rfl, _, ht1⟩
  obtain ⟨h, hP, t0, hB⟩ := HX.out
  have h1 := (h.same t0).same ht1
  have hB1 := hB.turn ht1 (fun h => h)
  have hP1 := (hP.turn t0 (fun h => h) (fun h => h) (fun h => h)).turn ht1 (fun h => h) (fun h => h) (fun h => h)
  have td : Turn (fun _ => False) w1 w1.drew := (Turn.refl _ w1).drew
  obtain ⟨w2, hrun, hI2, ht2⟩ := (h1.2.1.turn td (fun h => h)).drop law3 Tryd.underlying3 Tryd.underlying87 (wf64 (i := (x : Int)) (by omega) (by omega)) 0
  have hpm : ∀ i c t', At w1 i (.cells c t' (0, 0)) → ¬ i = mb := fun i c t' hi e => h1.2.1.ne hi e.symm
  have ha2 := (h1.1.turn td (fun h => h)).turn ht2 (hpm _ _ _ h1.1)
  have hB2 := (hB1.turn td (fun h => h)).turn ht2 (hpm _ _ _ hB1)
  have hP2 : Pool w2 pb gb fb G fr := by
    have ⟨F, q1, q2, q3, _⟩ := hP1
    exact (hP1.turn td (fun h => h) (fun h => h) (fun h => h)).turn ht2 (hpm _ _ _ q1) (hpm _ _ _ q2) (hpm _ _ _ q3)
  have a1 := h1.1.cell 1
  have a2 := ha2.cell 0
  have b1 := hB1.cell 0
  have b2 := hB2.cell 0
  have la := h1.1.lt
  have lB := hB1.lt
  have HE := Lib.hid (And.intro (h1.same td) (And.intro hI2 (And.intro ht2 (And.intro hP2 (And.intro ht1 td)))))
  have GB := Lib.hid (giveBack_any (hP2.turn ((Turn.refl (fun _ => False) w2).drew) (fun h => h) (fun h => h) (fun h => h)) hx)
  clear h hP t0 hB h1 hB1 hP1 td hI2 ht2 hpm ha2 hB2 hP2 ht1
  simp at a1 a2 b1 b2
  go_wp2_with fail
  go_region
  go_wp2_with fail
  go_region_with (go_at_call 37; refine GB.out.mono ?_; rintro e w3 ⟨rfl, hp3, ht3⟩)
  all_goals
    go_wp2_with fail
    go_ret
    refine ⟨rfl, hp3, ?_⟩
    obtain ⟨h, hP, t0, hB⟩ := HX.out
    obtain ⟨h1, hI2, ht2, hP2, ht1, td⟩ := HE.out
    have hA2 := (h1.droppedF hM hI2 ht2).same ((Turn.refl (fun _ => False) w2).drew)
    refine ⟨hA2.words ht3 (by decide) (by decide) ?_, ?_⟩
    · intro i hi
      obtain ⟨F, q1, q2, q3, _⟩ := hP2
      rcases hi with rfl | rfl
      · exact ⟨_, q2⟩
      · exact ⟨_, q3⟩
    · have u := ((((Turn.refl (fun i => i = gb ∨ i = fb ∨ i = mb) w).then t0 (fun i _ hi => hi.elim)).then ht1 (fun i _ hi => hi.elim)).then td (fun i _ hi => hi.elim)).then ht2 (fun i _ hi => Or.inr (Or.inr hi))
      exact u.drew.then ht3 (fun i _ hi => hi.elim (fun h => Or.inl h) (fun h => Or.inr (Or.inl h)))
end
end Go.Proofs.YtbdfbgkfhaiccaaDoor
