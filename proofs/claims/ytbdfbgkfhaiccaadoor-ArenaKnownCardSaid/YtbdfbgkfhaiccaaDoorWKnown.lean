/-
  ArenaKnown, walked.
-/
import Derived.Test.YtbdfbgkfhaiccaaDoorWHndI
import Derived.Test.YtbdfbgkfhaiccaaDoorWAwake
import Derived.Test.YtbdfbgkfhaiccaaDoorTwo
import Derived.BigQuiet
namespace Go.Proofs.YtbdfbgkfhaiccaaDoor
open Go.RowKit Go.Maps
set_option linter.unusedVariables false

/-- A pool, an arena of texts and one of numbers. -/
structure KN (w wr : World) (pb gb fb sa sm ia im : Nat) (G : List Nat) (fr : Nat → Bool) (Ms : Nat → Option (Nat × Value)) (ns : Nat) (Mi : Nat → Option (Nat × Value)) (ni : Nat) : Prop where
  pool : Pool wr pb gb fb G fr
  s : Ar 89 97 wr sa sm (.pointer (some ⟨pb, 0, none⟩)) Ms ns
  i : Ar 92 100 wr ia im (.pointer (some ⟨pb, 0, none⟩)) Mi ni
  ne : sm ≠ im
  old : Turn (fun _ => False) w wr
  new : w.heap.size ≤ gb ∧ w.heap.size ≤ fb ∧ w.heap.size ≤ sm ∧ w.heap.size ≤ im

section
variable {w wr wr' : World} {pb gb fb sa sm ia im : Nat} {G G' : List Nat} {fr fr' : Nat → Bool} {Ms Ms' : Nat → Option (Nat × Value)} {ns ns' : Nat} {Mi Mi' : Nat → Option (Nat × Value)} {ni ni' : Nat}
theorem KN.same (h : KN w wr pb gb fb sa sm ia im G fr Ms ns Mi ni) (t : Turn (fun _ => False) wr wr') : KN w wr' pb gb fb sa sm ia im G fr Ms ns Mi ni :=
  ⟨h.pool.turn t (fun h => h) (fun h => h) (fun h => h), h.s.same t, h.i.same t, h.ne, h.old.trans t, h.new⟩
theorem KN.turnS (h : KN w wr pb gb fb sa sm ia im G fr Ms ns Mi ni) (hp : Pool wr' pb gb fb G' fr') (ha : Ar 89 97 wr' sa sm (.pointer (some ⟨pb, 0, none⟩)) Ms' ns') (t : Turn (fun k => k = gb ∨ k = fb ∨ k = sm) wr wr') : KN w wr' pb gb fb sa sm ia im G' fr' Ms' ns' Mi ni := by
  obtain ⟨⟨c1, h1⟩, ⟨c2, h2⟩, _⟩ := h.pool.rows
  obtain ⟨⟨es, cl, h3⟩, _⟩ := h.s.isMap
  obtain ⟨n1, n2, n3, n4⟩ := h.new
  refine ⟨hp, ha, h.i.far t ?_ (by decide) (by decide), h.ne, h.old.then t (fun k hk hx => by omega), h.new⟩
  intro k hk
  rcases hk with rfl | rfl | rfl
  · exact Or.inl ⟨_, _, h1, Or.inl rfl⟩
  · exact Or.inl ⟨_, _, h2, Or.inl rfl⟩
  · exact Or.inr ⟨⟨_, _, h3⟩, h.ne⟩
theorem KN.turnI (h : KN w wr pb gb fb sa sm ia im G fr Ms ns Mi ni) (hp : Pool wr' pb gb fb G' fr') (ha : Ar 92 100 wr' ia im (.pointer (some ⟨pb, 0, none⟩)) Mi' ni') (t : Turn (fun k => k = gb ∨ k = fb ∨ k = im) wr wr') : KN w wr' pb gb fb sa sm ia im G' fr' Ms ns Mi' ni' := by
  obtain ⟨⟨c1, h1⟩, ⟨c2, h2⟩, _⟩ := h.pool.rows
  obtain ⟨⟨es, cl, h3⟩, _⟩ := h.i.isMap
  obtain ⟨n1, n2, n3, n4⟩ := h.new
  refine ⟨hp, h.s.far t ?_ (by decide) (by decide), ha, h.ne, h.old.then t (fun k hk hx => by omega), h.new⟩
  intro k hk
  rcases hk with rfl | rfl | rfl
  · exact Or.inl ⟨_, _, h1, Or.inl rfl⟩
  · exact Or.inl ⟨_, _, h2, Or.inl rfl⟩
  · exact Or.inr ⟨⟨_, _, h3⟩, Ne.symm h.ne⟩
theorem KN.no32 (h : KN w wr pb gb fb sa sm ia im G fr Ms ns Mi ni) {B : Nat} {c : Array Value} (hB : At wr B (.cells c 32 (0, 0))) : (¬ (B = gb ∨ B = fb ∨ B = sm)) ∧ ¬ (B = gb ∨ B = fb ∨ B = im) := by
  obtain ⟨⟨c1, h1⟩, ⟨c2, h2⟩, _⟩ := h.pool.rows
  obtain ⟨⟨es, cl, h3⟩, _⟩ := h.s.isMap
  obtain ⟨⟨es2, cl2, h4⟩, _⟩ := h.i.isMap
  have n1 : B ≠ gb := hB.ne h1 (by intro e; injection e with _ e; cases e)
  have n2 : B ≠ fb := hB.ne h2 (by intro e; injection e with _ e; cases e)
  have n3 : B ≠ sm := hB.ne h3 (by intro e; cases e)
  have n4 : B ≠ im := hB.ne h4 (by intro e; cases e)
  omega
theorem up2 {X Y : Nat → Prop} (t : Turn (fun k => X k ∨ Y k) wr wr') (Z : Nat → Prop) : Turn (fun k => Z k ∨ X k ∨ Y k) wr wr' := t.mono (fun k _ hk => Or.inr hk)
end

theorem two_rising {xs : List Nat} (hm : ∀ x, x ∈ xs ↔ x < 2) (hu : xs.Pairwise (· < ·)) : xs = [0, 1] := by
  have hl := len_of_rising hu (fun x hx => (hm x).1 hx)
  match xs, hl with
  | [], _ => exact absurd ((hm 0).2 (by omega)) (by simp)
  | [a], _ =>
    have h0 := (hm 0).2 (by omega)
    have h1 := (hm 1).2 (by omega)
    simp at h0 h1
    omega
  | [a, b], _ =>
    have h0 := (hm 0).2 (by omega)
    have h1 := (hm 1).2 (by omega)
    simp at h0 h1 hu
    have ha := (hm a).1 (by simp)
    have hb := (hm b).1 (by simp)
    obtain rfl : a = 0 := by omega
    obtain rfl : b = 1 := by omega
    rfl

/-- A world that is w but for new blocks. -/
structure Wx (w : World) where
  wr : World
  t : Turn (fun _ => False) w wr

instance (w : World) : Nonempty (Wx w) := ⟨⟨w, Turn.refl _ w⟩⟩

/-- A region whose operations leave all that was there as it was: one walk, in the order of the text. -/
theorem wp_region_wx {P : Program} {id : Nat} {Q : Exit → Act → World → Prop} {a : Act} {w w0 : World} {l : List Oper} (hm : P.follows .mixedOrders = true) (hB : Region.lexB .any l.toArray = true)
    (hC : Turn (fun _ => False) w0 w)
    (h : wpQuiet P l.toArray (fun w' => ∃ n : Wx w0, w' = n.wr) (fun a' => ∀ w', (∃ n : Wx w0, w' = n.wr) → Q .normal a' w') l a) : (Code.region id l.toArray true).wp P Q a w :=
  wp_region_quiet (C := fun w' => ∃ n : Wx w0, w' = n.wr) hm hB ⟨⟨w.drew, hC.drew⟩, rfl⟩ (by simpa using h)

theorem quietWx {P : Program} {w0 : World} {f : Nat} {args : Array Value} {n : Wx w0} {v : Value} (h : Calls P f args n.wr fun e w' => e = .returned v ∧ Turn (fun _ => False) n.wr w') : Calls P f args n.wr fun e w'' => e = .returned v ∧ ∃ m : Wx w0, w'' = m.wr :=
  h.mono fun _ w' ⟨he, t⟩ => ⟨he, ⟨w', n.t.trans t⟩, rfl⟩
theorem stillWx {P : Program} {w0 : World} {f : Nat} {args : Array Value} {n : Wx w0} {v : Value} (h : Calls P f args n.wr fun e w' => e = .returned v ∧ n.wr = w') : Calls P f args n.wr fun e w'' => e = .returned v ∧ ∃ m : Wx w0, w'' = m.wr :=
  h.mono fun _ w' ⟨he, t⟩ => ⟨he, n, t.symm⟩

set_option maxRecDepth 100000 in
set_option maxHeartbeats 4000000 in
theorem arenaKnown_any (w : World) (hT : Hid (Tab w)) : Calls Tryd.prog 3 #[] w fun e w' => e = .returned (.bool true) ∧ Below w.heap.size w w' := by
  have NP : Hid (Calls Tryd.prog 8 #[.int .i64 2] w (NewPost w 2)) := Lib.hid (newPool_any 2 w (by omega) (by omega))
  go_enter Tryd.func3, Tryd.ntmps3
  go_wp2_with fail
  refine NP.out.mono ?_
  rintro e w1 ⟨pb, gb, fb, rfl, hp1, ht1, l1, l2, l3⟩
  have H1 := Lib.hid (And.intro hp1 ht1)
  have N0 : Hid (Calls Tryd.prog 8 #[.int .i64 0] w1 fun e w' => e = .returned (.tuple #[.pointer none, .int .i64 1]) ∧ w1 = w') := Lib.hid (newPool_no 0 w1 (Or.inl (by omega)))
  have N1 : Hid (Calls Tryd.prog 8 #[.int .i64 4097] w1 fun e w' => e = .returned (.tuple #[.pointer none, .int .i64 1]) ∧ w1 = w') := Lib.hid (newPool_no 4097 w1 (Or.inr (by omega)))
  have N2 : Hid (Calls Tryd.prog 8 #[.int .i64 4096] w1 (NewPost w1 4096)) := Lib.hid (newPool_any 4096 w1 (by omega) (by omega))
  clear hp1 ht1 NP
  go_wp2_with fail
  refine N0.out.mono ?_
  rintro e w' ⟨rfl, rfl⟩
  go_wp2_with fail
  refine N1.out.mono ?_
  rintro e w' ⟨rfl, rfl⟩
  go_wp2_with fail
  refine N2.out.mono ?_
  rintro e w2 ⟨pb', gb', fb', rfl, _, ht2, _, _, _⟩
  have H2 := Lib.hid ht2
  have NA := Lib.hid (newS (some ⟨pb, 0, none⟩) w2)
  clear ht2 N0 N1 N2
  go_wp2_with fail
  refine NA.out.mono ?_
  rintro e w3 ⟨rfl, hs3, ht3⟩
  have H3 := Lib.hid (And.intro hs3 ht3)
  have NB := Lib.hid (newI (some ⟨pb, 0, none⟩) w3)
  clear hs3 ht3 NA
  go_wp2_with fail
  refine NB.out.mono ?_
  rintro e w4 ⟨rfl, hi4, ht4⟩
  have K4 : KN w w4 pb gb fb (w2.heap.size + 1) w2.heap.size (w3.heap.size + 1) w3.heap.size [1, 1] (fun x => decide (x < 2)) (fun _ => none) 0 (fun _ => none) 0 := by
    obtain ⟨hp1, ht1⟩ := H1.out
    obtain ⟨hs3, ht3⟩ := H3.out
    have e1 : w2.heap.size + 1 < w3.heap.size := by obtain ⟨f, hf⟩ := hs3; exact hf.1.lt
    have s1 := ht1.size
    have s2 := H2.out.size
    have hp4 := ((hp1.turn H2.out (fun h => h) (fun h => h) (fun h => h)).turn ht3 (fun h => h) (fun h => h) (fun h => h)).turn ht4 (fun h => h) (fun h => h) (fun h => h)
    exact ⟨hp4, hs3.same ht4, hi4, by omega, ((ht1.trans H2.out).trans ht3).trans ht4, ⟨l2, l3, by omega, by omega⟩⟩
  generalize w2.heap.size + 1 = sa at *
  generalize w2.heap.size = sm at *
  generalize w3.heap.size + 1 = ia at *
  generalize w3.heap.size = im at *
  clear hi4 ht4 H1 H2 H3 NB
  have tab : ∀ wr : World, Turn (fun _ => False) w wr → Tab wr := fun wr t => hT.out.turn t (fun h => h) hT.out.pos
  have HTB := Lib.hid tab
  clear tab
  -- a.Alloc("x")
  have AL1 : Hid (Calls Tryd.prog 11 #[.pointer (some ⟨sa, 0, none⟩), .string ⟨#[120]⟩] w4 fun e w' => e = .returned (.tuple #[.agg #[.int .i64 0, .int .u64 1], .int .i64 0]) ∧
      Pool w' pb gb fb [1, 1] (fun x => decide (x < 2) && x != 0) ∧ Ar 89 97 w' sa sm (.pointer (some ⟨pb, 0, none⟩)) (updM (fun _ => none) 0 (some (1, .string ⟨#[120]⟩))) 1 ∧ Turn (fun i => i = fb ∨ i = sm) w4 w') :=
    Lib.hid (allocS_some (s := 0) ⟨#[120]⟩ K4.s K4.pool (HTB.out _ K4.old) rfl (fun y hy => by omega) rfl (by omega))
  have HK4 := Lib.hid K4
  clear K4
  go_wp2_with fail
  refine AL1.out.mono ?_
  rintro e w5 ⟨rfl, hp5, ha5, ht5⟩
  have t5 : Turn (fun _ => False) w5 (w5.alloc (.cells #[.int .i64 0, .int .u64 1] 32)) := (Turn.refl _ w5).alloc _
  have K5 := (HK4.out.turnS hp5 ha5 (up2 ht5 _)).same t5
  have B1 := At.new w5 (.cells #[.int .i64 0, .int .u64 1] 32)
  -- b.Alloc(7)
  have AL2 : Hid (Calls Tryd.prog 12 #[.pointer (some ⟨ia, 0, none⟩), .int .i64 7] (w5.alloc (.cells #[.int .i64 0, .int .u64 1] 32)) fun e w' => e = .returned (.tuple #[.agg #[.int .i64 1, .int .u64 1], .int .i64 0]) ∧
      Pool w' pb gb fb [1, 1] (fun x => (decide (x < 2) && x != 0) && x != 1) ∧ Ar 92 100 w' ia im (.pointer (some ⟨pb, 0, none⟩)) (updM (fun _ => none) 1 (some (1, .int .i64 7))) 1 ∧ Turn (fun i => i = fb ∨ i = im) (w5.alloc (.cells #[.int .i64 0, .int .u64 1] 32)) w') :=
    Lib.hid (allocI_some (s := 1) 7 K5.i K5.pool (HTB.out _ K5.old) rfl (fun y hy => by rw [Nat.lt_one_iff.mp hy]; rfl) rfl (by omega))
  have HK5 := Lib.hid (And.intro K5 B1)
  have b1l := B1.lt
  clear K5 B1 t5 hp5 ha5 ht5 AL1 HK4
  go_wp2_with fail
  refine AL2.out.mono ?_
  rintro e w6 ⟨rfl, hp6, ha6, ht6⟩
  obtain ⟨K5, B1⟩ := HK5.out
  have t6 : Turn (fun _ => False) w6 (w6.alloc (.cells #[.int .i64 1, .int .u64 1] 32)) := (Turn.refl _ w6).alloc _
  have K6 := (K5.turnI hp6 ha6 (up2 ht6 _)).same t6
  have B1' := (B1.turn (up2 ht6 (· = gb)) (K5.no32 B1).2).turn t6 (fun h => h)
  have B2 := At.new w6 (.cells #[.int .i64 1, .int .u64 1] 32)
  have AL3 : Hid (Calls Tryd.prog 11 #[.pointer (some ⟨sa, 0, none⟩), .string ⟨#[121]⟩] (w6.alloc (.cells #[.int .i64 1, .int .u64 1] 32)) fun e w' => e = .returned (.tuple #[.agg #[.int .i64 0, .int .u64 0], .int .i64 5]) ∧ Turn (fun _ => False) (w6.alloc (.cells #[.int .i64 1, .int .u64 1] 32)) w') :=
    Lib.hid (allocS_full ⟨#[121]⟩ K6.s K6.pool (fun y => by by_cases h0 : y = 0 <;> by_cases h1 : y = 1 <;> simp [h0, h1] <;> omega))
  have HK6 := Lib.hid (And.intro K6 (And.intro B1' B2))
  clear K6 B1' B2 t6 hp6 ha6 ht6 AL2 HK5 K5 B1
  go_wp2_with fail
  refine AL3.out.mono ?_
  rintro e w7 ⟨rfl, ht7⟩
  obtain ⟨K6, B1, B2⟩ := HK6.out
  have K7 := K6.same ht7
  have B1 := B1.turn ht7 (fun h => h)
  have B2 := B2.turn ht7 (fun h => h)
  have x0 := B1.cell 0
  have x1 := B1.cell 1
  have y0 := B2.cell 0
  have y1 := B2.cell 1
  simp at x0 x1 y0 y1
  have FR : Hid (Calls Tryd.prog 13 #[.pointer (some ⟨pb, 0, none⟩)] w7 fun e w' => e = .returned (.int .i64 0) ∧ w7 = w') := Lib.hid (free_any K7.pool)
  have LV : Hid (Calls Tryd.prog 14 #[.pointer (some ⟨pb, 0, none⟩)] w7 fun e w' => e = .returned (.int .i64 2) ∧ ∃ m, w' = w7.drewN m) := Lib.hid (live_quiet K7.pool (q := 2) rfl 0)
  have HK7 := Lib.hid (And.intro K7 (And.intro B1 B2))
  clear K6 K7 B1 B2 ht7 AL3 HK6
  go_wp2_with fail
  refine FR.out.mono ?_
  rintro e w' ⟨rfl, rfl⟩
  go_wp2_with fail
  refine LV.out.mono ?_
  rintro e w' ⟨rfl, m8, rfl⟩
  obtain ⟨K7, B1, B2⟩ := HK7.out
  generalize hW : w7.drewN m8 = w8
  have t8 : Turn (fun _ => False) w7 w8 := by rw [← hW]; exact (Turn.refl _ w7).drewN m8
  have K8 := K7.same t8
  have B1 := B1.turn t8 (fun h => h)
  have B2 := B2.turn t8 (fun h => h)
  clear x0 x1 y0 y1 hW
  have x0 := B1.cell 0
  have x1 := B1.cell 1
  simp at x0 x1
  have GA : Hid (Calls Tryd.prog 15 #[.pointer (some ⟨sa, 0, none⟩), .agg #[.int .i64 0, .int .u64 1]] w8 (GetYes 97 1 (.string ⟨#[120]⟩) w8)) := Lib.hid (getS_some K8.s 0 1 (.string ⟨#[120]⟩) (by omega) rfl)
  have HK8 := Lib.hid (And.intro K8 (And.intro B1 B2))
  clear K7 K8 B1 B2 t8 HK7 FR LV
  go_wp2_with fail
  refine GA.out.mono ?_
  rintro e w9 ⟨q, rfl, hq, ht9⟩
  obtain ⟨K8, B1, B2⟩ := HK8.out
  have K9 := K8.same ht9
  have B1 := B1.turn ht9 (fun h => h)
  have B2 := B2.turn ht9 (fun h => h)
  have hq := hq.turn ht9 (fun h => h)
  clear x0 x1
  have x0 := B1.cell 0
  have x1 := B1.cell 1
  simp at x0 x1
  have GB : Hid (Calls Tryd.prog 16 #[.pointer (some ⟨ia, 0, none⟩), .agg #[.int .i64 0, .int .u64 1]] w9 fun e w' => e = .returned (.tuple #[.pointer none, .bool false]) ∧ Turn (fun _ => False) w9 w') := Lib.hid (getI_none K9.i 0 1 (by omega) rfl)
  have HK9 := Lib.hid (And.intro K9 (And.intro B1 (And.intro B2 hq)))
  clear K8 K9 B1 B2 hq ht9 HK8 GA
  go_wp2_with fail
  refine GB.out.mono ?_
  rintro e w10 ⟨rfl, ht10⟩
  obtain ⟨K9, B1, B2, hq⟩ := HK9.out
  have K10 := K9.same ht10
  have GC : Hid (Calls Tryd.prog 15 #[.pointer (some ⟨sa, 0, none⟩), .agg #[.int .i64 0, .int .u64 2]] w10 fun e w' => e = .returned (.tuple #[.pointer none, .bool false]) ∧ Turn (fun _ => False) w10 w') := Lib.hid (getS_other K10.s 0 2 1 (.string ⟨#[120]⟩) (by omega) rfl (by omega))
  have HK10 := Lib.hid (And.intro K10 (And.intro (B1.turn ht10 (fun h => h)) (And.intro (B2.turn ht10 (fun h => h)) (hq.turn ht10 (fun h => h)))))
  clear K9 K10 B1 B2 hq ht10 HK9 GB x0 x1
  go_wp2_with fail
  refine GC.out.mono ?_
  rintro e w11 ⟨rfl, ht11⟩
  obtain ⟨K10, B1, B2, hq⟩ := HK10.out
  have K11 := K10.same ht11
  have B1 := B1.turn ht11 (fun h => h)
  have B2 := B2.turn ht11 (fun h => h)
  have hq := hq.turn ht11 (fun h => h)
  have x0 := B1.cell 0
  have x1 := B1.cell 1
  have q1 := hq.cell 1
  simp at x0 x1 q1
  have RL : Hid (Calls Tryd.prog 17 #[.pointer (some ⟨sa, 0, none⟩), .agg #[.int .i64 0, .int .u64 1]] w11 fun e w' => e = .returned (.bool true) ∧
      Pool w' pb gb fb [2, 1] (fun y => ((decide (y < 2) && y != 0) && y != 1) || y == 0) ∧ Ar 89 97 w' sa sm (.pointer (some ⟨pb, 0, none⟩)) (updM (updM (fun _ => none) 0 (some (1, .string ⟨#[120]⟩))) 0 none) 0 ∧ Turn (fun i => i = gb ∨ i = fb ∨ i = sm) w11 w') :=
    Lib.hid (relS_some K11.s K11.pool 0 1 (.string ⟨#[120]⟩) (by simp) rfl)
  have HK11 := Lib.hid (And.intro K11 (And.intro B1 B2))
  clear K10 K11 B1 B2 hq ht11 HK10 GC
  go_wp2_with fail
  refine RL.out.mono ?_
  rintro e w12 ⟨rfl, hp12, ha12, ht12⟩
  obtain ⟨K11, B1, B2⟩ := HK11.out
  have K12 := K11.turnS hp12 ha12 ht12
  have n1 := (K11.no32 B1).1
  have n2 := (K11.no32 B2).1
  have B1 := B1.turn ht12 n1
  have B2 := B2.turn ht12 n2
  clear x0 x1 q1
  have x0 := B1.cell 0
  have x1 := B1.cell 1
  simp at x0 x1
  have RN : Hid (Calls Tryd.prog 17 #[.pointer (some ⟨sa, 0, none⟩), .agg #[.int .i64 0, .int .u64 1]] w12 fun e w' => e = .returned (.bool false) ∧ Turn (fun _ => False) w12 w') := Lib.hid (relS_none K12.s 0 1 (by omega) rfl)
  have HK12 := Lib.hid (And.intro K12 (And.intro B1 B2))
  clear K11 K12 B1 B2 n1 n2 hp12 ha12 ht12 HK11 RL
  go_wp2_with fail
  refine RN.out.mono ?_
  rintro e w13 ⟨rfl, ht13⟩
  obtain ⟨K12, B1, B2⟩ := HK12.out
  have K13 := K12.same ht13
  have B1 := B1.turn ht13 (fun h => h)
  have B2 := B2.turn ht13 (fun h => h)
  have AL4 : Hid (Calls Tryd.prog 12 #[.pointer (some ⟨ia, 0, none⟩), .int .i64 8] w13 fun e w' => e = .returned (.tuple #[.agg #[.int .i64 0, .int .u64 2], .int .i64 0]) ∧
      Pool w' pb gb fb [2, 1] (fun x => (((decide (x < 2) && x != 0) && x != 1) || x == 0) && x != 0) ∧ Ar 92 100 w' ia im (.pointer (some ⟨pb, 0, none⟩)) (updM (updM (fun _ => none) 1 (some (1, .int .i64 7))) 0 (some (2, .int .i64 8))) 2 ∧ Turn (fun i => i = fb ∨ i = im) w13 w') :=
    Lib.hid (allocI_some (s := 0) 8 K13.i K13.pool (HTB.out _ K13.old) rfl (fun y hy => by omega) rfl (by omega))
  have HK13 := Lib.hid (And.intro K13 (And.intro B1 B2))
  clear K12 K13 B1 B2 ht13 HK12 RN x0 x1
  go_wp2_with fail
  refine AL4.out.mono ?_
  rintro e w14 ⟨rfl, hp14, ha14, ht14⟩
  obtain ⟨K13, B1, B2⟩ := HK13.out
  have t14 : Turn (fun _ => False) w14 (w14.alloc (.cells #[.int .i64 0, .int .u64 2] 32)) := (Turn.refl _ w14).alloc _
  have K14 := (K13.turnI hp14 ha14 (up2 ht14 _)).same t14
  have B1 := (B1.turn (up2 ht14 (· = gb)) (K13.no32 B1).2).turn t14 (fun h => h)
  have B2 := (B2.turn (up2 ht14 (· = gb)) (K13.no32 B2).2).turn t14 (fun h => h)
  have B3 := At.new w14 (.cells #[.int .i64 0, .int .u64 2] 32)
  have x0 := B1.cell 0
  have x1 := B1.cell 1
  have l1' := B1.lt
  simp at x0 x1 l1'
  have x0' : w14.cell? ⟨w5.heap.size, 0, none⟩ = some (.int .i64 0) := by have := (HK13.out.2.1.turn (up2 ht14 (· = gb)) (K13.no32 HK13.out.2.1).2).cell 0; simpa using this
  have x1' : w14.cell? ⟨w5.heap.size, 1, none⟩ = some (.int .u64 1) := by have := (HK13.out.2.1.turn (up2 ht14 (· = gb)) (K13.no32 HK13.out.2.1).2).cell 1; simpa using this
  have l5 : w5.heap.size < w14.heap.size := (HK13.out.2.1.turn (up2 ht14 (· = gb)) (K13.no32 HK13.out.2.1).2).lt
  have GD : Hid (Calls Tryd.prog 15 #[.pointer (some ⟨sa, 0, none⟩), .agg #[.int .i64 0, .int .u64 1]] (w14.alloc (.cells #[.int .i64 0, .int .u64 2] 32)) fun e w' => e = .returned (.tuple #[.pointer none, .bool false]) ∧ Turn (fun _ => False) (w14.alloc (.cells #[.int .i64 0, .int .u64 2] 32)) w') := Lib.hid (getS_none K14.s 0 1 (by omega) rfl)
  have HK14 := Lib.hid (And.intro K14 (And.intro B1 (And.intro B2 B3)))
  clear K13 K14 B1 B2 B3 hp14 ha14 ht14 t14 HK13 AL4 x0 x1 l1'
  go_wp2_with fail
  refine GD.out.mono ?_
  rintro e w15 ⟨rfl, ht15⟩
  obtain ⟨K14, B1, B2, B3⟩ := HK14.out
  have K15 := K14.same ht15
  have B2 := B2.turn ht15 (fun h => h)
  have B3 := B3.turn ht15 (fun h => h)
  have z0 := B3.cell 0
  have z1 := B3.cell 1
  simp at z0 z1
  have GE : Hid (Calls Tryd.prog 16 #[.pointer (some ⟨ia, 0, none⟩), .agg #[.int .i64 0, .int .u64 2]] w15 (GetYes 100 2 (.int .i64 8) w15)) := Lib.hid (getI_some K15.i 0 2 (.int .i64 8) (by omega) rfl)
  have HK15 := Lib.hid (And.intro K15 (And.intro B2 B3))
  clear K14 K15 B1 B2 B3 ht15 HK14 GD x0' x1' l5
  go_wp2_with fail
  refine GE.out.mono ?_
  rintro e w16 ⟨q2, rfl, hq2, ht16⟩
  obtain ⟨K15, B2, B3⟩ := HK15.out
  have K16 := K15.same ht16
  have HD := Lib.hid (handlesI sortedAtI K16.i (by omega) (fun x hx => by
    unfold updM at hx
    split at hx
    · omega
    · split at hx
      · omega
      · cases hx))
  have HK16 := Lib.hid (And.intro K16 (And.intro (B2.turn ht16 (fun h => h)) (And.intro (B3.turn ht16 (fun h => h)) (hq2.turn ht16 (fun h => h)))))
  clear K15 K16 B2 B3 hq2 ht16 HK15 GE z0 z1
  go_wp2_with fail
  refine HD.out.mono ?_
  rintro e w17 ⟨A, cap, xs, Bw, rfl, hmem, hup, hto, ht17⟩
  obtain rfl : xs = [0, 1] := two_rising (fun x => by
    rw [hmem x]
    unfold updM
    by_cases h0 : x = 0
    · simp [h0]
    · by_cases h1 : x = 1
      · simp [h1]
      · simp [h0, h1]; omega) hup
  have hto2 : Told Bw w17 (.slice A 2 cap) [(0, 2), (1, 1)] := hto
  obtain ⟨K16, B2, B3, hq2⟩ := HK16.out
  have K17 := K16.same ht17
  have AK : Hid (∀ n : Wx w17, Calls Tryd.prog 19 #[] n.wr fun e w' => e = .returned (.bool true) ∧ ∃ m : Wx w17, w' = m.wr) := Lib.hid (fun n => quietWx (awake_any n.wr (HTB.out _ (K17.old.trans n.t))))
  have B2 := B2.turn ht17 (fun h => h)
  have B3 := B3.turn ht17 (fun h => h)
  have hq2 := hq2.turn ht17 (fun h => h)
  obtain ⟨tg, rfl, _, _, _, _, _⟩ := hto2.at (k := 0) (p := (0, 2)) rfl
  have HF : Hid (∀ wr, Turn (fun _ => False) w17 wr → (wr.cell? ⟨w14.heap.size, 0, none⟩ = some (.int .i64 0) ∧ wr.cell? ⟨w14.heap.size, 1, none⟩ = some (.int .u64 2)) ∧
      (wr.cell? ⟨w6.heap.size, 0, none⟩ = some (.int .i64 1) ∧ wr.cell? ⟨w6.heap.size, 1, none⟩ = some (.int .u64 1)) ∧
      wr.cell? ⟨q2, 1, none⟩ = some (.int .i64 8) ∧
      (wr.cell? ⟨tg, 0, none⟩ = some (.int .i64 0) ∧ wr.cell? ⟨tg, 1, none⟩ = some (.int .u64 2)) ∧ (wr.cell? ⟨tg, 2, none⟩ = some (.int .i64 1) ∧ wr.cell? ⟨tg, 3, none⟩ = some (.int .u64 1))) := Lib.hid (by
    intro wr t
    have B2 := B2.turn t (fun h => h)
    have B3 := B3.turn t (fun h => h)
    have hq2 := hq2.turn t (fun h => h)
    have hto := hto2.same t
    obtain ⟨tg', htg, _, _, t00, t01, _⟩ := hto.at (k := 0) (p := (0, 2)) rfl
    injection htg with htg
    injection htg with htg
    subst htg
    obtain ⟨tg', htg, _, _, t10, t11, _⟩ := hto.at (k := 1) (p := (1, 1)) rfl
    injection htg with htg
    injection htg with htg
    subst htg
    have y0 := B2.cell 0
    have y1 := B2.cell 1
    have z0 := B3.cell 0
    have z1 := B3.cell 1
    have q1 := hq2.cell 1
    simp at y0 y1 z0 z1 q1 t00 t01 t10 t11
    exact ⟨⟨z0, z1⟩, ⟨y0, y1⟩, q1, ⟨t00, t01⟩, ⟨t10, t11⟩⟩)
  have HC : Hid (∀ n : Wx w17, Calls Tryd.prog 20 #[.pointer (some ⟨sa, 0, none⟩)] n.wr fun e w' => e = .returned (.int .i64 0) ∧ ∃ m : Wx w17, w' = m.wr) := Lib.hid (fun n => stillWx (liveS (K17.same n.t).s))
  have FN : Hid (∀ n : Wx w17, Calls Tryd.prog 13 #[.pointer none] n.wr fun e w' => e = .returned (.int .i64 0) ∧ ∃ m : Wx w17, w' = m.wr) := Lib.hid (fun n => stillWx (free_nil _))
  have LN : Hid (∀ n : Wx w17, Calls Tryd.prog 14 #[.pointer none] n.wr fun e w' => e = .returned (.int .i64 0) ∧ ∃ m : Wx w17, w' = m.wr) := Lib.hid (fun n => stillWx (live_nil _))
  have RM : Hid (∀ n : Wx w17, Calls Tryd.prog 21 #[.pointer none, .int .i64 0] n.wr fun e w' => e = .returned (.bool false) ∧ ∃ m : Wx w17, w' = m.wr) := Lib.hid (fun n => stillWx (room_nil _ _))
  have R0 : Hid (∀ n : Wx w17, Calls Tryd.prog 21 #[.pointer (some ⟨pb, 0, none⟩), .int .i64 0] n.wr fun e w' => e = .returned (.bool true) ∧ ∃ m : Wx w17, w' = m.wr) := Lib.hid (fun n => stillWx (room_any (K17.same n.t).pool 0))
  have R1 : Hid (∀ n : Wx w17, Calls Tryd.prog 21 #[.pointer (some ⟨pb, 0, none⟩), .int .i64 (-1)] n.wr fun e w' => e = .returned (.bool true) ∧ ∃ m : Wx w17, w' = m.wr) := Lib.hid (fun n => stillWx (room_any (K17.same n.t).pool (-1)))
  have R2 : Hid (∀ n : Wx w17, Calls Tryd.prog 21 #[.pointer (some ⟨pb, 0, none⟩), .int .i64 1] n.wr fun e w' => e = .returned (.bool false) ∧ ∃ m : Wx w17, w' = m.wr) := Lib.hid (fun n => stillWx (room_any (K17.same n.t).pool 1))
  have HO := Lib.hid K17.old
  clear K16 K17 B2 B3 hq2 ht17 hmem hup hto hto2 HK16 HD HTB
  have z0 := fun n : Wx w17 => (HF.out n.wr n.t).1.1
  have z1 := fun n : Wx w17 => (HF.out n.wr n.t).1.2
  have y0 := fun n : Wx w17 => (HF.out n.wr n.t).2.1.1
  have y1 := fun n : Wx w17 => (HF.out n.wr n.t).2.1.2
  have q1 := fun n : Wx w17 => (HF.out n.wr n.t).2.2.1
  have t00 := fun n : Wx w17 => (HF.out n.wr n.t).2.2.2.1.1
  have t01 := fun n : Wx w17 => (HF.out n.wr n.t).2.2.2.1.2
  have t10 := fun n : Wx w17 => (HF.out n.wr n.t).2.2.2.2.1
  have t11 := fun n : Wx w17 => (HF.out n.wr n.t).2.2.2.2.2
  clear HF
  go_wp2_with fail
  simp only [List.append]
  refine wp_region_wx (w0 := w17) (by kernel_rfl) (by kernel_rfl) (Turn.refl _ _) ?_
  repeat (go_big_quiet_step (first
    | (go_at_call 19; with_reducible exact AK.out _) | (go_at_call 20; with_reducible exact HC.out _) | (go_at_call 13; with_reducible exact FN.out _) | (go_at_call 14; with_reducible exact LN.out _)
    | (go_at_call 21; with_reducible exact RM.out _) | (go_at_call 21; with_reducible exact R0.out _) | (go_at_call 21; with_reducible exact R1.out _) | (go_at_call 21; with_reducible exact R2.out _)))
  refine wpQuiet_nil ?_
  rintro _ ⟨n, rfl⟩
  go_wp2_with fail
  go_ret
  exact ⟨rfl, (HO.out.trans n.t).below (Nat.le_refl _) (fun _ _ h => h)⟩
end Go.Proofs.YtbdfbgkfhaiccaaDoor
