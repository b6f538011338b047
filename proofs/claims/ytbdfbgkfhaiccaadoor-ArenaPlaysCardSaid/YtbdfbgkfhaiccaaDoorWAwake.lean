/-
  What the laws' first test comes to: true, whatever the world; all that it turns is new.
-/
import Derived.Test.YtbdfbgkfhaiccaaDoorWArS
namespace Go.Proofs.YtbdfbgkfhaiccaaDoor
open Go.RowKit Go.Maps
set_option linter.unusedVariables false

set_option maxRecDepth 100000 in
theorem awake_any (w : World) (hT : Tab w) : Calls Tryd.prog 19 #[] w fun e w' => e = .returned (.bool true) ∧ Turn (fun _ => False) w w' := by
  have NP : Hid (Calls Tryd.prog 8 #[.int .i64 2] w (NewPost w 2)) := Lib.hid (newPool_any 2 w (by omega) (by omega))
  have HT := Lib.hid hT
  clear hT
  go_enter Tryd.func19, Tryd.ntmps19
  go_wp2_with fail
  refine NP.out.mono ?_
  rintro e w1 ⟨pb, gb, fb, rfl, hp1, ht1, l1, l2, l3⟩
  have H1 := Lib.hid (And.intro hp1 ht1)
  have NA := Lib.hid (newS (some ⟨pb, 0, none⟩) w1)
  clear hp1 ht1
  go_wp2_with fail
  refine NA.out.mono ?_
  rintro e w2 ⟨rfl, ha2, ht2⟩
  obtain ⟨hp1, ht1⟩ := H1.out
  have hp2 := hp1.turn ht2 (fun h => h) (fun h => h) (fun h => h)
  have u2 := ht1.trans ht2
  have WAwake := HT.out.turn u2 (fun h => h) HT.out.pos
  have AL : Hid (Calls Tryd.prog 11 #[.pointer (some ⟨w1.heap.size + 1, 0, none⟩), .string ⟨#[120]⟩] w2 fun e w' => e = .returned (.tuple #[.agg #[.int .i64 0, .int .u64 1], .int .i64 0]) ∧
      Pool w' pb gb fb [1, 1] (fun x => decide (x < 2) && x != 0) ∧ Ar 89 97 w' (w1.heap.size + 1) w1.heap.size (.pointer (some ⟨pb, 0, none⟩)) (updM (fun _ => none) 0 (some (1, .string ⟨#[120]⟩))) 1 ∧ Turn (fun i => i = fb ∨ i = w1.heap.size) w2 w') :=
    Lib.hid (allocS_some (s := 0) ⟨#[120]⟩ ha2 hp2 WAwake rfl (fun y hy => by omega) rfl (by omega))
  have lw1 := ht1.size
  obtain ⟨lp1, lp2, lp3⟩ := hp1.lt
  have lw2 : w1.heap.size + 1 < w2.heap.size := by obtain ⟨f, hf⟩ := ha2; exact hf.1.lt
  have H2 := Lib.hid (And.intro u2 WAwake)
  clear ha2 hp2 hp1 ht1 ht2 u2 WAwake H1
  go_wp2_with fail
  refine AL.out.mono ?_
  rintro e w3 ⟨rfl, hp3, ha3, ht3⟩
  have t3 : Turn (fun _ => False) w3 (w3.alloc (.cells #[.int .i64 0, .int .u64 1] 32)) := (Turn.refl _ w3).alloc _
  have RL : Hid (Calls Tryd.prog 17 #[.pointer (some ⟨w1.heap.size + 1, 0, none⟩), .agg #[.int .i64 0, .int .u64 1]] (w3.alloc (.cells #[.int .i64 0, .int .u64 1] 32)) fun e w' => e = .returned (.bool true) ∧
      Pool w' pb gb fb [2, 1] (fun y => (decide (y < 2) && y != 0) || y == 0) ∧ Ar 89 97 w' (w1.heap.size + 1) w1.heap.size (.pointer (some ⟨pb, 0, none⟩)) (updM (updM (fun _ => none) 0 (some (1, .string ⟨#[120]⟩))) 0 none) 0 ∧ Turn (fun i => i = gb ∨ i = fb ∨ i = w1.heap.size) (w3.alloc (.cells #[.int .i64 0, .int .u64 1] 32)) w') :=
    Lib.hid (relS_some (ha3.same t3) (hp3.turn t3 (fun h => h) (fun h => h) (fun h => h)) 0 1 (.string ⟨#[120]⟩) (by simp) rfl)
  have lw3 := ht3.size
  have hB := At.new w3 (.cells #[.int .i64 0, .int .u64 1] 32)
  have H3 := Lib.hid (And.intro hB ht3)
  clear hp3 ha3 t3 hB ht3
  go_wp2_with fail
  refine RL.out.mono ?_
  rintro e w4 ⟨rfl, hp4, ha4, ht4⟩
  obtain ⟨hB, ht3⟩ := H3.out
  obtain ⟨u2, WAwake⟩ := H2.out
  have u3 : Turn (fun _ => False) w w3 := u2.then ht3 (fun i hi h => by omega)
  have u4 : Turn (fun _ => False) w w4 := (u3.alloc _).then ht4 (fun i hi h => by omega)
  have T4 := HT.out.turn u4 (fun h => h) HT.out.pos
  have hB4 := hB.turn ht4 (by omega)
  have AL2 : Hid (Calls Tryd.prog 11 #[.pointer (some ⟨w1.heap.size + 1, 0, none⟩), .string ⟨#[121]⟩] w4 fun e w' => e = .returned (.tuple #[.agg #[.int .i64 0, .int .u64 2], .int .i64 0]) ∧
      Pool w' pb gb fb [2, 1] (fun x => ((decide (x < 2) && x != 0) || x == 0) && x != 0) ∧ Ar 89 97 w' (w1.heap.size + 1) w1.heap.size (.pointer (some ⟨pb, 0, none⟩)) (updM (updM (updM (fun _ => none) 0 (some (1, .string ⟨#[120]⟩))) 0 none) 0 (some (2, .string ⟨#[121]⟩))) 1 ∧ Turn (fun i => i = fb ∨ i = w1.heap.size) w4 w') :=
    Lib.hid (allocS_some (s := 0) ⟨#[121]⟩ ha4 hp4 T4 rfl (fun y hy => by omega) rfl (by omega))
  have lw4 : w3.heap.size < w4.heap.size := hB4.lt
  have H4 := Lib.hid (And.intro hB4 u4)
  clear hB ht3 u2 WAwake u3 u4 T4 hB4 hp4 ha4 ht4 H2 H3 RL AL NA NP
  go_wp2_with fail
  refine AL2.out.mono ?_
  rintro e w5 ⟨rfl, hp5, ha5, ht5⟩
  obtain ⟨hB4, u4⟩ := H4.out
  have u5 : Turn (fun _ => False) w w5 := u4.then ht5 (fun i hi h => by omega)
  have t5 : Turn (fun _ => False) w5 (w5.alloc (.cells #[.int .i64 0, .int .u64 2] 32)) := (Turn.refl _ w5).alloc _
  have hB5 := (hB4.turn ht5 (by omega)).turn t5 (fun h => h)
  have hC5 := At.new w5 (.cells #[.int .i64 0, .int .u64 2] 32)
  have hp5' := hp5.turn t5 (fun h => h) (fun h => h) (fun h => h)
  have ha5' := ha5.same t5
  have GT : Hid (Calls Tryd.prog 15 #[.pointer (some ⟨w1.heap.size + 1, 0, none⟩), .agg #[.int .i64 0, .int .u64 2]] (w5.alloc (.cells #[.int .i64 0, .int .u64 2] 32)) (GetYes 97 2 (.string ⟨#[121]⟩) (w5.alloc (.cells #[.int .i64 0, .int .u64 2] 32)))) :=
    Lib.hid (getS_some ha5' 0 2 (.string ⟨#[121]⟩) (by omega) rfl)
  have lw5 := ht5.size
  have H5 := Lib.hid (And.intro hB5 (And.intro hC5 (And.intro hp5' (And.intro ha5' (u5.trans t5)))))
  clear hB4 u4 u5 t5 hB5 hC5 hp5 hp5' ha5 ha5' ht5 H4 AL2
  go_wp2_with fail
  refine GT.out.mono ?_
  rintro e w6 ⟨q, rfl, hq, ht6⟩
  obtain ⟨hB5, hC5, hp5, ha5, u5⟩ := H5.out
  have hB6 := hB5.turn ht6 (fun h => h)
  have hC6 := hC5.turn ht6 (fun h => h)
  have hq6 := hq.turn ht6 (fun h => h)
  have ha6 := ha5.same ht6
  have hp6 := hp5.turn ht6 (fun h => h) (fun h => h) (fun h => h)
  have G2 : Hid (Calls Tryd.prog 15 #[.pointer (some ⟨w1.heap.size + 1, 0, none⟩), .agg #[.int .i64 0, .int .u64 1]] w6 fun e w' => e = .returned (.tuple #[.pointer none, .bool false]) ∧ Turn (fun _ => False) w6 w') :=
    Lib.hid (getS_other ha6 0 1 2 (.string ⟨#[121]⟩) (by omega) rfl (by omega))
  have b0 := hB6.cell 0
  have b1 := hB6.cell 1
  simp at b0 b1
  have H6 := Lib.hid (And.intro hC6 (And.intro hq6 (And.intro hp6 (u5.trans ht6))))
  clear hB5 hC5 hp5 ha5 u5 hB6 hC6 hq6 ha6 hp6 hq ht6 H5 GT
  go_wp2_with fail
  refine G2.out.mono ?_
  rintro e w7 ⟨rfl, ht7⟩
  obtain ⟨hC6, hq6, hp6, u6⟩ := H6.out
  have hC7 := hC6.turn ht7 (fun h => h)
  have hq7 := hq6.turn ht7 (fun h => h)
  have hp7 := hp6.turn ht7 (fun h => h) (fun h => h) (fun h => h)
  have c0 := hC7.cell 0
  have c1 := hC7.cell 1
  have q1 := hq7.cell 1
  simp at c0 c1 q1
  have FR : Hid (Calls Tryd.prog 13 #[.pointer (some ⟨pb, 0, none⟩)] w7 fun e w' => e = .returned (.int .i64 1) ∧ w7 = w') := Lib.hid (free_any hp7)
  have HU := Lib.hid (u6.trans ht7)
  clear hC6 hq6 hp6 u6 hC7 hq7 hp7 ht7 b0 b1 H6 G2
  go_wp2_with fail
  refine FR.out.mono ?_
  rintro e w8 ⟨rfl, rfl⟩
  go_wp2_with fail
  go_ret
  exact ⟨rfl, HU.out⟩
end Go.Proofs.YtbdfbgkfhaiccaaDoor
