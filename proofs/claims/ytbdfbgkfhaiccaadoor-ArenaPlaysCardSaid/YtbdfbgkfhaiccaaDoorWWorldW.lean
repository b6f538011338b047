/-
  The law's world's write, by what the arenas say.
-/
import Derived.Test.YtbdfbgkfhaiccaaDoorWorld
import Derived.Deep.RegionWith
import Derived.Deep.Cut
import Derived.Deep.CutRange
namespace Go.Proofs.YtbdfbgkfhaiccaaDoor
open Go.RowKit Go.Maps
set_option linter.unusedVariables false

set_option maxRecDepth 100000 in
set_option maxHeartbeats 1000000 in
theorem wwrite_1_no {wr : World} {xb a1 a2 a3 : Nat} {c0 c4 c5 : Value} (hx : At wr xb (.cells #[c0, .pointer (some ⟨a1, 0, none⟩), .pointer (some ⟨a3, 0, none⟩), .pointer (some ⟨a2, 0, none⟩), c4, c5] 60 (0, 0))) (s : Int) (g : Nat) (x : ByteArray) (p1 : Value) (p2 : Value) (b2 : Bool) (p3 : Value) (b3 : Bool)
    (G1 : ∀ W, Turn (fun _ => False) wr W → Calls Tryd.prog 15 #[.pointer (some ⟨a1, 0, none⟩), .agg #[.int .i64 s, .int .u64 (g : Int)]] W fun e w' => e = .returned (.tuple #[p1, .bool false]) ∧ Turn (fun _ => False) W w')
    (G2 : ∀ W, Turn (fun _ => False) wr W → Calls Tryd.prog 59 #[.pointer (some ⟨a2, 0, none⟩), .agg #[.int .i64 s, .int .u64 (g : Int)]] W fun e w' => e = .returned (.tuple #[p2, .bool b2]) ∧ Turn (fun _ => False) W w')
    (G3 : ∀ W, Turn (fun _ => False) wr W → Calls Tryd.prog 15 #[.pointer (some ⟨a3, 0, none⟩), .agg #[.int .i64 s, .int .u64 (g : Int)]] W fun e w' => e = .returned (.tuple #[p3, .bool b3]) ∧ Turn (fun _ => False) W w') :
    Calls Tryd.prog 45 #[.pointer (some ⟨xb, 0, none⟩), .int .i64 1, .agg #[.int .i64 s, .int .u64 (g : Int)], .string x] wr fun e w' => e = .returned (.tuple #[]) ∧ Turn (fun _ => False) wr w' := by
  have t0 : Turn (fun _ => False) wr (wr.alloc (.cells #[.int .i64 s, .int .u64 (g : Int)] 32)) := (Turn.refl _ wr).alloc _
  have hB := At.new wr (.cells #[.int .i64 s, .int .u64 (g : Int)] 32)
  have lx := hx.lt
  have c1 := hx.cell 1
  simp at c1
  obtain ⟨B, hBe⟩ : ∃ B, B = wr.heap.size := ⟨_, rfl⟩
  rw [← hBe] at hB
  have HX := Lib.hid hx
  have HB := Lib.hid hB
  have HT0 := Lib.hid t0
  have HBE := Lib.hid hBe
  replace G1 := Lib.hid G1
  replace G2 := Lib.hid G2
  replace G3 := Lib.hid G3
  clear hx hB t0 hBe
  go_enter Tryd.func45, Tryd.ntmps45
  go_upto_region 1 with (fail)
  rw [← HBE.out]
  have bx0 := HB.out.cell 0
  have bx1 := HB.out.cell 1
  simp at bx0 bx1
  go_cut [8, 9] from 14 to 66 (fun s1 s2 wx => s1 = p1 ∧ s2 = .bool false ∧ Hid (Turn (fun _ => False) (wr.alloc (.cells #[.int .i64 s, .int .u64 (g : Int)] 32)) wx))
  case first =>
    go_region_with (go_at_call 15; refine (G1.out _ (HT0.out.drew)).mono ?_; rintro e w3 ⟨rfl, ht⟩; have HT3 := Lib.hid (((Turn.refl (fun _ => False) (wr.alloc (.cells #[.int .i64 s, .int .u64 (g : Int)] 32))).drew).trans ht); clear ht)
    all_goals
      go_wp2_with fail
      go_meet
      case rel => exact ⟨rfl, rfl, HT3⟩
  case rest =>
  obtain ⟨rfl, rfl, HT1⟩ := hcut
  obtain ⟨v1, hv1⟩ : ∃ v1, v1 = wc := ⟨_, rfl⟩
  rw [← hv1] at HT1 ⊢
  clear hv1
  have TA1 := Lib.hid (HT0.out.trans HT1.out)
  have AB1 := Lib.hid (HB.out.turn HT1.out (fun h => h))
  have AX1 := Lib.hid (HX.out.turn TA1.out (fun h => h))
  clear bx0 bx1 c1
  have TT2 := TA1
  have ABp2 := AB1
  have AXp2 := AX1
  have bx0 := ABp2.out.cell 0
  have bx1 := ABp2.out.cell 1
  have c1 := AXp2.out.cell 3
  have lx1 := AXp2.out.lt
  simp at bx0 bx1 c1
  go_upto_region 4 with (fail)
  go_cut [10, 11] from 14 to 66 (fun s1 s2 wx => s1 = p2 ∧ s2 = .bool b2 ∧ Hid (Turn (fun _ => False) v1 wx))
  case first =>
    go_region_with (go_at_call 59; refine (G2.out _ (TT2.out.drew)).mono ?_; rintro e w3 ⟨rfl, ht⟩; have HT3 := Lib.hid (((Turn.refl (fun _ => False) v1).drew).trans ht); clear ht)
    all_goals
      go_wp2_with fail
      go_meet
      case rel => exact ⟨rfl, rfl, HT3⟩
  case rest =>
  obtain ⟨rfl, rfl, HT2⟩ := hcut
  obtain ⟨v2, hv2⟩ : ∃ v2, v2 = wc := ⟨_, rfl⟩
  rw [← hv2] at HT2 ⊢
  clear hv2
  have TA2 := Lib.hid (TT2.out.trans (HT2.out.mono (fun _ _ h => h.elim)))
  have AB2 := Lib.hid (ABp2.out.turn HT2.out (fun h => h))
  have AX2 := Lib.hid (AXp2.out.turn HT2.out (fun h => h))
  clear bx0 bx1 c1
  have TT3 := TA2
  have ABp3 := AB2
  have AXp3 := AX2
  have bx0 := ABp3.out.cell 0
  have bx1 := ABp3.out.cell 1
  have c1 := AXp3.out.cell 2
  have lx2 := AXp3.out.lt
  simp at bx0 bx1 c1
  go_upto_region 7 with (fail)
  go_cut [12, 13] from 14 to 66 (fun s1 s2 wx => s1 = p3 ∧ s2 = .bool b3 ∧ Hid (Turn (fun _ => False) v2 wx))
  case first =>
    go_region_with (go_at_call 15; refine (G3.out _ (TT3.out.drew)).mono ?_; rintro e w3 ⟨rfl, ht⟩; have HT3 := Lib.hid (((Turn.refl (fun _ => False) v2).drew).trans ht); clear ht)
    all_goals
      go_wp2_with fail
      go_meet
      case rel => exact ⟨rfl, rfl, HT3⟩
  case rest =>
  obtain ⟨rfl, rfl, HT3⟩ := hcut
  obtain ⟨v3, hv3⟩ : ∃ v3, v3 = wc := ⟨_, rfl⟩
  rw [← hv3] at HT3 ⊢
  clear hv3
  have TA3 := Lib.hid (TT3.out.trans (HT3.out.mono (fun _ _ h => h.elim)))
  have AB3 := Lib.hid (ABp3.out.turn HT3.out (fun h => h))
  have AX3 := Lib.hid (AXp3.out.turn HT3.out (fun h => h))
  clear bx0 bx1 c1
  go_wp2_with fail
  go_end0
  exact ⟨rfl, TA3.out⟩

set_option maxRecDepth 100000 in
set_option maxHeartbeats 1000000 in
theorem wwrite_1_yes {wr : World} {xb a1 a2 a3 : Nat} {c0 c4 c5 : Value} (hx : At wr xb (.cells #[c0, .pointer (some ⟨a1, 0, none⟩), .pointer (some ⟨a3, 0, none⟩), .pointer (some ⟨a2, 0, none⟩), c4, c5] 60 (0, 0))) (s : Int) (g : Nat) (x : ByteArray) (p2 : Value) (b2 : Bool) (p3 : Value) (b3 : Bool) (q : Nat) {c : Array Value} {tq : TypeId} (hq : At wr q (.cells c tq (0, 0))) (hc : 1 < c.size) (ht : tq ≠ 60)
    (G1 : ∀ W, Turn (fun _ => False) wr W → Calls Tryd.prog 15 #[.pointer (some ⟨a1, 0, none⟩), .agg #[.int .i64 s, .int .u64 (g : Int)]] W fun e w' => e = .returned (.tuple #[(.pointer (some ⟨q, 1, none⟩)), .bool true]) ∧ Turn (fun _ => False) W w')
    (G2 : ∀ W, Turn (· = q) wr W → Calls Tryd.prog 59 #[.pointer (some ⟨a2, 0, none⟩), .agg #[.int .i64 s, .int .u64 (g : Int)]] W fun e w' => e = .returned (.tuple #[p2, .bool b2]) ∧ Turn (fun _ => False) W w')
    (G3 : ∀ W, Turn (· = q) wr W → Calls Tryd.prog 15 #[.pointer (some ⟨a3, 0, none⟩), .agg #[.int .i64 s, .int .u64 (g : Int)]] W fun e w' => e = .returned (.tuple #[p3, .bool b3]) ∧ Turn (fun _ => False) W w') :
    Calls Tryd.prog 45 #[.pointer (some ⟨xb, 0, none⟩), .int .i64 1, .agg #[.int .i64 s, .int .u64 (g : Int)], .string x] wr fun e w' => e = .returned (.tuple #[]) ∧ ∃ W, Turn (fun _ => False) wr W ∧ Turn (fun _ => False) (W.setCell ⟨q, 1, none⟩ (.string x)) w' := by
  have t0 : Turn (fun _ => False) wr (wr.alloc (.cells #[.int .i64 s, .int .u64 (g : Int)] 32)) := (Turn.refl _ wr).alloc _
  have hB := At.new wr (.cells #[.int .i64 s, .int .u64 (g : Int)] 32)
  have lx := hx.lt
  have c1 := hx.cell 1
  simp at c1
  obtain ⟨B, hBe⟩ : ∃ B, B = wr.heap.size := ⟨_, rfl⟩
  rw [← hBe] at hB
  have nqx : ¬ xb = q := hx.ne hq (by intro e; injection e with _ e; exact ht e.symm)
  have nqB : ¬ B = q := by have := hq.lt; omega
  obtain ⟨u, hu⟩ : ∃ u, c[1]? = some u := ⟨_, Array.getElem?_eq_getElem hc⟩
  have HQ := Lib.hid (And.intro hq hu)
  clear hq hu ht hc
  have HX := Lib.hid hx
  have HB := Lib.hid hB
  have HT0 := Lib.hid t0
  have HBE := Lib.hid hBe
  replace G1 := Lib.hid G1
  replace G2 := Lib.hid G2
  replace G3 := Lib.hid G3
  clear hx hB t0 hBe
  go_enter Tryd.func45, Tryd.ntmps45
  go_upto_region 1 with (fail)
  rw [← HBE.out]
  have bx0 := HB.out.cell 0
  have bx1 := HB.out.cell 1
  simp at bx0 bx1
  go_cut [8, 9] from 14 to 66 (fun s1 s2 wx => s1 = (.pointer (some ⟨q, 1, none⟩)) ∧ s2 = .bool true ∧ Hid (Turn (fun _ => False) (wr.alloc (.cells #[.int .i64 s, .int .u64 (g : Int)] 32)) wx))
  case first =>
    go_region_with (go_at_call 15; refine (G1.out _ (HT0.out.drew)).mono ?_; rintro e w3 ⟨rfl, ht⟩; have HT3 := Lib.hid (((Turn.refl (fun _ => False) (wr.alloc (.cells #[.int .i64 s, .int .u64 (g : Int)] 32))).drew).trans ht); clear ht)
    all_goals
      go_wp2_with fail
      go_meet
      case rel => exact ⟨rfl, rfl, HT3⟩
  case rest =>
  obtain ⟨rfl, rfl, HT1⟩ := hcut
  obtain ⟨v1, hv1⟩ : ∃ v1, v1 = wc := ⟨_, rfl⟩
  rw [← hv1] at HT1 ⊢
  clear hv1
  have TA1 := Lib.hid (HT0.out.trans HT1.out)
  have AB1 := Lib.hid (HB.out.turn HT1.out (fun h => h))
  have AX1 := Lib.hid (HX.out.turn TA1.out (fun h => h))
  clear bx0 bx1 c1
  have hq1 := HQ.out.1.turn TA1.out (fun h => h)
  have e1 := (hq1.cell 1).trans HQ.out.2
  have z1 := hq1.thawed 1
  clear hq1
  have tS := Lib.hid ((Turn.refl (fun i => i = q) v1).setCell (p := ⟨q, 1, none⟩) (Or.inl rfl) (.string x))
  have TT2 := Lib.hid ((TA1.out.mono (Y := fun i => i = q) (fun _ _ h => h.elim)).trans tS.out)
  have ABp2 := Lib.hid (AB1.out.turn tS.out nqB)
  have AXp2 := Lib.hid (AX1.out.turn tS.out nqx)
  have bx0 := ABp2.out.cell 0
  have bx1 := ABp2.out.cell 1
  have c1 := AXp2.out.cell 3
  have lx1 := AXp2.out.lt
  simp at bx0 bx1 c1
  go_upto_region 4 with (fail)
  go_cut [10, 11] from 14 to 66 (fun s1 s2 wx => s1 = p2 ∧ s2 = .bool b2 ∧ Hid (Turn (fun _ => False) (v1.setCell ⟨q, 1, none⟩ (.string x)) wx))
  case first =>
    go_region_with (go_at_call 59; refine (G2.out _ (TT2.out.drew)).mono ?_; rintro e w3 ⟨rfl, ht⟩; have HT3 := Lib.hid (((Turn.refl (fun _ => False) (v1.setCell ⟨q, 1, none⟩ (.string x))).drew).trans ht); clear ht)
    all_goals
      go_wp2_with fail
      go_meet
      case rel => exact ⟨rfl, rfl, HT3⟩
  case rest =>
  obtain ⟨rfl, rfl, HT2⟩ := hcut
  obtain ⟨v2, hv2⟩ : ∃ v2, v2 = wc := ⟨_, rfl⟩
  rw [← hv2] at HT2 ⊢
  clear hv2
  have TA2 := Lib.hid (TT2.out.trans (HT2.out.mono (fun _ _ h => h.elim)))
  have AB2 := Lib.hid (ABp2.out.turn HT2.out (fun h => h))
  have AX2 := Lib.hid (AXp2.out.turn HT2.out (fun h => h))
  clear bx0 bx1 c1
  have TT3 := TA2
  have ABp3 := AB2
  have AXp3 := AX2
  have bx0 := ABp3.out.cell 0
  have bx1 := ABp3.out.cell 1
  have c1 := AXp3.out.cell 2
  have lx2 := AXp3.out.lt
  simp at bx0 bx1 c1
  go_upto_region 7 with (fail)
  go_cut [12, 13] from 14 to 66 (fun s1 s2 wx => s1 = p3 ∧ s2 = .bool b3 ∧ Hid (Turn (fun _ => False) v2 wx))
  case first =>
    go_region_with (go_at_call 15; refine (G3.out _ (TT3.out.drew)).mono ?_; rintro e w3 ⟨rfl, ht⟩; have HT3 := Lib.hid (((Turn.refl (fun _ => False) v2).drew).trans ht); clear ht)
    all_goals
      go_wp2_with fail
      go_meet
      case rel => exact ⟨rfl, rfl, HT3⟩
  case rest =>
  obtain ⟨rfl, rfl, HT3⟩ := hcut
  obtain ⟨v3, hv3⟩ : ∃ v3, v3 = wc := ⟨_, rfl⟩
  rw [← hv3] at HT3 ⊢
  clear hv3
  have TA3 := Lib.hid (TT3.out.trans (HT3.out.mono (fun _ _ h => h.elim)))
  have AB3 := Lib.hid (ABp3.out.turn HT3.out (fun h => h))
  have AX3 := Lib.hid (AXp3.out.turn HT3.out (fun h => h))
  clear bx0 bx1 c1
  go_wp2_with fail
  go_end0
  exact ⟨rfl, _, TA1.out, HT2.out.trans HT3.out⟩

set_option maxRecDepth 100000 in
set_option maxHeartbeats 1000000 in
theorem wwrite_2_no {wr : World} {xb a1 a2 a3 : Nat} {c0 c4 c5 : Value} (hx : At wr xb (.cells #[c0, .pointer (some ⟨a1, 0, none⟩), .pointer (some ⟨a3, 0, none⟩), .pointer (some ⟨a2, 0, none⟩), c4, c5] 60 (0, 0))) (s : Int) (g : Nat) (x : ByteArray) (p1 : Value) (b1 : Bool) (p2 : Value) (p3 : Value) (b3 : Bool)
    (G1 : ∀ W, Turn (fun _ => False) wr W → Calls Tryd.prog 15 #[.pointer (some ⟨a1, 0, none⟩), .agg #[.int .i64 s, .int .u64 (g : Int)]] W fun e w' => e = .returned (.tuple #[p1, .bool b1]) ∧ Turn (fun _ => False) W w')
    (G2 : ∀ W, Turn (fun _ => False) wr W → Calls Tryd.prog 59 #[.pointer (some ⟨a2, 0, none⟩), .agg #[.int .i64 s, .int .u64 (g : Int)]] W fun e w' => e = .returned (.tuple #[p2, .bool false]) ∧ Turn (fun _ => False) W w')
    (G3 : ∀ W, Turn (fun _ => False) wr W → Calls Tryd.prog 15 #[.pointer (some ⟨a3, 0, none⟩), .agg #[.int .i64 s, .int .u64 (g : Int)]] W fun e w' => e = .returned (.tuple #[p3, .bool b3]) ∧ Turn (fun _ => False) W w') :
    Calls Tryd.prog 45 #[.pointer (some ⟨xb, 0, none⟩), .int .i64 2, .agg #[.int .i64 s, .int .u64 (g : Int)], .string x] wr fun e w' => e = .returned (.tuple #[]) ∧ Turn (fun _ => False) wr w' := by
  have t0 : Turn (fun _ => False) wr (wr.alloc (.cells #[.int .i64 s, .int .u64 (g : Int)] 32)) := (Turn.refl _ wr).alloc _
  have hB := At.new wr (.cells #[.int .i64 s, .int .u64 (g : Int)] 32)
  have lx := hx.lt
  have c1 := hx.cell 1
  simp at c1
  obtain ⟨B, hBe⟩ : ∃ B, B = wr.heap.size := ⟨_, rfl⟩
  rw [← hBe] at hB
  have HX := Lib.hid hx
  have HB := Lib.hid hB
  have HT0 := Lib.hid t0
  have HBE := Lib.hid hBe
  replace G1 := Lib.hid G1
  replace G2 := Lib.hid G2
  replace G3 := Lib.hid G3
  clear hx hB t0 hBe
  go_enter Tryd.func45, Tryd.ntmps45
  go_upto_region 1 with (fail)
  rw [← HBE.out]
  have bx0 := HB.out.cell 0
  have bx1 := HB.out.cell 1
  simp at bx0 bx1
  go_cut [8, 9] from 14 to 66 (fun s1 s2 wx => s1 = p1 ∧ s2 = .bool b1 ∧ Hid (Turn (fun _ => False) (wr.alloc (.cells #[.int .i64 s, .int .u64 (g : Int)] 32)) wx))
  case first =>
    go_region_with (go_at_call 15; refine (G1.out _ (HT0.out.drew)).mono ?_; rintro e w3 ⟨rfl, ht⟩; have HT3 := Lib.hid (((Turn.refl (fun _ => False) (wr.alloc (.cells #[.int .i64 s, .int .u64 (g : Int)] 32))).drew).trans ht); clear ht)
    all_goals
      go_wp2_with fail
      go_meet
      case rel => exact ⟨rfl, rfl, HT3⟩
  case rest =>
  obtain ⟨rfl, rfl, HT1⟩ := hcut
  obtain ⟨v1, hv1⟩ : ∃ v1, v1 = wc := ⟨_, rfl⟩
  rw [← hv1] at HT1 ⊢
  clear hv1
  have TA1 := Lib.hid (HT0.out.trans HT1.out)
  have AB1 := Lib.hid (HB.out.turn HT1.out (fun h => h))
  have AX1 := Lib.hid (HX.out.turn TA1.out (fun h => h))
  clear bx0 bx1 c1
  have TT2 := TA1
  have ABp2 := AB1
  have AXp2 := AX1
  have bx0 := ABp2.out.cell 0
  have bx1 := ABp2.out.cell 1
  have c1 := AXp2.out.cell 3
  have lx1 := AXp2.out.lt
  simp at bx0 bx1 c1
  go_upto_region 4 with (fail)
  go_cut [10, 11] from 14 to 66 (fun s1 s2 wx => s1 = p2 ∧ s2 = .bool false ∧ Hid (Turn (fun _ => False) v1 wx))
  case first =>
    go_region_with (go_at_call 59; refine (G2.out _ (TT2.out.drew)).mono ?_; rintro e w3 ⟨rfl, ht⟩; have HT3 := Lib.hid (((Turn.refl (fun _ => False) v1).drew).trans ht); clear ht)
    all_goals
      go_wp2_with fail
      go_meet
      case rel => exact ⟨rfl, rfl, HT3⟩
  case rest =>
  obtain ⟨rfl, rfl, HT2⟩ := hcut
  obtain ⟨v2, hv2⟩ : ∃ v2, v2 = wc := ⟨_, rfl⟩
  rw [← hv2] at HT2 ⊢
  clear hv2
  have TA2 := Lib.hid (TT2.out.trans (HT2.out.mono (fun _ _ h => h.elim)))
  have AB2 := Lib.hid (ABp2.out.turn HT2.out (fun h => h))
  have AX2 := Lib.hid (AXp2.out.turn HT2.out (fun h => h))
  clear bx0 bx1 c1
  have TT3 := TA2
  have ABp3 := AB2
  have AXp3 := AX2
  have bx0 := ABp3.out.cell 0
  have bx1 := ABp3.out.cell 1
  have c1 := AXp3.out.cell 2
  have lx2 := AXp3.out.lt
  simp at bx0 bx1 c1
  go_upto_region 7 with (fail)
  go_cut [12, 13] from 14 to 66 (fun s1 s2 wx => s1 = p3 ∧ s2 = .bool b3 ∧ Hid (Turn (fun _ => False) v2 wx))
  case first =>
    go_region_with (go_at_call 15; refine (G3.out _ (TT3.out.drew)).mono ?_; rintro e w3 ⟨rfl, ht⟩; have HT3 := Lib.hid (((Turn.refl (fun _ => False) v2).drew).trans ht); clear ht)
    all_goals
      go_wp2_with fail
      go_meet
      case rel => exact ⟨rfl, rfl, HT3⟩
  case rest =>
  obtain ⟨rfl, rfl, HT3⟩ := hcut
  obtain ⟨v3, hv3⟩ : ∃ v3, v3 = wc := ⟨_, rfl⟩
  rw [← hv3] at HT3 ⊢
  clear hv3
  have TA3 := Lib.hid (TT3.out.trans (HT3.out.mono (fun _ _ h => h.elim)))
  have AB3 := Lib.hid (ABp3.out.turn HT3.out (fun h => h))
  have AX3 := Lib.hid (AXp3.out.turn HT3.out (fun h => h))
  clear bx0 bx1 c1
  go_wp2_with fail
  go_end0
  exact ⟨rfl, TA3.out⟩

set_option maxRecDepth 100000 in
set_option maxHeartbeats 1000000 in
theorem wwrite_2_yes {wr : World} {xb a1 a2 a3 : Nat} {c0 c4 c5 : Value} (hx : At wr xb (.cells #[c0, .pointer (some ⟨a1, 0, none⟩), .pointer (some ⟨a3, 0, none⟩), .pointer (some ⟨a2, 0, none⟩), c4, c5] 60 (0, 0))) (s : Int) (g : Nat) (x : ByteArray) (p1 : Value) (b1 : Bool) (p3 : Value) (b3 : Bool) (q : Nat) {c : Array Value} {tq : TypeId} (hq : At wr q (.cells c tq (0, 0))) (hc : 1 < c.size) (ht : tq ≠ 60)
    (G1 : ∀ W, Turn (fun _ => False) wr W → Calls Tryd.prog 15 #[.pointer (some ⟨a1, 0, none⟩), .agg #[.int .i64 s, .int .u64 (g : Int)]] W fun e w' => e = .returned (.tuple #[p1, .bool b1]) ∧ Turn (fun _ => False) W w')
    (G2 : ∀ W, Turn (fun _ => False) wr W → Calls Tryd.prog 59 #[.pointer (some ⟨a2, 0, none⟩), .agg #[.int .i64 s, .int .u64 (g : Int)]] W fun e w' => e = .returned (.tuple #[(.pointer (some ⟨q, 1, none⟩)), .bool true]) ∧ Turn (fun _ => False) W w')
    (G3 : ∀ W, Turn (· = q) wr W → Calls Tryd.prog 15 #[.pointer (some ⟨a3, 0, none⟩), .agg #[.int .i64 s, .int .u64 (g : Int)]] W fun e w' => e = .returned (.tuple #[p3, .bool b3]) ∧ Turn (fun _ => False) W w') :
    Calls Tryd.prog 45 #[.pointer (some ⟨xb, 0, none⟩), .int .i64 2, .agg #[.int .i64 s, .int .u64 (g : Int)], .string x] wr fun e w' => e = .returned (.tuple #[]) ∧ ∃ W, Turn (fun _ => False) wr W ∧ Turn (fun _ => False) ((W.alloc (.cells #[.string x] 9)).setCell ⟨q, 1, none⟩ (.slice (some ⟨W.heap.size, 0, none⟩) 1 1)) w' := by
  have t0 : Turn (fun _ => False) wr (wr.alloc (.cells #[.int .i64 s, .int .u64 (g : Int)] 32)) := (Turn.refl _ wr).alloc _
  have hB := At.new wr (.cells #[.int .i64 s, .int .u64 (g : Int)] 32)
  have lx := hx.lt
  have c1 := hx.cell 1
  simp at c1
  obtain ⟨B, hBe⟩ : ∃ B, B = wr.heap.size := ⟨_, rfl⟩
  rw [← hBe] at hB
  have nqx : ¬ xb = q := hx.ne hq (by intro e; injection e with _ e; exact ht e.symm)
  have nqB : ¬ B = q := by have := hq.lt; omega
  obtain ⟨u, hu⟩ : ∃ u, c[1]? = some u := ⟨_, Array.getElem?_eq_getElem hc⟩
  have HQ := Lib.hid (And.intro hq hu)
  clear hq hu ht hc
  have HX := Lib.hid hx
  have HB := Lib.hid hB
  have HT0 := Lib.hid t0
  have HBE := Lib.hid hBe
  replace G1 := Lib.hid G1
  replace G2 := Lib.hid G2
  replace G3 := Lib.hid G3
  clear hx hB t0 hBe
  go_enter Tryd.func45, Tryd.ntmps45
  go_upto_region 1 with (fail)
  rw [← HBE.out]
  have bx0 := HB.out.cell 0
  have bx1 := HB.out.cell 1
  simp at bx0 bx1
  go_cut [8, 9] from 14 to 66 (fun s1 s2 wx => s1 = p1 ∧ s2 = .bool b1 ∧ Hid (Turn (fun _ => False) (wr.alloc (.cells #[.int .i64 s, .int .u64 (g : Int)] 32)) wx))
  case first =>
    go_region_with (go_at_call 15; refine (G1.out _ (HT0.out.drew)).mono ?_; rintro e w3 ⟨rfl, ht⟩; have HT3 := Lib.hid (((Turn.refl (fun _ => False) (wr.alloc (.cells #[.int .i64 s, .int .u64 (g : Int)] 32))).drew).trans ht); clear ht)
    all_goals
      go_wp2_with fail
      go_meet
      case rel => exact ⟨rfl, rfl, HT3⟩
  case rest =>
  obtain ⟨rfl, rfl, HT1⟩ := hcut
  obtain ⟨v1, hv1⟩ : ∃ v1, v1 = wc := ⟨_, rfl⟩
  rw [← hv1] at HT1 ⊢
  clear hv1
  have TA1 := Lib.hid (HT0.out.trans HT1.out)
  have AB1 := Lib.hid (HB.out.turn HT1.out (fun h => h))
  have AX1 := Lib.hid (HX.out.turn TA1.out (fun h => h))
  clear bx0 bx1 c1
  have TT2 := TA1
  have ABp2 := AB1
  have AXp2 := AX1
  have bx0 := ABp2.out.cell 0
  have bx1 := ABp2.out.cell 1
  have c1 := AXp2.out.cell 3
  have lx1 := AXp2.out.lt
  simp at bx0 bx1 c1
  go_upto_region 4 with (fail)
  go_cut [10, 11] from 14 to 66 (fun s1 s2 wx => s1 = (.pointer (some ⟨q, 1, none⟩)) ∧ s2 = .bool true ∧ Hid (Turn (fun _ => False) v1 wx))
  case first =>
    go_region_with (go_at_call 59; refine (G2.out _ (TT2.out.drew)).mono ?_; rintro e w3 ⟨rfl, ht⟩; have HT3 := Lib.hid (((Turn.refl (fun _ => False) v1).drew).trans ht); clear ht)
    all_goals
      go_wp2_with fail
      go_meet
      case rel => exact ⟨rfl, rfl, HT3⟩
  case rest =>
  obtain ⟨rfl, rfl, HT2⟩ := hcut
  obtain ⟨v2, hv2⟩ : ∃ v2, v2 = wc := ⟨_, rfl⟩
  rw [← hv2] at HT2 ⊢
  clear hv2
  have TA2 := Lib.hid (TT2.out.trans (HT2.out.mono (fun _ _ h => h.elim)))
  have AB2 := Lib.hid (ABp2.out.turn HT2.out (fun h => h))
  have AX2 := Lib.hid (AXp2.out.turn HT2.out (fun h => h))
  clear bx0 bx1 c1
  have hq2 := (HQ.out.1.turn TA2.out (fun h => h)).turn ((Turn.refl (fun _ => False) v2).alloc (.cells #[.string x] 9)) (fun h => h)
  have e1 := (hq2.cell 1).trans HQ.out.2
  have z1 := hq2.thawed 1
  clear hq2
  have tS := Lib.hid (((Turn.refl (fun i => i = q) v2).alloc (.cells #[.string x] 9)).setCell (p := ⟨q, 1, none⟩) (Or.inl rfl) (.slice (some ⟨v2.heap.size, 0, none⟩) 1 1))
  have TT3 := Lib.hid ((TA2.out.mono (Y := fun i => i = q) (fun _ _ h => h.elim)).trans tS.out)
  have ABp3 := Lib.hid (AB2.out.turn tS.out nqB)
  have AXp3 := Lib.hid (AX2.out.turn tS.out nqx)
  have bx0 := ABp3.out.cell 0
  have bx1 := ABp3.out.cell 1
  have c1 := AXp3.out.cell 2
  have lx2 := AXp3.out.lt
  simp at bx0 bx1 c1
  go_upto_region 7 with (fail)
  go_cut [12, 13] from 14 to 66 (fun s1 s2 wx => s1 = p3 ∧ s2 = .bool b3 ∧ Hid (Turn (fun _ => False) ((v2.alloc (.cells #[.string x] 9)).setCell ⟨q, 1, none⟩ (.slice (some ⟨v2.heap.size, 0, none⟩) 1 1)) wx))
  case first =>
    go_region_with (go_at_call 15; refine (G3.out _ (TT3.out.drew)).mono ?_; rintro e w3 ⟨rfl, ht⟩; have HT3 := Lib.hid (((Turn.refl (fun _ => False) ((v2.alloc (.cells #[.string x] 9)).setCell ⟨q, 1, none⟩ (.slice (some ⟨v2.heap.size, 0, none⟩) 1 1))).drew).trans ht); clear ht)
    all_goals
      go_wp2_with fail
      go_meet
      case rel => exact ⟨rfl, rfl, HT3⟩
  case rest =>
  obtain ⟨rfl, rfl, HT3⟩ := hcut
  obtain ⟨v3, hv3⟩ : ∃ v3, v3 = wc := ⟨_, rfl⟩
  rw [← hv3] at HT3 ⊢
  clear hv3
  have TA3 := Lib.hid (TT3.out.trans (HT3.out.mono (fun _ _ h => h.elim)))
  have AB3 := Lib.hid (ABp3.out.turn HT3.out (fun h => h))
  have AX3 := Lib.hid (AXp3.out.turn HT3.out (fun h => h))
  clear bx0 bx1 c1
  go_wp2_with fail
  go_end0
  exact ⟨rfl, _, TA2.out, HT3.out⟩

set_option maxRecDepth 100000 in
set_option maxHeartbeats 1000000 in
theorem wwrite_3_no {wr : World} {xb a1 a2 a3 : Nat} {c0 c4 c5 : Value} (hx : At wr xb (.cells #[c0, .pointer (some ⟨a1, 0, none⟩), .pointer (some ⟨a3, 0, none⟩), .pointer (some ⟨a2, 0, none⟩), c4, c5] 60 (0, 0))) (s : Int) (g : Nat) (x : ByteArray) (p1 : Value) (b1 : Bool) (p2 : Value) (b2 : Bool) (p3 : Value)
    (G1 : ∀ W, Turn (fun _ => False) wr W → Calls Tryd.prog 15 #[.pointer (some ⟨a1, 0, none⟩), .agg #[.int .i64 s, .int .u64 (g : Int)]] W fun e w' => e = .returned (.tuple #[p1, .bool b1]) ∧ Turn (fun _ => False) W w')
    (G2 : ∀ W, Turn (fun _ => False) wr W → Calls Tryd.prog 59 #[.pointer (some ⟨a2, 0, none⟩), .agg #[.int .i64 s, .int .u64 (g : Int)]] W fun e w' => e = .returned (.tuple #[p2, .bool b2]) ∧ Turn (fun _ => False) W w')
    (G3 : ∀ W, Turn (fun _ => False) wr W → Calls Tryd.prog 15 #[.pointer (some ⟨a3, 0, none⟩), .agg #[.int .i64 s, .int .u64 (g : Int)]] W fun e w' => e = .returned (.tuple #[p3, .bool false]) ∧ Turn (fun _ => False) W w') :
    Calls Tryd.prog 45 #[.pointer (some ⟨xb, 0, none⟩), .int .i64 3, .agg #[.int .i64 s, .int .u64 (g : Int)], .string x] wr fun e w' => e = .returned (.tuple #[]) ∧ Turn (fun _ => False) wr w' := by
  have t0 : Turn (fun _ => False) wr (wr.alloc (.cells #[.int .i64 s, .int .u64 (g : Int)] 32)) := (Turn.refl _ wr).alloc _
  have hB := At.new wr (.cells #[.int .i64 s, .int .u64 (g : Int)] 32)
  have lx := hx.lt
  have c1 := hx.cell 1
  simp at c1
  obtain ⟨B, hBe⟩ : ∃ B, B = wr.heap.size := ⟨_, rfl⟩
  rw [← hBe] at hB
  have HX := Lib.hid hx
  have HB := Lib.hid hB
  have HT0 := Lib.hid t0
  have HBE := Lib.hid hBe
  replace G1 := Lib.hid G1
  replace G2 := Lib.hid G2
  replace G3 := Lib.hid G3
  clear hx hB t0 hBe
  go_enter Tryd.func45, Tryd.ntmps45
  go_upto_region 1 with (fail)
  rw [← HBE.out]
  have bx0 := HB.out.cell 0
  have bx1 := HB.out.cell 1
  simp at bx0 bx1
  go_cut [8, 9] from 14 to 66 (fun s1 s2 wx => s1 = p1 ∧ s2 = .bool b1 ∧ Hid (Turn (fun _ => False) (wr.alloc (.cells #[.int .i64 s, .int .u64 (g : Int)] 32)) wx))
  case first =>
    go_region_with (go_at_call 15; refine (G1.out _ (HT0.out.drew)).mono ?_; rintro e w3 ⟨rfl, ht⟩; have HT3 := Lib.hid (((Turn.refl (fun _ => False) (wr.alloc (.cells #[.int .i64 s, .int .u64 (g : Int)] 32))).drew).trans ht); clear ht)
    all_goals
      go_wp2_with fail
      go_meet
      case rel => exact ⟨rfl, rfl, HT3⟩
  case rest =>
  obtain ⟨rfl, rfl, HT1⟩ := hcut
  obtain ⟨v1, hv1⟩ : ∃ v1, v1 = wc := ⟨_, rfl⟩
  rw [← hv1] at HT1 ⊢
  clear hv1
  have TA1 := Lib.hid (HT0.out.trans HT1.out)
  have AB1 := Lib.hid (HB.out.turn HT1.out (fun h => h))
  have AX1 := Lib.hid (HX.out.turn TA1.out (fun h => h))
  clear bx0 bx1 c1
  have TT2 := TA1
  have ABp2 := AB1
  have AXp2 := AX1
  have bx0 := ABp2.out.cell 0
  have bx1 := ABp2.out.cell 1
  have c1 := AXp2.out.cell 3
  have lx1 := AXp2.out.lt
  simp at bx0 bx1 c1
  go_upto_region 4 with (fail)
  go_cut [10, 11] from 14 to 66 (fun s1 s2 wx => s1 = p2 ∧ s2 = .bool b2 ∧ Hid (Turn (fun _ => False) v1 wx))
  case first =>
    go_region_with (go_at_call 59; refine (G2.out _ (TT2.out.drew)).mono ?_; rintro e w3 ⟨rfl, ht⟩; have HT3 := Lib.hid (((Turn.refl (fun _ => False) v1).drew).trans ht); clear ht)
    all_goals
      go_wp2_with fail
      go_meet
      case rel => exact ⟨rfl, rfl, HT3⟩
  case rest =>
  obtain ⟨rfl, rfl, HT2⟩ := hcut
  obtain ⟨v2, hv2⟩ : ∃ v2, v2 = wc := ⟨_, rfl⟩
  rw [← hv2] at HT2 ⊢
  clear hv2
  have TA2 := Lib.hid (TT2.out.trans (HT2.out.mono (fun _ _ h => h.elim)))
  have AB2 := Lib.hid (ABp2.out.turn HT2.out (fun h => h))
  have AX2 := Lib.hid (AXp2.out.turn HT2.out (fun h => h))
  clear bx0 bx1 c1
  have TT3 := TA2
  have ABp3 := AB2
  have AXp3 := AX2
  have bx0 := ABp3.out.cell 0
  have bx1 := ABp3.out.cell 1
  have c1 := AXp3.out.cell 2
  have lx2 := AXp3.out.lt
  simp at bx0 bx1 c1
  go_upto_region 7 with (fail)
  go_cut [12, 13] from 14 to 66 (fun s1 s2 wx => s1 = p3 ∧ s2 = .bool false ∧ Hid (Turn (fun _ => False) v2 wx))
  case first =>
    go_region_with (go_at_call 15; refine (G3.out _ (TT3.out.drew)).mono ?_; rintro e w3 ⟨rfl, ht⟩; have HT3 := Lib.hid (((Turn.refl (fun _ => False) v2).drew).trans ht); clear ht)
    all_goals
      go_wp2_with fail
      go_meet
      case rel => exact ⟨rfl, rfl, HT3⟩
  case rest =>
  obtain ⟨rfl, rfl, HT3⟩ := hcut
  obtain ⟨v3, hv3⟩ : ∃ v3, v3 = wc := ⟨_, rfl⟩
  rw [← hv3] at HT3 ⊢
  clear hv3
  have TA3 := Lib.hid (TT3.out.trans (HT3.out.mono (fun _ _ h => h.elim)))
  have AB3 := Lib.hid (ABp3.out.turn HT3.out (fun h => h))
  have AX3 := Lib.hid (AXp3.out.turn HT3.out (fun h => h))
  clear bx0 bx1 c1
  go_wp2_with fail
  go_end0
  exact ⟨rfl, TA3.out⟩

set_option maxRecDepth 100000 in
set_option maxHeartbeats 1000000 in
theorem wwrite_3_yes {wr : World} {xb a1 a2 a3 : Nat} {c0 c4 c5 : Value} (hx : At wr xb (.cells #[c0, .pointer (some ⟨a1, 0, none⟩), .pointer (some ⟨a3, 0, none⟩), .pointer (some ⟨a2, 0, none⟩), c4, c5] 60 (0, 0))) (s : Int) (g : Nat) (x : ByteArray) (p1 : Value) (b1 : Bool) (p2 : Value) (b2 : Bool) (q : Nat) {c : Array Value} {tq : TypeId} (hq : At wr q (.cells c tq (0, 0))) (hc : 1 < c.size) (ht : tq ≠ 60)
    (G1 : ∀ W, Turn (fun _ => False) wr W → Calls Tryd.prog 15 #[.pointer (some ⟨a1, 0, none⟩), .agg #[.int .i64 s, .int .u64 (g : Int)]] W fun e w' => e = .returned (.tuple #[p1, .bool b1]) ∧ Turn (fun _ => False) W w')
    (G2 : ∀ W, Turn (fun _ => False) wr W → Calls Tryd.prog 59 #[.pointer (some ⟨a2, 0, none⟩), .agg #[.int .i64 s, .int .u64 (g : Int)]] W fun e w' => e = .returned (.tuple #[p2, .bool b2]) ∧ Turn (fun _ => False) W w')
    (G3 : ∀ W, Turn (fun _ => False) wr W → Calls Tryd.prog 15 #[.pointer (some ⟨a3, 0, none⟩), .agg #[.int .i64 s, .int .u64 (g : Int)]] W fun e w' => e = .returned (.tuple #[(.pointer (some ⟨q, 1, none⟩)), .bool true]) ∧ Turn (fun _ => False) W w') :
    Calls Tryd.prog 45 #[.pointer (some ⟨xb, 0, none⟩), .int .i64 3, .agg #[.int .i64 s, .int .u64 (g : Int)], .string x] wr fun e w' => e = .returned (.tuple #[]) ∧ ∃ W, Turn (fun _ => False) wr W ∧ Turn (fun _ => False) (W.setCell ⟨q, 1, none⟩ (.string x)) w' := by
  have t0 : Turn (fun _ => False) wr (wr.alloc (.cells #[.int .i64 s, .int .u64 (g : Int)] 32)) := (Turn.refl _ wr).alloc _
  have hB := At.new wr (.cells #[.int .i64 s, .int .u64 (g : Int)] 32)
  have lx := hx.lt
  have c1 := hx.cell 1
  simp at c1
  obtain ⟨B, hBe⟩ : ∃ B, B = wr.heap.size := ⟨_, rfl⟩
  rw [← hBe] at hB
  have nqx : ¬ xb = q := hx.ne hq (by intro e; injection e with _ e; exact ht e.symm)
  have nqB : ¬ B = q := by have := hq.lt; omega
  obtain ⟨u, hu⟩ : ∃ u, c[1]? = some u := ⟨_, Array.getElem?_eq_getElem hc⟩
  have HQ := Lib.hid (And.intro hq hu)
  clear hq hu ht hc
  have HX := Lib.hid hx
  have HB := Lib.hid hB
  have HT0 := Lib.hid t0
  have HBE := Lib.hid hBe
  replace G1 := Lib.hid G1
  replace G2 := Lib.hid G2
  replace G3 := Lib.hid G3
  clear hx hB t0 hBe
  go_enter Tryd.func45, Tryd.ntmps45
  go_upto_region 1 with (fail)
  rw [← HBE.out]
  have bx0 := HB.out.cell 0
  have bx1 := HB.out.cell 1
  simp at bx0 bx1
  go_cut [8, 9] from 14 to 66 (fun s1 s2 wx => s1 = p1 ∧ s2 = .bool b1 ∧ Hid (Turn (fun _ => False) (wr.alloc (.cells #[.int .i64 s, .int .u64 (g : Int)] 32)) wx))
  case first =>
    go_region_with (go_at_call 15; refine (G1.out _ (HT0.out.drew)).mono ?_; rintro e w3 ⟨rfl, ht⟩; have HT3 := Lib.hid (((Turn.refl (fun _ => False) (wr.alloc (.cells #[.int .i64 s, .int .u64 (g : Int)] 32))).drew).trans ht); clear ht)
    all_goals
      go_wp2_with fail
      go_meet
      case rel => exact ⟨rfl, rfl, HT3⟩
  case rest =>
  obtain ⟨rfl, rfl, HT1⟩ := hcut
  obtain ⟨v1, hv1⟩ : ∃ v1, v1 = wc := ⟨_, rfl⟩
  rw [← hv1] at HT1 ⊢
  clear hv1
  have TA1 := Lib.hid (HT0.out.trans HT1.out)
  have AB1 := Lib.hid (HB.out.turn HT1.out (fun h => h))
  have AX1 := Lib.hid (HX.out.turn TA1.out (fun h => h))
  clear bx0 bx1 c1
  have TT2 := TA1
  have ABp2 := AB1
  have AXp2 := AX1
  have bx0 := ABp2.out.cell 0
  have bx1 := ABp2.out.cell 1
  have c1 := AXp2.out.cell 3
  have lx1 := AXp2.out.lt
  simp at bx0 bx1 c1
  go_upto_region 4 with (fail)
  go_cut [10, 11] from 14 to 66 (fun s1 s2 wx => s1 = p2 ∧ s2 = .bool b2 ∧ Hid (Turn (fun _ => False) v1 wx))
  case first =>
    go_region_with (go_at_call 59; refine (G2.out _ (TT2.out.drew)).mono ?_; rintro e w3 ⟨rfl, ht⟩; have HT3 := Lib.hid (((Turn.refl (fun _ => False) v1).drew).trans ht); clear ht)
    all_goals
      go_wp2_with fail
      go_meet
      case rel => exact ⟨rfl, rfl, HT3⟩
  case rest =>
  obtain ⟨rfl, rfl, HT2⟩ := hcut
  obtain ⟨v2, hv2⟩ : ∃ v2, v2 = wc := ⟨_, rfl⟩
  rw [← hv2] at HT2 ⊢
  clear hv2
  have TA2 := Lib.hid (TT2.out.trans (HT2.out.mono (fun _ _ h => h.elim)))
  have AB2 := Lib.hid (ABp2.out.turn HT2.out (fun h => h))
  have AX2 := Lib.hid (AXp2.out.turn HT2.out (fun h => h))
  clear bx0 bx1 c1
  have TT3 := TA2
  have ABp3 := AB2
  have AXp3 := AX2
  have bx0 := ABp3.out.cell 0
  have bx1 := ABp3.out.cell 1
  have c1 := AXp3.out.cell 2
  have lx2 := AXp3.out.lt
  simp at bx0 bx1 c1
  go_upto_region 7 with (fail)
  go_cut [12, 13] from 14 to 66 (fun s1 s2 wx => s1 = (.pointer (some ⟨q, 1, none⟩)) ∧ s2 = .bool true ∧ Hid (Turn (fun _ => False) v2 wx))
  case first =>
    go_region_with (go_at_call 15; refine (G3.out _ (TT3.out.drew)).mono ?_; rintro e w3 ⟨rfl, ht⟩; have HT3 := Lib.hid (((Turn.refl (fun _ => False) v2).drew).trans ht); clear ht)
    all_goals
      go_wp2_with fail
      go_meet
      case rel => exact ⟨rfl, rfl, HT3⟩
  case rest =>
  obtain ⟨rfl, rfl, HT3⟩ := hcut
  obtain ⟨v3, hv3⟩ : ∃ v3, v3 = wc := ⟨_, rfl⟩
  rw [← hv3] at HT3 ⊢
  clear hv3
  have TA3 := Lib.hid (TT3.out.trans (HT3.out.mono (fun _ _ h => h.elim)))
  have AB3 := Lib.hid (ABp3.out.turn HT3.out (fun h => h))
  have AX3 := Lib.hid (AXp3.out.turn HT3.out (fun h => h))
  clear bx0 bx1 c1
  have hq3 := HQ.out.1.turn TA3.out (fun h => h)
  have e1 := (hq3.cell 1).trans HQ.out.2
  have z1 := hq3.thawed 1
  clear hq3
  have tS := Lib.hid ((Turn.refl (fun i => i = q) v3).setCell (p := ⟨q, 1, none⟩) (Or.inl rfl) (.string x))
  go_wp2_with fail
  go_end0
  exact ⟨rfl, _, TA3.out, Turn.refl _ _⟩
end Go.Proofs.YtbdfbgkfhaiccaaDoor
