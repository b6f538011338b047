/-
  The law's world's get, by what the arena says.
-/
import Derived.Test.YtbdfbgkfhaiccaaDoorWorld
import Derived.Deep.RegionWith
namespace Go.Proofs.YtbdfbgkfhaiccaaDoor
open Go.RowKit Go.Maps
set_option linter.unusedVariables false

set_option maxRecDepth 100000 in
theorem wget_1_no {wr : World} {xb ab : Nat} (c : wr.cell? ⟨xb, 1, none⟩ = some (.pointer (some ⟨ab, 0, none⟩))) (lx : xb < wr.heap.size) (s : Int) (g : Nat)
    (HR : ∀ W, Turn (fun _ => False) wr W → Calls Tryd.prog 15 #[.pointer (some ⟨ab, 0, none⟩), .agg #[.int .i64 s, .int .u64 (g : Int)]] W fun e w' => e = .returned (.tuple #[.pointer none, .bool false]) ∧ Turn (fun _ => False) W w') :
    Calls Tryd.prog 46 #[.pointer (some ⟨xb, 0, none⟩), .int .i64 1, .agg #[.int .i64 s, .int .u64 (g : Int)]] wr fun e w' => e = .returned (.tuple #[.string ⟨#[]⟩, .bool false]) ∧ Turn (fun _ => False) wr w' := by
  have t0 : Turn (fun _ => False) wr ((wr.alloc (.cells #[.int .i64 s, .int .u64 (g : Int)] 32)).drew) := ((Turn.refl _ wr).alloc _).drew
  have HC := Lib.hid (HR _ t0)
  have HT := Lib.hid t0
  clear HR t0
  go_enter Tryd.func46, Tryd.ntmps46
  go_wp2_with fail
  go_region_with (go_at_call 15; refine HC.out.mono ?_; rintro e w3 ⟨rfl, ht⟩; have HT3 := Lib.hid (HT.out.trans ht); clear ht)
  all_goals
    skip
    skip
    go_wp2_with fail
    go_ret2
    exact ⟨rfl, HT3.out⟩

set_option maxRecDepth 100000 in
theorem wget_1_yes {wr : World} {xb ab : Nat} (c : wr.cell? ⟨xb, 1, none⟩ = some (.pointer (some ⟨ab, 0, none⟩))) (lx : xb < wr.heap.size) (s : Int) (g : Nat) (q : Nat) (t : ByteArray) (cq : wr.cell? ⟨q, 1, none⟩ = some (.string t)) (lq : q < wr.heap.size)
    (HR : ∀ W, Turn (fun _ => False) wr W → Calls Tryd.prog 15 #[.pointer (some ⟨ab, 0, none⟩), .agg #[.int .i64 s, .int .u64 (g : Int)]] W fun e w' => e = .returned (.tuple #[.pointer (some ⟨q, 1, none⟩), .bool true]) ∧ Turn (fun _ => False) W w') :
    Calls Tryd.prog 46 #[.pointer (some ⟨xb, 0, none⟩), .int .i64 1, .agg #[.int .i64 s, .int .u64 (g : Int)]] wr fun e w' => e = .returned (.tuple #[.string t, .bool true]) ∧ Turn (fun _ => False) wr w' := by
  have t0 : Turn (fun _ => False) wr ((wr.alloc (.cells #[.int .i64 s, .int .u64 (g : Int)] 32)).drew) := ((Turn.refl _ wr).alloc _).drew
  have HC := Lib.hid (HR _ t0)
  have HT := Lib.hid t0
  clear HR t0
  go_enter Tryd.func46, Tryd.ntmps46
  go_wp2_with fail
  go_region_with (go_at_call 15; refine HC.out.mono ?_; rintro e w3 ⟨rfl, ht⟩; have HT3 := Lib.hid (HT.out.trans ht); clear ht)
  all_goals
    have d1 := cell_keepT HT3.out lq cq
    clear cq
    go_wp2_with fail
    go_ret2
    exact ⟨rfl, HT3.out⟩

set_option maxRecDepth 100000 in
theorem wget_2_no {wr : World} {xb ab : Nat} (c : wr.cell? ⟨xb, 3, none⟩ = some (.pointer (some ⟨ab, 0, none⟩))) (lx : xb < wr.heap.size) (s : Int) (g : Nat)
    (HR : ∀ W, Turn (fun _ => False) wr W → Calls Tryd.prog 59 #[.pointer (some ⟨ab, 0, none⟩), .agg #[.int .i64 s, .int .u64 (g : Int)]] W fun e w' => e = .returned (.tuple #[.pointer none, .bool false]) ∧ Turn (fun _ => False) W w') :
    Calls Tryd.prog 46 #[.pointer (some ⟨xb, 0, none⟩), .int .i64 2, .agg #[.int .i64 s, .int .u64 (g : Int)]] wr fun e w' => e = .returned (.tuple #[.string ⟨#[]⟩, .bool false]) ∧ Turn (fun _ => False) wr w' := by
  have t0 : Turn (fun _ => False) wr ((wr.alloc (.cells #[.int .i64 s, .int .u64 (g : Int)] 32)).drew) := ((Turn.refl _ wr).alloc _).drew
  have HC := Lib.hid (HR _ t0)
  have HT := Lib.hid t0
  clear HR t0
  go_enter Tryd.func46, Tryd.ntmps46
  go_wp2_with fail
  go_region_with (go_at_call 59; refine HC.out.mono ?_; rintro e w3 ⟨rfl, ht⟩; have HT3 := Lib.hid (HT.out.trans ht); clear ht)
  all_goals
    skip
    skip
    go_wp2_with fail
    go_ret2
    exact ⟨rfl, HT3.out⟩

set_option maxRecDepth 100000 in
theorem wget_2_yes {wr : World} {xb ab : Nat} (c : wr.cell? ⟨xb, 3, none⟩ = some (.pointer (some ⟨ab, 0, none⟩))) (lx : xb < wr.heap.size) (s : Int) (g : Nat) (q tb : Nat) (t : ByteArray) (cq : wr.cell? ⟨q, 1, none⟩ = some (.slice (some ⟨tb, 0, none⟩) 1 1)) (lq : q < wr.heap.size) (ct : wr.cell? ⟨tb, 0, none⟩ = some (.string t)) (lt : tb < wr.heap.size)
    (HR : ∀ W, Turn (fun _ => False) wr W → Calls Tryd.prog 59 #[.pointer (some ⟨ab, 0, none⟩), .agg #[.int .i64 s, .int .u64 (g : Int)]] W fun e w' => e = .returned (.tuple #[.pointer (some ⟨q, 1, none⟩), .bool true]) ∧ Turn (fun _ => False) W w') :
    Calls Tryd.prog 46 #[.pointer (some ⟨xb, 0, none⟩), .int .i64 2, .agg #[.int .i64 s, .int .u64 (g : Int)]] wr fun e w' => e = .returned (.tuple #[.string t, .bool true]) ∧ Turn (fun _ => False) wr w' := by
  have t0 : Turn (fun _ => False) wr ((wr.alloc (.cells #[.int .i64 s, .int .u64 (g : Int)] 32)).drew) := ((Turn.refl _ wr).alloc _).drew
  have HC := Lib.hid (HR _ t0)
  have HT := Lib.hid t0
  clear HR t0
  go_enter Tryd.func46, Tryd.ntmps46
  go_wp2_with fail
  go_region_with (go_at_call 59; refine HC.out.mono ?_; rintro e w3 ⟨rfl, ht⟩; have HT3 := Lib.hid (HT.out.trans ht); clear ht)
  all_goals
    have d1 := cell_keepT HT3.out lq cq; have d2 := cell_keepT HT3.out lt ct
    clear cq ct
    go_wp2_with fail
    go_ret2
    exact ⟨rfl, HT3.out⟩

set_option maxRecDepth 100000 in
theorem wget_3_no {wr : World} {xb ab : Nat} (c : wr.cell? ⟨xb, 2, none⟩ = some (.pointer (some ⟨ab, 0, none⟩))) (lx : xb < wr.heap.size) (s : Int) (g : Nat)
    (HR : ∀ W, Turn (fun _ => False) wr W → Calls Tryd.prog 15 #[.pointer (some ⟨ab, 0, none⟩), .agg #[.int .i64 s, .int .u64 (g : Int)]] W fun e w' => e = .returned (.tuple #[.pointer none, .bool false]) ∧ Turn (fun _ => False) W w') :
    Calls Tryd.prog 46 #[.pointer (some ⟨xb, 0, none⟩), .int .i64 3, .agg #[.int .i64 s, .int .u64 (g : Int)]] wr fun e w' => e = .returned (.tuple #[.string ⟨#[]⟩, .bool false]) ∧ Turn (fun _ => False) wr w' := by
  have t0 : Turn (fun _ => False) wr ((wr.alloc (.cells #[.int .i64 s, .int .u64 (g : Int)] 32)).drew) := ((Turn.refl _ wr).alloc _).drew
  have HC := Lib.hid (HR _ t0)
  have HT := Lib.hid t0
  clear HR t0
  go_enter Tryd.func46, Tryd.ntmps46
  go_wp2_with fail
  go_region_with (go_at_call 15; refine HC.out.mono ?_; rintro e w3 ⟨rfl, ht⟩; have HT3 := Lib.hid (HT.out.trans ht); clear ht)
  all_goals
    skip
    skip
    go_wp2_with fail
    go_ret2
    exact ⟨rfl, HT3.out⟩

set_option maxRecDepth 100000 in
theorem wget_3_yes {wr : World} {xb ab : Nat} (c : wr.cell? ⟨xb, 2, none⟩ = some (.pointer (some ⟨ab, 0, none⟩))) (lx : xb < wr.heap.size) (s : Int) (g : Nat) (q : Nat) (t : ByteArray) (cq : wr.cell? ⟨q, 1, none⟩ = some (.string t)) (lq : q < wr.heap.size)
    (HR : ∀ W, Turn (fun _ => False) wr W → Calls Tryd.prog 15 #[.pointer (some ⟨ab, 0, none⟩), .agg #[.int .i64 s, .int .u64 (g : Int)]] W fun e w' => e = .returned (.tuple #[.pointer (some ⟨q, 1, none⟩), .bool true]) ∧ Turn (fun _ => False) W w') :
    Calls Tryd.prog 46 #[.pointer (some ⟨xb, 0, none⟩), .int .i64 3, .agg #[.int .i64 s, .int .u64 (g : Int)]] wr fun e w' => e = .returned (.tuple #[.string t, .bool true]) ∧ Turn (fun _ => False) wr w' := by
  have t0 : Turn (fun _ => False) wr ((wr.alloc (.cells #[.int .i64 s, .int .u64 (g : Int)] 32)).drew) := ((Turn.refl _ wr).alloc _).drew
  have HC := Lib.hid (HR _ t0)
  have HT := Lib.hid t0
  clear HR t0
  go_enter Tryd.func46, Tryd.ntmps46
  go_wp2_with fail
  go_region_with (go_at_call 15; refine HC.out.mono ?_; rintro e w3 ⟨rfl, ht⟩; have HT3 := Lib.hid (HT.out.trans ht); clear ht)
  all_goals
    have d1 := cell_keepT HT3.out lq cq
    clear cq
    go_wp2_with fail
    go_ret2
    exact ⟨rfl, HT3.out⟩
end Go.Proofs.YtbdfbgkfhaiccaaDoor
