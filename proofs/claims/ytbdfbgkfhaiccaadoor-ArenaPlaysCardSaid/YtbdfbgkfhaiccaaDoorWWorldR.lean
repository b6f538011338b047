/-
  The law's world's release and alloc, by what the arena says.
-/
import Derived.Test.YtbdfbgkfhaiccaaDoorWorld
import Derived.Deep.RegionWith
namespace Go.Proofs.YtbdfbgkfhaiccaaDoor
open Go.RowKit Go.Maps
set_option linter.unusedVariables false

set_option maxRecDepth 100000 in
theorem wrelease_1 {wr : World} {xb ab : Nat} (c : wr.cell? ⟨xb, 1, none⟩ = some (.pointer (some ⟨ab, 0, none⟩))) (lx : xb < wr.heap.size) (s : Int) (g : Nat) (r : Bool) {Q : World → World → Prop}
    (HR : ∀ W, Turn (fun _ => False) wr W → Calls Tryd.prog 17 #[.pointer (some ⟨ab, 0, none⟩), .agg #[.int .i64 s, .int .u64 (g : Int)]] W fun e w' => e = .returned (.bool r) ∧ Q W w') :
    Calls Tryd.prog 43 #[.pointer (some ⟨xb, 0, none⟩), .int .i64 1, .agg #[.int .i64 s, .int .u64 (g : Int)]] wr fun e w' => e = .returned (.bool r) ∧ ∃ W, Turn (fun _ => False) wr W ∧ Q W w' := by
  have t0 : Turn (fun _ => False) wr ((wr.alloc (.cells #[.int .i64 s, .int .u64 (g : Int)] 32)).drew) := ((Turn.refl _ wr).alloc _).drew
  have HC := Lib.hid (HR _ t0)
  have HT := Lib.hid t0
  clear HR t0
  go_enter Tryd.func43, Tryd.ntmps43
  go_wp2_with fail
  go_region_with (go_at_call 17; refine HC.out.mono ?_; rintro e w3 ⟨rfl, hq⟩; have HQ := Lib.hid hq; clear hq)
  all_goals
    go_wp2_with fail
    go_ret
    exact ⟨rfl, _, HT.out, HQ.out⟩

set_option maxRecDepth 100000 in
theorem walloc_1 {wr : World} {xb ab : Nat} (c : wr.cell? ⟨xb, 1, none⟩ = some (.pointer (some ⟨ab, 0, none⟩))) (lx : xb < wr.heap.size) (s : ByteArray) (hs : Int) (hg : Nat) (er : Int) {Q : World → Prop}
    (HR : Calls Tryd.prog 11 #[.pointer (some ⟨ab, 0, none⟩), .string s] (wr.alloc (.cells #[.int .i64 0, .int .u64 0] 32)) fun e w' => e = .returned (.tuple #[.agg #[.int .i64 hs, .int .u64 (hg : Int)], .int .i64 er]) ∧ Kind w' wr.heap.size 32 ∧ (∃ u v, At w' wr.heap.size (.cells #[u, v] 32 (0, 0))) ∧ Q w') :
    Calls Tryd.prog 41 #[.pointer (some ⟨xb, 0, none⟩), .int .i64 1, .string s] wr fun e w' => e = .returned (.tuple #[.agg #[.int .i64 hs, .int .u64 (hg : Int)], .int .i64 er]) ∧ ∃ w3, Q w3 ∧ Turn (· = wr.heap.size) w3 w' := by
  have HC := Lib.hid HR
  clear HR
  go_enter Tryd.func41, Tryd.ntmps41
  go_wp2_with fail
  refine HC.out.mono ?_
  rintro e w3 ⟨rfl, _, ⟨u, v, hb⟩, hq⟩
  have HQ := Lib.hid hq
  have b0 := hb.cell 0
  have b1 := hb.cell 1
  have y0 := hb.thawed 0
  have y1 := hb.thawed 1
  simp at b0 b1
  clear hq hb
  generalize hBe : wr.heap.size = B at b0 b1 y0 y1 ⊢
  have HBE := Lib.hid hBe
  clear hBe
  go_wp2_with fail
  exact bodyPost_ret (v := .tuple #[.agg #[.int .i64 hs, .int .u64 (hg : Int)], .int .i64 er]) (by simp [results, Tryd.results41, go_sem, b0, b1]) rfl ⟨rfl, w3, HQ.out, by rw [HBE.out]; exact ((Turn.refl (fun i => i = B) w3).setCell (p := ⟨B, 0, none⟩) (Or.inl rfl) _).setCell (p := ⟨B, 1, none⟩) (Or.inl rfl) _⟩

set_option maxRecDepth 100000 in
theorem wrelease_2 {wr : World} {xb ab : Nat} (c : wr.cell? ⟨xb, 3, none⟩ = some (.pointer (some ⟨ab, 0, none⟩))) (lx : xb < wr.heap.size) (s : Int) (g : Nat) (r : Bool) {Q : World → World → Prop}
    (HR : ∀ W, Turn (fun _ => False) wr W → Calls Tryd.prog 58 #[.pointer (some ⟨ab, 0, none⟩), .agg #[.int .i64 s, .int .u64 (g : Int)]] W fun e w' => e = .returned (.bool r) ∧ Q W w') :
    Calls Tryd.prog 43 #[.pointer (some ⟨xb, 0, none⟩), .int .i64 2, .agg #[.int .i64 s, .int .u64 (g : Int)]] wr fun e w' => e = .returned (.bool r) ∧ ∃ W, Turn (fun _ => False) wr W ∧ Q W w' := by
  have t0 : Turn (fun _ => False) wr ((wr.alloc (.cells #[.int .i64 s, .int .u64 (g : Int)] 32)).drew) := ((Turn.refl _ wr).alloc _).drew
  have HC := Lib.hid (HR _ t0)
  have HT := Lib.hid t0
  clear HR t0
  go_enter Tryd.func43, Tryd.ntmps43
  go_wp2_with fail
  go_region_with (go_at_call 58; refine HC.out.mono ?_; rintro e w3 ⟨rfl, hq⟩; have HQ := Lib.hid hq; clear hq)
  all_goals
    go_wp2_with fail
    go_ret
    exact ⟨rfl, _, HT.out, HQ.out⟩

set_option maxRecDepth 100000 in
theorem walloc_2 {wr : World} {xb ab : Nat} (c : wr.cell? ⟨xb, 3, none⟩ = some (.pointer (some ⟨ab, 0, none⟩))) (lx : xb < wr.heap.size) (s : ByteArray) (hs : Int) (hg : Nat) (er : Int) {Q : World → Prop}
    (HR : Calls Tryd.prog 57 #[.pointer (some ⟨ab, 0, none⟩), .agg #[.slice (some ⟨wr.heap.size + 1, 0, none⟩) 1 1]] ((wr.alloc (.cells #[.int .i64 0, .int .u64 0] 32)).alloc (.cells #[.string s] 9)) fun e w' => e = .returned (.tuple #[.agg #[.int .i64 hs, .int .u64 (hg : Int)], .int .i64 er]) ∧ Kind w' wr.heap.size 32 ∧ (∃ u v, At w' wr.heap.size (.cells #[u, v] 32 (0, 0))) ∧ Q w') :
    Calls Tryd.prog 41 #[.pointer (some ⟨xb, 0, none⟩), .int .i64 2, .string s] wr fun e w' => e = .returned (.tuple #[.agg #[.int .i64 hs, .int .u64 (hg : Int)], .int .i64 er]) ∧ ∃ w3, Q w3 ∧ Turn (· = wr.heap.size) w3 w' := by
  have HC := Lib.hid HR
  clear HR
  go_enter Tryd.func41, Tryd.ntmps41
  go_wp2_with fail
  refine HC.out.mono ?_
  rintro e w3 ⟨rfl, _, ⟨u, v, hb⟩, hq⟩
  have HQ := Lib.hid hq
  have b0 := hb.cell 0
  have b1 := hb.cell 1
  have y0 := hb.thawed 0
  have y1 := hb.thawed 1
  simp at b0 b1
  clear hq hb
  generalize hBe : wr.heap.size = B at b0 b1 y0 y1 ⊢
  have HBE := Lib.hid hBe
  clear hBe
  go_wp2_with fail
  exact bodyPost_ret (v := .tuple #[.agg #[.int .i64 hs, .int .u64 (hg : Int)], .int .i64 er]) (by simp [results, Tryd.results41, go_sem, b0, b1]) rfl ⟨rfl, w3, HQ.out, by rw [HBE.out]; exact ((Turn.refl (fun i => i = B) w3).setCell (p := ⟨B, 0, none⟩) (Or.inl rfl) _).setCell (p := ⟨B, 1, none⟩) (Or.inl rfl) _⟩

set_option maxRecDepth 100000 in
theorem wrelease_3 {wr : World} {xb ab : Nat} (c : wr.cell? ⟨xb, 2, none⟩ = some (.pointer (some ⟨ab, 0, none⟩))) (lx : xb < wr.heap.size) (s : Int) (g : Nat) (r : Bool) {Q : World → World → Prop}
    (HR : ∀ W, Turn (fun _ => False) wr W → Calls Tryd.prog 17 #[.pointer (some ⟨ab, 0, none⟩), .agg #[.int .i64 s, .int .u64 (g : Int)]] W fun e w' => e = .returned (.bool r) ∧ Q W w') :
    Calls Tryd.prog 43 #[.pointer (some ⟨xb, 0, none⟩), .int .i64 3, .agg #[.int .i64 s, .int .u64 (g : Int)]] wr fun e w' => e = .returned (.bool r) ∧ ∃ W, Turn (fun _ => False) wr W ∧ Q W w' := by
  have t0 : Turn (fun _ => False) wr ((wr.alloc (.cells #[.int .i64 s, .int .u64 (g : Int)] 32)).drew) := ((Turn.refl _ wr).alloc _).drew
  have HC := Lib.hid (HR _ t0)
  have HT := Lib.hid t0
  clear HR t0
  go_enter Tryd.func43, Tryd.ntmps43
  go_wp2_with fail
  go_region_with (go_at_call 17; refine HC.out.mono ?_; rintro e w3 ⟨rfl, hq⟩; have HQ := Lib.hid hq; clear hq)
  all_goals
    go_wp2_with fail
    go_ret
    exact ⟨rfl, _, HT.out, HQ.out⟩

set_option maxRecDepth 100000 in
theorem walloc_3 {wr : World} {xb ab : Nat} (c : wr.cell? ⟨xb, 2, none⟩ = some (.pointer (some ⟨ab, 0, none⟩))) (lx : xb < wr.heap.size) (s : ByteArray) (hs : Int) (hg : Nat) (er : Int) {Q : World → Prop}
    (HR : Calls Tryd.prog 11 #[.pointer (some ⟨ab, 0, none⟩), .string s] (wr.alloc (.cells #[.int .i64 0, .int .u64 0] 32)) fun e w' => e = .returned (.tuple #[.agg #[.int .i64 hs, .int .u64 (hg : Int)], .int .i64 er]) ∧ Kind w' wr.heap.size 32 ∧ (∃ u v, At w' wr.heap.size (.cells #[u, v] 32 (0, 0))) ∧ Q w') :
    Calls Tryd.prog 41 #[.pointer (some ⟨xb, 0, none⟩), .int .i64 3, .string s] wr fun e w' => e = .returned (.tuple #[.agg #[.int .i64 hs, .int .u64 (hg : Int)], .int .i64 er]) ∧ ∃ w3, Q w3 ∧ Turn (· = wr.heap.size) w3 w' := by
  have HC := Lib.hid HR
  clear HR
  go_enter Tryd.func41, Tryd.ntmps41
  go_wp2_with fail
  refine HC.out.mono ?_
  rintro e w3 ⟨rfl, _, ⟨u, v, hb⟩, hq⟩
  have HQ := Lib.hid hq
  have b0 := hb.cell 0
  have b1 := hb.cell 1
  have y0 := hb.thawed 0
  have y1 := hb.thawed 1
  simp at b0 b1
  clear hq hb
  generalize hBe : wr.heap.size = B at b0 b1 y0 y1 ⊢
  have HBE := Lib.hid hBe
  clear hBe
  go_wp2_with fail
  exact bodyPost_ret (v := .tuple #[.agg #[.int .i64 hs, .int .u64 (hg : Int)], .int .i64 er]) (by simp [results, Tryd.results41, go_sem, b0, b1]) rfl ⟨rfl, w3, HQ.out, by rw [HBE.out]; exact ((Turn.refl (fun i => i = B) w3).setCell (p := ⟨B, 0, none⟩) (Or.inl rfl) _).setCell (p := ⟨B, 1, none⟩) (Or.inl rfl) _⟩
end Go.Proofs.YtbdfbgkfhaiccaaDoor
