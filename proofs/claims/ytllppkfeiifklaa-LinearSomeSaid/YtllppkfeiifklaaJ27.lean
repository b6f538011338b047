/-
  Fits, case by case.
-/
import Derived.Test.YtllppkfeiifklaaJ26
namespace Go.Proofs.Ytllppkfeiifklaa
open Go.RowKit Go.Lib
set_option linter.unusedVariables false
set_option maxRecDepth 20000
set_option linter.unusedSimpArgs false

set_option maxHeartbeats 2000000 in
set_option maxRecDepth 100000 in
theorem rf_01 (l : List Ev) (A : Option Addr) (cap : Nat) (id ok : Int) (k v o : ByteArray) (had aft : Bool) (A0 : Option Addr) (len cap0 : Nat) (code : Int) (found : Bool) (ak av : ByteArray) (a2 : Ans) (hid : ¬ id < 1) (hl : l.length ≤ 100000) (w : World) (hR : Row w A (ecs l))
    (h1 : cnt 1 id l = 0) (h2 : cnt 2 id l = 0) (h3 : cnt 3 id l = 0) (h4 : stA l id = a2) :
    Calls Try.prog 71 #[.slice A l.length cap, .agg #[.int .u8 1, .int .i64 id, .int .u8 ok, .string k, .string v, .string o, .bool had, .bool aft, .slice A0 len cap0, .int .i64 code, .bool found, .string ak, .string av]] w fun r w' => r = .returned (.bool (decide ((⟨code, found, ak, av⟩ : Ans) = ⟨0, false, ⟨#[]⟩, ⟨#[]⟩⟩))) ∧ Turn No w w' := by
  have HB : Hid (Turn No w (w.alloc (.cells #[.int .u8 1, .int .i64 id, .int .u8 ok, .string k, .string v, .string o, .bool had, .bool aft, .slice A0 len cap0, .int .i64 code, .bool found, .string ak, .string av] 40)) ∧ At (w.alloc (.cells #[.int .u8 1, .int .i64 id, .int .u8 ok, .string k, .string v, .string o, .bool had, .bool aft, .slice A0 len cap0, .int .i64 code, .bool found, .string ak, .string av] 40)) w.heap.size (.cells #[.int .u8 1, .int .i64 id, .int .u8 ok, .string k, .string v, .string o, .bool had, .bool aft, .slice A0 len cap0, .int .i64 code, .bool found, .string ak, .string av] 40 (0, 0))) := Lib.hid ⟨(Turn.refl _ _).alloc _, At.new _ _⟩
  have C1 := count_any 1 id l A cap (w.alloc (.cells #[.int .u8 1, .int .i64 id, .int .u8 ok, .string k, .string v, .string o, .bool had, .bool aft, .slice A0 len cap0, .int .i64 code, .bool found, .string ak, .string av] 40)) (hR.turn HB.out.1 fun _ _ _ h => h) hl
  rw [h1] at C1
  replace C1 := Lib.hid C1
  have C2 := count_any 2 id l A cap (w.alloc (.cells #[.int .u8 1, .int .i64 id, .int .u8 ok, .string k, .string v, .string o, .bool had, .bool aft, .slice A0 len cap0, .int .i64 code, .bool found, .string ak, .string av] 40)) (hR.turn HB.out.1 fun _ _ _ h => h) hl
  rw [h2] at C2
  replace C2 := Lib.hid C2
  have C3 := count_any 3 id l A cap (w.alloc (.cells #[.int .u8 1, .int .i64 id, .int .u8 ok, .string k, .string v, .string o, .bool had, .bool aft, .slice A0 len cap0, .int .i64 code, .bool found, .string ak, .string av] 40)) (hR.turn HB.out.1 fun _ _ _ h => h) hl
  rw [h3] at C3
  replace C3 := Lib.hid C3
  have CB : Hid (∀ W, Calls Try.prog 99 #[.agg #[.int .u8 ok, .string k, .string v, .string o, .bool had, .bool aft, .slice A0 len cap0]] W fun e w' => e = .returned (.bool (zeroB ok k v o had aft len)) ∧ Turn No W w') := Lib.hid fun W => bare_any ok k v o had aft A0 len cap0 W
  obtain ⟨c2, f2, kk2, vv2⟩ := a2
  have CA : Hid (∀ W, Turn No w W → Calls Try.prog 74 #[.slice A l.length cap, .int .i64 id] W fun e w' => e = .returned (.agg #[.int .i64 c2, .bool f2, .string kk2, .string vv2]) ∧ Turn No W w') := Lib.hid fun W t => by have := refans_any id l A cap W (hR.turn t fun _ _ _ h => h) hl; rwa [h4] at this
  clear h1 h2 h3 h4 hR hl
  have hid2 : decide (id < 1) = false := decide_eq_false hid
  have qe := eql_ansH code 0 found false ak ⟨#[]⟩ av ⟨#[]⟩
  generalize decide ((⟨code, found, ak, av⟩ : Ans) = ⟨0, false, ⟨#[]⟩, ⟨#[]⟩⟩) = bb at qe ⊢
  go_enter Try.func71, Try.ntmps71
  go_upto_region 1 with fail
  generalize w.alloc (.cells #[.int .u8 1, .int .i64 id, .int .u8 ok, .string k, .string v, .string o, .bool had, .bool aft, .slice A0 len cap0, .int .i64 code, .bool found, .string ak, .string av] 40) = w1 at HB C1 C2 C3 ⊢
  generalize w.heap.size = g at HB ⊢
  have x0 : w1.cell? ⟨g, 0, none⟩ = some (.int .u8 1) := HB.out.2.cell 0
  have x1 : w1.cell? ⟨g, 1, none⟩ = some (.int .i64 id) := HB.out.2.cell 1
  have x2 : w1.cell? ⟨g, 2, none⟩ = some (.int .u8 ok) := HB.out.2.cell 2
  have x3 : w1.cell? ⟨g, 3, none⟩ = some (.string k) := HB.out.2.cell 3
  have x4 : w1.cell? ⟨g, 4, none⟩ = some (.string v) := HB.out.2.cell 4
  have x5 : w1.cell? ⟨g, 5, none⟩ = some (.string o) := HB.out.2.cell 5
  have x6 : w1.cell? ⟨g, 6, none⟩ = some (.bool had) := HB.out.2.cell 6
  have x7 : w1.cell? ⟨g, 7, none⟩ = some (.bool aft) := HB.out.2.cell 7
  have x8 : w1.cell? ⟨g, 8, none⟩ = some (.slice A0 len cap0) := HB.out.2.cell 8
  have x9 : w1.cell? ⟨g, 9, none⟩ = some (.int .i64 code) := HB.out.2.cell 9
  have x10 : w1.cell? ⟨g, 10, none⟩ = some (.bool found) := HB.out.2.cell 10
  have x11 : w1.cell? ⟨g, 11, none⟩ = some (.string ak) := HB.out.2.cell 11
  have x12 : w1.cell? ⟨g, 12, none⟩ = some (.string av) := HB.out.2.cell 12
  go_wp2_with (first | (go_at_call 73; (with_reducible refine C1.out.mono ?_); rintro e w9 ⟨rfl, hw⟩; replace hw := hw.symm; subst hw) | (go_at_call 73; (with_reducible refine C2.out.mono ?_); rintro e w9 ⟨rfl, hw⟩; replace hw := hw.symm; subst hw) | (go_at_call 73; (with_reducible refine C3.out.mono ?_); rintro e w9 ⟨rfl, hw⟩; replace hw := hw.symm; subst hw) | (go_at_call 99; (with_reducible refine (CB.out _).mono ?_); rintro e w10 ⟨rfl, ht⟩; have HT := Lib.hid (HB.out.1.trans ht); clear ht))
  go_ret
  exact ⟨rfl, HB.out.1⟩
set_option maxHeartbeats 2000000 in
set_option maxRecDepth 100000 in
theorem rf_02 (l : List Ev) (A : Option Addr) (cap : Nat) (id ok : Int) (k v o : ByteArray) (had aft : Bool) (A0 : Option Addr) (len cap0 : Nat) (code : Int) (found : Bool) (ak av : ByteArray) (a2 : Ans) (hid : ¬ id < 1) (hl : l.length ≤ 100000) (w : World) (hR : Row w A (ecs l))
    (h1 : cnt 1 id l = 0) (h2 : cnt 2 id l = 0) (h3 : cnt 3 id l = 0) (h4 : stA l id = a2) :
    Calls Try.prog 71 #[.slice A l.length cap, .agg #[.int .u8 2, .int .i64 id, .int .u8 ok, .string k, .string v, .string o, .bool had, .bool aft, .slice A0 len cap0, .int .i64 code, .bool found, .string ak, .string av]] w fun r w' => r = .returned (.bool (false)) ∧ Turn No w w' := by
  have HB : Hid (Turn No w (w.alloc (.cells #[.int .u8 2, .int .i64 id, .int .u8 ok, .string k, .string v, .string o, .bool had, .bool aft, .slice A0 len cap0, .int .i64 code, .bool found, .string ak, .string av] 40)) ∧ At (w.alloc (.cells #[.int .u8 2, .int .i64 id, .int .u8 ok, .string k, .string v, .string o, .bool had, .bool aft, .slice A0 len cap0, .int .i64 code, .bool found, .string ak, .string av] 40)) w.heap.size (.cells #[.int .u8 2, .int .i64 id, .int .u8 ok, .string k, .string v, .string o, .bool had, .bool aft, .slice A0 len cap0, .int .i64 code, .bool found, .string ak, .string av] 40 (0, 0))) := Lib.hid ⟨(Turn.refl _ _).alloc _, At.new _ _⟩
  have C1 := count_any 1 id l A cap (w.alloc (.cells #[.int .u8 2, .int .i64 id, .int .u8 ok, .string k, .string v, .string o, .bool had, .bool aft, .slice A0 len cap0, .int .i64 code, .bool found, .string ak, .string av] 40)) (hR.turn HB.out.1 fun _ _ _ h => h) hl
  rw [h1] at C1
  replace C1 := Lib.hid C1
  have C2 := count_any 2 id l A cap (w.alloc (.cells #[.int .u8 2, .int .i64 id, .int .u8 ok, .string k, .string v, .string o, .bool had, .bool aft, .slice A0 len cap0, .int .i64 code, .bool found, .string ak, .string av] 40)) (hR.turn HB.out.1 fun _ _ _ h => h) hl
  rw [h2] at C2
  replace C2 := Lib.hid C2
  have C3 := count_any 3 id l A cap (w.alloc (.cells #[.int .u8 2, .int .i64 id, .int .u8 ok, .string k, .string v, .string o, .bool had, .bool aft, .slice A0 len cap0, .int .i64 code, .bool found, .string ak, .string av] 40)) (hR.turn HB.out.1 fun _ _ _ h => h) hl
  rw [h3] at C3
  replace C3 := Lib.hid C3
  have CB : Hid (∀ W, Calls Try.prog 99 #[.agg #[.int .u8 ok, .string k, .string v, .string o, .bool had, .bool aft, .slice A0 len cap0]] W fun e w' => e = .returned (.bool (zeroB ok k v o had aft len)) ∧ Turn No W w') := Lib.hid fun W => bare_any ok k v o had aft A0 len cap0 W
  obtain ⟨c2, f2, kk2, vv2⟩ := a2
  have CA : Hid (∀ W, Turn No w W → Calls Try.prog 74 #[.slice A l.length cap, .int .i64 id] W fun e w' => e = .returned (.agg #[.int .i64 c2, .bool f2, .string kk2, .string vv2]) ∧ Turn No W w') := Lib.hid fun W t => by have := refans_any id l A cap W (hR.turn t fun _ _ _ h => h) hl; rwa [h4] at this
  clear h1 h2 h3 h4 hR hl
  have hid2 : decide (id < 1) = false := decide_eq_false hid
  go_enter Try.func71, Try.ntmps71
  go_upto_region 1 with fail
  generalize w.alloc (.cells #[.int .u8 2, .int .i64 id, .int .u8 ok, .string k, .string v, .string o, .bool had, .bool aft, .slice A0 len cap0, .int .i64 code, .bool found, .string ak, .string av] 40) = w1 at HB C1 C2 C3 ⊢
  generalize w.heap.size = g at HB ⊢
  have x0 : w1.cell? ⟨g, 0, none⟩ = some (.int .u8 2) := HB.out.2.cell 0
  have x1 : w1.cell? ⟨g, 1, none⟩ = some (.int .i64 id) := HB.out.2.cell 1
  have x2 : w1.cell? ⟨g, 2, none⟩ = some (.int .u8 ok) := HB.out.2.cell 2
  have x3 : w1.cell? ⟨g, 3, none⟩ = some (.string k) := HB.out.2.cell 3
  have x4 : w1.cell? ⟨g, 4, none⟩ = some (.string v) := HB.out.2.cell 4
  have x5 : w1.cell? ⟨g, 5, none⟩ = some (.string o) := HB.out.2.cell 5
  have x6 : w1.cell? ⟨g, 6, none⟩ = some (.bool had) := HB.out.2.cell 6
  have x7 : w1.cell? ⟨g, 7, none⟩ = some (.bool aft) := HB.out.2.cell 7
  have x8 : w1.cell? ⟨g, 8, none⟩ = some (.slice A0 len cap0) := HB.out.2.cell 8
  have x9 : w1.cell? ⟨g, 9, none⟩ = some (.int .i64 code) := HB.out.2.cell 9
  have x10 : w1.cell? ⟨g, 10, none⟩ = some (.bool found) := HB.out.2.cell 10
  have x11 : w1.cell? ⟨g, 11, none⟩ = some (.string ak) := HB.out.2.cell 11
  have x12 : w1.cell? ⟨g, 12, none⟩ = some (.string av) := HB.out.2.cell 12
  go_wp2_with (first | (go_at_call 73; (with_reducible refine C1.out.mono ?_); rintro e w9 ⟨rfl, hw⟩; replace hw := hw.symm; subst hw) | (go_at_call 73; (with_reducible refine C2.out.mono ?_); rintro e w9 ⟨rfl, hw⟩; replace hw := hw.symm; subst hw) | (go_at_call 73; (with_reducible refine C3.out.mono ?_); rintro e w9 ⟨rfl, hw⟩; replace hw := hw.symm; subst hw) | (go_at_call 99; (with_reducible refine (CB.out _).mono ?_); rintro e w10 ⟨rfl, ht⟩; have HT := Lib.hid (HB.out.1.trans ht); clear ht))
  go_ret
  exact ⟨rfl, HB.out.1⟩
set_option maxHeartbeats 2000000 in
set_option maxRecDepth 100000 in
theorem rf_03 (l : List Ev) (A : Option Addr) (cap : Nat) (id ok : Int) (k v o : ByteArray) (had aft : Bool) (A0 : Option Addr) (len cap0 : Nat) (code : Int) (found : Bool) (ak av : ByteArray) (a2 : Ans) (hid : ¬ id < 1) (hl : l.length ≤ 100000) (w : World) (hR : Row w A (ecs l))
    (h1 : cnt 1 id l = 0) (h2 : cnt 2 id l = 0) (h3 : cnt 3 id l = 0) (h4 : stA l id = a2) :
    Calls Try.prog 71 #[.slice A l.length cap, .agg #[.int .u8 3, .int .i64 id, .int .u8 ok, .string k, .string v, .string o, .bool had, .bool aft, .slice A0 len cap0, .int .i64 code, .bool found, .string ak, .string av]] w fun r w' => r = .returned (.bool (false)) ∧ Turn No w w' := by
  have HB : Hid (Turn No w (w.alloc (.cells #[.int .u8 3, .int .i64 id, .int .u8 ok, .string k, .string v, .string o, .bool had, .bool aft, .slice A0 len cap0, .int .i64 code, .bool found, .string ak, .string av] 40)) ∧ At (w.alloc (.cells #[.int .u8 3, .int .i64 id, .int .u8 ok, .string k, .string v, .string o, .bool had, .bool aft, .slice A0 len cap0, .int .i64 code, .bool found, .string ak, .string av] 40)) w.heap.size (.cells #[.int .u8 3, .int .i64 id, .int .u8 ok, .string k, .string v, .string o, .bool had, .bool aft, .slice A0 len cap0, .int .i64 code, .bool found, .string ak, .string av] 40 (0, 0))) := Lib.hid ⟨(Turn.refl _ _).alloc _, At.new _ _⟩
  have C1 := count_any 1 id l A cap (w.alloc (.cells #[.int .u8 3, .int .i64 id, .int .u8 ok, .string k, .string v, .string o, .bool had, .bool aft, .slice A0 len cap0, .int .i64 code, .bool found, .string ak, .string av] 40)) (hR.turn HB.out.1 fun _ _ _ h => h) hl
  rw [h1] at C1
  replace C1 := Lib.hid C1
  have C2 := count_any 2 id l A cap (w.alloc (.cells #[.int .u8 3, .int .i64 id, .int .u8 ok, .string k, .string v, .string o, .bool had, .bool aft, .slice A0 len cap0, .int .i64 code, .bool found, .string ak, .string av] 40)) (hR.turn HB.out.1 fun _ _ _ h => h) hl
  rw [h2] at C2
  replace C2 := Lib.hid C2
  have C3 := count_any 3 id l A cap (w.alloc (.cells #[.int .u8 3, .int .i64 id, .int .u8 ok, .string k, .string v, .string o, .bool had, .bool aft, .slice A0 len cap0, .int .i64 code, .bool found, .string ak, .string av] 40)) (hR.turn HB.out.1 fun _ _ _ h => h) hl
  rw [h3] at C3
  replace C3 := Lib.hid C3
  have CB : Hid (∀ W, Calls Try.prog 99 #[.agg #[.int .u8 ok, .string k, .string v, .string o, .bool had, .bool aft, .slice A0 len cap0]] W fun e w' => e = .returned (.bool (zeroB ok k v o had aft len)) ∧ Turn No W w') := Lib.hid fun W => bare_any ok k v o had aft A0 len cap0 W
  obtain ⟨c2, f2, kk2, vv2⟩ := a2
  have CA : Hid (∀ W, Turn No w W → Calls Try.prog 74 #[.slice A l.length cap, .int .i64 id] W fun e w' => e = .returned (.agg #[.int .i64 c2, .bool f2, .string kk2, .string vv2]) ∧ Turn No W w') := Lib.hid fun W t => by have := refans_any id l A cap W (hR.turn t fun _ _ _ h => h) hl; rwa [h4] at this
  clear h1 h2 h3 h4 hR hl
  have hid2 : decide (id < 1) = false := decide_eq_false hid
  go_enter Try.func71, Try.ntmps71
  go_upto_region 1 with fail
  generalize w.alloc (.cells #[.int .u8 3, .int .i64 id, .int .u8 ok, .string k, .string v, .string o, .bool had, .bool aft, .slice A0 len cap0, .int .i64 code, .bool found, .string ak, .string av] 40) = w1 at HB C1 C2 C3 ⊢
  generalize w.heap.size = g at HB ⊢
  have x0 : w1.cell? ⟨g, 0, none⟩ = some (.int .u8 3) := HB.out.2.cell 0
  have x1 : w1.cell? ⟨g, 1, none⟩ = some (.int .i64 id) := HB.out.2.cell 1
  have x2 : w1.cell? ⟨g, 2, none⟩ = some (.int .u8 ok) := HB.out.2.cell 2
  have x3 : w1.cell? ⟨g, 3, none⟩ = some (.string k) := HB.out.2.cell 3
  have x4 : w1.cell? ⟨g, 4, none⟩ = some (.string v) := HB.out.2.cell 4
  have x5 : w1.cell? ⟨g, 5, none⟩ = some (.string o) := HB.out.2.cell 5
  have x6 : w1.cell? ⟨g, 6, none⟩ = some (.bool had) := HB.out.2.cell 6
  have x7 : w1.cell? ⟨g, 7, none⟩ = some (.bool aft) := HB.out.2.cell 7
  have x8 : w1.cell? ⟨g, 8, none⟩ = some (.slice A0 len cap0) := HB.out.2.cell 8
  have x9 : w1.cell? ⟨g, 9, none⟩ = some (.int .i64 code) := HB.out.2.cell 9
  have x10 : w1.cell? ⟨g, 10, none⟩ = some (.bool found) := HB.out.2.cell 10
  have x11 : w1.cell? ⟨g, 11, none⟩ = some (.string ak) := HB.out.2.cell 11
  have x12 : w1.cell? ⟨g, 12, none⟩ = some (.string av) := HB.out.2.cell 12
  go_upto_region 12 with (first | (go_at_call 73; (with_reducible refine C1.out.mono ?_); rintro e w9 ⟨rfl, hw⟩; replace hw := hw.symm; subst hw) | (go_at_call 73; (with_reducible refine C2.out.mono ?_); rintro e w9 ⟨rfl, hw⟩; replace hw := hw.symm; subst hw) | (go_at_call 73; (with_reducible refine C3.out.mono ?_); rintro e w9 ⟨rfl, hw⟩; replace hw := hw.symm; subst hw) | (go_at_call 99; (with_reducible refine (CB.out _).mono ?_); rintro e w10 ⟨rfl, ht⟩; have HT := Lib.hid (HB.out.1.trans ht); clear ht))
  go_region
  all_goals go_wp2_with fail
  all_goals go_ret
  all_goals exact ⟨rfl, HB.out.1.drew⟩
set_option maxHeartbeats 2000000 in
set_option maxRecDepth 100000 in
theorem rf_00 (l : List Ev) (A : Option Addr) (cap : Nat) (kind : Int) (id ok : Int) (k v o : ByteArray) (had aft : Bool) (A0 : Option Addr) (len cap0 : Nat) (code : Int) (found : Bool) (ak av : ByteArray) (a2 : Ans) (hid : ¬ id < 1) (k1 : ¬ kind = 1) (k2 : ¬ kind = 2) (k3 : ¬ kind = 3) (hl : l.length ≤ 100000) (w : World) (hR : Row w A (ecs l))
    (h1 : cnt 1 id l = 0) (h2 : cnt 2 id l = 0) (h3 : cnt 3 id l = 0) (h4 : stA l id = a2) :
    Calls Try.prog 71 #[.slice A l.length cap, .agg #[.int .u8 kind, .int .i64 id, .int .u8 ok, .string k, .string v, .string o, .bool had, .bool aft, .slice A0 len cap0, .int .i64 code, .bool found, .string ak, .string av]] w fun r w' => r = .returned (.bool (false)) ∧ Turn No w w' := by
  have HB : Hid (Turn No w (w.alloc (.cells #[.int .u8 kind, .int .i64 id, .int .u8 ok, .string k, .string v, .string o, .bool had, .bool aft, .slice A0 len cap0, .int .i64 code, .bool found, .string ak, .string av] 40)) ∧ At (w.alloc (.cells #[.int .u8 kind, .int .i64 id, .int .u8 ok, .string k, .string v, .string o, .bool had, .bool aft, .slice A0 len cap0, .int .i64 code, .bool found, .string ak, .string av] 40)) w.heap.size (.cells #[.int .u8 kind, .int .i64 id, .int .u8 ok, .string k, .string v, .string o, .bool had, .bool aft, .slice A0 len cap0, .int .i64 code, .bool found, .string ak, .string av] 40 (0, 0))) := Lib.hid ⟨(Turn.refl _ _).alloc _, At.new _ _⟩
  have C1 := count_any 1 id l A cap (w.alloc (.cells #[.int .u8 kind, .int .i64 id, .int .u8 ok, .string k, .string v, .string o, .bool had, .bool aft, .slice A0 len cap0, .int .i64 code, .bool found, .string ak, .string av] 40)) (hR.turn HB.out.1 fun _ _ _ h => h) hl
  rw [h1] at C1
  replace C1 := Lib.hid C1
  have C2 := count_any 2 id l A cap (w.alloc (.cells #[.int .u8 kind, .int .i64 id, .int .u8 ok, .string k, .string v, .string o, .bool had, .bool aft, .slice A0 len cap0, .int .i64 code, .bool found, .string ak, .string av] 40)) (hR.turn HB.out.1 fun _ _ _ h => h) hl
  rw [h2] at C2
  replace C2 := Lib.hid C2
  have C3 := count_any 3 id l A cap (w.alloc (.cells #[.int .u8 kind, .int .i64 id, .int .u8 ok, .string k, .string v, .string o, .bool had, .bool aft, .slice A0 len cap0, .int .i64 code, .bool found, .string ak, .string av] 40)) (hR.turn HB.out.1 fun _ _ _ h => h) hl
  rw [h3] at C3
  replace C3 := Lib.hid C3
  have CB : Hid (∀ W, Calls Try.prog 99 #[.agg #[.int .u8 ok, .string k, .string v, .string o, .bool had, .bool aft, .slice A0 len cap0]] W fun e w' => e = .returned (.bool (zeroB ok k v o had aft len)) ∧ Turn No W w') := Lib.hid fun W => bare_any ok k v o had aft A0 len cap0 W
  obtain ⟨c2, f2, kk2, vv2⟩ := a2
  have CA : Hid (∀ W, Turn No w W → Calls Try.prog 74 #[.slice A l.length cap, .int .i64 id] W fun e w' => e = .returned (.agg #[.int .i64 c2, .bool f2, .string kk2, .string vv2]) ∧ Turn No W w') := Lib.hid fun W t => by have := refans_any id l A cap W (hR.turn t fun _ _ _ h => h) hl; rwa [h4] at this
  clear h1 h2 h3 h4 hR hl
  have k1 : (kind == 1) = false := by simpa using k1
  have k2 : (kind == 2) = false := by simpa using k2
  have k3 : (kind == 3) = false := by simpa using k3
  have hid2 : decide (id < 1) = false := decide_eq_false hid
  go_enter Try.func71, Try.ntmps71
  go_upto_region 1 with fail
  generalize w.alloc (.cells #[.int .u8 kind, .int .i64 id, .int .u8 ok, .string k, .string v, .string o, .bool had, .bool aft, .slice A0 len cap0, .int .i64 code, .bool found, .string ak, .string av] 40) = w1 at HB C1 C2 C3 ⊢
  generalize w.heap.size = g at HB ⊢
  have x0 : w1.cell? ⟨g, 0, none⟩ = some (.int .u8 kind) := HB.out.2.cell 0
  have x1 : w1.cell? ⟨g, 1, none⟩ = some (.int .i64 id) := HB.out.2.cell 1
  have x2 : w1.cell? ⟨g, 2, none⟩ = some (.int .u8 ok) := HB.out.2.cell 2
  have x3 : w1.cell? ⟨g, 3, none⟩ = some (.string k) := HB.out.2.cell 3
  have x4 : w1.cell? ⟨g, 4, none⟩ = some (.string v) := HB.out.2.cell 4
  have x5 : w1.cell? ⟨g, 5, none⟩ = some (.string o) := HB.out.2.cell 5
  have x6 : w1.cell? ⟨g, 6, none⟩ = some (.bool had) := HB.out.2.cell 6
  have x7 : w1.cell? ⟨g, 7, none⟩ = some (.bool aft) := HB.out.2.cell 7
  have x8 : w1.cell? ⟨g, 8, none⟩ = some (.slice A0 len cap0) := HB.out.2.cell 8
  have x9 : w1.cell? ⟨g, 9, none⟩ = some (.int .i64 code) := HB.out.2.cell 9
  have x10 : w1.cell? ⟨g, 10, none⟩ = some (.bool found) := HB.out.2.cell 10
  have x11 : w1.cell? ⟨g, 11, none⟩ = some (.string ak) := HB.out.2.cell 11
  have x12 : w1.cell? ⟨g, 12, none⟩ = some (.string av) := HB.out.2.cell 12
  go_wp2_with (first | (go_at_call 73; (with_reducible refine C1.out.mono ?_); rintro e w9 ⟨rfl, hw⟩; replace hw := hw.symm; subst hw) | (go_at_call 73; (with_reducible refine C2.out.mono ?_); rintro e w9 ⟨rfl, hw⟩; replace hw := hw.symm; subst hw) | (go_at_call 73; (with_reducible refine C3.out.mono ?_); rintro e w9 ⟨rfl, hw⟩; replace hw := hw.symm; subst hw) | (go_at_call 99; (with_reducible refine (CB.out _).mono ?_); rintro e w10 ⟨rfl, ht⟩; have HT := Lib.hid (HB.out.1.trans ht); clear ht))
  go_ret
  exact ⟨rfl, HB.out.1⟩
set_option maxHeartbeats 2000000 in
set_option maxRecDepth 100000 in
theorem rf_11 (l : List Ev) (A : Option Addr) (cap : Nat) (id ok : Int) (k v o : ByteArray) (had aft : Bool) (A0 : Option Addr) (len cap0 : Nat) (code : Int) (found : Bool) (ak av : ByteArray) (a2 : Ans) (hid : ¬ id < 1) (hl : l.length ≤ 100000) (w : World) (hR : Row w A (ecs l))
    (h1 : cnt 1 id l = 1) (h2 : cnt 2 id l = 0) (h3 : cnt 3 id l = 0) (h4 : stA l id = a2) :
    Calls Try.prog 71 #[.slice A l.length cap, .agg #[.int .u8 1, .int .i64 id, .int .u8 ok, .string k, .string v, .string o, .bool had, .bool aft, .slice A0 len cap0, .int .i64 code, .bool found, .string ak, .string av]] w fun r w' => r = .returned (.bool (false)) ∧ Turn No w w' := by
  have HB : Hid (Turn No w (w.alloc (.cells #[.int .u8 1, .int .i64 id, .int .u8 ok, .string k, .string v, .string o, .bool had, .bool aft, .slice A0 len cap0, .int .i64 code, .bool found, .string ak, .string av] 40)) ∧ At (w.alloc (.cells #[.int .u8 1, .int .i64 id, .int .u8 ok, .string k, .string v, .string o, .bool had, .bool aft, .slice A0 len cap0, .int .i64 code, .bool found, .string ak, .string av] 40)) w.heap.size (.cells #[.int .u8 1, .int .i64 id, .int .u8 ok, .string k, .string v, .string o, .bool had, .bool aft, .slice A0 len cap0, .int .i64 code, .bool found, .string ak, .string av] 40 (0, 0))) := Lib.hid ⟨(Turn.refl _ _).alloc _, At.new _ _⟩
  have C1 := count_any 1 id l A cap (w.alloc (.cells #[.int .u8 1, .int .i64 id, .int .u8 ok, .string k, .string v, .string o, .bool had, .bool aft, .slice A0 len cap0, .int .i64 code, .bool found, .string ak, .string av] 40)) (hR.turn HB.out.1 fun _ _ _ h => h) hl
  rw [h1] at C1
  replace C1 := Lib.hid C1
  have C2 := count_any 2 id l A cap (w.alloc (.cells #[.int .u8 1, .int .i64 id, .int .u8 ok, .string k, .string v, .string o, .bool had, .bool aft, .slice A0 len cap0, .int .i64 code, .bool found, .string ak, .string av] 40)) (hR.turn HB.out.1 fun _ _ _ h => h) hl
  rw [h2] at C2
  replace C2 := Lib.hid C2
  have C3 := count_any 3 id l A cap (w.alloc (.cells #[.int .u8 1, .int .i64 id, .int .u8 ok, .string k, .string v, .string o, .bool had, .bool aft, .slice A0 len cap0, .int .i64 code, .bool found, .string ak, .string av] 40)) (hR.turn HB.out.1 fun _ _ _ h => h) hl
  rw [h3] at C3
  replace C3 := Lib.hid C3
  have CB : Hid (∀ W, Calls Try.prog 99 #[.agg #[.int .u8 ok, .string k, .string v, .string o, .bool had, .bool aft, .slice A0 len cap0]] W fun e w' => e = .returned (.bool (zeroB ok k v o had aft len)) ∧ Turn No W w') := Lib.hid fun W => bare_any ok k v o had aft A0 len cap0 W
  obtain ⟨c2, f2, kk2, vv2⟩ := a2
  have CA : Hid (∀ W, Turn No w W → Calls Try.prog 74 #[.slice A l.length cap, .int .i64 id] W fun e w' => e = .returned (.agg #[.int .i64 c2, .bool f2, .string kk2, .string vv2]) ∧ Turn No W w') := Lib.hid fun W t => by have := refans_any id l A cap W (hR.turn t fun _ _ _ h => h) hl; rwa [h4] at this
  clear h1 h2 h3 h4 hR hl
  have hid2 : decide (id < 1) = false := decide_eq_false hid
  go_enter Try.func71, Try.ntmps71
  go_upto_region 1 with fail
  generalize w.alloc (.cells #[.int .u8 1, .int .i64 id, .int .u8 ok, .string k, .string v, .string o, .bool had, .bool aft, .slice A0 len cap0, .int .i64 code, .bool found, .string ak, .string av] 40) = w1 at HB C1 C2 C3 ⊢
  generalize w.heap.size = g at HB ⊢
  have x0 : w1.cell? ⟨g, 0, none⟩ = some (.int .u8 1) := HB.out.2.cell 0
  have x1 : w1.cell? ⟨g, 1, none⟩ = some (.int .i64 id) := HB.out.2.cell 1
  have x2 : w1.cell? ⟨g, 2, none⟩ = some (.int .u8 ok) := HB.out.2.cell 2
  have x3 : w1.cell? ⟨g, 3, none⟩ = some (.string k) := HB.out.2.cell 3
  have x4 : w1.cell? ⟨g, 4, none⟩ = some (.string v) := HB.out.2.cell 4
  have x5 : w1.cell? ⟨g, 5, none⟩ = some (.string o) := HB.out.2.cell 5
  have x6 : w1.cell? ⟨g, 6, none⟩ = some (.bool had) := HB.out.2.cell 6
  have x7 : w1.cell? ⟨g, 7, none⟩ = some (.bool aft) := HB.out.2.cell 7
  have x8 : w1.cell? ⟨g, 8, none⟩ = some (.slice A0 len cap0) := HB.out.2.cell 8
  have x9 : w1.cell? ⟨g, 9, none⟩ = some (.int .i64 code) := HB.out.2.cell 9
  have x10 : w1.cell? ⟨g, 10, none⟩ = some (.bool found) := HB.out.2.cell 10
  have x11 : w1.cell? ⟨g, 11, none⟩ = some (.string ak) := HB.out.2.cell 11
  have x12 : w1.cell? ⟨g, 12, none⟩ = some (.string av) := HB.out.2.cell 12
  go_wp2_with (first | (go_at_call 73; (with_reducible refine C1.out.mono ?_); rintro e w9 ⟨rfl, hw⟩; replace hw := hw.symm; subst hw) | (go_at_call 73; (with_reducible refine C2.out.mono ?_); rintro e w9 ⟨rfl, hw⟩; replace hw := hw.symm; subst hw) | (go_at_call 73; (with_reducible refine C3.out.mono ?_); rintro e w9 ⟨rfl, hw⟩; replace hw := hw.symm; subst hw) | (go_at_call 99; (with_reducible refine (CB.out _).mono ?_); rintro e w10 ⟨rfl, ht⟩; have HT := Lib.hid (HB.out.1.trans ht); clear ht))
  go_ret
  exact ⟨rfl, HB.out.1⟩
set_option maxHeartbeats 2000000 in
set_option maxRecDepth 100000 in
theorem rf_12 (l : List Ev) (A : Option Addr) (cap : Nat) (id ok : Int) (k v o : ByteArray) (had aft : Bool) (A0 : Option Addr) (len cap0 : Nat) (code : Int) (found : Bool) (ak av : ByteArray) (a2 : Ans) (hid : ¬ id < 1) (hl : l.length ≤ 100000) (w : World) (hR : Row w A (ecs l))
    (h1 : cnt 1 id l = 1) (h2 : cnt 2 id l = 0) (h3 : cnt 3 id l = 0) (h4 : stA l id = a2) :
    Calls Try.prog 71 #[.slice A l.length cap, .agg #[.int .u8 2, .int .i64 id, .int .u8 ok, .string k, .string v, .string o, .bool had, .bool aft, .slice A0 len cap0, .int .i64 code, .bool found, .string ak, .string av]] w fun r w' => r = .returned (.bool (zeroB ok k v o had aft len)) ∧ Turn No w w' := by
  have HB : Hid (Turn No w (w.alloc (.cells #[.int .u8 2, .int .i64 id, .int .u8 ok, .string k, .string v, .string o, .bool had, .bool aft, .slice A0 len cap0, .int .i64 code, .bool found, .string ak, .string av] 40)) ∧ At (w.alloc (.cells #[.int .u8 2, .int .i64 id, .int .u8 ok, .string k, .string v, .string o, .bool had, .bool aft, .slice A0 len cap0, .int .i64 code, .bool found, .string ak, .string av] 40)) w.heap.size (.cells #[.int .u8 2, .int .i64 id, .int .u8 ok, .string k, .string v, .string o, .bool had, .bool aft, .slice A0 len cap0, .int .i64 code, .bool found, .string ak, .string av] 40 (0, 0))) := Lib.hid ⟨(Turn.refl _ _).alloc _, At.new _ _⟩
  have C1 := count_any 1 id l A cap (w.alloc (.cells #[.int .u8 2, .int .i64 id, .int .u8 ok, .string k, .string v, .string o, .bool had, .bool aft, .slice A0 len cap0, .int .i64 code, .bool found, .string ak, .string av] 40)) (hR.turn HB.out.1 fun _ _ _ h => h) hl
  rw [h1] at C1
  replace C1 := Lib.hid C1
  have C2 := count_any 2 id l A cap (w.alloc (.cells #[.int .u8 2, .int .i64 id, .int .u8 ok, .string k, .string v, .string o, .bool had, .bool aft, .slice A0 len cap0, .int .i64 code, .bool found, .string ak, .string av] 40)) (hR.turn HB.out.1 fun _ _ _ h => h) hl
  rw [h2] at C2
  replace C2 := Lib.hid C2
  have C3 := count_any 3 id l A cap (w.alloc (.cells #[.int .u8 2, .int .i64 id, .int .u8 ok, .string k, .string v, .string o, .bool had, .bool aft, .slice A0 len cap0, .int .i64 code, .bool found, .string ak, .string av] 40)) (hR.turn HB.out.1 fun _ _ _ h => h) hl
  rw [h3] at C3
  replace C3 := Lib.hid C3
  have CB : Hid (∀ W, Calls Try.prog 99 #[.agg #[.int .u8 ok, .string k, .string v, .string o, .bool had, .bool aft, .slice A0 len cap0]] W fun e w' => e = .returned (.bool (zeroB ok k v o had aft len)) ∧ Turn No W w') := Lib.hid fun W => bare_any ok k v o had aft A0 len cap0 W
  obtain ⟨c2, f2, kk2, vv2⟩ := a2
  have CA : Hid (∀ W, Turn No w W → Calls Try.prog 74 #[.slice A l.length cap, .int .i64 id] W fun e w' => e = .returned (.agg #[.int .i64 c2, .bool f2, .string kk2, .string vv2]) ∧ Turn No W w') := Lib.hid fun W t => by have := refans_any id l A cap W (hR.turn t fun _ _ _ h => h) hl; rwa [h4] at this
  clear h1 h2 h3 h4 hR hl
  have hid2 : decide (id < 1) = false := decide_eq_false hid
  go_enter Try.func71, Try.ntmps71
  go_upto_region 1 with fail
  generalize w.alloc (.cells #[.int .u8 2, .int .i64 id, .int .u8 ok, .string k, .string v, .string o, .bool had, .bool aft, .slice A0 len cap0, .int .i64 code, .bool found, .string ak, .string av] 40) = w1 at HB C1 C2 C3 ⊢
  generalize w.heap.size = g at HB ⊢
  have x0 : w1.cell? ⟨g, 0, none⟩ = some (.int .u8 2) := HB.out.2.cell 0
  have x1 : w1.cell? ⟨g, 1, none⟩ = some (.int .i64 id) := HB.out.2.cell 1
  have x2 : w1.cell? ⟨g, 2, none⟩ = some (.int .u8 ok) := HB.out.2.cell 2
  have x3 : w1.cell? ⟨g, 3, none⟩ = some (.string k) := HB.out.2.cell 3
  have x4 : w1.cell? ⟨g, 4, none⟩ = some (.string v) := HB.out.2.cell 4
  have x5 : w1.cell? ⟨g, 5, none⟩ = some (.string o) := HB.out.2.cell 5
  have x6 : w1.cell? ⟨g, 6, none⟩ = some (.bool had) := HB.out.2.cell 6
  have x7 : w1.cell? ⟨g, 7, none⟩ = some (.bool aft) := HB.out.2.cell 7
  have x8 : w1.cell? ⟨g, 8, none⟩ = some (.slice A0 len cap0) := HB.out.2.cell 8
  have x9 : w1.cell? ⟨g, 9, none⟩ = some (.int .i64 code) := HB.out.2.cell 9
  have x10 : w1.cell? ⟨g, 10, none⟩ = some (.bool found) := HB.out.2.cell 10
  have x11 : w1.cell? ⟨g, 11, none⟩ = some (.string ak) := HB.out.2.cell 11
  have x12 : w1.cell? ⟨g, 12, none⟩ = some (.string av) := HB.out.2.cell 12
  go_wp2_with (first | (go_at_call 73; (with_reducible refine C1.out.mono ?_); rintro e w9 ⟨rfl, hw⟩; replace hw := hw.symm; subst hw) | (go_at_call 73; (with_reducible refine C2.out.mono ?_); rintro e w9 ⟨rfl, hw⟩; replace hw := hw.symm; subst hw) | (go_at_call 73; (with_reducible refine C3.out.mono ?_); rintro e w9 ⟨rfl, hw⟩; replace hw := hw.symm; subst hw) | (go_at_call 99; (with_reducible refine (CB.out _).mono ?_); rintro e w10 ⟨rfl, ht⟩; have HT := Lib.hid (HB.out.1.trans ht); clear ht))
  go_ret
  exact ⟨rfl, HT.out⟩
set_option maxHeartbeats 2000000 in
set_option maxRecDepth 100000 in
theorem rf_13 (l : List Ev) (A : Option Addr) (cap : Nat) (id ok : Int) (k v o : ByteArray) (had aft : Bool) (A0 : Option Addr) (len cap0 : Nat) (code : Int) (found : Bool) (ak av : ByteArray) (a2 : Ans) (hid : ¬ id < 1) (hl : l.length ≤ 100000) (w : World) (hR : Row w A (ecs l))
    (h1 : cnt 1 id l = 1) (h2 : cnt 2 id l = 0) (h3 : cnt 3 id l = 0) (h4 : stA l id = a2) :
    Calls Try.prog 71 #[.slice A l.length cap, .agg #[.int .u8 3, .int .i64 id, .int .u8 ok, .string k, .string v, .string o, .bool had, .bool aft, .slice A0 len cap0, .int .i64 code, .bool found, .string ak, .string av]] w fun r w' => r = .returned (.bool (false)) ∧ Turn No w w' := by
  have HB : Hid (Turn No w (w.alloc (.cells #[.int .u8 3, .int .i64 id, .int .u8 ok, .string k, .string v, .string o, .bool had, .bool aft, .slice A0 len cap0, .int .i64 code, .bool found, .string ak, .string av] 40)) ∧ At (w.alloc (.cells #[.int .u8 3, .int .i64 id, .int .u8 ok, .string k, .string v, .string o, .bool had, .bool aft, .slice A0 len cap0, .int .i64 code, .bool found, .string ak, .string av] 40)) w.heap.size (.cells #[.int .u8 3, .int .i64 id, .int .u8 ok, .string k, .string v, .string o, .bool had, .bool aft, .slice A0 len cap0, .int .i64 code, .bool found, .string ak, .string av] 40 (0, 0))) := Lib.hid ⟨(Turn.refl _ _).alloc _, At.new _ _⟩
  have C1 := count_any 1 id l A cap (w.alloc (.cells #[.int .u8 3, .int .i64 id, .int .u8 ok, .string k, .string v, .string o, .bool had, .bool aft, .slice A0 len cap0, .int .i64 code, .bool found, .string ak, .string av] 40)) (hR.turn HB.out.1 fun _ _ _ h => h) hl
  rw [h1] at C1
  replace C1 := Lib.hid C1
  have C2 := count_any 2 id l A cap (w.alloc (.cells #[.int .u8 3, .int .i64 id, .int .u8 ok, .string k, .string v, .string o, .bool had, .bool aft, .slice A0 len cap0, .int .i64 code, .bool found, .string ak, .string av] 40)) (hR.turn HB.out.1 fun _ _ _ h => h) hl
  rw [h2] at C2
  replace C2 := Lib.hid C2
  have C3 := count_any 3 id l A cap (w.alloc (.cells #[.int .u8 3, .int .i64 id, .int .u8 ok, .string k, .string v, .string o, .bool had, .bool aft, .slice A0 len cap0, .int .i64 code, .bool found, .string ak, .string av] 40)) (hR.turn HB.out.1 fun _ _ _ h => h) hl
  rw [h3] at C3
  replace C3 := Lib.hid C3
  have CB : Hid (∀ W, Calls Try.prog 99 #[.agg #[.int .u8 ok, .string k, .string v, .string o, .bool had, .bool aft, .slice A0 len cap0]] W fun e w' => e = .returned (.bool (zeroB ok k v o had aft len)) ∧ Turn No W w') := Lib.hid fun W => bare_any ok k v o had aft A0 len cap0 W
  obtain ⟨c2, f2, kk2, vv2⟩ := a2
  have CA : Hid (∀ W, Turn No w W → Calls Try.prog 74 #[.slice A l.length cap, .int .i64 id] W fun e w' => e = .returned (.agg #[.int .i64 c2, .bool f2, .string kk2, .string vv2]) ∧ Turn No W w') := Lib.hid fun W t => by have := refans_any id l A cap W (hR.turn t fun _ _ _ h => h) hl; rwa [h4] at this
  clear h1 h2 h3 h4 hR hl
  have hid2 : decide (id < 1) = false := decide_eq_false hid
  go_enter Try.func71, Try.ntmps71
  go_upto_region 1 with fail
  generalize w.alloc (.cells #[.int .u8 3, .int .i64 id, .int .u8 ok, .string k, .string v, .string o, .bool had, .bool aft, .slice A0 len cap0, .int .i64 code, .bool found, .string ak, .string av] 40) = w1 at HB C1 C2 C3 ⊢
  generalize w.heap.size = g at HB ⊢
  have x0 : w1.cell? ⟨g, 0, none⟩ = some (.int .u8 3) := HB.out.2.cell 0
  have x1 : w1.cell? ⟨g, 1, none⟩ = some (.int .i64 id) := HB.out.2.cell 1
  have x2 : w1.cell? ⟨g, 2, none⟩ = some (.int .u8 ok) := HB.out.2.cell 2
  have x3 : w1.cell? ⟨g, 3, none⟩ = some (.string k) := HB.out.2.cell 3
  have x4 : w1.cell? ⟨g, 4, none⟩ = some (.string v) := HB.out.2.cell 4
  have x5 : w1.cell? ⟨g, 5, none⟩ = some (.string o) := HB.out.2.cell 5
  have x6 : w1.cell? ⟨g, 6, none⟩ = some (.bool had) := HB.out.2.cell 6
  have x7 : w1.cell? ⟨g, 7, none⟩ = some (.bool aft) := HB.out.2.cell 7
  have x8 : w1.cell? ⟨g, 8, none⟩ = some (.slice A0 len cap0) := HB.out.2.cell 8
  have x9 : w1.cell? ⟨g, 9, none⟩ = some (.int .i64 code) := HB.out.2.cell 9
  have x10 : w1.cell? ⟨g, 10, none⟩ = some (.bool found) := HB.out.2.cell 10
  have x11 : w1.cell? ⟨g, 11, none⟩ = some (.string ak) := HB.out.2.cell 11
  have x12 : w1.cell? ⟨g, 12, none⟩ = some (.string av) := HB.out.2.cell 12
  go_upto_region 12 with (first | (go_at_call 73; (with_reducible refine C1.out.mono ?_); rintro e w9 ⟨rfl, hw⟩; replace hw := hw.symm; subst hw) | (go_at_call 73; (with_reducible refine C2.out.mono ?_); rintro e w9 ⟨rfl, hw⟩; replace hw := hw.symm; subst hw) | (go_at_call 73; (with_reducible refine C3.out.mono ?_); rintro e w9 ⟨rfl, hw⟩; replace hw := hw.symm; subst hw) | (go_at_call 99; (with_reducible refine (CB.out _).mono ?_); rintro e w10 ⟨rfl, ht⟩; have HT := Lib.hid (HB.out.1.trans ht); clear ht))
  go_region
  all_goals go_wp2_with fail
  all_goals go_ret
  all_goals exact ⟨rfl, HB.out.1.drew⟩
set_option maxHeartbeats 2000000 in
set_option maxRecDepth 100000 in
theorem rf_10 (l : List Ev) (A : Option Addr) (cap : Nat) (kind : Int) (id ok : Int) (k v o : ByteArray) (had aft : Bool) (A0 : Option Addr) (len cap0 : Nat) (code : Int) (found : Bool) (ak av : ByteArray) (a2 : Ans) (hid : ¬ id < 1) (k1 : ¬ kind = 1) (k2 : ¬ kind = 2) (k3 : ¬ kind = 3) (hl : l.length ≤ 100000) (w : World) (hR : Row w A (ecs l))
    (h1 : cnt 1 id l = 1) (h2 : cnt 2 id l = 0) (h3 : cnt 3 id l = 0) (h4 : stA l id = a2) :
    Calls Try.prog 71 #[.slice A l.length cap, .agg #[.int .u8 kind, .int .i64 id, .int .u8 ok, .string k, .string v, .string o, .bool had, .bool aft, .slice A0 len cap0, .int .i64 code, .bool found, .string ak, .string av]] w fun r w' => r = .returned (.bool (false)) ∧ Turn No w w' := by
  have HB : Hid (Turn No w (w.alloc (.cells #[.int .u8 kind, .int .i64 id, .int .u8 ok, .string k, .string v, .string o, .bool had, .bool aft, .slice A0 len cap0, .int .i64 code, .bool found, .string ak, .string av] 40)) ∧ At (w.alloc (.cells #[.int .u8 kind, .int .i64 id, .int .u8 ok, .string k, .string v, .string o, .bool had, .bool aft, .slice A0 len cap0, .int .i64 code, .bool found, .string ak, .string av] 40)) w.heap.size (.cells #[.int .u8 kind, .int .i64 id, .int .u8 ok, .string k, .string v, .string o, .bool had, .bool aft, .slice A0 len cap0, .int .i64 code, .bool found, .string ak, .string av] 40 (0, 0))) := Lib.hid ⟨(Turn.refl _ _).alloc _, At.new _ _⟩
  have C1 := count_any 1 id l A cap (w.alloc (.cells #[.int .u8 kind, .int .i64 id, .int .u8 ok, .string k, .string v, .string o, .bool had, .bool aft, .slice A0 len cap0, .int .i64 code, .bool found, .string ak, .string av] 40)) (hR.turn HB.out.1 fun _ _ _ h => h) hl
  rw [h1] at C1
  replace C1 := Lib.hid C1
  have C2 := count_any 2 id l A cap (w.alloc (.cells #[.int .u8 kind, .int .i64 id, .int .u8 ok, .string k, .string v, .string o, .bool had, .bool aft, .slice A0 len cap0, .int .i64 code, .bool found, .string ak, .string av] 40)) (hR.turn HB.out.1 fun _ _ _ h => h) hl
  rw [h2] at C2
  replace C2 := Lib.hid C2
  have C3 := count_any 3 id l A cap (w.alloc (.cells #[.int .u8 kind, .int .i64 id, .int .u8 ok, .string k, .string v, .string o, .bool had, .bool aft, .slice A0 len cap0, .int .i64 code, .bool found, .string ak, .string av] 40)) (hR.turn HB.out.1 fun _ _ _ h => h) hl
  rw [h3] at C3
  replace C3 := Lib.hid C3
  have CB : Hid (∀ W, Calls Try.prog 99 #[.agg #[.int .u8 ok, .string k, .string v, .string o, .bool had, .bool aft, .slice A0 len cap0]] W fun e w' => e = .returned (.bool (zeroB ok k v o had aft len)) ∧ Turn No W w') := Lib.hid fun W => bare_any ok k v o had aft A0 len cap0 W
  obtain ⟨c2, f2, kk2, vv2⟩ := a2
  have CA : Hid (∀ W, Turn No w W → Calls Try.prog 74 #[.slice A l.length cap, .int .i64 id] W fun e w' => e = .returned (.agg #[.int .i64 c2, .bool f2, .string kk2, .string vv2]) ∧ Turn No W w') := Lib.hid fun W t => by have := refans_any id l A cap W (hR.turn t fun _ _ _ h => h) hl; rwa [h4] at this
  clear h1 h2 h3 h4 hR hl
  have k1 : (kind == 1) = false := by simpa using k1
  have k2 : (kind == 2) = false := by simpa using k2
  have k3 : (kind == 3) = false := by simpa using k3
  have hid2 : decide (id < 1) = false := decide_eq_false hid
  go_enter Try.func71, Try.ntmps71
  go_upto_region 1 with fail
  generalize w.alloc (.cells #[.int .u8 kind, .int .i64 id, .int .u8 ok, .string k, .string v, .string o, .bool had, .bool aft, .slice A0 len cap0, .int .i64 code, .bool found, .string ak, .string av] 40) = w1 at HB C1 C2 C3 ⊢
  generalize w.heap.size = g at HB ⊢
  have x0 : w1.cell? ⟨g, 0, none⟩ = some (.int .u8 kind) := HB.out.2.cell 0
  have x1 : w1.cell? ⟨g, 1, none⟩ = some (.int .i64 id) := HB.out.2.cell 1
  have x2 : w1.cell? ⟨g, 2, none⟩ = some (.int .u8 ok) := HB.out.2.cell 2
  have x3 : w1.cell? ⟨g, 3, none⟩ = some (.string k) := HB.out.2.cell 3
  have x4 : w1.cell? ⟨g, 4, none⟩ = some (.string v) := HB.out.2.cell 4
  have x5 : w1.cell? ⟨g, 5, none⟩ = some (.string o) := HB.out.2.cell 5
  have x6 : w1.cell? ⟨g, 6, none⟩ = some (.bool had) := HB.out.2.cell 6
  have x7 : w1.cell? ⟨g, 7, none⟩ = some (.bool aft) := HB.out.2.cell 7
  have x8 : w1.cell? ⟨g, 8, none⟩ = some (.slice A0 len cap0) := HB.out.2.cell 8
  have x9 : w1.cell? ⟨g, 9, none⟩ = some (.int .i64 code) := HB.out.2.cell 9
  have x10 : w1.cell? ⟨g, 10, none⟩ = some (.bool found) := HB.out.2.cell 10
  have x11 : w1.cell? ⟨g, 11, none⟩ = some (.string ak) := HB.out.2.cell 11
  have x12 : w1.cell? ⟨g, 12, none⟩ = some (.string av) := HB.out.2.cell 12
  go_wp2_with (first | (go_at_call 73; (with_reducible refine C1.out.mono ?_); rintro e w9 ⟨rfl, hw⟩; replace hw := hw.symm; subst hw) | (go_at_call 73; (with_reducible refine C2.out.mono ?_); rintro e w9 ⟨rfl, hw⟩; replace hw := hw.symm; subst hw) | (go_at_call 73; (with_reducible refine C3.out.mono ?_); rintro e w9 ⟨rfl, hw⟩; replace hw := hw.symm; subst hw) | (go_at_call 99; (with_reducible refine (CB.out _).mono ?_); rintro e w10 ⟨rfl, ht⟩; have HT := Lib.hid (HB.out.1.trans ht); clear ht))
  go_ret
  exact ⟨rfl, HB.out.1⟩
set_option maxHeartbeats 2000000 in
set_option maxRecDepth 100000 in
theorem rf_21 (l : List Ev) (A : Option Addr) (cap : Nat) (id ok : Int) (k v o : ByteArray) (had aft : Bool) (A0 : Option Addr) (len cap0 : Nat) (code : Int) (found : Bool) (ak av : ByteArray) (a2 : Ans) (hid : ¬ id < 1) (hl : l.length ≤ 100000) (w : World) (hR : Row w A (ecs l))
    (h1 : cnt 1 id l = 1) (h2 : cnt 2 id l = 1) (h3 : cnt 3 id l = 0) (h4 : stA l id = a2) :
    Calls Try.prog 71 #[.slice A l.length cap, .agg #[.int .u8 1, .int .i64 id, .int .u8 ok, .string k, .string v, .string o, .bool had, .bool aft, .slice A0 len cap0, .int .i64 code, .bool found, .string ak, .string av]] w fun r w' => r = .returned (.bool (false)) ∧ Turn No w w' := by
  have HB : Hid (Turn No w (w.alloc (.cells #[.int .u8 1, .int .i64 id, .int .u8 ok, .string k, .string v, .string o, .bool had, .bool aft, .slice A0 len cap0, .int .i64 code, .bool found, .string ak, .string av] 40)) ∧ At (w.alloc (.cells #[.int .u8 1, .int .i64 id, .int .u8 ok, .string k, .string v, .string o, .bool had, .bool aft, .slice A0 len cap0, .int .i64 code, .bool found, .string ak, .string av] 40)) w.heap.size (.cells #[.int .u8 1, .int .i64 id, .int .u8 ok, .string k, .string v, .string o, .bool had, .bool aft, .slice A0 len cap0, .int .i64 code, .bool found, .string ak, .string av] 40 (0, 0))) := Lib.hid ⟨(Turn.refl _ _).alloc _, At.new _ _⟩
  have C1 := count_any 1 id l A cap (w.alloc (.cells #[.int .u8 1, .int .i64 id, .int .u8 ok, .string k, .string v, .string o, .bool had, .bool aft, .slice A0 len cap0, .int .i64 code, .bool found, .string ak, .string av] 40)) (hR.turn HB.out.1 fun _ _ _ h => h) hl
  rw [h1] at C1
  replace C1 := Lib.hid C1
  have C2 := count_any 2 id l A cap (w.alloc (.cells #[.int .u8 1, .int .i64 id, .int .u8 ok, .string k, .string v, .string o, .bool had, .bool aft, .slice A0 len cap0, .int .i64 code, .bool found, .string ak, .string av] 40)) (hR.turn HB.out.1 fun _ _ _ h => h) hl
  rw [h2] at C2
  replace C2 := Lib.hid C2
  have C3 := count_any 3 id l A cap (w.alloc (.cells #[.int .u8 1, .int .i64 id, .int .u8 ok, .string k, .string v, .string o, .bool had, .bool aft, .slice A0 len cap0, .int .i64 code, .bool found, .string ak, .string av] 40)) (hR.turn HB.out.1 fun _ _ _ h => h) hl
  rw [h3] at C3
  replace C3 := Lib.hid C3
  have CB : Hid (∀ W, Calls Try.prog 99 #[.agg #[.int .u8 ok, .string k, .string v, .string o, .bool had, .bool aft, .slice A0 len cap0]] W fun e w' => e = .returned (.bool (zeroB ok k v o had aft len)) ∧ Turn No W w') := Lib.hid fun W => bare_any ok k v o had aft A0 len cap0 W
  obtain ⟨c2, f2, kk2, vv2⟩ := a2
  have CA : Hid (∀ W, Turn No w W → Calls Try.prog 74 #[.slice A l.length cap, .int .i64 id] W fun e w' => e = .returned (.agg #[.int .i64 c2, .bool f2, .string kk2, .string vv2]) ∧ Turn No W w') := Lib.hid fun W t => by have := refans_any id l A cap W (hR.turn t fun _ _ _ h => h) hl; rwa [h4] at this
  clear h1 h2 h3 h4 hR hl
  have hid2 : decide (id < 1) = false := decide_eq_false hid
  go_enter Try.func71, Try.ntmps71
  go_upto_region 1 with fail
  generalize w.alloc (.cells #[.int .u8 1, .int .i64 id, .int .u8 ok, .string k, .string v, .string o, .bool had, .bool aft, .slice A0 len cap0, .int .i64 code, .bool found, .string ak, .string av] 40) = w1 at HB C1 C2 C3 ⊢
  generalize w.heap.size = g at HB ⊢
  have x0 : w1.cell? ⟨g, 0, none⟩ = some (.int .u8 1) := HB.out.2.cell 0
  have x1 : w1.cell? ⟨g, 1, none⟩ = some (.int .i64 id) := HB.out.2.cell 1
  have x2 : w1.cell? ⟨g, 2, none⟩ = some (.int .u8 ok) := HB.out.2.cell 2
  have x3 : w1.cell? ⟨g, 3, none⟩ = some (.string k) := HB.out.2.cell 3
  have x4 : w1.cell? ⟨g, 4, none⟩ = some (.string v) := HB.out.2.cell 4
  have x5 : w1.cell? ⟨g, 5, none⟩ = some (.string o) := HB.out.2.cell 5
  have x6 : w1.cell? ⟨g, 6, none⟩ = some (.bool had) := HB.out.2.cell 6
  have x7 : w1.cell? ⟨g, 7, none⟩ = some (.bool aft) := HB.out.2.cell 7
  have x8 : w1.cell? ⟨g, 8, none⟩ = some (.slice A0 len cap0) := HB.out.2.cell 8
  have x9 : w1.cell? ⟨g, 9, none⟩ = some (.int .i64 code) := HB.out.2.cell 9
  have x10 : w1.cell? ⟨g, 10, none⟩ = some (.bool found) := HB.out.2.cell 10
  have x11 : w1.cell? ⟨g, 11, none⟩ = some (.string ak) := HB.out.2.cell 11
  have x12 : w1.cell? ⟨g, 12, none⟩ = some (.string av) := HB.out.2.cell 12
  go_wp2_with (first | (go_at_call 73; (with_reducible refine C1.out.mono ?_); rintro e w9 ⟨rfl, hw⟩; replace hw := hw.symm; subst hw) | (go_at_call 73; (with_reducible refine C2.out.mono ?_); rintro e w9 ⟨rfl, hw⟩; replace hw := hw.symm; subst hw) | (go_at_call 73; (with_reducible refine C3.out.mono ?_); rintro e w9 ⟨rfl, hw⟩; replace hw := hw.symm; subst hw) | (go_at_call 99; (with_reducible refine (CB.out _).mono ?_); rintro e w10 ⟨rfl, ht⟩; have HT := Lib.hid (HB.out.1.trans ht); clear ht))
  go_ret
  exact ⟨rfl, HB.out.1⟩
set_option maxHeartbeats 2000000 in
set_option maxRecDepth 100000 in
theorem rf_22 (l : List Ev) (A : Option Addr) (cap : Nat) (id ok : Int) (k v o : ByteArray) (had aft : Bool) (A0 : Option Addr) (len cap0 : Nat) (code : Int) (found : Bool) (ak av : ByteArray) (a2 : Ans) (hid : ¬ id < 1) (hl : l.length ≤ 100000) (w : World) (hR : Row w A (ecs l))
    (h1 : cnt 1 id l = 1) (h2 : cnt 2 id l = 1) (h3 : cnt 3 id l = 0) (h4 : stA l id = a2) :
    Calls Try.prog 71 #[.slice A l.length cap, .agg #[.int .u8 2, .int .i64 id, .int .u8 ok, .string k, .string v, .string o, .bool had, .bool aft, .slice A0 len cap0, .int .i64 code, .bool found, .string ak, .string av]] w fun r w' => r = .returned (.bool (false)) ∧ Turn No w w' := by
  have HB : Hid (Turn No w (w.alloc (.cells #[.int .u8 2, .int .i64 id, .int .u8 ok, .string k, .string v, .string o, .bool had, .bool aft, .slice A0 len cap0, .int .i64 code, .bool found, .string ak, .string av] 40)) ∧ At (w.alloc (.cells #[.int .u8 2, .int .i64 id, .int .u8 ok, .string k, .string v, .string o, .bool had, .bool aft, .slice A0 len cap0, .int .i64 code, .bool found, .string ak, .string av] 40)) w.heap.size (.cells #[.int .u8 2, .int .i64 id, .int .u8 ok, .string k, .string v, .string o, .bool had, .bool aft, .slice A0 len cap0, .int .i64 code, .bool found, .string ak, .string av] 40 (0, 0))) := Lib.hid ⟨(Turn.refl _ _).alloc _, At.new _ _⟩
  have C1 := count_any 1 id l A cap (w.alloc (.cells #[.int .u8 2, .int .i64 id, .int .u8 ok, .string k, .string v, .string o, .bool had, .bool aft, .slice A0 len cap0, .int .i64 code, .bool found, .string ak, .string av] 40)) (hR.turn HB.out.1 fun _ _ _ h => h) hl
  rw [h1] at C1
  replace C1 := Lib.hid C1
  have C2 := count_any 2 id l A cap (w.alloc (.cells #[.int .u8 2, .int .i64 id, .int .u8 ok, .string k, .string v, .string o, .bool had, .bool aft, .slice A0 len cap0, .int .i64 code, .bool found, .string ak, .string av] 40)) (hR.turn HB.out.1 fun _ _ _ h => h) hl
  rw [h2] at C2
  replace C2 := Lib.hid C2
  have C3 := count_any 3 id l A cap (w.alloc (.cells #[.int .u8 2, .int .i64 id, .int .u8 ok, .string k, .string v, .string o, .bool had, .bool aft, .slice A0 len cap0, .int .i64 code, .bool found, .string ak, .string av] 40)) (hR.turn HB.out.1 fun _ _ _ h => h) hl
  rw [h3] at C3
  replace C3 := Lib.hid C3
  have CB : Hid (∀ W, Calls Try.prog 99 #[.agg #[.int .u8 ok, .string k, .string v, .string o, .bool had, .bool aft, .slice A0 len cap0]] W fun e w' => e = .returned (.bool (zeroB ok k v o had aft len)) ∧ Turn No W w') := Lib.hid fun W => bare_any ok k v o had aft A0 len cap0 W
  obtain ⟨c2, f2, kk2, vv2⟩ := a2
  have CA : Hid (∀ W, Turn No w W → Calls Try.prog 74 #[.slice A l.length cap, .int .i64 id] W fun e w' => e = .returned (.agg #[.int .i64 c2, .bool f2, .string kk2, .string vv2]) ∧ Turn No W w') := Lib.hid fun W t => by have := refans_any id l A cap W (hR.turn t fun _ _ _ h => h) hl; rwa [h4] at this
  clear h1 h2 h3 h4 hR hl
  have hid2 : decide (id < 1) = false := decide_eq_false hid
  go_enter Try.func71, Try.ntmps71
  go_upto_region 1 with fail
  generalize w.alloc (.cells #[.int .u8 2, .int .i64 id, .int .u8 ok, .string k, .string v, .string o, .bool had, .bool aft, .slice A0 len cap0, .int .i64 code, .bool found, .string ak, .string av] 40) = w1 at HB C1 C2 C3 ⊢
  generalize w.heap.size = g at HB ⊢
  have x0 : w1.cell? ⟨g, 0, none⟩ = some (.int .u8 2) := HB.out.2.cell 0
  have x1 : w1.cell? ⟨g, 1, none⟩ = some (.int .i64 id) := HB.out.2.cell 1
  have x2 : w1.cell? ⟨g, 2, none⟩ = some (.int .u8 ok) := HB.out.2.cell 2
  have x3 : w1.cell? ⟨g, 3, none⟩ = some (.string k) := HB.out.2.cell 3
  have x4 : w1.cell? ⟨g, 4, none⟩ = some (.string v) := HB.out.2.cell 4
  have x5 : w1.cell? ⟨g, 5, none⟩ = some (.string o) := HB.out.2.cell 5
  have x6 : w1.cell? ⟨g, 6, none⟩ = some (.bool had) := HB.out.2.cell 6
  have x7 : w1.cell? ⟨g, 7, none⟩ = some (.bool aft) := HB.out.2.cell 7
  have x8 : w1.cell? ⟨g, 8, none⟩ = some (.slice A0 len cap0) := HB.out.2.cell 8
  have x9 : w1.cell? ⟨g, 9, none⟩ = some (.int .i64 code) := HB.out.2.cell 9
  have x10 : w1.cell? ⟨g, 10, none⟩ = some (.bool found) := HB.out.2.cell 10
  have x11 : w1.cell? ⟨g, 11, none⟩ = some (.string ak) := HB.out.2.cell 11
  have x12 : w1.cell? ⟨g, 12, none⟩ = some (.string av) := HB.out.2.cell 12
  go_wp2_with (first | (go_at_call 73; (with_reducible refine C1.out.mono ?_); rintro e w9 ⟨rfl, hw⟩; replace hw := hw.symm; subst hw) | (go_at_call 73; (with_reducible refine C2.out.mono ?_); rintro e w9 ⟨rfl, hw⟩; replace hw := hw.symm; subst hw) | (go_at_call 73; (with_reducible refine C3.out.mono ?_); rintro e w9 ⟨rfl, hw⟩; replace hw := hw.symm; subst hw) | (go_at_call 99; (with_reducible refine (CB.out _).mono ?_); rintro e w10 ⟨rfl, ht⟩; have HT := Lib.hid (HB.out.1.trans ht); clear ht))
  go_ret
  exact ⟨rfl, HB.out.1⟩
set_option maxHeartbeats 2000000 in
set_option maxRecDepth 100000 in
theorem rf_23 (l : List Ev) (A : Option Addr) (cap : Nat) (id ok : Int) (k v o : ByteArray) (had aft : Bool) (A0 : Option Addr) (len cap0 : Nat) (code : Int) (found : Bool) (ak av : ByteArray) (a2 : Ans) (hid : ¬ id < 1) (hl : l.length ≤ 100000) (w : World) (hR : Row w A (ecs l))
    (h1 : cnt 1 id l = 1) (h2 : cnt 2 id l = 1) (h3 : cnt 3 id l = 0) (h4 : stA l id = a2) :
    Calls Try.prog 71 #[.slice A l.length cap, .agg #[.int .u8 3, .int .i64 id, .int .u8 ok, .string k, .string v, .string o, .bool had, .bool aft, .slice A0 len cap0, .int .i64 code, .bool found, .string ak, .string av]] w fun r w' => r = .returned (.bool ((zeroB ok k v o had aft len && decide ((⟨code, found, ak, av⟩ : Ans) = a2)))) ∧ Turn No w w' := by
  have HB : Hid (Turn No w (w.alloc (.cells #[.int .u8 3, .int .i64 id, .int .u8 ok, .string k, .string v, .string o, .bool had, .bool aft, .slice A0 len cap0, .int .i64 code, .bool found, .string ak, .string av] 40)) ∧ At (w.alloc (.cells #[.int .u8 3, .int .i64 id, .int .u8 ok, .string k, .string v, .string o, .bool had, .bool aft, .slice A0 len cap0, .int .i64 code, .bool found, .string ak, .string av] 40)) w.heap.size (.cells #[.int .u8 3, .int .i64 id, .int .u8 ok, .string k, .string v, .string o, .bool had, .bool aft, .slice A0 len cap0, .int .i64 code, .bool found, .string ak, .string av] 40 (0, 0))) := Lib.hid ⟨(Turn.refl _ _).alloc _, At.new _ _⟩
  have C1 := count_any 1 id l A cap (w.alloc (.cells #[.int .u8 3, .int .i64 id, .int .u8 ok, .string k, .string v, .string o, .bool had, .bool aft, .slice A0 len cap0, .int .i64 code, .bool found, .string ak, .string av] 40)) (hR.turn HB.out.1 fun _ _ _ h => h) hl
  rw [h1] at C1
  replace C1 := Lib.hid C1
  have C2 := count_any 2 id l A cap (w.alloc (.cells #[.int .u8 3, .int .i64 id, .int .u8 ok, .string k, .string v, .string o, .bool had, .bool aft, .slice A0 len cap0, .int .i64 code, .bool found, .string ak, .string av] 40)) (hR.turn HB.out.1 fun _ _ _ h => h) hl
  rw [h2] at C2
  replace C2 := Lib.hid C2
  have C3 := count_any 3 id l A cap (w.alloc (.cells #[.int .u8 3, .int .i64 id, .int .u8 ok, .string k, .string v, .string o, .bool had, .bool aft, .slice A0 len cap0, .int .i64 code, .bool found, .string ak, .string av] 40)) (hR.turn HB.out.1 fun _ _ _ h => h) hl
  rw [h3] at C3
  replace C3 := Lib.hid C3
  have CB : Hid (∀ W, Calls Try.prog 99 #[.agg #[.int .u8 ok, .string k, .string v, .string o, .bool had, .bool aft, .slice A0 len cap0]] W fun e w' => e = .returned (.bool (zeroB ok k v o had aft len)) ∧ Turn No W w') := Lib.hid fun W => bare_any ok k v o had aft A0 len cap0 W
  obtain ⟨c2, f2, kk2, vv2⟩ := a2
  have CA : Hid (∀ W, Turn No w W → Calls Try.prog 74 #[.slice A l.length cap, .int .i64 id] W fun e w' => e = .returned (.agg #[.int .i64 c2, .bool f2, .string kk2, .string vv2]) ∧ Turn No W w') := Lib.hid fun W t => by have := refans_any id l A cap W (hR.turn t fun _ _ _ h => h) hl; rwa [h4] at this
  clear h1 h2 h3 h4 hR hl
  have hid2 : decide (id < 1) = false := decide_eq_false hid
  have qe := eql_ansH code c2 found f2 ak kk2 av vv2
  generalize decide ((⟨code, found, ak, av⟩ : Ans) = ⟨c2, f2, kk2, vv2⟩) = bb at qe ⊢
  generalize zeroB ok k v o had aft len = z at CB ⊢
  go_enter Try.func71, Try.ntmps71
  go_upto_region 1 with fail
  generalize w.alloc (.cells #[.int .u8 3, .int .i64 id, .int .u8 ok, .string k, .string v, .string o, .bool had, .bool aft, .slice A0 len cap0, .int .i64 code, .bool found, .string ak, .string av] 40) = w1 at HB C1 C2 C3 ⊢
  generalize w.heap.size = g at HB ⊢
  have x0 : w1.cell? ⟨g, 0, none⟩ = some (.int .u8 3) := HB.out.2.cell 0
  have x1 : w1.cell? ⟨g, 1, none⟩ = some (.int .i64 id) := HB.out.2.cell 1
  have x2 : w1.cell? ⟨g, 2, none⟩ = some (.int .u8 ok) := HB.out.2.cell 2
  have x3 : w1.cell? ⟨g, 3, none⟩ = some (.string k) := HB.out.2.cell 3
  have x4 : w1.cell? ⟨g, 4, none⟩ = some (.string v) := HB.out.2.cell 4
  have x5 : w1.cell? ⟨g, 5, none⟩ = some (.string o) := HB.out.2.cell 5
  have x6 : w1.cell? ⟨g, 6, none⟩ = some (.bool had) := HB.out.2.cell 6
  have x7 : w1.cell? ⟨g, 7, none⟩ = some (.bool aft) := HB.out.2.cell 7
  have x8 : w1.cell? ⟨g, 8, none⟩ = some (.slice A0 len cap0) := HB.out.2.cell 8
  have x9 : w1.cell? ⟨g, 9, none⟩ = some (.int .i64 code) := HB.out.2.cell 9
  have x10 : w1.cell? ⟨g, 10, none⟩ = some (.bool found) := HB.out.2.cell 10
  have x11 : w1.cell? ⟨g, 11, none⟩ = some (.string ak) := HB.out.2.cell 11
  have x12 : w1.cell? ⟨g, 12, none⟩ = some (.string av) := HB.out.2.cell 12
  go_upto_region 12 with (first | (go_at_call 73; (with_reducible refine C1.out.mono ?_); rintro e w9 ⟨rfl, hw⟩; replace hw := hw.symm; subst hw) | (go_at_call 73; (with_reducible refine C2.out.mono ?_); rintro e w9 ⟨rfl, hw⟩; replace hw := hw.symm; subst hw) | (go_at_call 73; (with_reducible refine C3.out.mono ?_); rintro e w9 ⟨rfl, hw⟩; replace hw := hw.symm; subst hw) | (go_at_call 99; (with_reducible refine (CB.out _).mono ?_); rintro e w10 ⟨rfl, ht⟩; have HT := Lib.hid (HB.out.1.trans ht); clear ht))
  have hS0 : w1.drew.cell? ⟨g, 0, none⟩ = some (.int .u8 3) ∧ w1.drew.cell? ⟨g, 1, none⟩ = some (.int .i64 id) ∧ w1.drew.cell? ⟨g, 2, none⟩ = some (.int .u8 ok) ∧ w1.drew.cell? ⟨g, 3, none⟩ = some (.string k) ∧ w1.drew.cell? ⟨g, 4, none⟩ = some (.string v) ∧ w1.drew.cell? ⟨g, 5, none⟩ = some (.string o) ∧ w1.drew.cell? ⟨g, 6, none⟩ = some (.bool had) ∧ w1.drew.cell? ⟨g, 7, none⟩ = some (.bool aft) ∧ w1.drew.cell? ⟨g, 8, none⟩ = some (.slice A0 len cap0) ∧ w1.drew.cell? ⟨g, 9, none⟩ = some (.int .i64 code) ∧ w1.drew.cell? ⟨g, 10, none⟩ = some (.bool found) ∧ w1.drew.cell? ⟨g, 11, none⟩ = some (.string ak) ∧ w1.drew.cell? ⟨g, 12, none⟩ = some (.string av) := ⟨x0, x1, x2, x3, x4, x5, x6, x7, x8, x9, x10, x11, x12⟩
  have hS1 : Hid (∀ w2, Turn No w1 w2 → w2.cell? ⟨g, 0, none⟩ = some (.int .u8 3) ∧ w2.cell? ⟨g, 1, none⟩ = some (.int .i64 id) ∧ w2.cell? ⟨g, 2, none⟩ = some (.int .u8 ok) ∧ w2.cell? ⟨g, 3, none⟩ = some (.string k) ∧ w2.cell? ⟨g, 4, none⟩ = some (.string v) ∧ w2.cell? ⟨g, 5, none⟩ = some (.string o) ∧ w2.cell? ⟨g, 6, none⟩ = some (.bool had) ∧ w2.cell? ⟨g, 7, none⟩ = some (.bool aft) ∧ w2.cell? ⟨g, 8, none⟩ = some (.slice A0 len cap0) ∧ w2.cell? ⟨g, 9, none⟩ = some (.int .i64 code) ∧ w2.cell? ⟨g, 10, none⟩ = some (.bool found) ∧ w2.cell? ⟨g, 11, none⟩ = some (.string ak) ∧ w2.cell? ⟨g, 12, none⟩ = some (.string av)) := Lib.hid fun w2 t => by
    have hc := (HB.out.2.no t).cell
    exact ⟨hc 0, hc 1, hc 2, hc 3, hc 4, hc 5, hc 6, hc 7, hc 8, hc 9, hc 10, hc 11, hc 12⟩
  cases z
  · refine wp_region_noPanic ?_
    refine wp_region_held_drew (S := fun W => W.cell? ⟨g, 0, none⟩ = some (.int .u8 3) ∧ W.cell? ⟨g, 1, none⟩ = some (.int .i64 id) ∧ W.cell? ⟨g, 2, none⟩ = some (.int .u8 ok) ∧ W.cell? ⟨g, 3, none⟩ = some (.string k) ∧ W.cell? ⟨g, 4, none⟩ = some (.string v) ∧ W.cell? ⟨g, 5, none⟩ = some (.string o) ∧ W.cell? ⟨g, 6, none⟩ = some (.bool had) ∧ W.cell? ⟨g, 7, none⟩ = some (.bool aft) ∧ W.cell? ⟨g, 8, none⟩ = some (.slice A0 len cap0) ∧ W.cell? ⟨g, 9, none⟩ = some (.int .i64 code) ∧ W.cell? ⟨g, 10, none⟩ = some (.bool found) ∧ W.cell? ⟨g, 11, none⟩ = some (.string ak) ∧ W.cell? ⟨g, 12, none⟩ = some (.string av)) (by kernel_rfl) hS0 (fun hHeld => ?_)
    refine wpAnyH_take (i := 0) (v := ?v0) rfl (by kernel_rfl) (by kernel_rfl) (by kernel_rfl) (fun _ _ _ h => h) (Or.inl ⟨by rfl, ?h0⟩) (by assumption) ?r0
    case h0 => (intro w hSw; (try dsimp only at hSw); first | (go_simp; done) | (go_simp; with_reducible rfl))
    try simp only [Act.put, List.getElem_toArray, List.getElem_cons_succ, List.getElem_cons_zero, List.setIfInBounds_toArray, List.set_cons_zero, List.set_cons_succ]
    refine wpAnyH_take (i := 1) (v := ?v1) rfl (by kernel_rfl) (by kernel_rfl) (by kernel_rfl) (fun _ _ _ h => h) (Or.inl ⟨by rfl, ?h1⟩) (by assumption) ?r1
    case h1 => (intro w hSw; (try dsimp only at hSw); first | (go_simp; done) | (go_simp; with_reducible rfl))
    try simp only [Act.put, List.getElem_toArray, List.getElem_cons_succ, List.getElem_cons_zero, List.setIfInBounds_toArray, List.set_cons_zero, List.set_cons_succ]
    refine wpAnyH_take (i := 2) (v := ?v2) rfl (by kernel_rfl) (by kernel_rfl) (by kernel_rfl) (fun _ _ _ h => h) (Or.inl ⟨by rfl, ?h2⟩) (by assumption) ?r2
    case h2 => (intro w hSw; (try dsimp only at hSw); first | (go_simp; done) | (go_simp; with_reducible rfl))
    try simp only [Act.put, List.getElem_toArray, List.getElem_cons_succ, List.getElem_cons_zero, List.setIfInBounds_toArray, List.set_cons_zero, List.set_cons_succ]
    refine wpAnyH_take (i := 3) (v := ?v3) rfl (by kernel_rfl) (by kernel_rfl) (by kernel_rfl) (fun _ _ _ h => h) (Or.inl ⟨by rfl, ?h3⟩) (by assumption) ?r3
    case h3 => (intro w hSw; (try dsimp only at hSw); first | (go_simp; done) | (go_simp; with_reducible rfl))
    try simp only [Act.put, List.getElem_toArray, List.getElem_cons_succ, List.getElem_cons_zero, List.setIfInBounds_toArray, List.set_cons_zero, List.set_cons_succ]
    refine wpAnyH_take (i := 4) (v := ?v4) rfl (by kernel_rfl) (by kernel_rfl) (by kernel_rfl) (fun _ _ _ h => h) (Or.inl ⟨by rfl, ?h4⟩) (by assumption) ?r4
    case h4 => (intro w hSw; (try dsimp only at hSw); first | (go_simp; done) | (go_simp; with_reducible rfl))
    try simp only [Act.put, List.getElem_toArray, List.getElem_cons_succ, List.getElem_cons_zero, List.setIfInBounds_toArray, List.set_cons_zero, List.set_cons_succ]
    refine wpAnyH_take (i := 5) (v := ?v5) rfl (by kernel_rfl) (by kernel_rfl) (by kernel_rfl) (fun _ _ _ h => h) (Or.inl ⟨by rfl, ?h5⟩) (by assumption) ?r5
    case h5 => (intro w hSw; (try dsimp only at hSw); first | (go_simp; done) | (go_simp; with_reducible rfl))
    try simp only [Act.put, List.getElem_toArray, List.getElem_cons_succ, List.getElem_cons_zero, List.setIfInBounds_toArray, List.set_cons_zero, List.set_cons_succ]
    refine wpAnyH_take (i := 6) (v := ?v6) rfl (by kernel_rfl) (by kernel_rfl) (by kernel_rfl) (fun _ _ _ h => h) (Or.inl ⟨by rfl, ?h6⟩) (by assumption) ?r6
    case h6 => (intro w hSw; (try dsimp only at hSw); first | (go_simp; done) | (go_simp; with_reducible rfl))
    try simp only [Act.put, List.getElem_toArray, List.getElem_cons_succ, List.getElem_cons_zero, List.setIfInBounds_toArray, List.set_cons_zero, List.set_cons_succ]
    refine wpAnyH_take (i := 7) (v := ?v7) rfl (by kernel_rfl) (by kernel_rfl) (by kernel_rfl) (fun _ _ _ h => h) (Or.inl ⟨by (first | (go_simp; done) | (simp [Region.wanted, yielded]; done)), ?h7⟩) (by assumption) ?r7
    case h7 => (intro w hSw; (try dsimp only at hSw); first | (go_simp; done) | (go_simp; with_reducible rfl))
    try simp only [Act.put, List.getElem_toArray, List.getElem_cons_succ, List.getElem_cons_zero, List.setIfInBounds_toArray, List.set_cons_zero, List.set_cons_succ]
    refine wpAnyH_take (i := 8) (v := ?v8) rfl (by kernel_rfl) (by kernel_rfl) (by kernel_rfl) (fun _ _ _ h => h) (Or.inl ⟨by (first | (go_simp; done) | (simp [Region.wanted, yielded]; done)), ?h8⟩) (by assumption) ?r8
    case h8 => (intro w hSw; (try dsimp only at hSw); first | (go_simp; done) | (go_simp; with_reducible rfl))
    try simp only [Act.put, List.getElem_toArray, List.getElem_cons_succ, List.getElem_cons_zero, List.setIfInBounds_toArray, List.set_cons_zero, List.set_cons_succ]
    refine wpAnyH_ready (rs := [9]) (by kernel_rfl) (by simp) ?_
    refine AllReadyH.cons rfl (fun K hK => ?_) AllReadyH.nil
    go_simp
    go_at_call 99
    refine (CB.out _).mono ?_
    rintro e wy ⟨rfl, hy0⟩
    have hy := Lib.hid ((Turn.refl No w1).drew.trans hy0)
    clear hy0
    try (go_wp2_with fail)
    refine hK.out _ _ ?_ (fun hHeld => ?_)
    · exact hS1.out _ hy.out
    clear hK K
    try simp only [Act.put, List.getElem_toArray, List.getElem_cons_succ, List.getElem_cons_zero, List.setIfInBounds_toArray, List.set_cons_zero, List.set_cons_succ]
    refine wpAnyH_take (i := 10) (v := ?v10) rfl (by kernel_rfl) (by kernel_rfl) (by kernel_rfl) (fun _ _ _ h => h) (Or.inl ⟨by (first | (go_simp; done) | (simp [Region.wanted, yielded]; done)), ?h10⟩) (by assumption) ?r10
    case h10 => (intro w hSw; (try dsimp only at hSw); first | (go_simp; done) | (go_simp; with_reducible rfl))
    try simp only [Act.put, List.getElem_toArray, List.getElem_cons_succ, List.getElem_cons_zero, List.setIfInBounds_toArray, List.set_cons_zero, List.set_cons_succ]
    refine wpAnyH_take (i := 11) (v := ?v11) rfl (by kernel_rfl) (by kernel_rfl) (by kernel_rfl) (fun _ _ _ h => h) (Or.inl ⟨by (first | (go_simp; done) | (simp [Region.wanted, yielded]; done)), ?h11⟩) (by assumption) ?r11
    case h11 => (intro w hSw; (try dsimp only at hSw); first | (go_simp; done) | (go_simp; with_reducible rfl))
    try simp only [Act.put, List.getElem_toArray, List.getElem_cons_succ, List.getElem_cons_zero, List.setIfInBounds_toArray, List.set_cons_zero, List.set_cons_succ]
    refine wpAnyH_take (i := 12) (v := undef) rfl (by kernel_rfl) (by kernel_rfl) (by kernel_rfl) (fun _ _ _ h => h) (Or.inr ⟨by (first | (go_simp; done) | (simp [Region.wanted, yielded]; done)), rfl⟩) (by assumption) ?_
    try simp only [Act.put, List.getElem_toArray, List.getElem_cons_succ, List.getElem_cons_zero, List.setIfInBounds_toArray, List.set_cons_zero, List.set_cons_succ]
    refine wpAnyH_take (i := 13) (v := undef) rfl (by kernel_rfl) (by kernel_rfl) (by kernel_rfl) (fun _ _ _ h => h) (Or.inr ⟨by (first | (go_simp; done) | (simp [Region.wanted, yielded]; done)), rfl⟩) (by assumption) ?_
    try simp only [Act.put, List.getElem_toArray, List.getElem_cons_succ, List.getElem_cons_zero, List.setIfInBounds_toArray, List.set_cons_zero, List.set_cons_succ]
    refine wpAnyH_take (i := 14) (v := undef) rfl (by kernel_rfl) (by kernel_rfl) (by kernel_rfl) (fun _ _ _ h => h) (Or.inr ⟨by (first | (go_simp; done) | (simp [Region.wanted, yielded]; done)), rfl⟩) (by assumption) ?_
    try simp only [Act.put, List.getElem_toArray, List.getElem_cons_succ, List.getElem_cons_zero, List.setIfInBounds_toArray, List.set_cons_zero, List.set_cons_succ]
    refine wpAnyH_take (i := 15) (v := undef) rfl (by kernel_rfl) (by kernel_rfl) (by kernel_rfl) (fun _ _ _ h => h) (Or.inr ⟨by (first | (go_simp; done) | (simp [Region.wanted, yielded]; done)), rfl⟩) (by assumption) ?_
    try simp only [Act.put, List.getElem_toArray, List.getElem_cons_succ, List.getElem_cons_zero, List.setIfInBounds_toArray, List.set_cons_zero, List.set_cons_succ]
    refine wpAnyH_take (i := 16) (v := undef) rfl (by kernel_rfl) (by kernel_rfl) (by kernel_rfl) (fun _ _ _ h => h) (Or.inr ⟨by (first | (go_simp; done) | (simp [Region.wanted, yielded]; done)), rfl⟩) (by assumption) ?_
    try simp only [Act.put, List.getElem_toArray, List.getElem_cons_succ, List.getElem_cons_zero, List.setIfInBounds_toArray, List.set_cons_zero, List.set_cons_succ]
    refine wpAnyH_take (i := 17) (v := undef) rfl (by kernel_rfl) (by kernel_rfl) (by kernel_rfl) (fun _ _ _ h => h) (Or.inr ⟨by (first | (go_simp; done) | (simp [Region.wanted, yielded]; done)), rfl⟩) (by assumption) ?_
    try simp only [Act.put, List.getElem_toArray, List.getElem_cons_succ, List.getElem_cons_zero, List.setIfInBounds_toArray, List.set_cons_zero, List.set_cons_succ]
    refine wpAnyH_take (i := 18) (v := undef) rfl (by kernel_rfl) (by kernel_rfl) (by kernel_rfl) (fun _ _ _ h => h) (Or.inr ⟨by (first | (go_simp; done) | (simp [Region.wanted, yielded]; done)), rfl⟩) (by assumption) ?_
    try simp only [Act.put, List.getElem_toArray, List.getElem_cons_succ, List.getElem_cons_zero, List.setIfInBounds_toArray, List.set_cons_zero, List.set_cons_succ]
    refine wpAnyH_take (i := 19) (v := ?v19) rfl (by kernel_rfl) (by kernel_rfl) (by kernel_rfl) (fun _ _ _ h => h) (Or.inl ⟨by (first | (go_simp; done) | (simp [Region.wanted, yielded]; done)), ?h19⟩) (by assumption) ?r19
    case h19 => (intro w hSw; (try dsimp only at hSw); first | (go_simp; done) | (go_simp; with_reducible rfl))
    try simp only [Act.put, List.getElem_toArray, List.getElem_cons_succ, List.getElem_cons_zero, List.setIfInBounds_toArray, List.set_cons_zero, List.set_cons_succ]
    refine wpAnyH_take (i := 20) (v := ?v20) rfl (by kernel_rfl) (by kernel_rfl) (by kernel_rfl) (fun _ _ _ h => h) (Or.inl ⟨by (first | (go_simp; done) | (simp [Region.wanted, yielded]; done)), ?h20⟩) (by assumption) ?r20
    case h20 => (intro w hSw; (try dsimp only at hSw); first | (go_simp; done) | (go_simp; with_reducible rfl))
    try simp only [Act.put, List.getElem_toArray, List.getElem_cons_succ, List.getElem_cons_zero, List.setIfInBounds_toArray, List.set_cons_zero, List.set_cons_succ]
    refine wpAnyH_done (by kernel_rfl) ?_ _
    refine NoPanic.normal ?_
    all_goals go_wp2_with fail
    all_goals go_ret
    all_goals exact ⟨by first | rfl | simp, HB.out.1.trans hy.out⟩
  · go_region_held3 (fun W => W.cell? ⟨g, 0, none⟩ = some (.int .u8 3) ∧ W.cell? ⟨g, 1, none⟩ = some (.int .i64 id) ∧ W.cell? ⟨g, 2, none⟩ = some (.int .u8 ok) ∧ W.cell? ⟨g, 3, none⟩ = some (.string k) ∧ W.cell? ⟨g, 4, none⟩ = some (.string v) ∧ W.cell? ⟨g, 5, none⟩ = some (.string o) ∧ W.cell? ⟨g, 6, none⟩ = some (.bool had) ∧ W.cell? ⟨g, 7, none⟩ = some (.bool aft) ∧ W.cell? ⟨g, 8, none⟩ = some (.slice A0 len cap0) ∧ W.cell? ⟨g, 9, none⟩ = some (.int .i64 code) ∧ W.cell? ⟨g, 10, none⟩ = some (.bool found) ∧ W.cell? ⟨g, 11, none⟩ = some (.string ak) ∧ W.cell? ⟨g, 12, none⟩ = some (.string av)) (first | (with_reducible exact hS0) | (with_reducible exact hS1.out _ hz.out) | (with_reducible exact hS1.out _ hy.out)) (first | (go_at_call 99; (with_reducible refine (CB.out _).mono ?_); rintro e wy ⟨rfl, hy0⟩; have hy := Lib.hid ((Turn.refl No w1).drew.trans hy0); clear hy0) | (go_at_call 74; (with_reducible refine (CA.out _ (HB.out.1.trans hy.out)).mono ?_); rintro e wz ⟨rfl, hz0⟩; have hz := Lib.hid (hy.out.trans hz0); clear hz0))
    go_wp2_with fail
    go_ret
    exact ⟨by simp, HB.out.1.trans hz.out⟩
set_option maxHeartbeats 2000000 in
set_option maxRecDepth 100000 in
theorem rf_20 (l : List Ev) (A : Option Addr) (cap : Nat) (kind : Int) (id ok : Int) (k v o : ByteArray) (had aft : Bool) (A0 : Option Addr) (len cap0 : Nat) (code : Int) (found : Bool) (ak av : ByteArray) (a2 : Ans) (hid : ¬ id < 1) (k1 : ¬ kind = 1) (k2 : ¬ kind = 2) (k3 : ¬ kind = 3) (hl : l.length ≤ 100000) (w : World) (hR : Row w A (ecs l))
    (h1 : cnt 1 id l = 1) (h2 : cnt 2 id l = 1) (h3 : cnt 3 id l = 0) (h4 : stA l id = a2) :
    Calls Try.prog 71 #[.slice A l.length cap, .agg #[.int .u8 kind, .int .i64 id, .int .u8 ok, .string k, .string v, .string o, .bool had, .bool aft, .slice A0 len cap0, .int .i64 code, .bool found, .string ak, .string av]] w fun r w' => r = .returned (.bool (false)) ∧ Turn No w w' := by
  have HB : Hid (Turn No w (w.alloc (.cells #[.int .u8 kind, .int .i64 id, .int .u8 ok, .string k, .string v, .string o, .bool had, .bool aft, .slice A0 len cap0, .int .i64 code, .bool found, .string ak, .string av] 40)) ∧ At (w.alloc (.cells #[.int .u8 kind, .int .i64 id, .int .u8 ok, .string k, .string v, .string o, .bool had, .bool aft, .slice A0 len cap0, .int .i64 code, .bool found, .string ak, .string av] 40)) w.heap.size (.cells #[.int .u8 kind, .int .i64 id, .int .u8 ok, .string k, .string v, .string o, .bool had, .bool aft, .slice A0 len cap0, .int .i64 code, .bool found, .string ak, .string av] 40 (0, 0))) := Lib.hid ⟨(Turn.refl _ _).alloc _, At.new _ _⟩
  have C1 := count_any 1 id l A cap (w.alloc (.cells #[.int .u8 kind, .int .i64 id, .int .u8 ok, .string k, .string v, .string o, .bool had, .bool aft, .slice A0 len cap0, .int .i64 code, .bool found, .string ak, .string av] 40)) (hR.turn HB.out.1 fun _ _ _ h => h) hl
  rw [h1] at C1
  replace C1 := Lib.hid C1
  have C2 := count_any 2 id l A cap (w.alloc (.cells #[.int .u8 kind, .int .i64 id, .int .u8 ok, .string k, .string v, .string o, .bool had, .bool aft, .slice A0 len cap0, .int .i64 code, .bool found, .string ak, .string av] 40)) (hR.turn HB.out.1 fun _ _ _ h => h) hl
  rw [h2] at C2
  replace C2 := Lib.hid C2
  have C3 := count_any 3 id l A cap (w.alloc (.cells #[.int .u8 kind, .int .i64 id, .int .u8 ok, .string k, .string v, .string o, .bool had, .bool aft, .slice A0 len cap0, .int .i64 code, .bool found, .string ak, .string av] 40)) (hR.turn HB.out.1 fun _ _ _ h => h) hl
  rw [h3] at C3
  replace C3 := Lib.hid C3
  have CB : Hid (∀ W, Calls Try.prog 99 #[.agg #[.int .u8 ok, .string k, .string v, .string o, .bool had, .bool aft, .slice A0 len cap0]] W fun e w' => e = .returned (.bool (zeroB ok k v o had aft len)) ∧ Turn No W w') := Lib.hid fun W => bare_any ok k v o had aft A0 len cap0 W
  obtain ⟨c2, f2, kk2, vv2⟩ := a2
  have CA : Hid (∀ W, Turn No w W → Calls Try.prog 74 #[.slice A l.length cap, .int .i64 id] W fun e w' => e = .returned (.agg #[.int .i64 c2, .bool f2, .string kk2, .string vv2]) ∧ Turn No W w') := Lib.hid fun W t => by have := refans_any id l A cap W (hR.turn t fun _ _ _ h => h) hl; rwa [h4] at this
  clear h1 h2 h3 h4 hR hl
  have k1 : (kind == 1) = false := by simpa using k1
  have k2 : (kind == 2) = false := by simpa using k2
  have k3 : (kind == 3) = false := by simpa using k3
  have hid2 : decide (id < 1) = false := decide_eq_false hid
  go_enter Try.func71, Try.ntmps71
  go_upto_region 1 with fail
  generalize w.alloc (.cells #[.int .u8 kind, .int .i64 id, .int .u8 ok, .string k, .string v, .string o, .bool had, .bool aft, .slice A0 len cap0, .int .i64 code, .bool found, .string ak, .string av] 40) = w1 at HB C1 C2 C3 ⊢
  generalize w.heap.size = g at HB ⊢
  have x0 : w1.cell? ⟨g, 0, none⟩ = some (.int .u8 kind) := HB.out.2.cell 0
  have x1 : w1.cell? ⟨g, 1, none⟩ = some (.int .i64 id) := HB.out.2.cell 1
  have x2 : w1.cell? ⟨g, 2, none⟩ = some (.int .u8 ok) := HB.out.2.cell 2
  have x3 : w1.cell? ⟨g, 3, none⟩ = some (.string k) := HB.out.2.cell 3
  have x4 : w1.cell? ⟨g, 4, none⟩ = some (.string v) := HB.out.2.cell 4
  have x5 : w1.cell? ⟨g, 5, none⟩ = some (.string o) := HB.out.2.cell 5
  have x6 : w1.cell? ⟨g, 6, none⟩ = some (.bool had) := HB.out.2.cell 6
  have x7 : w1.cell? ⟨g, 7, none⟩ = some (.bool aft) := HB.out.2.cell 7
  have x8 : w1.cell? ⟨g, 8, none⟩ = some (.slice A0 len cap0) := HB.out.2.cell 8
  have x9 : w1.cell? ⟨g, 9, none⟩ = some (.int .i64 code) := HB.out.2.cell 9
  have x10 : w1.cell? ⟨g, 10, none⟩ = some (.bool found) := HB.out.2.cell 10
  have x11 : w1.cell? ⟨g, 11, none⟩ = some (.string ak) := HB.out.2.cell 11
  have x12 : w1.cell? ⟨g, 12, none⟩ = some (.string av) := HB.out.2.cell 12
  go_wp2_with (first | (go_at_call 73; (with_reducible refine C1.out.mono ?_); rintro e w9 ⟨rfl, hw⟩; replace hw := hw.symm; subst hw) | (go_at_call 73; (with_reducible refine C2.out.mono ?_); rintro e w9 ⟨rfl, hw⟩; replace hw := hw.symm; subst hw) | (go_at_call 73; (with_reducible refine C3.out.mono ?_); rintro e w9 ⟨rfl, hw⟩; replace hw := hw.symm; subst hw) | (go_at_call 99; (with_reducible refine (CB.out _).mono ?_); rintro e w10 ⟨rfl, ht⟩; have HT := Lib.hid (HB.out.1.trans ht); clear ht))
  go_ret
  exact ⟨rfl, HB.out.1⟩
set_option maxHeartbeats 2000000 in
set_option maxRecDepth 100000 in
theorem rf_31 (l : List Ev) (A : Option Addr) (cap : Nat) (id ok : Int) (k v o : ByteArray) (had aft : Bool) (A0 : Option Addr) (len cap0 : Nat) (code : Int) (found : Bool) (ak av : ByteArray) (a2 : Ans) (hid : ¬ id < 1) (hl : l.length ≤ 100000) (w : World) (hR : Row w A (ecs l))
    (h1 : cnt 1 id l = 1) (h2 : cnt 2 id l = 1) (h3 : cnt 3 id l = 1) (h4 : stA l id = a2) :
    Calls Try.prog 71 #[.slice A l.length cap, .agg #[.int .u8 1, .int .i64 id, .int .u8 ok, .string k, .string v, .string o, .bool had, .bool aft, .slice A0 len cap0, .int .i64 code, .bool found, .string ak, .string av]] w fun r w' => r = .returned (.bool (false)) ∧ Turn No w w' := by
  have HB : Hid (Turn No w (w.alloc (.cells #[.int .u8 1, .int .i64 id, .int .u8 ok, .string k, .string v, .string o, .bool had, .bool aft, .slice A0 len cap0, .int .i64 code, .bool found, .string ak, .string av] 40)) ∧ At (w.alloc (.cells #[.int .u8 1, .int .i64 id, .int .u8 ok, .string k, .string v, .string o, .bool had, .bool aft, .slice A0 len cap0, .int .i64 code, .bool found, .string ak, .string av] 40)) w.heap.size (.cells #[.int .u8 1, .int .i64 id, .int .u8 ok, .string k, .string v, .string o, .bool had, .bool aft, .slice A0 len cap0, .int .i64 code, .bool found, .string ak, .string av] 40 (0, 0))) := Lib.hid ⟨(Turn.refl _ _).alloc _, At.new _ _⟩
  have C1 := count_any 1 id l A cap (w.alloc (.cells #[.int .u8 1, .int .i64 id, .int .u8 ok, .string k, .string v, .string o, .bool had, .bool aft, .slice A0 len cap0, .int .i64 code, .bool found, .string ak, .string av] 40)) (hR.turn HB.out.1 fun _ _ _ h => h) hl
  rw [h1] at C1
  replace C1 := Lib.hid C1
  have C2 := count_any 2 id l A cap (w.alloc (.cells #[.int .u8 1, .int .i64 id, .int .u8 ok, .string k, .string v, .string o, .bool had, .bool aft, .slice A0 len cap0, .int .i64 code, .bool found, .string ak, .string av] 40)) (hR.turn HB.out.1 fun _ _ _ h => h) hl
  rw [h2] at C2
  replace C2 := Lib.hid C2
  have C3 := count_any 3 id l A cap (w.alloc (.cells #[.int .u8 1, .int .i64 id, .int .u8 ok, .string k, .string v, .string o, .bool had, .bool aft, .slice A0 len cap0, .int .i64 code, .bool found, .string ak, .string av] 40)) (hR.turn HB.out.1 fun _ _ _ h => h) hl
  rw [h3] at C3
  replace C3 := Lib.hid C3
  have CB : Hid (∀ W, Calls Try.prog 99 #[.agg #[.int .u8 ok, .string k, .string v, .string o, .bool had, .bool aft, .slice A0 len cap0]] W fun e w' => e = .returned (.bool (zeroB ok k v o had aft len)) ∧ Turn No W w') := Lib.hid fun W => bare_any ok k v o had aft A0 len cap0 W
  obtain ⟨c2, f2, kk2, vv2⟩ := a2
  have CA : Hid (∀ W, Turn No w W → Calls Try.prog 74 #[.slice A l.length cap, .int .i64 id] W fun e w' => e = .returned (.agg #[.int .i64 c2, .bool f2, .string kk2, .string vv2]) ∧ Turn No W w') := Lib.hid fun W t => by have := refans_any id l A cap W (hR.turn t fun _ _ _ h => h) hl; rwa [h4] at this
  clear h1 h2 h3 h4 hR hl
  have hid2 : decide (id < 1) = false := decide_eq_false hid
  go_enter Try.func71, Try.ntmps71
  go_upto_region 1 with fail
  generalize w.alloc (.cells #[.int .u8 1, .int .i64 id, .int .u8 ok, .string k, .string v, .string o, .bool had, .bool aft, .slice A0 len cap0, .int .i64 code, .bool found, .string ak, .string av] 40) = w1 at HB C1 C2 C3 ⊢
  generalize w.heap.size = g at HB ⊢
  have x0 : w1.cell? ⟨g, 0, none⟩ = some (.int .u8 1) := HB.out.2.cell 0
  have x1 : w1.cell? ⟨g, 1, none⟩ = some (.int .i64 id) := HB.out.2.cell 1
  have x2 : w1.cell? ⟨g, 2, none⟩ = some (.int .u8 ok) := HB.out.2.cell 2
  have x3 : w1.cell? ⟨g, 3, none⟩ = some (.string k) := HB.out.2.cell 3
  have x4 : w1.cell? ⟨g, 4, none⟩ = some (.string v) := HB.out.2.cell 4
  have x5 : w1.cell? ⟨g, 5, none⟩ = some (.string o) := HB.out.2.cell 5
  have x6 : w1.cell? ⟨g, 6, none⟩ = some (.bool had) := HB.out.2.cell 6
  have x7 : w1.cell? ⟨g, 7, none⟩ = some (.bool aft) := HB.out.2.cell 7
  have x8 : w1.cell? ⟨g, 8, none⟩ = some (.slice A0 len cap0) := HB.out.2.cell 8
  have x9 : w1.cell? ⟨g, 9, none⟩ = some (.int .i64 code) := HB.out.2.cell 9
  have x10 : w1.cell? ⟨g, 10, none⟩ = some (.bool found) := HB.out.2.cell 10
  have x11 : w1.cell? ⟨g, 11, none⟩ = some (.string ak) := HB.out.2.cell 11
  have x12 : w1.cell? ⟨g, 12, none⟩ = some (.string av) := HB.out.2.cell 12
  go_wp2_with (first | (go_at_call 73; (with_reducible refine C1.out.mono ?_); rintro e w9 ⟨rfl, hw⟩; replace hw := hw.symm; subst hw) | (go_at_call 73; (with_reducible refine C2.out.mono ?_); rintro e w9 ⟨rfl, hw⟩; replace hw := hw.symm; subst hw) | (go_at_call 73; (with_reducible refine C3.out.mono ?_); rintro e w9 ⟨rfl, hw⟩; replace hw := hw.symm; subst hw) | (go_at_call 99; (with_reducible refine (CB.out _).mono ?_); rintro e w10 ⟨rfl, ht⟩; have HT := Lib.hid (HB.out.1.trans ht); clear ht))
  go_ret
  exact ⟨rfl, HB.out.1⟩
set_option maxHeartbeats 2000000 in
set_option maxRecDepth 100000 in
theorem rf_32 (l : List Ev) (A : Option Addr) (cap : Nat) (id ok : Int) (k v o : ByteArray) (had aft : Bool) (A0 : Option Addr) (len cap0 : Nat) (code : Int) (found : Bool) (ak av : ByteArray) (a2 : Ans) (hid : ¬ id < 1) (hl : l.length ≤ 100000) (w : World) (hR : Row w A (ecs l))
    (h1 : cnt 1 id l = 1) (h2 : cnt 2 id l = 1) (h3 : cnt 3 id l = 1) (h4 : stA l id = a2) :
    Calls Try.prog 71 #[.slice A l.length cap, .agg #[.int .u8 2, .int .i64 id, .int .u8 ok, .string k, .string v, .string o, .bool had, .bool aft, .slice A0 len cap0, .int .i64 code, .bool found, .string ak, .string av]] w fun r w' => r = .returned (.bool (false)) ∧ Turn No w w' := by
  have HB : Hid (Turn No w (w.alloc (.cells #[.int .u8 2, .int .i64 id, .int .u8 ok, .string k, .string v, .string o, .bool had, .bool aft, .slice A0 len cap0, .int .i64 code, .bool found, .string ak, .string av] 40)) ∧ At (w.alloc (.cells #[.int .u8 2, .int .i64 id, .int .u8 ok, .string k, .string v, .string o, .bool had, .bool aft, .slice A0 len cap0, .int .i64 code, .bool found, .string ak, .string av] 40)) w.heap.size (.cells #[.int .u8 2, .int .i64 id, .int .u8 ok, .string k, .string v, .string o, .bool had, .bool aft, .slice A0 len cap0, .int .i64 code, .bool found, .string ak, .string av] 40 (0, 0))) := Lib.hid ⟨(Turn.refl _ _).alloc _, At.new _ _⟩
  have C1 := count_any 1 id l A cap (w.alloc (.cells #[.int .u8 2, .int .i64 id, .int .u8 ok, .string k, .string v, .string o, .bool had, .bool aft, .slice A0 len cap0, .int .i64 code, .bool found, .string ak, .string av] 40)) (hR.turn HB.out.1 fun _ _ _ h => h) hl
  rw [h1] at C1
  replace C1 := Lib.hid C1
  have C2 := count_any 2 id l A cap (w.alloc (.cells #[.int .u8 2, .int .i64 id, .int .u8 ok, .string k, .string v, .string o, .bool had, .bool aft, .slice A0 len cap0, .int .i64 code, .bool found, .string ak, .string av] 40)) (hR.turn HB.out.1 fun _ _ _ h => h) hl
  rw [h2] at C2
  replace C2 := Lib.hid C2
  have C3 := count_any 3 id l A cap (w.alloc (.cells #[.int .u8 2, .int .i64 id, .int .u8 ok, .string k, .string v, .string o, .bool had, .bool aft, .slice A0 len cap0, .int .i64 code, .bool found, .string ak, .string av] 40)) (hR.turn HB.out.1 fun _ _ _ h => h) hl
  rw [h3] at C3
  replace C3 := Lib.hid C3
  have CB : Hid (∀ W, Calls Try.prog 99 #[.agg #[.int .u8 ok, .string k, .string v, .string o, .bool had, .bool aft, .slice A0 len cap0]] W fun e w' => e = .returned (.bool (zeroB ok k v o had aft len)) ∧ Turn No W w') := Lib.hid fun W => bare_any ok k v o had aft A0 len cap0 W
  obtain ⟨c2, f2, kk2, vv2⟩ := a2
  have CA : Hid (∀ W, Turn No w W → Calls Try.prog 74 #[.slice A l.length cap, .int .i64 id] W fun e w' => e = .returned (.agg #[.int .i64 c2, .bool f2, .string kk2, .string vv2]) ∧ Turn No W w') := Lib.hid fun W t => by have := refans_any id l A cap W (hR.turn t fun _ _ _ h => h) hl; rwa [h4] at this
  clear h1 h2 h3 h4 hR hl
  have hid2 : decide (id < 1) = false := decide_eq_false hid
  go_enter Try.func71, Try.ntmps71
  go_upto_region 1 with fail
  generalize w.alloc (.cells #[.int .u8 2, .int .i64 id, .int .u8 ok, .string k, .string v, .string o, .bool had, .bool aft, .slice A0 len cap0, .int .i64 code, .bool found, .string ak, .string av] 40) = w1 at HB C1 C2 C3 ⊢
  generalize w.heap.size = g at HB ⊢
  have x0 : w1.cell? ⟨g, 0, none⟩ = some (.int .u8 2) := HB.out.2.cell 0
  have x1 : w1.cell? ⟨g, 1, none⟩ = some (.int .i64 id) := HB.out.2.cell 1
  have x2 : w1.cell? ⟨g, 2, none⟩ = some (.int .u8 ok) := HB.out.2.cell 2
  have x3 : w1.cell? ⟨g, 3, none⟩ = some (.string k) := HB.out.2.cell 3
  have x4 : w1.cell? ⟨g, 4, none⟩ = some (.string v) := HB.out.2.cell 4
  have x5 : w1.cell? ⟨g, 5, none⟩ = some (.string o) := HB.out.2.cell 5
  have x6 : w1.cell? ⟨g, 6, none⟩ = some (.bool had) := HB.out.2.cell 6
  have x7 : w1.cell? ⟨g, 7, none⟩ = some (.bool aft) := HB.out.2.cell 7
  have x8 : w1.cell? ⟨g, 8, none⟩ = some (.slice A0 len cap0) := HB.out.2.cell 8
  have x9 : w1.cell? ⟨g, 9, none⟩ = some (.int .i64 code) := HB.out.2.cell 9
  have x10 : w1.cell? ⟨g, 10, none⟩ = some (.bool found) := HB.out.2.cell 10
  have x11 : w1.cell? ⟨g, 11, none⟩ = some (.string ak) := HB.out.2.cell 11
  have x12 : w1.cell? ⟨g, 12, none⟩ = some (.string av) := HB.out.2.cell 12
  go_wp2_with (first | (go_at_call 73; (with_reducible refine C1.out.mono ?_); rintro e w9 ⟨rfl, hw⟩; replace hw := hw.symm; subst hw) | (go_at_call 73; (with_reducible refine C2.out.mono ?_); rintro e w9 ⟨rfl, hw⟩; replace hw := hw.symm; subst hw) | (go_at_call 73; (with_reducible refine C3.out.mono ?_); rintro e w9 ⟨rfl, hw⟩; replace hw := hw.symm; subst hw) | (go_at_call 99; (with_reducible refine (CB.out _).mono ?_); rintro e w10 ⟨rfl, ht⟩; have HT := Lib.hid (HB.out.1.trans ht); clear ht))
  go_ret
  exact ⟨rfl, HB.out.1⟩
set_option maxHeartbeats 2000000 in
set_option maxRecDepth 100000 in
theorem rf_33 (l : List Ev) (A : Option Addr) (cap : Nat) (id ok : Int) (k v o : ByteArray) (had aft : Bool) (A0 : Option Addr) (len cap0 : Nat) (code : Int) (found : Bool) (ak av : ByteArray) (a2 : Ans) (hid : ¬ id < 1) (hl : l.length ≤ 100000) (w : World) (hR : Row w A (ecs l))
    (h1 : cnt 1 id l = 1) (h2 : cnt 2 id l = 1) (h3 : cnt 3 id l = 1) (h4 : stA l id = a2) :
    Calls Try.prog 71 #[.slice A l.length cap, .agg #[.int .u8 3, .int .i64 id, .int .u8 ok, .string k, .string v, .string o, .bool had, .bool aft, .slice A0 len cap0, .int .i64 code, .bool found, .string ak, .string av]] w fun r w' => r = .returned (.bool (false)) ∧ Turn No w w' := by
  have HB : Hid (Turn No w (w.alloc (.cells #[.int .u8 3, .int .i64 id, .int .u8 ok, .string k, .string v, .string o, .bool had, .bool aft, .slice A0 len cap0, .int .i64 code, .bool found, .string ak, .string av] 40)) ∧ At (w.alloc (.cells #[.int .u8 3, .int .i64 id, .int .u8 ok, .string k, .string v, .string o, .bool had, .bool aft, .slice A0 len cap0, .int .i64 code, .bool found, .string ak, .string av] 40)) w.heap.size (.cells #[.int .u8 3, .int .i64 id, .int .u8 ok, .string k, .string v, .string o, .bool had, .bool aft, .slice A0 len cap0, .int .i64 code, .bool found, .string ak, .string av] 40 (0, 0))) := Lib.hid ⟨(Turn.refl _ _).alloc _, At.new _ _⟩
  have C1 := count_any 1 id l A cap (w.alloc (.cells #[.int .u8 3, .int .i64 id, .int .u8 ok, .string k, .string v, .string o, .bool had, .bool aft, .slice A0 len cap0, .int .i64 code, .bool found, .string ak, .string av] 40)) (hR.turn HB.out.1 fun _ _ _ h => h) hl
  rw [h1] at C1
  replace C1 := Lib.hid C1
  have C2 := count_any 2 id l A cap (w.alloc (.cells #[.int .u8 3, .int .i64 id, .int .u8 ok, .string k, .string v, .string o, .bool had, .bool aft, .slice A0 len cap0, .int .i64 code, .bool found, .string ak, .string av] 40)) (hR.turn HB.out.1 fun _ _ _ h => h) hl
  rw [h2] at C2
  replace C2 := Lib.hid C2
  have C3 := count_any 3 id l A cap (w.alloc (.cells #[.int .u8 3, .int .i64 id, .int .u8 ok, .string k, .string v, .string o, .bool had, .bool aft, .slice A0 len cap0, .int .i64 code, .bool found, .string ak, .string av] 40)) (hR.turn HB.out.1 fun _ _ _ h => h) hl
  rw [h3] at C3
  replace C3 := Lib.hid C3
  have CB : Hid (∀ W, Calls Try.prog 99 #[.agg #[.int .u8 ok, .string k, .string v, .string o, .bool had, .bool aft, .slice A0 len cap0]] W fun e w' => e = .returned (.bool (zeroB ok k v o had aft len)) ∧ Turn No W w') := Lib.hid fun W => bare_any ok k v o had aft A0 len cap0 W
  obtain ⟨c2, f2, kk2, vv2⟩ := a2
  have CA : Hid (∀ W, Turn No w W → Calls Try.prog 74 #[.slice A l.length cap, .int .i64 id] W fun e w' => e = .returned (.agg #[.int .i64 c2, .bool f2, .string kk2, .string vv2]) ∧ Turn No W w') := Lib.hid fun W t => by have := refans_any id l A cap W (hR.turn t fun _ _ _ h => h) hl; rwa [h4] at this
  clear h1 h2 h3 h4 hR hl
  have hid2 : decide (id < 1) = false := decide_eq_false hid
  go_enter Try.func71, Try.ntmps71
  go_upto_region 1 with fail
  generalize w.alloc (.cells #[.int .u8 3, .int .i64 id, .int .u8 ok, .string k, .string v, .string o, .bool had, .bool aft, .slice A0 len cap0, .int .i64 code, .bool found, .string ak, .string av] 40) = w1 at HB C1 C2 C3 ⊢
  generalize w.heap.size = g at HB ⊢
  have x0 : w1.cell? ⟨g, 0, none⟩ = some (.int .u8 3) := HB.out.2.cell 0
  have x1 : w1.cell? ⟨g, 1, none⟩ = some (.int .i64 id) := HB.out.2.cell 1
  have x2 : w1.cell? ⟨g, 2, none⟩ = some (.int .u8 ok) := HB.out.2.cell 2
  have x3 : w1.cell? ⟨g, 3, none⟩ = some (.string k) := HB.out.2.cell 3
  have x4 : w1.cell? ⟨g, 4, none⟩ = some (.string v) := HB.out.2.cell 4
  have x5 : w1.cell? ⟨g, 5, none⟩ = some (.string o) := HB.out.2.cell 5
  have x6 : w1.cell? ⟨g, 6, none⟩ = some (.bool had) := HB.out.2.cell 6
  have x7 : w1.cell? ⟨g, 7, none⟩ = some (.bool aft) := HB.out.2.cell 7
  have x8 : w1.cell? ⟨g, 8, none⟩ = some (.slice A0 len cap0) := HB.out.2.cell 8
  have x9 : w1.cell? ⟨g, 9, none⟩ = some (.int .i64 code) := HB.out.2.cell 9
  have x10 : w1.cell? ⟨g, 10, none⟩ = some (.bool found) := HB.out.2.cell 10
  have x11 : w1.cell? ⟨g, 11, none⟩ = some (.string ak) := HB.out.2.cell 11
  have x12 : w1.cell? ⟨g, 12, none⟩ = some (.string av) := HB.out.2.cell 12
  go_upto_region 12 with (first | (go_at_call 73; (with_reducible refine C1.out.mono ?_); rintro e w9 ⟨rfl, hw⟩; replace hw := hw.symm; subst hw) | (go_at_call 73; (with_reducible refine C2.out.mono ?_); rintro e w9 ⟨rfl, hw⟩; replace hw := hw.symm; subst hw) | (go_at_call 73; (with_reducible refine C3.out.mono ?_); rintro e w9 ⟨rfl, hw⟩; replace hw := hw.symm; subst hw) | (go_at_call 99; (with_reducible refine (CB.out _).mono ?_); rintro e w10 ⟨rfl, ht⟩; have HT := Lib.hid (HB.out.1.trans ht); clear ht))
  go_region
  all_goals go_wp2_with fail
  all_goals go_ret
  all_goals exact ⟨rfl, HB.out.1.drew⟩
set_option maxHeartbeats 2000000 in
set_option maxRecDepth 100000 in
theorem rf_30 (l : List Ev) (A : Option Addr) (cap : Nat) (kind : Int) (id ok : Int) (k v o : ByteArray) (had aft : Bool) (A0 : Option Addr) (len cap0 : Nat) (code : Int) (found : Bool) (ak av : ByteArray) (a2 : Ans) (hid : ¬ id < 1) (k1 : ¬ kind = 1) (k2 : ¬ kind = 2) (k3 : ¬ kind = 3) (hl : l.length ≤ 100000) (w : World) (hR : Row w A (ecs l))
    (h1 : cnt 1 id l = 1) (h2 : cnt 2 id l = 1) (h3 : cnt 3 id l = 1) (h4 : stA l id = a2) :
    Calls Try.prog 71 #[.slice A l.length cap, .agg #[.int .u8 kind, .int .i64 id, .int .u8 ok, .string k, .string v, .string o, .bool had, .bool aft, .slice A0 len cap0, .int .i64 code, .bool found, .string ak, .string av]] w fun r w' => r = .returned (.bool (false)) ∧ Turn No w w' := by
  have HB : Hid (Turn No w (w.alloc (.cells #[.int .u8 kind, .int .i64 id, .int .u8 ok, .string k, .string v, .string o, .bool had, .bool aft, .slice A0 len cap0, .int .i64 code, .bool found, .string ak, .string av] 40)) ∧ At (w.alloc (.cells #[.int .u8 kind, .int .i64 id, .int .u8 ok, .string k, .string v, .string o, .bool had, .bool aft, .slice A0 len cap0, .int .i64 code, .bool found, .string ak, .string av] 40)) w.heap.size (.cells #[.int .u8 kind, .int .i64 id, .int .u8 ok, .string k, .string v, .string o, .bool had, .bool aft, .slice A0 len cap0, .int .i64 code, .bool found, .string ak, .string av] 40 (0, 0))) := Lib.hid ⟨(Turn.refl _ _).alloc _, At.new _ _⟩
  have C1 := count_any 1 id l A cap (w.alloc (.cells #[.int .u8 kind, .int .i64 id, .int .u8 ok, .string k, .string v, .string o, .bool had, .bool aft, .slice A0 len cap0, .int .i64 code, .bool found, .string ak, .string av] 40)) (hR.turn HB.out.1 fun _ _ _ h => h) hl
  rw [h1] at C1
  replace C1 := Lib.hid C1
  have C2 := count_any 2 id l A cap (w.alloc (.cells #[.int .u8 kind, .int .i64 id, .int .u8 ok, .string k, .string v, .string o, .bool had, .bool aft, .slice A0 len cap0, .int .i64 code, .bool found, .string ak, .string av] 40)) (hR.turn HB.out.1 fun _ _ _ h => h) hl
  rw [h2] at C2
  replace C2 := Lib.hid C2
  have C3 := count_any 3 id l A cap (w.alloc (.cells #[.int .u8 kind, .int .i64 id, .int .u8 ok, .string k, .string v, .string o, .bool had, .bool aft, .slice A0 len cap0, .int .i64 code, .bool found, .string ak, .string av] 40)) (hR.turn HB.out.1 fun _ _ _ h => h) hl
  rw [h3] at C3
  replace C3 := Lib.hid C3
  have CB : Hid (∀ W, Calls Try.prog 99 #[.agg #[.int .u8 ok, .string k, .string v, .string o, .bool had, .bool aft, .slice A0 len cap0]] W fun e w' => e = .returned (.bool (zeroB ok k v o had aft len)) ∧ Turn No W w') := Lib.hid fun W => bare_any ok k v o had aft A0 len cap0 W
  obtain ⟨c2, f2, kk2, vv2⟩ := a2
  have CA : Hid (∀ W, Turn No w W → Calls Try.prog 74 #[.slice A l.length cap, .int .i64 id] W fun e w' => e = .returned (.agg #[.int .i64 c2, .bool f2, .string kk2, .string vv2]) ∧ Turn No W w') := Lib.hid fun W t => by have := refans_any id l A cap W (hR.turn t fun _ _ _ h => h) hl; rwa [h4] at this
  clear h1 h2 h3 h4 hR hl
  have k1 : (kind == 1) = false := by simpa using k1
  have k2 : (kind == 2) = false := by simpa using k2
  have k3 : (kind == 3) = false := by simpa using k3
  have hid2 : decide (id < 1) = false := decide_eq_false hid
  go_enter Try.func71, Try.ntmps71
  go_upto_region 1 with fail
  generalize w.alloc (.cells #[.int .u8 kind, .int .i64 id, .int .u8 ok, .string k, .string v, .string o, .bool had, .bool aft, .slice A0 len cap0, .int .i64 code, .bool found, .string ak, .string av] 40) = w1 at HB C1 C2 C3 ⊢
  generalize w.heap.size = g at HB ⊢
  have x0 : w1.cell? ⟨g, 0, none⟩ = some (.int .u8 kind) := HB.out.2.cell 0
  have x1 : w1.cell? ⟨g, 1, none⟩ = some (.int .i64 id) := HB.out.2.cell 1
  have x2 : w1.cell? ⟨g, 2, none⟩ = some (.int .u8 ok) := HB.out.2.cell 2
  have x3 : w1.cell? ⟨g, 3, none⟩ = some (.string k) := HB.out.2.cell 3
  have x4 : w1.cell? ⟨g, 4, none⟩ = some (.string v) := HB.out.2.cell 4
  have x5 : w1.cell? ⟨g, 5, none⟩ = some (.string o) := HB.out.2.cell 5
  have x6 : w1.cell? ⟨g, 6, none⟩ = some (.bool had) := HB.out.2.cell 6
  have x7 : w1.cell? ⟨g, 7, none⟩ = some (.bool aft) := HB.out.2.cell 7
  have x8 : w1.cell? ⟨g, 8, none⟩ = some (.slice A0 len cap0) := HB.out.2.cell 8
  have x9 : w1.cell? ⟨g, 9, none⟩ = some (.int .i64 code) := HB.out.2.cell 9
  have x10 : w1.cell? ⟨g, 10, none⟩ = some (.bool found) := HB.out.2.cell 10
  have x11 : w1.cell? ⟨g, 11, none⟩ = some (.string ak) := HB.out.2.cell 11
  have x12 : w1.cell? ⟨g, 12, none⟩ = some (.string av) := HB.out.2.cell 12
  go_wp2_with (first | (go_at_call 73; (with_reducible refine C1.out.mono ?_); rintro e w9 ⟨rfl, hw⟩; replace hw := hw.symm; subst hw) | (go_at_call 73; (with_reducible refine C2.out.mono ?_); rintro e w9 ⟨rfl, hw⟩; replace hw := hw.symm; subst hw) | (go_at_call 73; (with_reducible refine C3.out.mono ?_); rintro e w9 ⟨rfl, hw⟩; replace hw := hw.symm; subst hw) | (go_at_call 99; (with_reducible refine (CB.out _).mono ?_); rintro e w10 ⟨rfl, ht⟩; have HT := Lib.hid (HB.out.1.trans ht); clear ht))
  go_ret
  exact ⟨rfl, HB.out.1⟩
theorem rf_zero (e : Ev) (A : Option Addr) (n cap : Nat) (hid : e.id < 1) (w : World) : Calls Try.prog 71 #[.slice A n cap, e.valH] w fun r w' => r = .returned (.bool false) ∧ Turn No w w' := by
  obtain ⟨kind, id, ⟨ok, k, v, o, had, aft, A0, len, cap0⟩, ⟨code, found, ak, av⟩⟩ := e
  have hid2 : decide (id < 1) = true := decide_eq_true hid
  go_enter Try.func71, Try.ntmps71
  go_wp2_with fail
  go_ret
  exact ⟨rfl, (Turn.refl _ _).alloc _⟩
/-- Behind a right row: the document's Fits is fits. -/
theorem reffits_any (l : List Ev) (hr : Right l) (A : Option Addr) (cap : Nat) (e : Ev) (hl : l.length ≤ 100000) (w : World) (hR : Row w A (ecs l)) :
    Calls Try.prog 71 #[.slice A l.length cap, e.valH] w fun r w' => r = .returned (.bool (fits l e)) ∧ Turn No w w' := by
  obtain ⟨kind, id, ⟨ok, k, v, o, had, aft, A0, len, cap0⟩, ⟨code, found, ak, av⟩⟩ := e
  by_cases hid : id < 1
  · have : fits l ⟨kind, id, ⟨ok, k, v, o, had, aft, A0, len, cap0⟩, ⟨code, found, ak, av⟩⟩ = false := by unfold fits fitsK; rw [if_pos hid]
    rw [this]
    exact rf_zero _ A l.length cap hid w
  have hk := hr.last id
  have c1 := hr.cnt id 1 (by omega)
  have c2 := hr.cnt id 2 (by omega)
  have c3 := hr.cnt id 3 (by omega)
  have ha : (kn l id).last = 2 → (kn l id).an = stA l id := hr.mark_an id
  unfold fits
  rw [show Ev.id ⟨kind, id, ⟨ok, k, v, o, had, aft, A0, len, cap0⟩, ⟨code, found, ak, av⟩⟩ = id from rfl]
  obtain ⟨K, hK⟩ : ∃ K, kn l id = K := ⟨_, rfl⟩
  rw [hK] at hk c1 c2 c3 ha ⊢
  obtain ⟨last, an⟩ := K
  dsimp only at hk c1 c2 c3 ha
  have hcase : last = 0 ∨ last = 1 ∨ last = 2 ∨ last = 3 := by omega
  unfold fitsK
  rw [if_neg (show ¬ id < 1 from hid)]
  dsimp only
  clear hK
  rcases hcase with rfl | rfl | rfl | rfl
  · rw [if_neg (by decide)] at c1
    rw [if_neg (by decide)] at c2
    rw [if_neg (by decide)] at c3
    by_cases k1 : kind = 1
    · subst k1
      exact rf_01 l A cap id ok k v o had aft A0 len cap0 code found ak av _ hid hl w hR c1 c2 c3 rfl
    by_cases k2 : kind = 2
    · subst k2
      rw [if_pos (by decide)]
      exact rf_02 l A cap id ok k v o had aft A0 len cap0 code found ak av _ hid hl w hR c1 c2 c3 rfl
    by_cases k3 : kind = 3
    · subst k3
      rw [if_pos (by decide)]
      exact rf_03 l A cap id ok k v o had aft A0 len cap0 code found ak av _ hid hl w hR c1 c2 c3 rfl
    have e0 : (if kind ≠ (0 : Int) + 1 then false else if kind = 1 then decide ((⟨code, found, ak, av⟩ : Ans) = ans00) else if kind = 2 then Opx.zero ⟨ok, k, v, o, had, aft, A0, len, cap0⟩ else if kind = 3 then Opx.zero ⟨ok, k, v, o, had, aft, A0, len, cap0⟩ && decide ((⟨code, found, ak, av⟩ : Ans) = an) else false) = false := by
      split
      · rfl
      · first | rfl | rw [if_neg k1, if_neg k2, if_neg k3]
    rw [e0]
    exact rf_00 l A cap kind id ok k v o had aft A0 len cap0 code found ak av _ hid k1 k2 k3 hl w hR c1 c2 c3 rfl
  · rw [if_pos (by decide)] at c1
    rw [if_neg (by decide)] at c2
    rw [if_neg (by decide)] at c3
    by_cases k1 : kind = 1
    · subst k1
      rw [if_pos (by decide)]
      exact rf_11 l A cap id ok k v o had aft A0 len cap0 code found ak av _ hid hl w hR c1 c2 c3 rfl
    by_cases k2 : kind = 2
    · subst k2
      exact rf_12 l A cap id ok k v o had aft A0 len cap0 code found ak av _ hid hl w hR c1 c2 c3 rfl
    by_cases k3 : kind = 3
    · subst k3
      rw [if_pos (by decide)]
      exact rf_13 l A cap id ok k v o had aft A0 len cap0 code found ak av _ hid hl w hR c1 c2 c3 rfl
    have e0 : (if kind ≠ (1 : Int) + 1 then false else if kind = 1 then decide ((⟨code, found, ak, av⟩ : Ans) = ans00) else if kind = 2 then Opx.zero ⟨ok, k, v, o, had, aft, A0, len, cap0⟩ else if kind = 3 then Opx.zero ⟨ok, k, v, o, had, aft, A0, len, cap0⟩ && decide ((⟨code, found, ak, av⟩ : Ans) = an) else false) = false := by
      split
      · rfl
      · first | rfl | rw [if_neg k1, if_neg k2, if_neg k3]
    rw [e0]
    exact rf_10 l A cap kind id ok k v o had aft A0 len cap0 code found ak av _ hid k1 k2 k3 hl w hR c1 c2 c3 rfl
  · rw [if_pos (by decide)] at c1
    rw [if_pos (by decide)] at c2
    rw [if_neg (by decide)] at c3
    by_cases k1 : kind = 1
    · subst k1
      rw [if_pos (by decide)]
      exact rf_21 l A cap id ok k v o had aft A0 len cap0 code found ak av _ hid hl w hR c1 c2 c3 rfl
    by_cases k2 : kind = 2
    · subst k2
      rw [if_pos (by decide)]
      exact rf_22 l A cap id ok k v o had aft A0 len cap0 code found ak av _ hid hl w hR c1 c2 c3 rfl
    by_cases k3 : kind = 3
    · subst k3
      rw [ha rfl]
      exact rf_23 l A cap id ok k v o had aft A0 len cap0 code found ak av _ hid hl w hR c1 c2 c3 rfl
    have e0 : (if kind ≠ (2 : Int) + 1 then false else if kind = 1 then decide ((⟨code, found, ak, av⟩ : Ans) = ans00) else if kind = 2 then Opx.zero ⟨ok, k, v, o, had, aft, A0, len, cap0⟩ else if kind = 3 then Opx.zero ⟨ok, k, v, o, had, aft, A0, len, cap0⟩ && decide ((⟨code, found, ak, av⟩ : Ans) = an) else false) = false := by
      split
      · rfl
      · first | rfl | rw [if_neg k1, if_neg k2, if_neg k3]
    rw [e0]
    exact rf_20 l A cap kind id ok k v o had aft A0 len cap0 code found ak av _ hid k1 k2 k3 hl w hR c1 c2 c3 rfl
  · rw [if_pos (by decide)] at c1
    rw [if_pos (by decide)] at c2
    rw [if_pos (by decide)] at c3
    by_cases k1 : kind = 1
    · subst k1
      rw [if_pos (by decide)]
      exact rf_31 l A cap id ok k v o had aft A0 len cap0 code found ak av _ hid hl w hR c1 c2 c3 rfl
    by_cases k2 : kind = 2
    · subst k2
      rw [if_pos (by decide)]
      exact rf_32 l A cap id ok k v o had aft A0 len cap0 code found ak av _ hid hl w hR c1 c2 c3 rfl
    by_cases k3 : kind = 3
    · subst k3
      rw [if_pos (by decide)]
      exact rf_33 l A cap id ok k v o had aft A0 len cap0 code found ak av _ hid hl w hR c1 c2 c3 rfl
    have e0 : (if kind ≠ (3 : Int) + 1 then false else if kind = 1 then decide ((⟨code, found, ak, av⟩ : Ans) = ans00) else if kind = 2 then Opx.zero ⟨ok, k, v, o, had, aft, A0, len, cap0⟩ else if kind = 3 then Opx.zero ⟨ok, k, v, o, had, aft, A0, len, cap0⟩ && decide ((⟨code, found, ak, av⟩ : Ans) = an) else false) = false := by
      split
      · rfl
      · first | rfl | rw [if_neg k1, if_neg k2, if_neg k3]
    rw [e0]
    exact rf_30 l A cap kind id ok k v o had aft A0 len cap0 code found ak av _ hid k1 k2 k3 hl w hR c1 c2 c3 rfl
end Go.Proofs.Ytllppkfeiifklaa
