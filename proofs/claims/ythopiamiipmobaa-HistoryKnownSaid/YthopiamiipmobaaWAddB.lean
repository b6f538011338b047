/-
  add: what it answers, and the history behind it.
-/
import Derived.Test.YthopiamiipmobaaWAdd
namespace Go.Proofs.Ythopiamiipmobaa
open Go.RowKit Go.Lib
set_option linter.unusedVariables false
set_option linter.unusedSimpArgs false

theorem add_nil (e : Ev) (w : World) : Calls Try.prog 29 #[.pointer none, e.val] w fun r w' => r = .returned (.int .i64 2) ∧ Turn No w w' := by
  obtain ⟨kind, id, ⟨ok, k, v, o, had, aft, A, len, cap⟩, ⟨code, found, ak, av⟩⟩ := e
  go_enter Try.func29, Try.ntmps29
  go_wp2_with fail
  go_ret
  exact ⟨rfl, (Turn.refl _ _).alloc _⟩

/-- In add: the history, the box of the event. -/
structure Ad (w wr : World) (Z hb : Nat) (l : List Ev) (ps : List (List Wr)) (A : Option Addr) (cap : Nat) (m : Option Nat) (g : Nat) (c : Array Value) : Prop where
  tu : Turn No w wr
  ht : Ht wr Z hb l ps A cap m
  old : w.heap.size ≤ g
  b : At wr g (.cells c 34 (0, 0))
  ag : ablk A ≠ some g
section
variable {w wr w2 : World} {Z hb : Nat} {l : List Ev} {ps : List (List Wr)} {A : Option Addr} {cap : Nat} {m : Option Nat} {g : Nat} {c : Array Value}
theorem Ad.start (h : Ht w Z hb l ps A cap m) (c : Array Value) : Ad w (w.alloc (.cells c 34)) Z hb l ps A cap m w.heap.size c :=
  ⟨(Turn.refl _ _).alloc _, h.no ((Turn.refl _ _).alloc _), Nat.le_refl _, At.new _ _, fun e => by have := (h.hx (.inr (.inl e))).2; omega⟩
theorem Ad.turn (h : Ad w wr Z hb l ps A cap m g c) (t : Turn No wr w2) : Ad w w2 Z hb l ps A cap m g c := ⟨h.tu.trans t, h.ht.no t, h.old, h.b.no t, h.ag⟩
theorem Ad.S {kind id ok : Int} {k v o : ByteArray} {had aft : Bool} {A0 : Option Addr} {len cap0 : Nat} {code : Int} {found : Bool} {ak av : ByteArray} (h : Ad w wr Z hb l ps A cap m g #[.int .u8 kind, .int .i64 id, .int .u8 ok, .string k, .string v, .string o, .bool had, .bool aft, .slice A0 len cap0, .int .i64 code, .bool found, .string ak, .string av]) : wr.cell? ⟨hb, 1, none⟩ = some (.map m) ∧ wr.cell? ⟨g, 0, none⟩ = some (.int .u8 kind) ∧ wr.cell? ⟨g, 1, none⟩ = some (.int .i64 id) ∧ wr.cell? ⟨g, 2, none⟩ = some (.int .u8 ok) ∧ wr.cell? ⟨g, 3, none⟩ = some (.string k) ∧ wr.cell? ⟨g, 4, none⟩ = some (.string v) ∧ wr.cell? ⟨g, 5, none⟩ = some (.string o) ∧ wr.cell? ⟨g, 6, none⟩ = some (.bool had) ∧ wr.cell? ⟨g, 7, none⟩ = some (.bool aft) ∧ wr.cell? ⟨g, 8, none⟩ = some (.slice A0 len cap0) ∧ wr.cell? ⟨g, 9, none⟩ = some (.int .i64 code) ∧ wr.cell? ⟨g, 10, none⟩ = some (.bool found) ∧ wr.cell? ⟨g, 11, none⟩ = some (.string ak) ∧ wr.cell? ⟨g, 12, none⟩ = some (.string av) := by
  have h1 := h.ht.at_.cell 1
  have b0 := h.b.cell
  simp only [List.getElem?_toArray, List.getElem?_cons_zero, List.getElem?_cons_succ] at h1
  refine ⟨h1, b0 0, b0 1, b0 2, b0 3, b0 4, b0 5, b0 6, b0 7, b0 8, b0 9, b0 10, b0 11, b0 12⟩
end

set_option maxHeartbeats 2000000 in
theorem add_no {w : World} {Z hb : Nat} {l : List Ev} {ps : List (List Wr)} {A : Option Addr} {cap : Nat} {m : Option Nat} (h : Ht w Z hb l ps A cap m) (hl : l.length < 65536) (e : Ev) (hid : In64 e.id) (hno : fits l e = false) :
    Calls Try.prog 29 #[.pointer (some ⟨hb, 0, none⟩), e.val] w fun r w' => r = .returned (.int .i64 31) ∧ Turn No w w' := by
  obtain ⟨kind, id, ⟨ok, k, v, o, had, aft, A0, len, cap0⟩, ⟨code, found, ak, av⟩⟩ := e
  have HA := Lib.hid (Ad.start h #[.int .u8 kind, .int .i64 id, .int .u8 ok, .string k, .string v, .string o, .bool had, .bool aft, .slice A0 len cap0, .int .i64 code, .bool found, .string ak, .string av])
  have HF : Hid (∀ W, Mp W m l → Calls Try.prog 33 #[.map m, .agg #[.int .u8 kind, .int .i64 id, .int .u8 ok, .string k, .string v, .string o, .bool had, .bool aft, .slice A0 len cap0, .int .i64 code, .bool found, .string ak, .string av]] W fun r w' => r = .returned (.bool false) ∧ Turn No W w') := Lib.hid fun W hm => by
    have := fits_any l h.right m ⟨kind, id, ⟨ok, k, v, o, had, aft, A0, len, cap0⟩, ⟨code, found, ak, av⟩⟩ hid W hm
    rwa [hno] at this
  have hlb : decide ((65536 : Int) ≤ (l.length : Int)) = false := by simp; omega
  have hlb2 : ¬ (65536 : Int) ≤ (l.length : Int) := by omega
  clear hl hno hid
  have c0 := h.at_.cell 0
  have c0' := HA.out.ht.at_.cell 0
  simp only [List.getElem?_toArray, List.getElem?_cons_zero, List.getElem?_cons_succ] at c0 c0'
  clear h
  go_enter Try.func29, Try.ntmps29
  go_upto_region 5 with (fail)
  clear hlb hlb2 c0'
  generalize w.alloc (.cells #[.int .u8 kind, .int .i64 id, .int .u8 ok, .string k, .string v, .string o, .bool had, .bool aft, .slice A0 len cap0, .int .i64 code, .bool found, .string ak, .string av] 34) = w1 at HA ⊢
  generalize w.heap.size = g at HA ⊢
  have hS0 : w1.drew.cell? ⟨hb, 1, none⟩ = some (.map m) ∧ w1.drew.cell? ⟨g, 0, none⟩ = some (.int .u8 kind) ∧ w1.drew.cell? ⟨g, 1, none⟩ = some (.int .i64 id) ∧ w1.drew.cell? ⟨g, 2, none⟩ = some (.int .u8 ok) ∧ w1.drew.cell? ⟨g, 3, none⟩ = some (.string k) ∧ w1.drew.cell? ⟨g, 4, none⟩ = some (.string v) ∧ w1.drew.cell? ⟨g, 5, none⟩ = some (.string o) ∧ w1.drew.cell? ⟨g, 6, none⟩ = some (.bool had) ∧ w1.drew.cell? ⟨g, 7, none⟩ = some (.bool aft) ∧ w1.drew.cell? ⟨g, 8, none⟩ = some (.slice A0 len cap0) ∧ w1.drew.cell? ⟨g, 9, none⟩ = some (.int .i64 code) ∧ w1.drew.cell? ⟨g, 10, none⟩ = some (.bool found) ∧ w1.drew.cell? ⟨g, 11, none⟩ = some (.string ak) ∧ w1.drew.cell? ⟨g, 12, none⟩ = some (.string av) := HA.out.S
  have hS1 : Hid (∀ w2, Turn No w1 w2 → w2.cell? ⟨hb, 1, none⟩ = some (.map m) ∧ w2.cell? ⟨g, 0, none⟩ = some (.int .u8 kind) ∧ w2.cell? ⟨g, 1, none⟩ = some (.int .i64 id) ∧ w2.cell? ⟨g, 2, none⟩ = some (.int .u8 ok) ∧ w2.cell? ⟨g, 3, none⟩ = some (.string k) ∧ w2.cell? ⟨g, 4, none⟩ = some (.string v) ∧ w2.cell? ⟨g, 5, none⟩ = some (.string o) ∧ w2.cell? ⟨g, 6, none⟩ = some (.bool had) ∧ w2.cell? ⟨g, 7, none⟩ = some (.bool aft) ∧ w2.cell? ⟨g, 8, none⟩ = some (.slice A0 len cap0) ∧ w2.cell? ⟨g, 9, none⟩ = some (.int .i64 code) ∧ w2.cell? ⟨g, 10, none⟩ = some (.bool found) ∧ w2.cell? ⟨g, 11, none⟩ = some (.string ak) ∧ w2.cell? ⟨g, 12, none⟩ = some (.string av)) := Lib.hid fun w2 t => (HA.out.turn t).S
  have C1 := HF.out w1.drew (HA.out.ht.no (Turn.refl _ _).drew).mp
  replace C1 := Lib.hid C1
  clear HF
  go_region_held3 (fun W => W.cell? ⟨hb, 1, none⟩ = some (.map m) ∧ W.cell? ⟨g, 0, none⟩ = some (.int .u8 kind) ∧ W.cell? ⟨g, 1, none⟩ = some (.int .i64 id) ∧ W.cell? ⟨g, 2, none⟩ = some (.int .u8 ok) ∧ W.cell? ⟨g, 3, none⟩ = some (.string k) ∧ W.cell? ⟨g, 4, none⟩ = some (.string v) ∧ W.cell? ⟨g, 5, none⟩ = some (.string o) ∧ W.cell? ⟨g, 6, none⟩ = some (.bool had) ∧ W.cell? ⟨g, 7, none⟩ = some (.bool aft) ∧ W.cell? ⟨g, 8, none⟩ = some (.slice A0 len cap0) ∧ W.cell? ⟨g, 9, none⟩ = some (.int .i64 code) ∧ W.cell? ⟨g, 10, none⟩ = some (.bool found) ∧ W.cell? ⟨g, 11, none⟩ = some (.string ak) ∧ W.cell? ⟨g, 12, none⟩ = some (.string av)) (first | (with_reducible exact hS0) | (with_reducible exact hS1.out _ hy.out)) (first | (go_at_call 33; (with_reducible refine C1.out.mono ?_); rintro e wy ⟨rfl, hy0⟩; have hy := Lib.hid ((Turn.refl No w1).drew.trans hy0)))
  go_wp2_with fail
  go_ret
  exact ⟨rfl, HA.out.tu.trans hy.out⟩
end Go.Proofs.Ythopiamiipmobaa
