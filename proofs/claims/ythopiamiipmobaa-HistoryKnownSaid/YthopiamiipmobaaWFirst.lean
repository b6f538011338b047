/-
  first: the place of the first event of a kind and an Id.
-/
import Derived.Test.YthopiamiipmobaaWCheck
namespace Go.Proofs.Ythopiamiipmobaa
open Go.RowKit Go.Lib
set_option linter.unusedVariables false
set_option linter.unusedSimpArgs false

def isAt (kind id : Int) (e : Ev) : Bool := e.kind == kind && e.id == id
/-- Its place; none, if there is none. -/
def firstAt (kind id : Int) (l : List Ev) : Option Nat := l.findIdx? (isAt kind id)
def placeI : Option Nat → Int
  | none => -1
  | some n => n
theorem firstAt_none {kind id : Int} {l : List Ev} (h : ∀ e ∈ l, isAt kind id e = false) : firstAt kind id l = none := by
  unfold firstAt
  rw [List.findIdx?_eq_none_iff]
  intro e he
  simpa using h e he
theorem firstAt_some {kind id : Int} {l : List Ev} {n : Nat} {e : Ev} (he : l[n]? = some e) (h : isAt kind id e = true) (hb : ∀ e ∈ l.take n, isAt kind id e = false) : firstAt kind id l = some n := by
  unfold firstAt
  rw [List.findIdx?_eq_some_iff_getElem]
  obtain ⟨hn, rfl⟩ := List.getElem?_eq_some_iff.1 he
  refine ⟨hn, h, fun j hj => ?_⟩
  have := hb l[j] (List.mem_of_getElem? (i := j) (by rw [List.getElem?_take, if_pos hj, List.getElem?_eq_getElem]))
  simpa using this
theorem not_snoc {p : Ev → Bool} {l : List Ev} {k : Nat} {e : Ev} (h : ∀ e ∈ l.take k, p e = false) (he : l[k]? = some e) (hp : p e = false) : ∀ e ∈ l.take (k + 1), p e = false := by
  intro e' he'
  rw [List.take_add_one, he] at he'
  rcases List.mem_append.1 he' with h1 | h1
  · exact h e' h1
  · simp at h1; subst h1; exact hp

/-- The two boxes that the closure reads. -/
def Two (w : World) (g1 g2 : Nat) (kind id : Int) : Prop := At w g1 (.cells #[.int .u8 kind] 5 (0, 0)) ∧ At w g2 (.cells #[.int .i64 id] 3 (0, 0))
theorem Two.no {w w' : World} {g1 g2 : Nat} {kind id : Int} (h : Two w g1 g2 kind id) (t : Turn No w w') : Two w' g1 g2 kind id := ⟨h.1.no t, h.2.no t⟩
set_option maxHeartbeats 1000000 in
theorem pred_any (kind0 id0 : Int) (e : Ev) (g1 g2 : Nat) (w : World) (h : Two w g1 g2 kind0 id0) :
    Calls Try.prog 40 #[e.val, .pointer (some ⟨g1, 0, none⟩), .pointer (some ⟨g2, 0, none⟩)] w fun r w' => r = .returned (.bool (isAt kind0 id0 e)) ∧ Turn No w w' := by
  obtain ⟨kind, id, ⟨ok, k, v, o, had, aft, A0, len, cap0⟩, ⟨code, found, ak, av⟩⟩ := e
  have tn : Turn No w (w.alloc (.cells #[.int .u8 kind, .int .i64 id, .int .u8 ok, .string k, .string v, .string o, .bool had, .bool aft, .slice A0 len cap0, .int .i64 code, .bool found, .string ak, .string av] 34)) := (Turn.refl _ _).alloc _
  have c1 : (w.alloc (.cells #[.int .u8 kind, .int .i64 id, .int .u8 ok, .string k, .string v, .string o, .bool had, .bool aft, .slice A0 len cap0, .int .i64 code, .bool found, .string ak, .string av] 34)).cell? ⟨g1, 0, none⟩ = some (.int .u8 kind0) := by simpa using (h.no tn).1.cell 0
  have c2 : (w.alloc (.cells #[.int .u8 kind, .int .i64 id, .int .u8 ok, .string k, .string v, .string o, .bool had, .bool aft, .slice A0 len cap0, .int .i64 code, .bool found, .string ak, .string av] 34)).cell? ⟨g2, 0, none⟩ = some (.int .i64 id0) := by simpa using (h.no tn).2.cell 0
  clear h
  unfold isAt
  dsimp only
  go_enter Try.func40, Try.ntmps40
  by_cases hk : kind = kind0
  · subst hk
    go_wp2_with fail
    go_ret
    exact ⟨by simp, tn⟩
  · have hk' : (kind == kind0) = false := by simpa using hk
    rw [hk']
    go_wp2_with fail
    go_ret
    exact ⟨by simp, tn⟩

set_option maxHeartbeats 4000000 in
theorem index_any (kind0 id0 : Int) (l : List Ev) (A : Option Addr) (cap : Nat) (g1 g2 : Nat) (w : World) (hR : Row w A (ecs l)) (h : Two w g1 g2 kind0 id0) (hl : l.length ≤ 100000) :
    Calls Try.prog 39 #[.slice A l.length cap, .func (.func 40) #[] #[.pointer (some ⟨g1, 0, none⟩), .pointer (some ⟨g2, 0, none⟩)]] w fun r w' => r = .returned (.int .i64 (placeI (firstAt kind0 id0 l))) ∧ Turn No w w' := by
  have HL := Lib.hid (And.intro hR h)
  clear hR h
  go_enter Try.func39, Try.ntmps39
  go_wp2_with fail
  go_loopw [8] (fun i wr => ∃ kk : Nat, kk ≤ l.length ∧ i = .int .i64 (kk : Int) ∧ Hid (Turn No w wr ∧ ∀ e ∈ l.take kk, isAt kind0 id0 e = false)) (fun i _ => l.length - (RowKit.intOf i).toNat)
  case atStart => exact ⟨0, Nat.zero_le _, rfl, Lib.hid ⟨Turn.refl _ _, by simp⟩⟩
  case round =>
    obtain ⟨kk, hm, rfl, HP⟩ := hrel
    by_cases hlt : kk < l.length
    · obtain ⟨e, he⟩ : ∃ e, l[kk]? = some e := ⟨l[kk], List.getElem?_eq_getElem hlt⟩
      obtain ⟨b, off, hA, hb, hx⟩ := (HL.out.1.turn HP.out.1 fun _ _ _ h => h).range he
      have C1 := Lib.hid (pred_any kind0 id0 e g1 g2 wr (HL.out.2.no HP.out.1))
      have HE := Lib.hid he
      obtain ⟨kind, id, ⟨ok, k, v, o, had, aft, A0, len, cap0⟩, ⟨code, found, ak, av⟩⟩ := e
      have hr1 : wr.rangeAt b (off + kk * 13) [.int .u8 kind, .int .i64 id, .int .u8 ok, .string k, .string v, .string o, .bool had, .bool aft, .slice A0 len cap0, .int .i64 code, .bool found, .string ak, .string av] := hx
      subst hA
      clear hx hb he
      cases hp : isAt kind0 id0 ⟨kind, id, ⟨ok, k, v, o, had, aft, A0, len, cap0⟩, ⟨code, found, ak, av⟩⟩ with
      | true =>
        have hp' := Lib.hid hp
        rw [hp] at C1
        clear hp
        go_wp2_with (first | (refine wpList_load_mid rfl 34 _ rfl b (off + kk * 13) rfl [.int .u8 kind, .int .i64 id, .int .u8 ok, .string k, .string v, .string o, .bool had, .bool aft, .slice A0 len cap0, .int .i64 code, .bool found, .string ak, .string av] _ hr1 Try.underlying34 rfl inf34 ?_) | (go_at_call 40; refine C1.out.mono ?_; rintro e w7 ⟨rfl, ht7⟩; have HT7 := Lib.hid ht7; clear ht7))
        go_ret
        rw [firstAt_some HE.out hp'.out HP.out.2]
        exact ⟨rfl, HP.out.1.trans HT7.out⟩
      | false =>
        have hp' := Lib.hid hp
        rw [hp] at C1
        clear hp
        go_wp2_with (first | (refine wpList_load_mid rfl 34 _ rfl b (off + kk * 13) rfl [.int .u8 kind, .int .i64 id, .int .u8 ok, .string k, .string v, .string o, .bool had, .bool aft, .slice A0 len cap0, .int .i64 code, .bool found, .string ak, .string av] _ hr1 Try.underlying34 rfl inf34 ?_) | (go_at_call 40; refine C1.out.mono ?_; rintro e w7 ⟨rfl, ht7⟩; have HT7 := Lib.hid ht7; clear ht7))
        exact ⟨⟨kk + 1, by omega, by go_num, Lib.hid ⟨HP.out.1.trans HT7.out, not_snoc HP.out.2 HE.out hp'.out⟩⟩, by simp [RowKit.intOf]; omega⟩
    · obtain rfl : kk = l.length := by omega
      go_wp2_with fail
      go_ret
      have hr := HP.out.2
      rw [List.take_length] at hr
      rw [firstAt_none hr]
      exact ⟨rfl, HP.out.1⟩

set_option maxHeartbeats 1000000 in
theorem first_any (kind0 id0 : Int) (l : List Ev) (A : Option Addr) (cap : Nat) (w : World) (hR : Row w A (ecs l)) (hl : l.length ≤ 100000) :
    Calls Try.prog 35 #[.slice A l.length cap, .int .u8 kind0, .int .i64 id0] w fun r w' => r = .returned (.int .i64 (placeI (firstAt kind0 id0 l))) ∧ Turn No w w' := by
  have tn : Turn No w ((w.alloc (.cells #[.int .u8 kind0] 5)).alloc (.cells #[.int .i64 id0] 3)) := ((Turn.refl _ _).alloc _).alloc _
  have h2 : Two ((w.alloc (.cells #[.int .u8 kind0] 5)).alloc (.cells #[.int .i64 id0] 3)) w.heap.size (w.heap.size + 1) kind0 id0 := ⟨(At.new _ _).no ((Turn.refl _ _).alloc _), by simpa using At.new (w.alloc (.cells #[.int .u8 kind0] 5)) (.cells #[.int .i64 id0] 3)⟩
  have C1 := Lib.hid (index_any kind0 id0 l A cap _ _ _ (hR.turn tn fun _ _ _ h => h) h2 hl)
  clear hR h2
  go_enter Try.func35, Try.ntmps35
  go_wp2_with (go_at_call 39; refine C1.out.mono ?_; rintro e w7 ⟨rfl, ht7⟩; have HT7 := Lib.hid ht7; clear ht7)
  go_ret
  exact ⟨rfl, tn.trans HT7.out⟩
end Go.Proofs.Ythopiamiipmobaa
