/-
  Check: the place of the first event that does not fit.
  first: the place of the first event of a kind and an Id.
  Ahead; Marks.
  State: the two results' boxes, and the return.
  Events: the history's events, cloned into a row of its own.
  State: how far an operation has come, what it asks, what its mark answers.
-/
import Derived.Test.YtllppkfeiifklaaJ20
import Derived.Deep.MidRow
namespace Go.Proofs.Ytllppkfeiifklaa
open Go.RowKit Go.Lib
set_option linter.unusedVariables false
set_option maxRecDepth 20000
set_option linter.unusedSimpArgs false

theorem At.range {w : World} {g : Nat} {vs : List Value} {t : TypeId} {f : Nat × Nat} (h : At w g (.cells vs.toArray t f)) : w.rangeAt g 0 vs := by
  intro j v hv
  rw [Nat.zero_add, h.cell]
  simpa using hv
theorem Row.range {w : World} {A : Option Addr} {l : List Ev} (h : Row w A (ecs l)) {k : Nat} {e : Ev} (he : l[k]? = some e) :
    ∃ b o, A = some ⟨b, o, none⟩ ∧ b < w.heap.size ∧ w.rangeAt b (o + k * 13) e.cs := by
  obtain ⟨b, o, h1, h2, h3⟩ := h.ev he
  exact ⟨b, o, h1, h2, h3⟩
theorem inf34 : (Try.prog.info? 40).map (·.size) = some 13 := by kernel_rfl
theorem inf29 : (Try.prog.info? 34).map (·.size) = some 7 := by kernel_rfl
theorem inf32 : (Try.prog.info? 38).map (·.size) = some 4 := by kernel_rfl
theorem inf53 : (Try.prog.info? 68).map (·.size) = some 3 := by kernel_rfl

/-- l[n] is the first event that does not fit. -/
def Bad (l : List Ev) (n : Nat) : Prop := Right (l.take n) ∧ ∃ e, l[n]? = some e ∧ fits (l.take n) e = false
def Checked (l : List Ev) (at_ : Int) (code : Int) : Prop := (Right l ∧ at_ = -1 ∧ code = 0) ∨ ∃ n : Nat, Bad l n ∧ at_ = n ∧ code = 31

/-- In Check: the map has what is known of the first k events. -/
structure Ck (w wr : World) (mb : Nat) (l : List Ev) (k : Nat) : Prop where
  tu : Turn No w wr
  old : w.heap.size ≤ mb
  mp : MpH wr (some mb) (l.take k)
  right : Right (l.take k)
theorem Ck.no {w wr w2 : World} {mb : Nat} {l : List Ev} {k : Nat} (h : Ck w wr mb l k) (t : Turn No wr w2) : Ck w w2 mb l k := ⟨h.tu.trans t, h.old, h.mp.no t, h.right⟩
theorem Ck.step {w wr w2 : World} {mb : Nat} {l : List Ev} {k : Nat} (h : Ck w wr mb l k) {e : Ev} (he : l[k]? = some e) (hf : fits (l.take k) e = true) (hm : MpH w2 (some mb) (l.take k ++ [e])) (t : Turn (· = mb) wr w2) : Ck w w2 mb l (k + 1) := by
  have e1 : l.take (k + 1) = l.take k ++ [e] := by rw [List.take_add_one, he]; rfl
  exact ⟨h.tu.then t fun i hi e => by have := h.old; omega, h.old, by rw [e1]; exact hm, by rw [e1]; exact .snoc h.right hf⟩

set_option maxHeartbeats 4000000 in
theorem check_any (l : List Ev) (A : Option Addr) (cap : Nat) (w : World) (hR : Row w A (ecs l)) (hid : ∀ e ∈ l, In64 e.id) (hl : l.length ≤ 100000) :
    Calls Try.prog 21 #[.slice A l.length cap] w fun r w' => ∃ at_ code, r = .returned (.tuple #[.int .i64 at_, .int .i64 code]) ∧ Checked l at_ code ∧ Turn No w w' := by
  have HL := Lib.hid (And.intro hR hid)
  clear hR hid
  have hmm := @run_makeMap Try.prog
  have hC0 : Hid (Ck w (w.alloc (.map #[] 0)) w.heap.size l 0) := Lib.hid ⟨(Turn.refl _ _).alloc _, Nat.le_refl _, by simpa using MpH.made w, by simpa using Right.nil⟩
  go_enter Try.func21, Try.ntmps21
  go_upto_region 2 with (fail)
  generalize w.alloc (.map #[] 0) = w1 at hC0 ⊢
  obtain ⟨mb, hmb⟩ : ∃ mb, w.heap.size = mb := ⟨_, rfl⟩
  have HB := Lib.hid hmb
  rw [hmb] at hC0 ⊢
  clear hmb hmm
  go_wp2_with fail
  go_loopw [10] (fun i wr => ∃ kk : Nat, kk ≤ l.length ∧ i = .int .i64 (kk : Int) ∧ Hid (Ck w wr mb l kk)) (fun i _ => l.length - (RowKit.intOf i).toNat)
  case atStart => exact ⟨0, Nat.zero_le _, rfl, hC0⟩
  case round =>
    obtain ⟨kk, hm, rfl, HP⟩ := hrel
    clear hC0
    by_cases hlt : kk < l.length
    · obtain ⟨e, he⟩ : ∃ e, l[kk]? = some e := ⟨l[kk], List.getElem?_eq_getElem hlt⟩
      obtain ⟨b, off, hA, hb, hx⟩ := (HL.out.1.turn HP.out.tu fun _ _ _ h => h).range he
      have hidk := HL.out.2 e (List.mem_of_getElem? he)
      obtain ⟨kind, id, ⟨ok, k, v, o, had, aft, A0, len, cap0⟩, ⟨code, found, ak, av⟩⟩ := e
      have tn : Turn No wr (wr.alloc (.cells #[.int .u8 kind, .int .i64 id, .int .u8 ok, .string k, .string v, .string o, .bool had, .bool aft, .slice A0 len cap0, .int .i64 code, .bool found, .string ak, .string av] 40)) := (Turn.refl _ _).alloc _
      have HN : Hid (Ck w (wr.alloc (.cells #[.int .u8 kind, .int .i64 id, .int .u8 ok, .string k, .string v, .string o, .bool had, .bool aft, .slice A0 len cap0, .int .i64 code, .bool found, .string ak, .string av] 40)) mb l kk ∧ At (wr.alloc (.cells #[.int .u8 kind, .int .i64 id, .int .u8 ok, .string k, .string v, .string o, .bool had, .bool aft, .slice A0 len cap0, .int .i64 code, .bool found, .string ak, .string av] 40)) wr.heap.size (.cells #[.int .u8 kind, .int .i64 id, .int .u8 ok, .string k, .string v, .string o, .bool had, .bool aft, .slice A0 len cap0, .int .i64 code, .bool found, .string ak, .string av] 40 (0, 0))) := Lib.hid ⟨HP.out.no tn, At.new _ _⟩
      have hr1 : wr.rangeAt b (off + kk * 13) [.int .u8 kind, .int .i64 id, .int .u8 ok, .string k, .string v, .string o, .bool had, .bool aft, .slice A0 len cap0, .int .i64 code, .bool found, .string ak, .string av] := hx
      have HE := Lib.hid (And.intro he hidk)
      subst hA
      clear hx tn HP hb he hidk
      go_upto_region 5 with (refine wpList_load_mid rfl 40 _ rfl b (off + kk * 13) rfl [.int .u8 kind, .int .i64 id, .int .u8 ok, .string k, .string v, .string o, .bool had, .bool aft, .slice A0 len cap0, .int .i64 code, .bool found, .string ak, .string av] _ hr1 Try.underlying40 rfl inf34 ?_)
      clear hr1
      generalize wr.alloc (.cells #[.int .u8 kind, .int .i64 id, .int .u8 ok, .string k, .string v, .string o, .bool had, .bool aft, .slice A0 len cap0, .int .i64 code, .bool found, .string ak, .string av] 40) = w6 at HN ⊢
      generalize wr.heap.size = g at HN ⊢
      have hr2 : w6.rangeAt g 0 [.int .u8 kind, .int .i64 id, .int .u8 ok, .string k, .string v, .string o, .bool had, .bool aft, .slice A0 len cap0, .int .i64 code, .bool found, .string ak, .string av] := HN.out.2.range
      have C1 := Lib.hid (fits_any (l.take kk) HN.out.1.right (some mb) ⟨kind, id, ⟨ok, k, v, o, had, aft, A0, len, cap0⟩, ⟨code, found, ak, av⟩⟩ HE.out.2 w6 HN.out.1.mp)
      go_upto_if 18 with (first | (refine wpList_load_mid rfl 40 _ rfl g 0 rfl [.int .u8 kind, .int .i64 id, .int .u8 ok, .string k, .string v, .string o, .bool had, .bool aft, .slice A0 len cap0, .int .i64 code, .bool found, .string ak, .string av] _ hr2 Try.underlying40 rfl inf34 ?_) | (go_at_call 50; refine C1.out.mono ?_; rintro e w7 ⟨rfl, ht7⟩; have HT7 := Lib.hid ht7; clear ht7))
      have hr3 : w7.rangeAt g 0 [.int .u8 kind, .int .i64 id, .int .u8 ok, .string k, .string v, .string o, .bool had, .bool aft, .slice A0 len cap0, .int .i64 code, .bool found, .string ak, .string av] := (HN.out.2.no HT7.out).range
      clear hr2 C1
      cases hf : fits (l.take kk) ⟨kind, id, ⟨ok, k, v, o, had, aft, A0, len, cap0⟩, ⟨code, found, ak, av⟩⟩ with
      | true =>
        have hf' := Lib.hid hf
        have C2 := Lib.hid (note_any (l.take kk) mb ⟨kind, id, ⟨ok, k, v, o, had, aft, A0, len, cap0⟩, ⟨code, found, ak, av⟩⟩ hf HE.out.2 (by rw [List.length_take]; omega) w7 (HN.out.1.no HT7.out).mp)
        go_wp2_with (first | (refine wpList_load_mid rfl 40 _ rfl g 0 rfl [.int .u8 kind, .int .i64 id, .int .u8 ok, .string k, .string v, .string o, .bool had, .bool aft, .slice A0 len cap0, .int .i64 code, .bool found, .string ak, .string av] _ hr3 Try.underlying40 rfl inf34 ?_) | (go_at_call 51; refine C2.out.mono ?_; rintro e w8 ⟨rfl, hm8, ht8⟩; have HT8 := Lib.hid (And.intro hm8 ht8); clear hm8 ht8))
        have HQ := Lib.hid ((HN.out.1.no HT7.out).step HE.out.1 hf'.out HT8.out.1 HT8.out.2)
        exact ⟨⟨kk + 1, by omega, by go_num, HQ⟩, by simp [RowKit.intOf]; omega⟩
      | false =>
        have hf' := Lib.hid hf
        go_wp2_with fail
        go_ret2
        exact ⟨_, _, rfl, .inr ⟨kk, ⟨HN.out.1.right, _, HE.out.1, hf'.out⟩, rfl, rfl⟩, HN.out.1.tu.trans HT7.out⟩
    · obtain rfl : kk = l.length := by omega
      go_wp2_with fail
      go_ret2
      have hr := HP.out.right
      rw [List.take_length] at hr
      exact ⟨_, _, rfl, .inl ⟨hr, rfl, rfl⟩, HP.out.tu⟩
end Go.Proofs.Ytllppkfeiifklaa
namespace Go.Proofs.Ytllppkfeiifklaa
open Go.RowKit Go.Lib
set_option linter.unusedVariables false
set_option maxRecDepth 20000
set_option linter.unusedSimpArgs false

def isAt (kind id : Int) (e : Ev) : Bool := e.kind == kind && e.id == id
/-- Its place; none, if there is none. -/
def firstAt (kind id : Int) (l : List Ev) : Option Nat := l.findIdx? (isAt kind id)
def placeI : Option Nat → Int
  | none => -1
  | some n => n
theorem firstAt_none {kind id : Int} {l : List Ev} (h : ∀ e ∈ l, isAt kind id e = false) : firstAt kind id l = none := by
  unfold firstAt
  rw [List.findIdx?_eq_none_iff]
  intro e he
  simpa using h e he
theorem firstAt_some {kind id : Int} {l : List Ev} {n : Nat} {e : Ev} (he : l[n]? = some e) (h : isAt kind id e = true) (hb : ∀ e ∈ l.take n, isAt kind id e = false) : firstAt kind id l = some n := by
  unfold firstAt
  rw [List.findIdx?_eq_some_iff_getElem]
  obtain ⟨hn, rfl⟩ := List.getElem?_eq_some_iff.1 he
  refine ⟨hn, h, fun j hj => ?_⟩
  have := hb l[j] (List.mem_of_getElem? (i := j) (by rw [List.getElem?_take, if_pos hj, List.getElem?_eq_getElem]))
  simpa using this
theorem not_snoc {p : Ev → Bool} {l : List Ev} {k : Nat} {e : Ev} (h : ∀ e ∈ l.take k, p e = false) (he : l[k]? = some e) (hp : p e = false) : ∀ e ∈ l.take (k + 1), p e = false := by
  intro e' he'
  rw [List.take_add_one, he] at he'
  rcases List.mem_append.1 he' with h1 | h1
  · exact h e' h1
  · simp at h1; subst h1; exact hp

/-- The two boxes that the closure reads. -/
def Two (w : World) (g1 g2 : Nat) (kind id : Int) : Prop := At w g1 (.cells #[.int .u8 kind] 5 (0, 0)) ∧ At w g2 (.cells #[.int .i64 id] 3 (0, 0))
theorem Two.no {w w' : World} {g1 g2 : Nat} {kind id : Int} (h : Two w g1 g2 kind id) (t : Turn No w w') : Two w' g1 g2 kind id := ⟨h.1.no t, h.2.no t⟩
set_option maxHeartbeats 1000000 in
theorem pred_any (kind0 id0 : Int) (e : Ev) (g1 g2 : Nat) (w : World) (h : Two w g1 g2 kind0 id0) :
    Calls Try.prog 89 #[e.valH, .pointer (some ⟨g1, 0, none⟩), .pointer (some ⟨g2, 0, none⟩)] w fun r w' => r = .returned (.bool (isAt kind0 id0 e)) ∧ Turn No w w' := by
  obtain ⟨kind, id, ⟨ok, k, v, o, had, aft, A0, len, cap0⟩, ⟨code, found, ak, av⟩⟩ := e
  have tn : Turn No w (w.alloc (.cells #[.int .u8 kind, .int .i64 id, .int .u8 ok, .string k, .string v, .string o, .bool had, .bool aft, .slice A0 len cap0, .int .i64 code, .bool found, .string ak, .string av] 40)) := (Turn.refl _ _).alloc _
  have c1 : (w.alloc (.cells #[.int .u8 kind, .int .i64 id, .int .u8 ok, .string k, .string v, .string o, .bool had, .bool aft, .slice A0 len cap0, .int .i64 code, .bool found, .string ak, .string av] 40)).cell? ⟨g1, 0, none⟩ = some (.int .u8 kind0) := by simpa using (h.no tn).1.cell 0
  have c2 : (w.alloc (.cells #[.int .u8 kind, .int .i64 id, .int .u8 ok, .string k, .string v, .string o, .bool had, .bool aft, .slice A0 len cap0, .int .i64 code, .bool found, .string ak, .string av] 40)).cell? ⟨g2, 0, none⟩ = some (.int .i64 id0) := by simpa using (h.no tn).2.cell 0
  clear h
  unfold isAt
  dsimp only
  go_enter Try.func89, Try.ntmps89
  by_cases hk : kind = kind0
  · subst hk
    go_wp2_with fail
    go_ret
    exact ⟨by simp, tn⟩
  · have hk' : (kind == kind0) = false := by simpa using hk
    rw [hk']
    go_wp2_with fail
    go_ret
    exact ⟨by simp, tn⟩

set_option maxHeartbeats 4000000 in
theorem index_any (kind0 id0 : Int) (l : List Ev) (A : Option Addr) (cap : Nat) (g1 g2 : Nat) (w : World) (hR : Row w A (ecs l)) (h : Two w g1 g2 kind0 id0) (hl : l.length ≤ 100000) :
    Calls Try.prog 88 #[.slice A l.length cap, .func (.func 89) #[] #[.pointer (some ⟨g1, 0, none⟩), .pointer (some ⟨g2, 0, none⟩)]] w fun r w' => r = .returned (.int .i64 (placeI (firstAt kind0 id0 l))) ∧ Turn No w w' := by
  have HL := Lib.hid (And.intro hR h)
  clear hR h
  go_enter Try.func88, Try.ntmps88
  go_wp2_with fail
  go_loopw [8] (fun i wr => ∃ kk : Nat, kk ≤ l.length ∧ i = .int .i64 (kk : Int) ∧ Hid (Turn No w wr ∧ ∀ e ∈ l.take kk, isAt kind0 id0 e = false)) (fun i _ => l.length - (RowKit.intOf i).toNat)
  case atStart => exact ⟨0, Nat.zero_le _, rfl, Lib.hid ⟨Turn.refl _ _, by simp⟩⟩
  case round =>
    obtain ⟨kk, hm, rfl, HP⟩ := hrel
    by_cases hlt : kk < l.length
    · obtain ⟨e, he⟩ : ∃ e, l[kk]? = some e := ⟨l[kk], List.getElem?_eq_getElem hlt⟩
      obtain ⟨b, off, hA, hb, hx⟩ := (HL.out.1.turn HP.out.1 fun _ _ _ h => h).range he
      have C1 := Lib.hid (pred_any kind0 id0 e g1 g2 wr (HL.out.2.no HP.out.1))
      have HE := Lib.hid he
      obtain ⟨kind, id, ⟨ok, k, v, o, had, aft, A0, len, cap0⟩, ⟨code, found, ak, av⟩⟩ := e
      have hr1 : wr.rangeAt b (off + kk * 13) [.int .u8 kind, .int .i64 id, .int .u8 ok, .string k, .string v, .string o, .bool had, .bool aft, .slice A0 len cap0, .int .i64 code, .bool found, .string ak, .string av] := hx
      subst hA
      clear hx hb he
      cases hp : isAt kind0 id0 ⟨kind, id, ⟨ok, k, v, o, had, aft, A0, len, cap0⟩, ⟨code, found, ak, av⟩⟩ with
      | true =>
        have hp' := Lib.hid hp
        rw [hp] at C1
        clear hp
        go_wp2_with (first | (refine wpList_load_mid rfl 40 _ rfl b (off + kk * 13) rfl [.int .u8 kind, .int .i64 id, .int .u8 ok, .string k, .string v, .string o, .bool had, .bool aft, .slice A0 len cap0, .int .i64 code, .bool found, .string ak, .string av] _ hr1 Try.underlying40 rfl inf34 ?_) | (go_at_call 89; refine C1.out.mono ?_; rintro e w7 ⟨rfl, ht7⟩; have HT7 := Lib.hid ht7; clear ht7))
        go_ret
        rw [firstAt_some HE.out hp'.out HP.out.2]
        exact ⟨rfl, HP.out.1.trans HT7.out⟩
      | false =>
        have hp' := Lib.hid hp
        rw [hp] at C1
        clear hp
        go_wp2_with (first | (refine wpList_load_mid rfl 40 _ rfl b (off + kk * 13) rfl [.int .u8 kind, .int .i64 id, .int .u8 ok, .string k, .string v, .string o, .bool had, .bool aft, .slice A0 len cap0, .int .i64 code, .bool found, .string ak, .string av] _ hr1 Try.underlying40 rfl inf34 ?_) | (go_at_call 89; refine C1.out.mono ?_; rintro e w7 ⟨rfl, ht7⟩; have HT7 := Lib.hid ht7; clear ht7))
        exact ⟨⟨kk + 1, by omega, by go_num, Lib.hid ⟨HP.out.1.trans HT7.out, not_snoc HP.out.2 HE.out hp'.out⟩⟩, by simp [RowKit.intOf]; omega⟩
    · obtain rfl : kk = l.length := by omega
      go_wp2_with fail
      go_ret
      have hr := HP.out.2
      rw [List.take_length] at hr
      rw [firstAt_none hr]
      exact ⟨rfl, HP.out.1⟩

set_option maxHeartbeats 1000000 in
theorem first_any (kind0 id0 : Int) (l : List Ev) (A : Option Addr) (cap : Nat) (w : World) (hR : Row w A (ecs l)) (hl : l.length ≤ 100000) :
    Calls Try.prog 52 #[.slice A l.length cap, .int .u8 kind0, .int .i64 id0] w fun r w' => r = .returned (.int .i64 (placeI (firstAt kind0 id0 l))) ∧ Turn No w w' := by
  have tn : Turn No w ((w.alloc (.cells #[.int .u8 kind0] 5)).alloc (.cells #[.int .i64 id0] 3)) := ((Turn.refl _ _).alloc _).alloc _
  have h2 : Two ((w.alloc (.cells #[.int .u8 kind0] 5)).alloc (.cells #[.int .i64 id0] 3)) w.heap.size (w.heap.size + 1) kind0 id0 := ⟨(At.new _ _).no ((Turn.refl _ _).alloc _), by simpa using At.new (w.alloc (.cells #[.int .u8 kind0] 5)) (.cells #[.int .i64 id0] 3)⟩
  have C1 := Lib.hid (index_any kind0 id0 l A cap _ _ _ (hR.turn tn fun _ _ _ h => h) h2 hl)
  clear hR h2
  go_enter Try.func52, Try.ntmps52
  go_wp2_with (go_at_call 88; refine C1.out.mono ?_; rintro e w7 ⟨rfl, ht7⟩; have HT7 := Lib.hid ht7; clear ht7)
  go_ret
  exact ⟨rfl, tn.trans HT7.out⟩
end Go.Proofs.Ytllppkfeiifklaa
namespace Go.Proofs.Ytllppkfeiifklaa
open Go.RowKit Go.Lib
set_option linter.unusedVariables false
set_option maxRecDepth 20000
set_option linter.unusedSimpArgs false

theorem Row.drop {w : World} {b o : Nat} {l : List Ev} (h : Row w (some ⟨b, o, none⟩) (ecs l)) (n : Nat) (hn : n ≤ l.length) : Row w (some ⟨b, o + n * 13, none⟩) (ecs (l.drop n)) := by
  intro j u hj
  have e : ecs l = ecs (l.take n) ++ ecs (l.drop n) := by rw [← ecs_append, List.take_append_drop]
  have hl : (ecs (l.take n)).length = n * 13 := by rw [ecs_length, List.length_take, Nat.min_eq_left hn]
  obtain ⟨b', o', hA, hb, hc⟩ := h (n * 13 + j) u (by rw [e, List.getElem?_append_right (by omega), hl, Nat.add_sub_cancel_left]; exact hj)
  injection hA with hA
  injection hA with e1 e2
  subst e1 e2
  exact ⟨_, _, rfl, hb, by rwa [Nat.add_assoc]⟩
theorem Row.take {w : World} {A : Option Addr} {l : List Ev} (h : Row w A (ecs l)) (n : Nat) : Row w A (ecs (l.take n)) := by
  intro j u hj
  refine h j u ?_
  have e : ecs l = ecs (l.take n) ++ ecs (l.drop n) := by rw [← ecs_append, List.take_append_drop]
  rw [e, List.getElem?_append_left (List.getElem?_eq_some_iff.1 hj).1]
  exact hj
def ahead (l : List Ev) (a b : Int) : Bool := match firstAt 3 a l with
  | none => false
  | some n => (firstAt 1 b (l.drop n)).isSome
theorem firstAt_get {kind id : Int} {l : List Ev} {n : Nat} (h : firstAt kind id l = some n) : n < l.length ∧ ∃ e, l[n]? = some e ∧ isAt kind id e = true ∧ ∀ e ∈ l.take n, isAt kind id e = false := by
  unfold firstAt at h
  rw [List.findIdx?_eq_some_iff_getElem] at h
  obtain ⟨hn, h1, h2⟩ := h
  refine ⟨hn, l[n], List.getElem?_eq_getElem hn, h1, fun e he => ?_⟩
  obtain ⟨j, hj⟩ := List.mem_iff_getElem?.1 he
  rw [List.getElem?_take] at hj
  split at hj
  · rename_i hlt
    obtain ⟨hj', rfl⟩ := List.getElem?_eq_some_iff.1 hj
    simpa using h2 j hlt
  · cases hj
set_option maxHeartbeats 1000000 in
theorem ahead_any (a b : Int) (l : List Ev) (A : Option Addr) (cap : Nat) (w : World) (hR : Row w A (ecs l)) (hl : l.length ≤ 100000) (hc : l.length ≤ cap) :
    Calls Try.prog 80 #[.slice A l.length cap, .int .i64 a, .int .i64 b] w fun r w' => r = .returned (.bool (ahead l a b)) ∧ Turn No w w' := by
  have C1 := Lib.hid (first_any 3 a l A cap w hR hl)
  have HR := Lib.hid hR
  clear hR
  unfold ahead
  go_enter Try.func80, Try.ntmps80
  cases hf : firstAt 3 a l with
  | none =>
    rw [hf] at C1
    go_wp2_with (go_at_call 52; refine C1.out.mono ?_; rintro e w7 ⟨rfl, ht7⟩; have HT7 := Lib.hid ht7; clear ht7; simp only [placeI])
    go_ret
    exact ⟨rfl, HT7.out⟩
  | some n =>
    obtain ⟨hn, e0, he0, _⟩ := firstAt_get hf
    obtain ⟨b0, off, hA, _, _⟩ := HR.out.range he0
    subst hA
    have C2 : Hid (∀ W, Turn No w W → Calls Try.prog 52 #[.slice (some ⟨b0, off + n * 13, none⟩) (l.length - n) (cap - n), .int .u8 1, .int .i64 b] W fun r w' => r = .returned (.int .i64 (placeI (firstAt 1 b (l.drop n)))) ∧ Turn No W w') := Lib.hid fun W t => by
      have := first_any 1 b (l.drop n) (some ⟨b0, off + n * 13, none⟩) (cap - n) W ((HR.out.drop n (Nat.le_of_lt hn)).turn t fun _ _ _ h => h) (by rw [List.length_drop]; omega)
      rwa [List.length_drop] at this
    rw [hf] at C1
    simp only [placeI] at C1
    clear he0 hf
    cases hg : firstAt 1 b (l.drop n) with
    | none =>
      rw [hg] at C2
      simp only [placeI] at C2
      go_wp2_with (first | (go_at_call 52; refine C1.out.mono ?_; rintro e w7 ⟨rfl, ht7⟩; have HT7 := Lib.hid ht7; clear ht7) | (go_at_call 52; refine (C2.out _ HT7.out).mono ?_; rintro e w8 ⟨rfl, ht8⟩; have HT8 := Lib.hid ht8; clear ht8))
      go_ret
      exact ⟨rfl, HT7.out.trans HT8.out⟩
    | some n2 =>
      rw [hg] at C2
      simp only [placeI] at C2
      go_wp2_with (first | (go_at_call 52; refine C1.out.mono ?_; rintro e w7 ⟨rfl, ht7⟩; have HT7 := Lib.hid ht7; clear ht7) | (go_at_call 52; refine (C2.out _ HT7.out).mono ?_; rintro e w8 ⟨rfl, ht8⟩; have HT8 := Lib.hid ht8; clear ht8))
      go_ret
      exact ⟨rfl, HT7.out.trans HT8.out⟩
end Go.Proofs.Ytllppkfeiifklaa
namespace Go.Proofs.Ytllppkfeiifklaa
open Go.RowKit Go.Lib
set_option linter.unusedVariables false
set_option maxRecDepth 20000
set_option linter.unusedSimpArgs false

theorem results_cct {P : Program} {fn : Func} {p q u : Tmp} {ty ty' : TypeId} (h : fn.results = #[.cell p ty, .cell q ty', .tmp u]) (tmps : Array Value) (w : World) (g g' : Nat) (t t' : TypeId) (cs cs' : Array Value) (fr fr' : Nat × Nat) (d d' : TypeDesc)
    (hp : tmps.getD p undef = .pointer (some ⟨g, 0, none⟩)) (hg : w.heap[g]? = some (.cells cs t fr)) (hu : P.underlying ty = some d) (hd : (match d with | .struct _ | .array _ _ => true | _ => false) = true) (hi : (P.info? ty).map (·.size) = some cs.size)
    (hp' : tmps.getD q undef = .pointer (some ⟨g', 0, none⟩)) (hg' : w.heap[g']? = some (.cells cs' t' fr')) (hu' : P.underlying ty' = some d') (hd' : (match d' with | .struct _ | .array _ _ => true | _ => false) = true) (hi' : (P.info? ty').map (·.size) = some cs'.size) :
    (results fn tmps).run P w = .ok (.tuple #[.agg cs, .agg cs', tmps.getD u undef]) w := by
  have hp1 : tmps[p]?.getD undef = .pointer (some ⟨g, 0, none⟩) := by simpa using hp
  have hp2 : tmps[q]?.getD undef = .pointer (some ⟨g', 0, none⟩) := by simpa using hp'
  simp [results, h, hp1, hp2, asAddr, run_loadVar_row w g t ty cs fr d hg hu hd hi, run_loadVar_row w g' t' ty' cs' fr' d' hg' hu' hd' hi', Sem.run_bind, Result.andThen]

def Opx.pure (o : Opx) : Opx := ⟨o.kind, o.k, o.v, o.o, o.had, o.aft, none, o.len, 0⟩
/-- The boxes of State's results. -/
structure Sb (w wr : World) (g4 g5 : Nat) (o : Opx) (ws : List Wr) (a : Ans) : Prop where
  tu : Turn No w wr
  o4 : w.heap.size ≤ g4
  o5 : w.heap.size ≤ g5
  b4 : At wr g4 (.cells o.cs.toArray 34 (0, 0))
  b5 : At wr g5 (.cells a.cs.toArray 38 (0, 0))
  row : wr.ownsRow w.heap.size 68 3 (.slice o.A o.len o.cap) o.len (wcs ws)
section
variable {w wr w2 : World} {g4 g5 : Nat} {o o2 : Opx} {ws ws2 : List Wr} {a a2 : Ans}
theorem Sb.no (h : Sb w wr g4 g5 o ws a) (t : Turn No wr w2) : Sb w w2 g4 g5 o ws a := ⟨h.tu.trans t, h.o4, h.o5, h.b4.no t, h.b5.no t, own_grown h.row t fun _ _ h => h⟩
theorem Sb.ne (h : Sb w wr g4 g5 o ws a) : g5 ≠ g4 := h.b5.ne h.b4 (cells_ne (by decide))
theorem Sb.put4 (h : Sb w wr g4 g5 o ws a) (t : Turn (· = g4) wr w2) (hb : At w2 g4 (.cells o2.cs.toArray 34 (0, 0))) (hr : wr.ownsRow w.heap.size 68 3 (.slice o2.A o2.len o2.cap) o2.len (wcs ws2)) : Sb w w2 g4 g5 o2 ws2 a :=
  ⟨h.tu.then t fun i hi e => by have := h.o4; omega, h.o4, h.o5, hb, h.b5.turn t h.ne, own_grown hr t fun k hk e => by
    subst e
    rw [own_ablk] at hk
    obtain ⟨_, cur, h3⟩ := own_at hr hk
    exact h.b4.ne h3 (cells_ne (by decide)) rfl⟩
theorem Sb.put5 (h : Sb w wr g4 g5 o ws a) (t : Turn (· = g5) wr w2) (hb : At w2 g5 (.cells a2.cs.toArray 38 (0, 0))) : Sb w w2 g4 g5 o ws a2 :=
  ⟨h.tu.then t fun i hi e => by have := h.o5; omega, h.o4, h.o5, h.b4.turn t h.ne.symm, hb, own_grown h.row t fun k hk e => by
    subst e
    rw [own_ablk] at hk
    obtain ⟨_, cur, h3⟩ := own_at h.row hk
    exact h.b5.ne h3 (cells_ne (by decide)) rfl⟩
theorem Sb.same4 (h : Sb w wr g4 g5 o ws a) (i : Nat) (u : Value) (hu : o.cs[i]? = some u) : Sb w (wr.setCell ⟨g4, i, none⟩ u) g4 g5 o ws a :=
  h.put4 (set_turn wr g4 i u) (At.set_same h.b4 i u (by simpa using hu)) h.row
theorem Sb.same5 (h : Sb w wr g4 g5 o ws a) (i : Nat) (u : Value) (hu : a.cs[i]? = some u) : Sb w (wr.setCell ⟨g5, i, none⟩ u) g4 g5 o ws a :=
  h.put5 (set_turn wr g5 i u) (At.set_same h.b5 i u (by simpa using hu))
theorem cputs7 {c0 c1 c2 c3 c4 c5 c6 v0 v1 v2 v3 v4 v5 v6 : Value} : cputs #[c0, c1, c2, c3, c4, c5, c6] 0 [v0, v1, v2, v3, v4, v5, v6] = #[v0, v1, v2, v3, v4, v5, v6] := by simp [cputs]
theorem cputs4 {c0 c1 c2 c3 v0 v1 v2 v3 : Value} : cputs #[c0, c1, c2, c3] 0 [v0, v1, v2, v3] = #[v0, v1, v2, v3] := by simp [cputs]
theorem Sb.set4 (h : Sb w wr g4 g5 o ws a) (hr : wr.ownsRow w.heap.size 68 3 (.slice o2.A o2.len o2.cap) o2.len (wcs ws2)) : Sb w (puts wr g4 0 o2.cs) g4 g5 o2 ws2 a :=
  h.put4 (turn_puts g4 o2.cs 0 wr) (by have := At.puts o2.cs 0 h.b4; rwa [show cputs o.cs.toArray 0 o2.cs = o2.cs.toArray from cputs7] at this) hr
theorem Sb.set5 (h : Sb w wr g4 g5 o ws a) : Sb w (puts wr g5 0 a2.cs) g4 g5 o ws a2 :=
  h.put5 (turn_puts g5 a2.cs 0 wr) (by have := At.puts a2.cs 0 h.b5; rwa [show cputs a.cs.toArray 0 a2.cs = a2.cs.toArray from cputs4] at this)
theorem Sb.there4 (h : Sb w wr g4 g5 o ws a) : wr.there g4 0 7 := fun j hj => by
  rw [Nat.zero_add, h.b4.cell]
  exact ⟨by rw [Array.getElem?_eq_getElem (by simpa [Opx.cs] using hj)]; rfl, h.b4.thawed j⟩
theorem Sb.there5 (h : Sb w wr g4 g5 o ws a) : wr.there g5 0 4 := fun j hj => by
  rw [Nat.zero_add, h.b5.cell]
  exact ⟨by rw [Array.getElem?_eq_getElem (by simpa [Ans.cs] using hj)]; rfl, h.b5.thawed j⟩
end
section
variable {w wr w2 : World} {g4 g5 : Nat} {ws : List Wr} {ok : Int} {k v o : ByteArray} {had aft : Bool} {B : Option Addr} {len c : Nat} {code : Int} {found : Bool} {ak av : ByteArray}
theorem Sb.S (h : Sb w wr g4 g5 ⟨ok, k, v, o, had, aft, B, len, c⟩ ws ⟨code, found, ak, av⟩) : wr.cell? ⟨g4, 0, none⟩ = some (.int .u8 ok) ∧ wr.cell? ⟨g4, 1, none⟩ = some (.string k) ∧ wr.cell? ⟨g4, 2, none⟩ = some (.string v) ∧ wr.cell? ⟨g4, 3, none⟩ = some (.string o) ∧ wr.cell? ⟨g4, 4, none⟩ = some (.bool had) ∧ wr.cell? ⟨g4, 5, none⟩ = some (.bool aft) ∧ wr.cell? ⟨g4, 6, none⟩ = some (.slice B len c) ∧ wr.cell? ⟨g5, 0, none⟩ = some (.int .i64 code) ∧ wr.cell? ⟨g5, 1, none⟩ = some (.bool found) ∧ wr.cell? ⟨g5, 2, none⟩ = some (.string ak) ∧ wr.cell? ⟨g5, 3, none⟩ = some (.string av) := by
  have b4 := h.b4.cell
  have b5 := h.b5.cell
  exact ⟨b4 0, b4 1, b4 2, b4 3, b4 4, b4 5, b4 6, b5 0, b5 1, b5 2, b5 3⟩
theorem Sb.all4 (h : Sb w wr g4 g5 ⟨ok, k, v, o, had, aft, B, len, c⟩ ws ⟨code, found, ak, av⟩) : Sb w (((((((wr.setCell ⟨g4, 0, none⟩ (.int .u8 ok)).setCell ⟨g4, 1, none⟩ (.string k)).setCell ⟨g4, 2, none⟩ (.string v)).setCell ⟨g4, 3, none⟩ (.string o)).setCell ⟨g4, 4, none⟩ (.bool had)).setCell ⟨g4, 5, none⟩ (.bool aft)).setCell ⟨g4, 6, none⟩ (.slice B len c)) g4 g5 ⟨ok, k, v, o, had, aft, B, len, c⟩ ws ⟨code, found, ak, av⟩ :=
  ((((((h.same4 0 _ rfl).same4 1 _ rfl).same4 2 _ rfl).same4 3 _ rfl).same4 4 _ rfl).same4 5 _ rfl).same4 6 _ rfl
theorem Sb.all5 (h : Sb w wr g4 g5 ⟨ok, k, v, o, had, aft, B, len, c⟩ ws ⟨code, found, ak, av⟩) : Sb w ((((wr.setCell ⟨g5, 0, none⟩ (.int .i64 code)).setCell ⟨g5, 1, none⟩ (.bool found)).setCell ⟨g5, 2, none⟩ (.string ak)).setCell ⟨g5, 3, none⟩ (.string av)) g4 g5 ⟨ok, k, v, o, had, aft, B, len, c⟩ ws ⟨code, found, ak, av⟩ :=
  (((h.same5 0 _ rfl).same5 1 _ rfl).same5 2 _ rfl).same5 3 _ rfl
end
end Go.Proofs.Ytllppkfeiifklaa
namespace Go.Proofs.Ytllppkfeiifklaa
open Go.RowKit Go.Lib
set_option linter.unusedVariables false
set_option maxRecDepth 20000
set_option linter.unusedSimpArgs false

/-- One round's store. -/
theorem Lv.store {w w7 : World} {ps : List (List Wr)} {L : List Ev} {lb k : Nat} {l' : List Ev} (h : Lv w w7 ps L lb k l') (hk : k < L.length) :
    ∀ i, i < 13 → ∃ u, w7.cell? ⟨lb, k * 13 + i, none⟩ = some u := by
  obtain ⟨cur, h1, h2, h3⟩ := h.cur
  intro i hi
  refine ⟨cur[k * 13 + i]'(by omega), ?_⟩
  rw [h1.cell, Array.getElem?_eq_getElem]
theorem Lv.thawed {w w7 : World} {ps : List (List Wr)} {L : List Ev} {lb k : Nat} {l' : List Ev} (h : Lv w w7 ps L lb k l') (i : Nat) : w7.frozen? ⟨lb, i, none⟩ = false := by
  obtain ⟨cur, h1, _⟩ := h.cur
  exact h1.thawed i

theorem setCells_puts (g : Nat) : ∀ (vs : List Value) (i : Nat) (w : World), w.setCells g i vs = puts w g i vs
  | [], _, _ => rfl
  | v :: vs, i, w => by rw [World.setCells, puts, setCells_puts g vs]
theorem Lv.put {w w7 : World} {ps : List (List Wr)} {L : List Ev} {lb k : Nat} {l' : List Ev} (h : Lv w w7 ps L lb k l') (hk : k < L.length) (vs : List Value) (hv : vs.length = 13) (h1 : ∀ u ∈ vs, u.oneCell' = true) :
    w7.there lb (k * 13) vs.toArray.size ∧ (Try.prog.info? 40).map (·.size) = some vs.toArray.size ∧ vs.toArray.all (·.oneCell') = true := by
  refine ⟨?_, ?_, by simpa using h1⟩
  · intro j hj
    have hj' : j < 13 := by simpa [hv] using hj
    obtain ⟨u, hu⟩ := h.store hk j hj'
    exact ⟨by rw [hu]; rfl, h.thawed _⟩
  · obtain ⟨i, hi, _, hs, _⟩ := info_parts info34
    rw [hi]
    simp [hs, hv]

end Go.Proofs.Ytllppkfeiifklaa
namespace Go.Proofs.Ytllppkfeiifklaa
open Go.RowKit Go.Lib
set_option linter.unusedVariables false
set_option maxRecDepth 20000
set_option linter.unusedSimpArgs false

/-- The writes of the events of a row that is read. -/
structure Rws (w : World) (l : List Ev) (ps : List (List Wr)) : Prop where
  len : ps.length = l.length
  get : ∀ (j : Nat) (e : Ev) (ws : List Wr), l[j]? = some e → ps[j]? = some ws → Row w e.op.A (wcs ws) ∧ e.fit ws
theorem Rws.turn {X : Nat → Prop} {w w' : World} {l : List Ev} {ps : List (List Wr)} (h : Rws w l ps) (t : Turn X w w') (hX : ∀ e ∈ l, ∀ b o, e.op.A = some ⟨b, o, none⟩ → ¬ X b) : Rws w' l ps :=
  ⟨h.len, fun j e ws he hw => ⟨(h.get j e ws he hw).1.turn t (hX e (List.mem_of_getElem? he)), (h.get j e ws he hw).2⟩⟩
theorem Rws.no {w w' : World} {l : List Ev} {ps : List (List Wr)} (h : Rws w l ps) (t : Turn No w w') : Rws w' l ps := h.turn t fun _ _ _ _ _ h => h
theorem Rws.at_ {w : World} {l : List Ev} {ps : List (List Wr)} (h : Rws w l ps) {j : Nat} {e : Ev} (he : l[j]? = some e) : ∃ ws, ps[j]? = some ws ∧ Row w e.op.A (wcs ws) ∧ e.fit ws := by
  have hj : j < ps.length := by rw [h.len]; exact (List.getElem?_eq_some_iff.1 he).1
  exact ⟨ps[j], List.getElem?_eq_getElem hj, h.get j e _ he (List.getElem?_eq_getElem hj)⟩
theorem Wss.rws {w : World} {Z : Nat} {l : List Ev} {ps : List (List Wr)} (h : Wss w Z l ps) : Rws w l ps := ⟨h.len, fun j e ws he hw => ⟨row_of_own (h.own j e ws he hw).1, (h.own j e ws he hw).2⟩⟩

def stO (l : List Ev) (id : Int) : Opx := match firstAt 1 id l with
  | none => op00
  | some n => ((l[n]?).map (·.op.pure)).getD op00
def stW (l : List Ev) (ps : List (List Wr)) (id : Int) : List Wr := match firstAt 1 id l with
  | none => []
  | some n => (ps[n]?).getD []
def stA (l : List Ev) (id : Int) : Ans := match firstAt 2 id l with
  | none => ans00
  | some n => ((l[n]?).map (·.an)).getD ans00
def stN (l : List Ev) (id : Int) : Int := match firstAt 1 id l with
  | none => 0
  | some _ => match firstAt 2 id l with
    | none => 1
    | some _ => match firstAt 3 id l with
      | none => 2
      | some _ => 3
theorem one_op (o : Opx) : ∀ u ∈ o.cs, u.oneCell' = true := by
  intro u hu
  simp only [Opx.cs, List.mem_cons, List.not_mem_nil, or_false] at hu
  rcases hu with rfl | rfl | rfl | rfl | rfl | rfl | rfl <;> rfl
theorem one_an (a : Ans) : ∀ u ∈ a.cs, u.oneCell' = true := by
  intro u hu
  simp only [Ans.cs, List.mem_cons, List.not_mem_nil, or_false] at hu
  rcases hu with rfl | rfl | rfl | rfl <;> rfl
theorem range_op {w : World} {b o : Nat} {e : Ev} (h : w.rangeAt b o e.cs) : w.rangeAt b (o + 2) e.op.cs := fun j v hv => by
  have := h (2 + j) v (by simp only [Ev.cs, Nat.add_comm 2 j]; rw [List.getElem?_cons_succ, List.getElem?_cons_succ, List.getElem?_append_left (List.getElem?_eq_some_iff.1 hv).1]; exact hv)
  rwa [Nat.add_assoc]
theorem range_an {w : World} {b o : Nat} {e : Ev} (h : w.rangeAt b o e.cs) : w.rangeAt b (o + 9) e.an.cs := fun j v hv => by
  have := h (9 + j) v (by
    rw [show e.cs = (.int .u8 e.kind :: .int .i64 e.id :: e.op.cs) ++ e.an.cs from rfl, List.getElem?_append_right (by show 9 ≤ 9 + j; omega), show 9 + j - (Value.int .u8 e.kind :: Value.int .i64 e.id :: e.op.cs).length = j from by show 9 + j - 9 = j; omega]
    exact hv)
  rwa [Nat.add_assoc]

theorem all_one {vs : List Value} (h : ∀ u ∈ vs, u.oneCell' = true) : vs.toArray.all (·.oneCell') = true := by simpa using h
theorem state_of {l : List Ev} {ps : List (List Wr)} {id : Int} {n : Nat} {e : Ev} {ws : List Wr} (h : firstAt 1 id l = some n) (he : l[n]? = some e) (hw : ps[n]? = some ws) : stO l id = e.op.pure ∧ stW l ps id = ws := by
  simp [stO, stW, h, he, hw]
theorem state_no {l : List Ev} {ps : List (List Wr)} {id : Int} (h : firstAt 1 id l = none) : stO l id = op00 ∧ stW l ps id = [] := by
  simp [stO, stW, h]
theorem answer_of {l : List Ev} {id : Int} {n : Nat} {e : Ev} (h : firstAt 2 id l = some n) (he : l[n]? = some e) : stA l id = e.an := by
  simp [stA, h, he]
theorem answer_no {l : List Ev} {id : Int} (h : firstAt 2 id l = none) : stA l id = ans00 := by
  simp [stA, h]
end Go.Proofs.Ytllppkfeiifklaa
