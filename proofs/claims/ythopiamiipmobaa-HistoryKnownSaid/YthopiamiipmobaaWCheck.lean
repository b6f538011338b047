/-
  Check: the place of the first event that does not fit.
-/
import Derived.Test.YthopiamiipmobaaEvr
import Derived.Deep.MidRow
namespace Go.Proofs.Ythopiamiipmobaa
open Go.RowKit Go.Lib
set_option linter.unusedVariables false
set_option linter.unusedSimpArgs false

theorem At.range {w : World} {g : Nat} {vs : List Value} {t : TypeId} {f : Nat × Nat} (h : At w g (.cells vs.toArray t f)) : w.rangeAt g 0 vs := by
  intro j v hv
  rw [Nat.zero_add, h.cell]
  simpa using hv
theorem Row.range {w : World} {A : Option Addr} {l : List Ev} (h : Row w A (ecs l)) {k : Nat} {e : Ev} (he : l[k]? = some e) :
    ∃ b o, A = some ⟨b, o, none⟩ ∧ b < w.heap.size ∧ w.rangeAt b (o + k * 13) e.cs := by
  obtain ⟨b, o, h1, h2, h3⟩ := h.ev he
  exact ⟨b, o, h1, h2, h3⟩
theorem inf34 : (Try.prog.info? 34).map (·.size) = some 13 := by kernel_rfl
theorem inf29 : (Try.prog.info? 29).map (·.size) = some 7 := by kernel_rfl
theorem inf32 : (Try.prog.info? 32).map (·.size) = some 4 := by kernel_rfl
theorem inf53 : (Try.prog.info? 53).map (·.size) = some 3 := by kernel_rfl

/-- l[n] is the first event that does not fit. -/
def Bad (l : List Ev) (n : Nat) : Prop := Right (l.take n) ∧ ∃ e, l[n]? = some e ∧ fits (l.take n) e = false
def Checked (l : List Ev) (at_ : Int) (code : Int) : Prop := (Right l ∧ at_ = -1 ∧ code = 0) ∨ ∃ n : Nat, Bad l n ∧ at_ = n ∧ code = 31

/-- In Check: the map has what is known of the first k events. -/
structure Ck (w wr : World) (mb : Nat) (l : List Ev) (k : Nat) : Prop where
  tu : Turn No w wr
  old : w.heap.size ≤ mb
  mp : Mp wr (some mb) (l.take k)
  right : Right (l.take k)
theorem Ck.no {w wr w2 : World} {mb : Nat} {l : List Ev} {k : Nat} (h : Ck w wr mb l k) (t : Turn No wr w2) : Ck w w2 mb l k := ⟨h.tu.trans t, h.old, h.mp.no t, h.right⟩
theorem Ck.step {w wr w2 : World} {mb : Nat} {l : List Ev} {k : Nat} (h : Ck w wr mb l k) {e : Ev} (he : l[k]? = some e) (hf : fits (l.take k) e = true) (hm : Mp w2 (some mb) (l.take k ++ [e])) (t : Turn (· = mb) wr w2) : Ck w w2 mb l (k + 1) := by
  have e1 : l.take (k + 1) = l.take k ++ [e] := by rw [List.take_add_one, he]; rfl
  exact ⟨h.tu.then t fun i hi e => by have := h.old; omega, h.old, by rw [e1]; exact hm, by rw [e1]; exact .snoc h.right hf⟩

set_option maxHeartbeats 4000000 in
theorem check_any (l : List Ev) (A : Option Addr) (cap : Nat) (w : World) (hR : Row w A (ecs l)) (hid : ∀ e ∈ l, In64 e.id) (hl : l.length ≤ 100000) :
    Calls Try.prog 18 #[.slice A l.length cap] w fun r w' => ∃ at_ code, r = .returned (.tuple #[.int .i64 at_, .int .i64 code]) ∧ Checked l at_ code ∧ Turn No w w' := by
  have HL := Lib.hid (And.intro hR hid)
  clear hR hid
  have hmm := @run_makeMap Try.prog
  have hC0 : Hid (Ck w (w.alloc (.map #[] 0)) w.heap.size l 0) := Lib.hid ⟨(Turn.refl _ _).alloc _, Nat.le_refl _, by simpa using Mp.made w, by simpa using Right.nil⟩
  go_enter Try.func18, Try.ntmps18
  go_upto_region 2 with (fail)
  generalize w.alloc (.map #[] 0) = w1 at hC0 ⊢
  obtain ⟨mb, hmb⟩ : ∃ mb, w.heap.size = mb := ⟨_, rfl⟩
  have HB := Lib.hid hmb
  rw [hmb] at hC0 ⊢
  clear hmb hmm
  go_wp2_with fail
  go_loopw [10] (fun i wr => ∃ kk : Nat, kk ≤ l.length ∧ i = .int .i64 (kk : Int) ∧ Hid (Ck w wr mb l kk)) (fun i _ => l.length - (RowKit.intOf i).toNat)
  case atStart => exact ⟨0, Nat.zero_le _, rfl, hC0⟩
  case round =>
    obtain ⟨kk, hm, rfl, HP⟩ := hrel
    clear hC0
    by_cases hlt : kk < l.length
    · obtain ⟨e, he⟩ : ∃ e, l[kk]? = some e := ⟨l[kk], List.getElem?_eq_getElem hlt⟩
      obtain ⟨b, off, hA, hb, hx⟩ := (HL.out.1.turn HP.out.tu fun _ _ _ h => h).range he
      have hidk := HL.out.2 e (List.mem_of_getElem? he)
      obtain ⟨kind, id, ⟨ok, k, v, o, had, aft, A0, len, cap0⟩, ⟨code, found, ak, av⟩⟩ := e
      have tn : Turn No wr (wr.alloc (.cells #[.int .u8 kind, .int .i64 id, .int .u8 ok, .string k, .string v, .string o, .bool had, .bool aft, .slice A0 len cap0, .int .i64 code, .bool found, .string ak, .string av] 34)) := (Turn.refl _ _).alloc _
      have HN : Hid (Ck w (wr.alloc (.cells #[.int .u8 kind, .int .i64 id, .int .u8 ok, .string k, .string v, .string o, .bool had, .bool aft, .slice A0 len cap0, .int .i64 code, .bool found, .string ak, .string av] 34)) mb l kk ∧ At (wr.alloc (.cells #[.int .u8 kind, .int .i64 id, .int .u8 ok, .string k, .string v, .string o, .bool had, .bool aft, .slice A0 len cap0, .int .i64 code, .bool found, .string ak, .string av] 34)) wr.heap.size (.cells #[.int .u8 kind, .int .i64 id, .int .u8 ok, .string k, .string v, .string o, .bool had, .bool aft, .slice A0 len cap0, .int .i64 code, .bool found, .string ak, .string av] 34 (0, 0))) := Lib.hid ⟨HP.out.no tn, At.new _ _⟩
      have hr1 : wr.rangeAt b (off + kk * 13) [.int .u8 kind, .int .i64 id, .int .u8 ok, .string k, .string v, .string o, .bool had, .bool aft, .slice A0 len cap0, .int .i64 code, .bool found, .string ak, .string av] := hx
      have HE := Lib.hid (And.intro he hidk)
      subst hA
      clear hx tn HP hb he hidk
      go_upto_region 5 with (refine wpList_load_mid rfl 34 _ rfl b (off + kk * 13) rfl [.int .u8 kind, .int .i64 id, .int .u8 ok, .string k, .string v, .string o, .bool had, .bool aft, .slice A0 len cap0, .int .i64 code, .bool found, .string ak, .string av] _ hr1 Try.underlying34 rfl inf34 ?_)
      clear hr1
      generalize wr.alloc (.cells #[.int .u8 kind, .int .i64 id, .int .u8 ok, .string k, .string v, .string o, .bool had, .bool aft, .slice A0 len cap0, .int .i64 code, .bool found, .string ak, .string av] 34) = w6 at HN ⊢
      generalize wr.heap.size = g at HN ⊢
      have hr2 : w6.rangeAt g 0 [.int .u8 kind, .int .i64 id, .int .u8 ok, .string k, .string v, .string o, .bool had, .bool aft, .slice A0 len cap0, .int .i64 code, .bool found, .string ak, .string av] := HN.out.2.range
      have C1 := Lib.hid (fits_any (l.take kk) HN.out.1.right (some mb) ⟨kind, id, ⟨ok, k, v, o, had, aft, A0, len, cap0⟩, ⟨code, found, ak, av⟩⟩ HE.out.2 w6 HN.out.1.mp)
      go_upto_if 18 with (first | (refine wpList_load_mid rfl 34 _ rfl g 0 rfl [.int .u8 kind, .int .i64 id, .int .u8 ok, .string k, .string v, .string o, .bool had, .bool aft, .slice A0 len cap0, .int .i64 code, .bool found, .string ak, .string av] _ hr2 Try.underlying34 rfl inf34 ?_) | (go_at_call 33; refine C1.out.mono ?_; rintro e w7 ⟨rfl, ht7⟩; have HT7 := Lib.hid ht7; clear ht7))
      have hr3 : w7.rangeAt g 0 [.int .u8 kind, .int .i64 id, .int .u8 ok, .string k, .string v, .string o, .bool had, .bool aft, .slice A0 len cap0, .int .i64 code, .bool found, .string ak, .string av] := (HN.out.2.no HT7.out).range
      clear hr2 C1
      cases hf : fits (l.take kk) ⟨kind, id, ⟨ok, k, v, o, had, aft, A0, len, cap0⟩, ⟨code, found, ak, av⟩⟩ with
      | true =>
        have hf' := Lib.hid hf
        have C2 := Lib.hid (note_any (l.take kk) mb ⟨kind, id, ⟨ok, k, v, o, had, aft, A0, len, cap0⟩, ⟨code, found, ak, av⟩⟩ hf HE.out.2 (by rw [List.length_take]; omega) w7 (HN.out.1.no HT7.out).mp)
        go_wp2_with (first | (refine wpList_load_mid rfl 34 _ rfl g 0 rfl [.int .u8 kind, .int .i64 id, .int .u8 ok, .string k, .string v, .string o, .bool had, .bool aft, .slice A0 len cap0, .int .i64 code, .bool found, .string ak, .string av] _ hr3 Try.underlying34 rfl inf34 ?_) | (go_at_call 34; refine C2.out.mono ?_; rintro e w8 ⟨rfl, hm8, ht8⟩; have HT8 := Lib.hid (And.intro hm8 ht8); clear hm8 ht8))
        have HQ := Lib.hid ((HN.out.1.no HT7.out).step HE.out.1 hf'.out HT8.out.1 HT8.out.2)
        exact ⟨⟨kk + 1, by omega, by go_num, HQ⟩, by simp [RowKit.intOf]; omega⟩
      | false =>
        have hf' := Lib.hid hf
        go_wp2_with fail
        go_ret2
        exact ⟨_, _, rfl, .inr ⟨kk, ⟨HN.out.1.right, _, HE.out.1, hf'.out⟩, rfl, rfl⟩, HN.out.1.tu.trans HT7.out⟩
    · obtain rfl : kk = l.length := by omega
      go_wp2_with fail
      go_ret2
      have hr := HP.out.right
      rw [List.take_length] at hr
      exact ⟨_, _, rfl, .inl ⟨hr, rfl, rfl⟩, HP.out.tu⟩
end Go.Proofs.Ythopiamiipmobaa
