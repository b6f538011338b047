/-
  Nodes: words; moved, now, New, Kind, Len, Get, From.
-/
import Derived.Test.YtijlcehjlacihaaEaS
namespace Go.Proofs.Ytijlcehjlacihaa
open Go.RowKit Go.Lib
set_option linter.unusedVariables false
set_option maxRecDepth 20000
set_option linter.unusedSimpArgs false

namespace NS

set_option maxHeartbeats 1000000 in
theorem moved_any {w0 w : World} {Z : Dom} {k g k' g' : Nat} {t t' : TypeId} {L : List (Nat × ByteArray)} (hs : Sh w0 Z L k t g) (hto : Sh w (Dom.of w0.heap.size) [] k' t' g') (T : Turn No w0 w) (hr : L.length ≤ k') :
    Calls Try.prog 41 #[.iface t (.pointer (some ⟨g, 0, none⟩)), .iface t' (.pointer (some ⟨g', 0, none⟩))] w fun e w' => e = .returned (.iface t' (.pointer (some ⟨g', 0, none⟩))) ∧ Sh w' (Dom.of w0.heap.size) L k' t' g' ∧ Turn No w0 w' := by
  have CE := Lib.hid (each_set hs hto T hr)
  clear hs hto T hr
  go_enter Try.func41, Try.ntmps41
  go_wp2_with (go_at_call 45; (with_reducible refine CE.out.mono ?_); rintro e w1 ⟨rfl, h1⟩; replace h1 := Lib.hid h1)
  go_ret
  exact ⟨rfl, h1.out⟩
/-- How many a shape of the kind k has. -/
structure Kok (k n : Nat) : Prop where
  le : n ≤ k
  a : k = 16 → 3 < n
  b : k = 48 → 12 < n
  c : k = 256 → 36 < n
/-- A node in memory. -/
def Nd (w : World) (Z : Dom) (a k : Nat) (L : List (Nat × ByteArray)) : Prop := ∃ t g, Z.ok a ∧ At w a (.cells #[.iface t (.pointer (some ⟨g, 0, none⟩))] 82 (0, 0)) ∧ Sh w Z L k t g ∧ Kok k L.length
theorem Nd.no {w w' : World} {Z : Dom} {a k : Nat} {L : List (Nat × ByteArray)} (h : Nd w Z a k L) (T : Turn No w w') : Nd w' Z a k L := by
  obtain ⟨t, g, hz, hat, hs, hk⟩ := h
  exact ⟨t, g, hz, hat.no T, hs.no T, hk⟩
theorem Nd.asc {w : World} {Z : Dom} {a k : Nat} {L : List (Nat × ByteArray)} (h : Nd w Z a k L) : Asc L := by obtain ⟨t, g, hz, hat, hs, hk⟩ := h; exact hs.asc
theorem Nd.byt {w : World} {Z : Dom} {a k : Nat} {L : List (Nat × ByteArray)} (h : Nd w Z a k L) : Byt L := by obtain ⟨t, g, hz, hat, hs, hk⟩ := h; exact hs.byt
theorem Nd.ok {w : World} {Z : Dom} {a k : Nat} {L : List (Nat × ByteArray)} (h : Nd w Z a k L) : Kok k L.length := by obtain ⟨t, g, hz, hat, hs, hk⟩ := h; exact hk
theorem Nd.kind {w : World} {Z : Dom} {a k : Nat} {L : List (Nat × ByteArray)} (h : Nd w Z a k L) : k = 4 ∨ k = 16 ∨ k = 48 ∨ k = 256 := by
  obtain ⟨t, g, hz, hat, hs, hk⟩ := h
  rcases hs.kt with ⟨h, _⟩ | ⟨h, _⟩ | ⟨h, _⟩ | ⟨h, _⟩
  · exact .inl h
  · exact .inr (.inl h)
  · exact .inr (.inr (.inl h))
  · exact .inr (.inr (.inr h))
theorem at1 {w : World} {g : Nat} {a : Value} {t : TypeId} (h : At w g (.cells #[a] t (0, 0))) : w.cell? ⟨g, 0, none⟩ = some a ∧ w.frozen? ⟨g, 0, none⟩ = false := ⟨by simpa using h.cell 0, h.thawed 0⟩
theorem eq_nil {k : Nat} {t : TypeId} (h : KT k t) (v : Value) (w : World) : (binOp .eql 80 (.iface t v) .nilIface).run Try.prog w = .ok (.bool false) w := by
  rcases h with ⟨_, rfl⟩ | ⟨_, rfl⟩ | ⟨_, rfl⟩ | ⟨_, rfl⟩ <;> kernel_rfl
theorem now_any {w : World} {a g : Nat} {t : TypeId} {k : Nat} (hk : KT k t) (hat : At w a (.cells #[.iface t (.pointer (some ⟨g, 0, none⟩))] 82 (0, 0))) :
    Calls Try.prog 40 #[.pointer (some ⟨a, 0, none⟩)] w fun e w' => e = .returned (.iface t (.pointer (some ⟨g, 0, none⟩))) ∧ w' = w := by
  obtain ⟨c0, _⟩ := at1 hat
  have qn := eq_nil hk
  clear hk hat
  go_enter Try.func40, Try.ntmps40
  go_wp2
  go_ret
  exact ⟨rfl, rfl⟩
theorem new_any (w : World) {Z : Dom} (hz : Z ≤ w.heap.size) : Calls Try.prog 22 #[] w fun e w' => ∃ a, e = .returned (.pointer (some ⟨a, 0, none⟩)) ∧ Nd w' Z a 4 [] ∧ w.heap.size ≤ a ∧ Turn No w w' := by
  have H0 : Hid (∀ v : Value, Nd ((w.alloc (.cells #[.slice none 0 0, .slice none 0 0] 78)).alloc (.cells #[.iface 73 (.pointer (some ⟨w.heap.size, 0, none⟩))] 82)) Z (w.heap.size + 1) 4 [] ∧ Turn No w ((w.alloc (.cells #[.slice none 0 0, .slice none 0 0] 78)).alloc (.cells #[.iface 73 (.pointer (some ⟨w.heap.size, 0, none⟩))] 82))) := Lib.hid fun _ =>
    ⟨⟨73, w.heap.size, .inl (by omega), At.new2 w _ _, .inl ⟨rfl, rfl, ((lst_new w 78 (Or.inl rfl)).no (new_alloc _ _)) |> fun h => by
      obtain ⟨A, B, ca, cb, h⟩ := h
      exact ⟨A, B, ca, cb, h.asc, h.byt, .inl hz, h.ty, h.at_, own_from h.bs hz, own_from h.xs hz⟩⟩, ⟨by simp, by decide, by decide, by decide⟩⟩, (new_alloc w _).trans (new_alloc _ _)⟩
  go_enter Try.func22, Try.ntmps22
  go_wp2
  go_ret
  exact ⟨_, rfl, (H0.out .nilIface).1, by omega, (H0.out .nilIface).2⟩
/-- A new node, with the blocks that it has. -/
theorem new_e (w : World) : Calls Try.prog 22 #[] w fun e w' => ∃ a g, e = .returned (.pointer (some ⟨a, 0, none⟩)) ∧ (∀ n, Nd w' ⟨n, fun x => x = a ∨ x = g⟩ a 4 []) ∧ w.heap.size ≤ a ∧ w.heap.size ≤ g ∧ a < w'.heap.size ∧ g < w'.heap.size ∧ Turn No w w' := by
  have H0 : Hid (∀ n : Nat, Nd ((w.alloc (.cells #[.slice none 0 0, .slice none 0 0] 78)).alloc (.cells #[.iface 73 (.pointer (some ⟨w.heap.size, 0, none⟩))] 82)) ⟨n, fun x => x = w.heap.size + 1 ∨ x = w.heap.size⟩ (w.heap.size + 1) 4 [] ∧ Turn No w ((w.alloc (.cells #[.slice none 0 0, .slice none 0 0] 78)).alloc (.cells #[.iface 73 (.pointer (some ⟨w.heap.size, 0, none⟩))] 82))) := Lib.hid fun n =>
    ⟨⟨73, w.heap.size, .inr (.inl rfl), At.new2 w _ _, .inl ⟨rfl, rfl, none, none, 0, 0, Asc.nil, fun p hp => (by cases hp), .inr (.inr rfl), .inl rfl, (At.new w _).no (new_alloc _ _), World.ownsRow_nil _ _ _ _, World.ownsRow_nil _ _ _ _⟩, ⟨by simp, by decide, by decide, by decide⟩⟩, (new_alloc w _).trans (new_alloc _ _)⟩
  go_enter Try.func22, Try.ntmps22
  go_wp2
  go_ret
  exact ⟨_, _, rfl, fun n => (H0.out n).1, by omega, Nat.le_refl _, by simp <;> omega, by simp <;> omega, (H0.out 0).2⟩
section
variable {w : World} {Z : Dom} {a k : Nat} {L : List (Nat × ByteArray)}
set_option maxHeartbeats 1000000 in
theorem kind_any (h : Nd w Z a k L) : Calls Try.prog 23 #[.pointer (some ⟨a, 0, none⟩)] w fun e w' => e = .returned (.int .i64 (k : Int)) ∧ w' = w := by
  obtain ⟨t, g, hz, hat, hs, hk⟩ := h
  have CN := Lib.hid (now_any hs.kt hat)
  have CK := Lib.hid fun W => kindf_any hs.kt (.pointer (some ⟨g, 0, none⟩)) W
  clear hat hs hk
  go_enter Try.func23, Try.ntmps23
  go_wp2_with (first | (go_at_call 40; (with_reducible refine CN.out.mono ?_); rintro e w1 ⟨rfl, rfl⟩) | (go_at_call 39; (with_reducible refine (CK.out _).mono ?_); rintro e w1 ⟨rfl, rfl⟩))
  go_ret
  exact ⟨rfl, rfl⟩
set_option maxHeartbeats 1000000 in
theorem len_any (h : Nd w Z a k L) : Calls Try.prog 25 #[.pointer (some ⟨a, 0, none⟩)] w fun e w' => e = .returned (.int .i64 (L.length : Int)) ∧ w' = w := by
  obtain ⟨t, g, hz, hat, hs, hk⟩ := h
  have CN := Lib.hid (now_any hs.kt hat)
  obtain ⟨K, M, C⟩ := hs.len
  have hm := M.m
  have he : ∀ (args : Array Value) (w : World), (callFunc K args).run Try.prog w = .ok (.enter K args) w := M.ent
  have C0 := Lib.hid (C w (Turn.refl _ _))
  clear hat hs hk C M
  go_enter Try.func25, Try.ntmps25
  go_wp2_with (first | (go_at_call 40; (with_reducible refine CN.out.mono ?_); rintro e w1 ⟨rfl, rfl⟩) | (go_at_fn K; (with_reducible refine C0.out.mono ?_); rintro e w1 ⟨rfl, rfl⟩))
  go_ret
  exact ⟨rfl, rfl⟩
set_option maxHeartbeats 1000000 in
theorem get_any (h : Nd w Z a k L) (b : Nat) (hb : b < 256) : Calls Try.prog 26 #[.pointer (some ⟨a, 0, none⟩), .int .u8 (b : Int)] w fun e w' => e = .returned (getV (getC L b)) ∧ Turn No w w' := by
  obtain ⟨t, g, hz, hat, hs, hk⟩ := h
  have CN := Lib.hid (now_any hs.kt hat)
  obtain ⟨K, M, C⟩ := hs.get
  have hm := M.m
  have he : ∀ (args : Array Value) (w : World), (callFunc K args).run Try.prog w = .ok (.enter K args) w := M.ent
  have C0 := Lib.hid (C w (Turn.refl _ _) b hb)
  rw [getV_of] at *
  clear hat hs hk C M
  go_enter Try.func26, Try.ntmps26
  go_wp2_with (first | (go_at_call 40; (with_reducible refine CN.out.mono ?_); rintro e w1 ⟨rfl, rfl⟩) | (go_at_fn K; (with_reducible refine C0.out.mono ?_); rintro e w1 ⟨rfl, ht⟩; replace ht := Lib.hid ht))
  go_ret2
  exact ⟨rfl, ht.out⟩
set_option maxHeartbeats 1000000 in
theorem from_neg (h : Nd w Z a k L) (b : Int) (hb : b < 0) : Calls Try.prog 27 #[.pointer (some ⟨a, 0, none⟩), .int .i64 b] w fun e w' => e = .returned (fromV (nxtC L 0)) ∧ Turn No w w' := by
  obtain ⟨t, g, hz, hat, hs, hk⟩ := h
  have CN := Lib.hid (now_any hs.kt hat)
  obtain ⟨K, M, C⟩ := hs.from
  have hm := M.m
  have he : ∀ (args : Array Value) (w : World), (callFunc K args).run Try.prog w = .ok (.enter K args) w := M.ent
  obtain ⟨x, y, z, _, hf⟩ := Thr.tuple (o := nxtC L 0)
  have HF := Lib.hid hf
  have C0 : Hid (Calls Try.prog K #[.pointer (some ⟨g, 0, none⟩), .int .i64 0] w fun e w' => e = .returned (.tuple #[x, y, z]) ∧ Turn No w w') := Lib.hid (by
    refine (C w (Turn.refl _ _) 0).mono fun e w' q => ?_
    exact ⟨by rw [q.1, hf], q.2⟩)
  clear hat hs hk C M hf
  go_enter Try.func27, Try.ntmps27
  go_wp2_with (first | (go_at_call 40; (with_reducible refine CN.out.mono ?_); rintro e w1 ⟨rfl, rfl⟩) | (go_at_fn K; (with_reducible refine C0.out.mono ?_); rintro e w1 ⟨rfl, ht⟩; replace ht := Lib.hid ht))
  all_goals go_ret3
  all_goals exact ⟨by rw [HF.out]; rfl, ht.out⟩
set_option maxHeartbeats 1000000 in
theorem from_zero (h : Nd w Z a k L)  : Calls Try.prog 27 #[.pointer (some ⟨a, 0, none⟩), .int .i64 0] w fun e w' => e = .returned (fromV (nxtC L 0)) ∧ Turn No w w' := by
  obtain ⟨t, g, hz, hat, hs, hk⟩ := h
  have CN := Lib.hid (now_any hs.kt hat)
  obtain ⟨K, M, C⟩ := hs.from
  have hm := M.m
  have he : ∀ (args : Array Value) (w : World), (callFunc K args).run Try.prog w = .ok (.enter K args) w := M.ent
  obtain ⟨x, y, z, _, hf⟩ := Thr.tuple (o := nxtC L 0)
  have HF := Lib.hid hf
  have C0 : Hid (Calls Try.prog K #[.pointer (some ⟨g, 0, none⟩), .int .i64 0] w fun e w' => e = .returned (.tuple #[x, y, z]) ∧ Turn No w w') := Lib.hid (by
    refine (C w (Turn.refl _ _) 0).mono fun e w' q => ?_
    exact ⟨by rw [q.1, hf], q.2⟩)
  clear hat hs hk C M hf
  go_enter Try.func27, Try.ntmps27
  go_wp2_with (first | (go_at_call 40; (with_reducible refine CN.out.mono ?_); rintro e w1 ⟨rfl, rfl⟩) | (go_at_fn K; (with_reducible refine C0.out.mono ?_); rintro e w1 ⟨rfl, ht⟩; replace ht := Lib.hid ht))
  all_goals go_ret3
  all_goals exact ⟨by rw [HF.out]; rfl, ht.out⟩
set_option maxHeartbeats 1000000 in
theorem from_pos (h : Nd w Z a k L) (n : Nat) (hn : 0 < n) : Calls Try.prog 27 #[.pointer (some ⟨a, 0, none⟩), .int .i64 (n : Int)] w fun e w' => e = .returned (fromV (nxtC L n)) ∧ Turn No w w' := by
  obtain ⟨t, g, hz, hat, hs, hk⟩ := h
  have CN := Lib.hid (now_any hs.kt hat)
  obtain ⟨K, M, C⟩ := hs.from
  have hm := M.m
  have he : ∀ (args : Array Value) (w : World), (callFunc K args).run Try.prog w = .ok (.enter K args) w := M.ent
  obtain ⟨x, y, z, _, hf⟩ := Thr.tuple (o := nxtC L n)
  have HF := Lib.hid hf
  have C0 : Hid (Calls Try.prog K #[.pointer (some ⟨g, 0, none⟩), .int .i64 (n : Int)] w fun e w' => e = .returned (.tuple #[x, y, z]) ∧ Turn No w w') := Lib.hid (by
    refine (C w (Turn.refl _ _) n).mono fun e w' q => ?_
    exact ⟨by rw [q.1, hf], q.2⟩)
  clear hat hs hk C M hf
  have hn1 : ¬ ((n : Int) < 0) := by omega
  have hn2 : (0 : Int) < (n : Int) := by omega
  go_enter Try.func27, Try.ntmps27
  go_wp2_with (first | (go_at_call 40; (with_reducible refine CN.out.mono ?_); rintro e w1 ⟨rfl, rfl⟩) | (go_at_fn K; (with_reducible refine C0.out.mono ?_); rintro e w1 ⟨rfl, ht⟩; replace ht := Lib.hid ht))
  all_goals go_ret3
  all_goals exact ⟨by rw [HF.out]; rfl, ht.out⟩
theorem from_any (h : Nd w Z a k L) (b : Int) : Calls Try.prog 27 #[.pointer (some ⟨a, 0, none⟩), .int .i64 b] w fun e w' => e = .returned (fromV (nxtC L b.toNat)) ∧ Turn No w w' := by
  rcases Int.lt_trichotomy b 0 with hb | hb | hb
  · rw [show b.toNat = 0 by omega]; exact from_neg h b hb
  · subst hb; exact from_zero h
  · obtain ⟨n, rfl⟩ : ∃ n : Nat, b = (n : Int) := ⟨b.toNat, by omega⟩
    exact from_pos h n (by omega)
end
end NS
end Go.Proofs.Ytijlcehjlacihaa
