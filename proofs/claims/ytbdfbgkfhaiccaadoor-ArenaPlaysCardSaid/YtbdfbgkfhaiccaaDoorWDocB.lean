/-
  What Alive and Release of the document's pool come to.
-/
import Derived.Test.YtbdfbgkfhaiccaaDoorWDoc
namespace Go.Proofs.YtbdfbgkfhaiccaaDoor
open Go.RowKit Go.Maps
set_option linter.unusedVariables false

set_option maxRecDepth 100000 in
set_option maxHeartbeats 1000000 in
theorem dalive_neg {qb lb cap : Nat} {L : List Sl} {w : World} (h : Doc w qb lb cap L) (a g : Nat) (s : Int) (hs : s < 0) : Calls Tryd.prog 40 #[.pointer (some ⟨qb, 0, none⟩), .int .i64 (a : Int), .agg #[.int .i64 s, .int .u64 (g : Int)]] w fun e w' => e = .returned (.bool false) ∧ Turn (fun _ => False) w w' := by
  have h' := h.same ((Turn.refl _ w).alloc (.cells #[.int .i64 s, .int .u64 (g : Int)] 32))
  have hh := h'.head
  have hle := h.le
  have k0 : decide ((0 : Int) ≤ s) = false := by simp; omega
  clear h h'
  go_enter Tryd.func40, Tryd.ntmps40
  go_wp2_with fail
  go_quiet (fail)
  go_wp2_with fail
  go_ret
  exact ⟨rfl, ((Turn.refl _ w).alloc _).drewN _⟩

set_option maxRecDepth 100000 in
set_option maxHeartbeats 1000000 in
theorem dalive_far {qb lb cap : Nat} {L : List Sl} {w : World} (h : Doc w qb lb cap L) (a g : Nat) (s : Int) (hs0 : 0 ≤ s) (hs : (L.length : Int) ≤ s) : Calls Tryd.prog 40 #[.pointer (some ⟨qb, 0, none⟩), .int .i64 (a : Int), .agg #[.int .i64 s, .int .u64 (g : Int)]] w fun e w' => e = .returned (.bool false) ∧ Turn (fun _ => False) w w' := by
  have h' := h.same ((Turn.refl _ w).alloc (.cells #[.int .i64 s, .int .u64 (g : Int)] 32))
  have hh := h'.head
  have hle := h.le
  have k0 : decide ((0 : Int) ≤ s) = true := by simp; omega
  have k1 : decide (s < (L.length : Int)) = false := by simp; omega
  generalize L.length = n at hh hle k1 hs
  clear h h'
  go_enter Tryd.func40, Tryd.ntmps40
  go_wp2_with fail
  go_quiet (fail)
  go_wp2_with fail
  go_ret
  exact ⟨rfl, ((Turn.refl _ w).alloc _).drewN _⟩

set_option maxRecDepth 100000 in
set_option maxHeartbeats 1000000 in
theorem dalive_who {qb lb cap : Nat} {L : List Sl} {w : World} (h : Doc w qb lb cap L) (a g : Nat) (k : Nat) (q : Sl) (hk : L[k]? = some q) (hw : q.who ≠ a) : Calls Tryd.prog 40 #[.pointer (some ⟨qb, 0, none⟩), .int .i64 (a : Int), .agg #[.int .i64 (k : Int), .int .u64 (g : Int)]] w fun e w' => e = .returned (.bool false) ∧ Turn (fun _ => False) w w' := by
  have h' := h.same ((Turn.refl _ w).alloc (.cells #[.int .i64 (k : Int), .int .u64 (g : Int)] 32))
  have hh := h'.head
  have hle := h.le
  have hkl : k < L.length := (List.getElem?_eq_some_iff.1 hk).1
  obtain ⟨c0, c1, c2⟩ := h'.at hk
  have k0 : decide ((0 : Int) ≤ (k : Int)) = true := by simp
  have k1 : decide ((k : Int) < (L.length : Int)) = true := by simp; omega
  have k1' : (k : Int) < (L.length : Int) := by omega
  have k1n : decide (k < L.length) = true := by simp; omega
  obtain ⟨u, hu⟩ : ∃ u, u = q.g := ⟨_, rfl⟩
  obtain ⟨v, hv⟩ : ∃ v, v = q.who := ⟨_, rfl⟩
  rw [← hu] at c0
  rw [← hv] at c1
  have k2 : ((v : Int) == (a : Int)) = false := by simp; omega
  clear hk hw hu hv c2
  generalize L.length = n at hh hle k1 k1' k1n hkl
  clear h h'
  go_enter Tryd.func40, Tryd.ntmps40
  go_wp2_with fail
  go_quiet (fail)
  go_wp2_with fail
  go_ret
  exact ⟨rfl, ((Turn.refl _ w).alloc _).drewN _⟩

set_option maxRecDepth 100000 in
set_option maxHeartbeats 1000000 in
theorem dalive_gen {qb lb cap : Nat} {L : List Sl} {w : World} (h : Doc w qb lb cap L) (a g : Nat) (k : Nat) (q : Sl) (hk : L[k]? = some q) (hw : q.who = a) (hg : q.g ≠ g) : Calls Tryd.prog 40 #[.pointer (some ⟨qb, 0, none⟩), .int .i64 (a : Int), .agg #[.int .i64 (k : Int), .int .u64 (g : Int)]] w fun e w' => e = .returned (.bool false) ∧ Turn (fun _ => False) w w' := by
  have h' := h.same ((Turn.refl _ w).alloc (.cells #[.int .i64 (k : Int), .int .u64 (g : Int)] 32))
  have hh := h'.head
  have hle := h.le
  have hkl : k < L.length := (List.getElem?_eq_some_iff.1 hk).1
  obtain ⟨c0, c1, c2⟩ := h'.at hk
  have k0 : decide ((0 : Int) ≤ (k : Int)) = true := by simp
  have k1 : decide ((k : Int) < (L.length : Int)) = true := by simp; omega
  have k1' : (k : Int) < (L.length : Int) := by omega
  have k1n : decide (k < L.length) = true := by simp; omega
  obtain ⟨u, hu⟩ : ∃ u, u = q.g := ⟨_, rfl⟩
  obtain ⟨v, hv⟩ : ∃ v, v = q.who := ⟨_, rfl⟩
  rw [← hu] at c0
  rw [← hv] at c1
  have k2 : ((v : Int) == (a : Int)) = true := by simp; omega
  have k3 : ((u : Int) == (g : Int)) = false := by simp; omega
  clear hk hw hg hu hv c2
  generalize L.length = n at hh hle k1 k1' k1n hkl
  clear h h'
  go_enter Tryd.func40, Tryd.ntmps40
  go_wp2_with fail
  go_quiet (fail)
  go_wp2_with fail
  go_ret
  exact ⟨rfl, ((Turn.refl _ w).alloc _).drewN _⟩

set_option maxRecDepth 100000 in
set_option maxHeartbeats 1000000 in
theorem dalive_yes {qb lb cap : Nat} {L : List Sl} {w : World} (h : Doc w qb lb cap L) (a g : Nat) (k : Nat) (q : Sl) (hk : L[k]? = some q) (hw : q.who = a) (hg : q.g = g) : Calls Tryd.prog 40 #[.pointer (some ⟨qb, 0, none⟩), .int .i64 (a : Int), .agg #[.int .i64 (k : Int), .int .u64 (g : Int)]] w fun e w' => e = .returned (.bool true) ∧ Turn (fun _ => False) w w' := by
  have h' := h.same ((Turn.refl _ w).alloc (.cells #[.int .i64 (k : Int), .int .u64 (g : Int)] 32))
  have hh := h'.head
  have hle := h.le
  have hkl : k < L.length := (List.getElem?_eq_some_iff.1 hk).1
  obtain ⟨c0, c1, c2⟩ := h'.at hk
  have k0 : decide ((0 : Int) ≤ (k : Int)) = true := by simp
  have k1 : decide ((k : Int) < (L.length : Int)) = true := by simp; omega
  have k1' : (k : Int) < (L.length : Int) := by omega
  have k1n : decide (k < L.length) = true := by simp; omega
  obtain ⟨u, hu⟩ : ∃ u, u = q.g := ⟨_, rfl⟩
  obtain ⟨v, hv⟩ : ∃ v, v = q.who := ⟨_, rfl⟩
  rw [← hu] at c0
  rw [← hv] at c1
  have k2 : ((v : Int) == (a : Int)) = true := by simp; omega
  have k3 : ((u : Int) == (g : Int)) = true := by simp; omega
  clear hk hw hg hu hv c2
  generalize L.length = n at hh hle k1 k1' k1n hkl
  clear h h'
  go_enter Tryd.func40, Tryd.ntmps40
  go_wp2_with fail
  go_quiet (fail)
  go_wp2_with fail
  go_ret
  exact ⟨rfl, ((Turn.refl _ w).alloc _).drewN _⟩
end Go.Proofs.YtbdfbgkfhaiccaaDoor
