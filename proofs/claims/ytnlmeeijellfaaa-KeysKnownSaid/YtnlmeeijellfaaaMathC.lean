/-
  Plain facts on slices: two lists stand as their first eight bytes' numbers and their lengths do; a number's bytes are the list's. No condition.
-/
import Derived.Test.YtnlmeeijellfaaaMathB
import Derived.Test.YtnlmeeijellfaaaWUn
namespace Go.Proofs.Ytnlmeeijellfaaa
open Math

theorem vk_cons (x : UInt8) (l : List UInt8) : ∀ k, vk (x :: l) (k + 1) = x.toNat * 256 ^ k + vk l k
  | 0 => by simp [vk]
  | k + 1 => by
    rw [vk, vk_cons x l k, vk, Nat.pow_succ]
    have : (x :: l).getD (k + 1) 0 = l.getD k 0 := by simp
    rw [this, Nat.add_mul, Nat.mul_assoc, Nat.add_assoc]

theorem vk_nil : ∀ k, vk [] k = 0
  | 0 => rfl
  | k + 1 => by rw [vk, vk_nil k]; simp

theorem byte_lt {x y : UInt8} {a b K : Nat} (ha : a < K) (h : x < y) : x.toNat * K + a < y.toNat * K + b := by
  have hxy := UInt8.lt_iff_toNat_lt.1 h
  have : (x.toNat + 1) * K ≤ y.toNat * K := Nat.mul_le_mul_right K hxy
  rw [Nat.add_mul, Nat.one_mul] at this
  omega

/-- Two lists stand as the numbers of their first k bytes do; where these are one, as their lengths up to k + 1 do; where these are one, too, as what is behind. -/
theorem first (k : Nat) : ∀ A B : List UInt8,
    (vk A k < vk B k → cmp A B = -1) ∧ (vk A k = vk B k → min A.length (k + 1) < min B.length (k + 1) → cmp A B = -1) ∧
    (vk A k = vk B k → min A.length (k + 1) = min B.length (k + 1) → cmp A B = cmp (A.drop k) (B.drop k)) := by
  induction k with
  | zero =>
    intro A B
    refine ⟨by simp [vk], fun _ h => ?_, fun _ _ => by simp⟩
    match A, B with
    | [], [] => simp at h
    | [], _ :: _ => rfl
    | _ :: _, [] => simp at h
    | _ :: _, _ :: _ => simp at h
  | succ k ih =>
    intro A B
    match A, B with
    | [], [] => exact ⟨by simp, by simp, by simp⟩
    | [], _ :: _ => exact ⟨fun _ => rfl, fun _ _ => rfl, fun _ h => by simp at h⟩
    | _ :: _, [] => exact ⟨fun h => by rw [vk_nil] at h; omega, fun _ h => by simp at h, fun _ h => by simp at h⟩
    | x :: A, y :: B =>
      have hA := vk_lt A k
      have hB := vk_lt B k
      have ih' := ih A B
      rw [vk_cons, vk_cons, List.drop_succ_cons, List.drop_succ_cons]
      rcases u8_tri x y with h | h | h
      · have := byte_lt (b := vk B k) hA h
        exact ⟨fun _ => cmp_lt h A B, fun e => by omega, fun e => by omega⟩
      · subst h
        rw [cmp_eq]
        refine ⟨fun g => ih'.1 (by omega), fun e g => ih'.2.1 (by omega) (by simp at g; omega), fun e g => ih'.2.2 (by omega) (by simp at g; omega)⟩
      · have := byte_lt (b := vk A k) hB h
        exact ⟨fun g => by omega, fun e => by omega, fun e => by omega⟩

theorem vk_div (l : List UInt8) (j : Nat) : ∀ r, vk l (j + r) / 256 ^ r = vk l j
  | 0 => by simp
  | r + 1 => by
    have hb : (l.getD (j + r) 0).toNat < 256 := UInt8.toNat_lt _
    rw [← Nat.add_assoc, vk, Nat.pow_succ, Nat.mul_comm (256 ^ r) 256, ← Nat.div_div_eq_div_mul]
    rw [show (vk l (j + r) * 256 + (l.getD (j + r) 0).toNat) / 256 = vk l (j + r) by omega]
    exact vk_div l j r

theorem ub_vk (l : List UInt8) (k : Nat) (h : k < 8) : ub (vk l 8) k = l.getD k 0 := by
  unfold ub
  have e := vk_div l (k + 1) (7 - k)
  rw [show k + 1 + (7 - k) = 8 by omega] at e
  rw [e, vk]
  apply UInt8.toNat_inj.1
  rw [UInt8.toNat_ofNat']
  have hb : (l.getD k 0).toNat < 256 := UInt8.toNat_lt _
  omega

theorem ubs_vk (l : List UInt8) (c : Nat) (h : c ≤ 8) (hc : c ≤ l.length) : ubs (vk l 8) c = l.take c := by
  apply List.ext_getElem
  · rw [ubs_len, List.length_take]; omega
  · intro p h1 h2
    have hp : p < c := by rw [ubs_len] at h1; exact h1
    have e : (ubs (vk l 8) c)[p] = ub (vk l 8) p := by simp [ubs]
    rw [e, ub_vk l p (by omega), List.getElem_take, List.getD, List.getElem?_eq_getElem (by omega)]
    rfl
end Go.Proofs.Ytnlmeeijellfaaa
