/-
  slices.BinarySearch over a row of bytes.
-/
import Derived.Test.YtijlcehjlacihaaIB
import Derived.Test.YtijlcehjlacihaaLs
import Derived.Deep.LoopGhost
namespace Go.Proofs.Ytijlcehjlacihaa
open Go.RowKit Go.Lib
set_option linter.unusedVariables false
set_option maxRecDepth 20000
set_option linter.unusedSimpArgs false


section
variable {V : Type}
/-- The keys of a node's children. -/
def ksC (L : List (Nat × V)) : List Nat := L.map (·.1)
theorem ks_length (L : List (Nat × V)) : (ksC L).length = L.length := by simp [ksC]
theorem ks_get {L : List (Nat × V)} {j : Nat} {p : Nat × V} (h : L[j]? = some p) : (ksC L)[j]? = some p.1 := by simp [ksC, h]
theorem ks_append (X Y : List (Nat × V)) : ksC (X ++ Y) = ksC X ++ ksC Y := List.map_append ..
theorem mem_at {L : List (Nat × V)} {p : Nat × V} (h : p ∈ L) : ∃ t : Nat, t < L.length ∧ L[t]? = some p := by
  obtain ⟨t, ht, he⟩ := List.mem_iff_getElem.1 h
  exact ⟨t, ht, by rw [List.getElem?_eq_getElem ht, he]⟩
theorem search_at {L : List (Nat × V)} (hL : Asc L) {b i : Nat} (hi : i ≤ L.length) (h1 : ∀ t p, t < i → L[t]? = some p → p.1 < b) (h2 : ∀ t p, i ≤ t → L[t]? = some p → b ≤ p.1) :
    (lowC L b).length = i ∧ getC L b = (match L[i]? with | some p => if p.1 = b then some p.2 else none | none => none) := by
  have hx : Lows (L.take i) b := fun p hp => by
    obtain ⟨t, ht, he⟩ := mem_at hp
    rw [List.length_take] at ht
    rw [List.getElem?_take, if_pos (by omega)] at he
    exact h1 t p (by omega) he
  have hs : L = L.take i ++ L.drop i := (List.take_append_drop i L).symm
  have hd : ∀ p ∈ L.drop i, b ≤ p.1 := fun p hp => by
    obtain ⟨t, ht, he⟩ := mem_at hp
    rw [List.getElem?_drop] at he
    exact h2 (i + t) p (by omega) he
  have hlo : lowC (L.drop i) b = [] := List.filter_eq_nil_iff.2 fun p hp => by have := hd p hp; simp; omega
  refine ⟨?_, ?_⟩
  · have : lowC L b = L.take i := by rw [hs, low_append, hlo, low_of_lows hx, List.append_nil, ← hs]
    rw [this, List.length_take]; omega
  · have e1 : getC L b = getC (L.drop i) b := by
      have := get_append (L.take i) (L.drop i) b
      rw [← hs, get_lows hx (Nat.le_refl _)] at this
      exact this
    rw [e1, show L[i]? = (L.drop i)[0]? by rw [List.getElem?_drop]; rfl]
    have hda : Asc (L.drop i) := List.Pairwise.sublist (List.drop_sublist i L) hL
    revert hda hd
    generalize L.drop i = M
    intro hd hda
    cases M with
    | nil => rfl
    | cons p M =>
      obtain ⟨c, y⟩ := p
      rw [get_cons]
      show _ = if c = b then some y else none
      by_cases hc : c = b
      · rw [if_pos hc, if_pos hc]
      · rw [if_neg hc, if_neg hc]
        have hb := hd (c, y) (List.mem_cons_self ..)
        exact get_highs (b := b) (fun q hq => by have : c < q.1 := hda.head q hq; have hb : b ≤ c := hb; omega) (Nat.le_refl _)
end
theorem nan_any (x : Nat) (w : World) : Calls Try.prog 78 #[.int .u8 (x : Int)] w fun e w' => e = .returned (.bool false) ∧ w' = w := by
  go_enter Try.func78, Try.ntmps78
  go_wp2
  go_ret
  exact ⟨by simp, rfl⟩
theorem snan_any (x : Nat) (w : World) : Calls Try.prog 73 #[.int .u8 (x : Int)] w fun e w' => e = .returned (.bool false) ∧ w' = w := by
  go_enter Try.func73, Try.ntmps73
  go_wp2
  go_ret
  exact ⟨by simp, rfl⟩
theorem less_any (x y : Nat) (w : World) : Calls Try.prog 72 #[.int .u8 (x : Int), .int .u8 (y : Int)] w fun e w' => e = .returned (.bool (decide (x < y))) ∧ w' = w := by
  have H := Lib.hid fun (x : Nat) (W : World) => nan_any x W
  go_enter Try.func72, Try.ntmps72
  go_wp2_with (go_at_call 78; (with_reducible refine (H.out _ _).mono ?_); rintro e w' ⟨rfl, rfl⟩)
  go_ret
  exact ⟨by simp, rfl⟩
set_option maxHeartbeats 4000000 in
theorem bs_any {V : Type} (L : List (Nat × V)) (hL : Asc L) (A : Option Addr) (c b : Nat) (w : World) (hR : Row w A (bcs (ksC L))) (hn : L.length ≤ 100000) :
    Calls Try.prog 67 #[.slice A L.length c, .int .u8 (b : Int)] w fun e w' => e = .returned (.tuple #[.int .i64 ((lowC L b).length : Int), .bool (getC L b).isSome]) ∧ ∃ q, w' = w.drewN q := by
  have CL := Lib.hid fun (x : Nat) (W : World) => less_any x b W
  have CN := Lib.hid fun (x : Nat) (W : World) => snan_any x W
  have S : Hid (∀ (s t : Nat) (p q : Nat × V), s ≤ t → L[s]? = some p → L[t]? = some q → p.1 ≤ q.1) := Lib.hid fun s t p q hst hp hq => by
    rcases Nat.lt_or_eq_of_le hst with h | h
    · have hs := (List.getElem?_eq_some_iff.1 hp)
      have ht := (List.getElem?_eq_some_iff.1 hq)
      obtain ⟨hs1, rfl⟩ := hs
      obtain ⟨ht1, rfl⟩ := ht
      exact Nat.le_of_lt (List.pairwise_iff_getElem.1 hL s t hs1 ht1 h)
    · subst h; rw [hp] at hq; cases hq; exact Nat.le_refl _
  have HE := Lib.hid fun (i : Nat) => search_at (i := i) (b := b) hL
  have HR := Lib.hid hR
  clear hL hR
  obtain ⟨n, hnn⟩ : ∃ n, L.length = n := ⟨_, rfl⟩
  have HN := Lib.hid hnn
  rw [hnn] at hn ⊢
  clear hnn
  go_enter Try.func67, Try.ntmps67
  go_wp2
  go_loopg [7, 8] n (fun g s7 s8 wr => ∃ lo hi q : Nat, s7 = .int .i64 lo ∧ s8 = .int .i64 hi ∧ lo ≤ hi ∧ hi ≤ n ∧ hi - lo ≤ g ∧ wr = w.drewN q ∧ (∀ t p, t < lo → L[t]? = some p → p.1 < b) ∧ (∀ t p, hi ≤ t → L[t]? = some p → b ≤ p.1))
  case atStart => exact ⟨0, n, 0, rfl, rfl, Nat.zero_le _, Nat.le_refl _, by omega, rfl, fun t p ht => absurd ht (Nat.not_lt_zero _), fun t p h1 h2 => by have := (List.getElem?_eq_some_iff.1 h2).1; have := HN.out; omega⟩
  case round =>
    obtain ⟨lo, hi, q, rfl, rfl, hlh, hin, hg, rfl, h1, h2⟩ := hrel
    have I := Lib.hid (And.intro h1 h2)
    clear h1 h2
    by_cases hlt : lo < hi
    · obtain ⟨p, hp⟩ : ∃ p, L[(lo + hi) / 2]? = some p := ⟨_, List.getElem?_eq_getElem (by have := HN.out; omega)⟩
      obtain ⟨bb, o, hA, cm⟩ := bcs_get HR.out (ks_get hp)
      subst hA
      have Y := Lib.hid hp
      clear hp
      obtain ⟨y, v⟩ := p
      simp only at cm
      by_cases hyx : y < b
      · go_wp2_with (first | (go_at_call 72; (with_reducible refine (CL.out _ _).mono ?_); rintro e w' ⟨rfl, rfl⟩) | (go_at_call 73; (with_reducible refine (CN.out _ _).mono ?_); rintro e w' ⟨rfl, rfl⟩))
        go_roundg (hi - ((lo + hi) / 2 + 1))
        case measure => omega
        case rel =>
          refine ⟨(lo + hi) / 2 + 1, hi, _, by rw [show ((lo : Int) + (hi : Int)) / 2 + 1 = (((lo + hi) / 2 + 1 : Nat) : Int) by omega], rfl, by omega, hin, Nat.le_refl _, rfl, fun t p ht hp => ?_, I.out.2⟩
          have := S.out t ((lo + hi) / 2) _ _ (by omega) hp Y.out
          omega
      · go_wp2_with (first | (go_at_call 72; (with_reducible refine (CL.out _ _).mono ?_); rintro e w' ⟨rfl, rfl⟩) | (go_at_call 73; (with_reducible refine (CN.out _ _).mono ?_); rintro e w' ⟨rfl, rfl⟩))
        go_roundg ((lo + hi) / 2 - lo)
        case measure => omega
        case rel =>
          refine ⟨lo, (lo + hi) / 2, _, rfl, by rw [show ((lo : Int) + (hi : Int)) / 2 = (((lo + hi) / 2 : Nat) : Int) by omega], by omega, by omega, Nat.le_refl _, rfl, I.out.1, fun t p ht hp => ?_⟩
          have := S.out ((lo + hi) / 2) t _ _ ht Y.out hp
          omega
    · have : hi = lo := by omega
      subst this
      have E := Lib.hid (HE.out hi (by have := HN.out; omega) I.out.1 I.out.2)
      by_cases hn2 : hi < n
      · obtain ⟨p, hp⟩ : ∃ p, L[hi]? = some p := ⟨_, List.getElem?_eq_getElem (by have := HN.out; omega)⟩
        obtain ⟨bb, o, hA, cm⟩ := bcs_get HR.out (ks_get hp)
        subst hA
        have Y := Lib.hid hp
        clear hp
        obtain ⟨y, v⟩ := p
        simp only at cm
        by_cases hyx : y = b
        · go_wp2_with (first | (go_at_call 72; (with_reducible refine (CL.out _ _).mono ?_); rintro e w' ⟨rfl, rfl⟩) | (go_at_call 73; (with_reducible refine (CN.out _ _).mono ?_); rintro e w' ⟨rfl, rfl⟩))
          go_ret2
          refine ⟨?_, _, rfl⟩
          rw [E.out.1, E.out.2, Y.out]
          first | rfl | simp [*]
        · go_wp2_with (first | (go_at_call 72; (with_reducible refine (CL.out _ _).mono ?_); rintro e w' ⟨rfl, rfl⟩) | (go_at_call 73; (with_reducible refine (CN.out _ _).mono ?_); rintro e w' ⟨rfl, rfl⟩))
          go_ret2
          refine ⟨?_, _, rfl⟩
          rw [E.out.1, E.out.2, Y.out]
          first | rfl | simp [*]
      · have Y : Hid (L[hi]? = none) := Lib.hid (List.getElem?_eq_none (by have := HN.out; omega))
        go_wp2_with (first | (go_at_call 72; (with_reducible refine (CL.out _ _).mono ?_); rintro e w' ⟨rfl, rfl⟩) | (go_at_call 73; (with_reducible refine (CN.out _ _).mono ?_); rintro e w' ⟨rfl, rfl⟩))
        go_ret2
        refine ⟨?_, _, rfl⟩
        rw [E.out.1, E.out.2, Y.out]
        first | rfl | simp [*]
end Go.Proofs.Ytijlcehjlacihaa
