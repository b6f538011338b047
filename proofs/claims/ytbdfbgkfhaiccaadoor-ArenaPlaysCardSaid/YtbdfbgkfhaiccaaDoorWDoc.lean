/-
  What the methods of the document's pool come to: Free, Alive, Release.
-/
import Derived.Test.YtbdfbgkfhaiccaaDoorDoc
namespace Go.Proofs.YtbdfbgkfhaiccaaDoor
open Go.RowKit Go.Maps
set_option linter.unusedVariables false

theorem dfree_nil (w : World) : Calls Tryd.prog 26 #[.pointer none] w fun e w' => e = .returned (.int .i64 0) ∧ w' = w := by
  go_enter Tryd.func26, Tryd.ntmps26
  go_wp2_with fail
  go_loop [3] (fun s => s = .int .i64 0) (fun _ => 0)
  case atStart => rfl
  case round =>
    subst hrel
    go_wp2_with fail
    go_ret
    exact ⟨rfl, rfl⟩

theorem dfree_any {w : World} {qb lb cap : Nat} {L : List Sl} (h : Doc w qb lb cap L) : Calls Tryd.prog 26 #[.pointer (some ⟨qb, 0, none⟩)] w fun e w' => e = .returned (.int .i64 ((cnt (dfr L) L.length : Nat) : Int)) ∧ w' = w := by
  have hh := h.head
  have hle := h.le
  have HD := Lib.hid h
  clear h
  obtain ⟨n, hn⟩ : ∃ n, n = L.length := ⟨_, rfl⟩
  rw [← hn] at hh hle ⊢
  have HN := Lib.hid hn
  clear hn
  go_enter Tryd.func26, Tryd.ntmps26
  go_wp2_with fail
  go_loop [3, 4] (fun s i => ∃ j : Nat, j ≤ n ∧ i = .int .i64 (j : Int) ∧ s = .int .i64 ((cnt (dfr L) j : Nat) : Int)) (fun _ i => n - (intOf i).toNat)
  case atStart => exact ⟨0, Nat.zero_le _, rfl, rfl⟩
  case round =>
    obtain ⟨j, hj, rfl, rfl⟩ := hrel
    have hc := cnt_le (dfr L) j
    by_cases hlt : j < n
    · have hkl : (j : Int) < (n : Int) := by omega
      obtain ⟨s, hs⟩ := Doc.get L (k := j) (by rw [← HN.out]; exact hlt)
      obtain ⟨c0, c1, c2⟩ := HD.out.at hs
      have hd := dfr_at hs
      obtain ⟨q, hq⟩ : ∃ q, q = cnt (dfr L) j := ⟨_, rfl⟩
      rw [← hq] at hc ⊢
      by_cases hw : s.who = 0
      · have e1 : cnt (dfr L) (j + 1) = q + 1 := by rw [cnt, hd, hq]; simp [hw]
        have k0 : ((s.who : Int) == 0) = true := by simp [hw]
        have HE := Lib.hid e1
        clear hs c0 c2 hd hq hw e1
        go_wp2_with fail
        go_round
        case rel => exact ⟨j + 1, by omega, by go_num, by rw [HE.out]; go_num⟩
        case measure => simp [intOf]; omega
      · have e1 : cnt (dfr L) (j + 1) = q := by rw [cnt, hd, hq]; simp [hw]
        have k0 : ((s.who : Int) == 0) = false := by simp; omega
        have HE := Lib.hid e1
        clear hs c0 c2 hd hq hw e1
        go_wp2_with fail
        go_round
        case rel => exact ⟨j + 1, by omega, by go_num, by rw [HE.out]⟩
        case measure => simp [intOf]; omega
    · have hd : decide ((j : Int) < (n : Int)) = false := by simp; omega
      obtain rfl : j = n := by omega
      go_wp2_with fail
      go_ret
      exact ⟨rfl, rfl⟩

theorem dalive_nil (a : Int) (s : Int) (g : Nat) (w : World) : Calls Tryd.prog 40 #[.pointer none, .int .i64 a, .agg #[.int .i64 s, .int .u64 (g : Int)]] w fun e w' => e = .returned (.bool false) ∧ Turn (fun _ => False) w w' := by
  go_enter Tryd.func40, Tryd.ntmps40
  go_wp2_with fail
  go_quiet (fail)
  go_wp2_with fail
  go_ret
  exact ⟨rfl, ((Turn.refl _ w).alloc _).drewN _⟩
end Go.Proofs.YtbdfbgkfhaiccaaDoor
