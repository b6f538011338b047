/-
  What Handles of the document's pool, and its NewPool, come to.
-/
import Derived.Test.YtbdfbgkfhaiccaaDoorWDocC
namespace Go.Proofs.YtbdfbgkfhaiccaaDoor
open Go.RowKit Go.Maps
set_option linter.unusedVariables false

/-- The handles of an arena among the first j slots. -/
def dhs (L : List Sl) (a : Nat) : Nat → List (Nat × Nat)
  | 0 => []
  | j + 1 => dhs L a j ++ (match L[j]? with | some s => if s.who = a then [(j, s.g)] else [] | none => [])
theorem dhs_yes {L : List Sl} {a j : Nat} {s : Sl} (h : L[j]? = some s) (hw : s.who = a) : dhs L a (j + 1) = dhs L a j ++ [(j, s.g)] := by
  simp [dhs, h, hw]
theorem dhs_no {L : List Sl} {a j : Nat} {s : Sl} (h : L[j]? = some s) (hw : s.who ≠ a) : dhs L a (j + 1) = dhs L a j := by
  simp [dhs, h, hw]
theorem dhs_le (L : List Sl) (a : Nat) : ∀ j, (dhs L a j).length ≤ j
  | 0 => Nat.le_refl _
  | j + 1 => by
    have ih := dhs_le L a j
    simp only [dhs, List.length_append]
    split
    · split <;> simp <;> omega
    · simp; omega

theorem dhandles_nil (a : Nat) (w : World) : Calls Tryd.prog 28 #[.pointer none, .int .i64 (a : Int)] w fun e w' => e = .returned (.slice none 0 0) ∧ w' = w := by
  go_enter Tryd.func28, Tryd.ntmps28
  go_wp2_with fail
  go_loop [5, 6] (fun s i => s = .slice none 0 0 ∧ i = .int .i64 0) (fun _ _ => 0)
  case atStart => exact ⟨rfl, rfl⟩
  case round =>
    obtain ⟨rfl, rfl⟩ := hrel
    go_wp2_with fail
    go_ret
    exact ⟨rfl, rfl⟩

set_option maxRecDepth 100000 in
set_option maxHeartbeats 1000000 in
theorem dhandles_any {qb lb cap : Nat} {L : List Sl} {w : World} (h : Doc w qb lb cap L) (a : Nat) :
    Calls Tryd.prog 28 #[.pointer (some ⟨qb, 0, none⟩), .int .i64 (a : Int)] w fun e w' => ∃ A cp, e = .returned (.slice A (dhs L a L.length).length cp) ∧ Told w w' (.slice A (dhs L a L.length).length cp) (dhs L a L.length) ∧ Turn (fun _ => False) w w' := by
  have hle := h.le
  have HD := Lib.hid h
  clear h
  obtain ⟨n, hn⟩ : ∃ n, n = L.length := ⟨_, rfl⟩
  rw [← hn] at hle ⊢
  have HN := Lib.hid hn
  clear hn
  go_enter Tryd.func28, Tryd.ntmps28
  go_wp2_with fail
  go_loopw [5, 6] (fun v i wr => ∃ (j m : Nat) (A : Option Addr) (cp : Nat), j ≤ n ∧ i = .int .i64 (j : Int) ∧ v = .slice A m cp ∧ Hid ((dhs L a j).length = m) ∧ Hid (Told w wr v (dhs L a j)) ∧ Hid (Turn (fun _ => False) w wr)) (fun _ i _ => n - (intOf i).toNat)
  case atStart => exact ⟨0, 0, none, 0, Nat.zero_le _, rfl, rfl, Lib.hid rfl, Lib.hid (Told.start _ _), Lib.hid (Turn.refl _ _)⟩
  case round =>
    obtain ⟨j, m, A, cp, hj, rfl, rfl, hm, hto, htu⟩ := hrel
    have h1 := HD.out.same htu.out
    have hh := h1.head
    rw [← HN.out] at hh
    by_cases hlt : j < n
    · have hkl : (j : Int) < (n : Int) := by omega
      obtain ⟨s, hs⟩ := Doc.get L (k := j) (by rw [← HN.out]; exact hlt)
      obtain ⟨c0, c1, c2⟩ := h1.at hs
      have hml : m ≤ j := by rw [← hm.out]; exact dhs_le L a j
      by_cases hw : s.who = a
      · have k0 : ((s.who : Int) == (a : Int)) = true := by simp; omega
        obtain ⟨g, hg⟩ : ∃ g, g = s.g := ⟨_, rfl⟩
        have e1 := dhs_yes hs hw
        rw [← hg] at e1 c0
        have tz : Turn (fun _ => False) wr (wr.alloc (.cells #[.int .i64 (j : Int), .int .u64 (g : Int)] 32)) := (Turn.refl _ wr).alloc _
        obtain ⟨A', cp', w8, hrunA, hT8, htA⟩ := (hto.out.same tz).append j g wr.heap.size (At.new wr _) (by rw [hm.out]; omega) (Nat.le_trans htu.out.size tz.size) 44
        rw [hm.out] at hrunA hT8
        have HR := Lib.hid hrunA
        have hT9 : Hid (Told w w8 (.slice A' (m + 1) cp') (dhs L a (j + 1))) := Lib.hid (by rw [e1]; exact hT8)
        have hM9 : Hid ((dhs L a (j + 1)).length = m + 1) := Lib.hid (by rw [e1, List.length_append, hm.out]; rfl)
        have hU9 : Hid (Turn (fun _ => False) w w8) := Lib.hid ((htu.out.trans tz).then htA (fun i hi e => by have := ((hto.out.same tz).own e).2.1; omega))
        clear hs c2 hw hg e1 tz hrunA hT8 htA h1
        go_wp2_with (at_builtin; refine wpList_append_run rfl _ _ 44 rfl _ _ _ rfl rfl HR.out ?_)
        go_roundw
        case rel => exact ⟨j + 1, m + 1, A', cp', by omega, by go_num, rfl, hM9, hT9, hU9⟩
        case measure => simp [intOf]; omega
      · have k0 : ((s.who : Int) == (a : Int)) = false := by simp; omega
        have e1 := dhs_no hs hw
        have hT9 : Hid (Told w wr (.slice A m cp) (dhs L a (j + 1))) := Lib.hid (by rw [e1]; exact hto.out)
        have hM9 : Hid ((dhs L a (j + 1)).length = m) := Lib.hid (by rw [e1]; exact hm.out)
        clear hs c0 c2 hw e1 h1
        go_wp2_with fail
        go_roundw
        case rel => exact ⟨j + 1, m, A, cp, by omega, by go_num, rfl, hM9, hT9, htu⟩
        case measure => simp [intOf]; omega
    · have hd : decide ((j : Int) < (n : Int)) = false := by simp; omega
      obtain rfl : j = n := by omega
      clear h1
      go_wp2_with fail
      go_ret
      exact ⟨A, cp, by rw [hm.out]; rfl, by rw [hm.out]; exact hto.out, htu.out⟩
end Go.Proofs.YtbdfbgkfhaiccaaDoor
