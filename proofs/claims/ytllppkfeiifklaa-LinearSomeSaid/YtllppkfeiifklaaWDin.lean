/-
  The document's in and ids.
-/
import Derived.Test.YtllppkfeiifklaaJ34
namespace Go.Proofs.Ytllppkfeiifklaa
open Go.RowKit Go.Lib
set_option linter.unusedVariables false
set_option maxRecDepth 20000
set_option linter.unusedSimpArgs false

set_option maxHeartbeats 4000000 in
theorem in_any (L : List Int) (B : Option Addr) (c : Nat) (n : Int) (w : World) (h : Row w B (ics L)) (hn : L.length ≤ 100000) :
    Calls Try.prog 85 #[.slice B L.length c, .int .i64 n] w fun r w' => r = .returned (.bool (decide (n ∈ L))) ∧ w' = w := by
  obtain ⟨r, hr⟩ : ∃ r, decide (n ∈ L) = r := ⟨_, rfl⟩
  have HL := Lib.hid (And.intro h hr)
  rw [hr]
  clear h hr
  go_enter Try.func85, Try.ntmps85
  go_wp2_with fail
  go_loopw [5] (fun i wr => ∃ kk : Nat, kk ≤ L.length ∧ i = .int .i64 (kk : Int) ∧ wr = w ∧ Hid (∀ k ∈ L.take kk, ¬ n = k)) (fun i _ => L.length - (RowKit.intOf i).toNat)
  case atStart => exact ⟨0, Nat.zero_le _, rfl, rfl, Lib.hid (by simp)⟩
  case round =>
    obtain ⟨kk, hm, rfl, hwr, HP⟩ := hrel
    subst hwr
    by_cases hlt : kk < L.length
    · obtain ⟨k, hk⟩ : ∃ e, L[kk]? = some e := ⟨L[kk], List.getElem?_eq_getElem hlt⟩
      obtain ⟨b, off, hA, x0⟩ := ics_get HL.out.1 hk
      have HK := Lib.hid hk
      subst hA
      clear hk
      have hq1 : (0 : Int) ≤ (kk : Int) := by omega
      have hq2 : (kk : Int) < (L.length : Int) := by omega
      by_cases he : k = n
      · subst he
        have HF : Hid (r = true) := Lib.hid (by rw [← HL.out.2]; exact decide_eq_true (List.mem_of_getElem? HK.out))
        go_wp2_with fail
        go_ret
        rw [HF.out]
        exact ⟨rfl, rfl⟩
      · have qe : (k == n) = false := by simpa using he
        have HF : Hid (∀ x ∈ L.take (kk + 1), ¬ n = x) := Lib.hid fun x hx => by
          rw [List.take_add_one, HK.out] at hx
          rcases List.mem_append.1 hx with h | h
          · exact HP.out x h
          · simp at h
            subst h
            exact fun e => he e.symm
        clear he
        go_wp2_with fail
        exact ⟨⟨kk + 1, by omega, by go_num, trivial, HF⟩, by simp [RowKit.intOf]; omega⟩
    · obtain rfl : kk = L.length := by omega
      have HF : Hid (r = false) := Lib.hid (by
        rw [← HL.out.2]
        refine decide_eq_false fun h => HP.out n ?_ rfl
        rw [List.take_length]; exact h)
      go_wp2_with fail
      go_ret
      rw [HF.out]
      first | exact ⟨rfl, rfl⟩ | exact ⟨trivial, rfl⟩
set_option maxHeartbeats 4000000 in
theorem ids_any (l : List Ev) (A : Option Addr) (cap : Nat) (w : World) (hR : Row w A (ecs l)) (hl : l.length ≤ 100000) :
    Calls Try.prog 48 #[.slice A l.length cap] w fun r w' => ∃ B c, r = .returned (.slice B (begs l).length c) ∧ Ints w w' (begs l) B c := by
  have HL := Lib.hid hR
  clear hR
  go_enter Try.func48, Try.ntmps48
  go_wp2_with fail
  go_loopw [3, 4] (fun s i wr => ∃ (kk : Nat) (B : Option Addr) (c : Nat), kk ≤ l.length ∧ i = .int .i64 (kk : Int) ∧ s = .slice B (begs (l.take kk)).length c ∧ Hid (Ints w wr (begs (l.take kk)) B c)) (fun _ i _ => l.length - (RowKit.intOf i).toNat)
  case atStart => exact ⟨0, none, 0, Nat.zero_le _, rfl, rfl, Lib.hid ⟨Turn.refl _ _, World.ownsRow_nil _ _ _ _⟩⟩
  case round =>
    obtain ⟨kk, B, c, hm, rfl, rfl, HP⟩ := hrel
    by_cases hlt : kk < l.length
    · obtain ⟨e, he⟩ : ∃ e, l[kk]? = some e := ⟨l[kk], List.getElem?_eq_getElem hlt⟩
      obtain ⟨b, off, hA, hb, hx⟩ := (HL.out.turn HP.out.tu fun _ _ _ h => h).range he
      have HE := Lib.hid he
      have hml : (begs (l.take kk)).length ≤ kk := Nat.le_trans (begs_length _) (by rw [List.length_take]; omega)
      have y0 := hx 0 _ rfl
      have y1 := hx 1 _ rfl
      obtain ⟨kind, id, ⟨ok, k, v, o, had, aft, A0, len, cap0⟩, ⟨code, found, ak, av⟩⟩ := e
      simp only [Nat.add_zero] at y0 y1
      subst hA
      clear hx hb he
      have hq1 : (0 : Int) ≤ (kk : Int) := by omega
      have hq2 : (kk : Int) < (l.length : Int) := by omega
      by_cases hk : kind = 1
      · subst hk
        have hy := begs_yes HE.out rfl
        obtain ⟨B2, c2, w8, q, hI⟩ := HP.out.append (by omega) id
        have HI := Lib.hid hI
        have HY := Lib.hid hy
        clear hI hy
        go_wp2_with (at_builtin; refine wpList_append_run rfl _ _ 65 rfl _ _ _ rfl rfl q ?_)
        refine ⟨⟨kk + 1, B2, c2, by omega, by go_num, ?_, ?_⟩, by simp [RowKit.intOf]; omega⟩
        · rw [HY.out, List.length_append]; rfl
        · rw [HY.out]; exact HI
      · have hk2 : (kind == 1) = false := by simpa using hk
        have hy := begs_no HE.out hk
        have HY := Lib.hid hy
        clear hy hk
        go_wp2_with fail
        refine ⟨⟨kk + 1, B, c, by omega, by go_num, ?_, ?_⟩, by simp [RowKit.intOf]; omega⟩
        · rw [HY.out]
        · rw [HY.out]; exact HP
    · obtain rfl : kk = l.length := by omega
      go_wp2_with fail
      go_ret
      rw [List.take_length] at HP
      refine ⟨B, c, ?_, HP.out⟩
      rw [List.take_length]
      rfl
end Go.Proofs.Ytllppkfeiifklaa
