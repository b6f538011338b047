/-
  slices.Clone of texts and of handles; cloneTexts.
-/
import Derived.Test.YtengbkopihiiaaaWCk
import Derived.Test.YtengbkopihiiaaaWCh
namespace Go.Proofs.Ytengbkopihiiaaa
open Go.RowKit Go.Lib
set_option linter.unusedVariables false
set_option maxRecDepth 20000
set_option linter.unusedSimpArgs false

set_option maxHeartbeats 2000000 in
theorem clone63 (K : List ByteArray) (A : Option Addr) (ck : Nat) (w : World) (hR : Row w A (kcs K)) (hn : K.length ≤ 100000) :
    Calls Try.prog 63 #[.slice A K.length ck] w fun e w' => ∃ B c, e = .returned (.slice B K.length c) ∧ w'.ownsRow w.heap.size 9 1 (.slice B K.length c) K.length (kcs K) ∧ Turn No w w' := by
  have q1 : ∀ (w : World) (a : Option Addr) (n c n' c' : Nat), (binOp .eql 23 (.slice a n c) (.slice none n' c')).run Try.prog w = .ok (.bool a.isNone) w := fun w a n c n' c' => Lib.run_eql_slice_nil w _ _ a n c n' c' Try.underlying23
  cases A with
  | none =>
    obtain rfl : K = [] := by
      cases K with
      | nil => rfl
      | cons a l => obtain ⟨b, o, hA, _⟩ := hR 0 _ rfl; cases hA
    have HO := Lib.hid (World.ownsRow_nil w w.heap.size 9 1)
    clear hR hn
    go_enter Try.func63, Try.ntmps63
    go_wp2_with fail
    go_ret
    exact ⟨none, 0, rfl, HO.out, Turn.refl _ _⟩
  | some a =>
    have tn : Turn No w (w.alloc (.cells #[] 9)) := (Turn.refl _ _).alloc _
    obtain ⟨B, c, w2, q, ho, ht⟩ := app_copy (c := ck) (A := some a) Try.underlying23 infw9 rfl (by decide) (by decide) (new_e (W := w) (Z := w.heap.size) (e := 9) (size := 1) (Nat.le_refl _)) tn.size (by simp [kcs]) (hR.no tn) (one_kcs K) (n := K.length) hn
    have HF : Hid (w2.ownsRow w.heap.size 9 1 (.slice B K.length c) K.length (kcs K) ∧ Turn No w w2) := Lib.hid ⟨ho, tn.then ht fun i hi e => by omega⟩
    clear hR hn tn ho ht
    go_enter Try.func63, Try.ntmps63
    go_wp2_with (at_builtin; refine wpList_append_run rfl _ _ 23 rfl _ _ _ rfl rfl q ?_)
    go_ret
    exact ⟨B, c, rfl, HF.out⟩
set_option maxHeartbeats 2000000 in
theorem clone54 (K : List Hn) (A : Option Addr) (ck : Nat) (w : World) (hR : Row w A (hcs K)) (hn : K.length ≤ 100000) :
    Calls Try.prog 54 #[.slice A K.length ck] w fun e w' => ∃ B c, e = .returned (.slice B K.length c) ∧ w'.ownsRow w.heap.size 27 2 (.slice B K.length c) K.length (hcs K) ∧ Turn No w w' := by
  have q1 : ∀ (w : World) (a : Option Addr) (n c n' c' : Nat), (binOp .eql 24 (.slice a n c) (.slice none n' c')).run Try.prog w = .ok (.bool a.isNone) w := fun w a n c n' c' => Lib.run_eql_slice_nil w _ _ a n c n' c' Try.underlying24
  cases A with
  | none =>
    obtain rfl : K = [] := by
      cases K with
      | nil => rfl
      | cons a l => obtain ⟨b, o, hA, _⟩ := hR 0 _ rfl; cases hA
    have HO := Lib.hid (World.ownsRow_nil w w.heap.size 27 2)
    clear hR hn
    go_enter Try.func54, Try.ntmps54
    go_wp2_with fail
    go_ret
    exact ⟨none, 0, rfl, HO.out, Turn.refl _ _⟩
  | some a =>
    have tn : Turn No w (w.alloc (.cells #[] 27)) := (Turn.refl _ _).alloc _
    obtain ⟨B, c, w2, q, ho, ht⟩ := app_copy (c := ck) (A := some a) Try.underlying24 info27 rfl (by decide) (by decide) (new_e (W := w) (Z := w.heap.size) (e := 27) (size := 2) (Nat.le_refl _)) tn.size (hcs_length K) (hR.no tn) (one_hcs K) (n := K.length) hn
    have HF : Hid (w2.ownsRow w.heap.size 27 2 (.slice B K.length c) K.length (hcs K) ∧ Turn No w w2) := Lib.hid ⟨ho, tn.then ht fun i hi e => by omega⟩
    clear hR hn tn ho ht
    go_enter Try.func54, Try.ntmps54
    go_wp2_with (at_builtin; refine wpList_append_run rfl _ _ 24 rfl _ _ _ rfl rfl q ?_)
    go_ret
    exact ⟨B, c, rfl, HF.out⟩
/-- A text written over by itself. -/
theorem own_self {w : World} {Z g n c : Nat} {K : List ByteArray} (h : w.ownsRow Z 9 1 (.slice (some ⟨g, 0, none⟩) n c) n (kcs K)) {i : Nat} {k : ByteArray} (hk : K[i]? = some k) : (w.setCell ⟨g, i, none⟩ (.string k)).ownsRow Z 9 1 (.slice (some ⟨g, 0, none⟩) n c) n (kcs K) := by
  have h1 := own_set h i (.string k)
  have h2 : (kcs K).set i (.string k) = kcs K := by
    apply List.ext_getElem?
    intro j
    rw [List.getElem?_set]
    split
    · rename_i e
      subst e
      rw [kcs_at hk]
      have := (List.getElem?_eq_some_iff.1 hk).1
      rw [if_pos (by rw [kcs_length]; exact this)]
    · rfl
  rw [h2] at h1
  exact h1
theorem own_some {w : World} {Z n c : Nat} {t s : Nat} {B : Option Addr} {xs : List Value} (h : w.ownsRow Z t s (.slice B n c) n xs) (hn : 0 < n) : ∃ g, B = some ⟨g, 0, none⟩ ∧ Z ≤ g ∧ g < w.heap.size ∧ ∃ cur, At w g (.cells cur t (0, 0)) := by
  rcases h.2 with ⟨hv, h0⟩ | ⟨g, c', cur, hv, hb, hg, _⟩
  · omega
  · injection hv with e1 _ _
    exact ⟨g, e1, hb, At.lt hg, cur, hg⟩
theorem own_cell {w : World} {Z g n c : Nat} {K : List ByteArray} (h : w.ownsRow Z 9 1 (.slice (some ⟨g, 0, none⟩) n c) n (kcs K)) {i : Nat} {k : ByteArray} (hk : K[i]? = some k) : ∀ w2, Turn No w w2 → w2.cell? ⟨g, i, none⟩ = some (.string k) := fun w2 t => by
  obtain ⟨b, o, hB, hc⟩ := kcs_hold (row_of_own h) hk
  injection hB with hB
  injection hB with e1 e2
  subst e1 e2
  have := hc w2 t
  rwa [Nat.zero_add] at this
set_option maxHeartbeats 4000000 in
theorem texts_any (K : List ByteArray) (A : Option Addr) (ck : Nat) (w : World) (hR : Row w A (kcs K)) (hf : ∀ k ∈ K, Fit k) (hn : K.length ≤ 100000) :
    Calls Try.prog 53 #[.slice A K.length ck] w fun e w' => ∃ B c, e = .returned (.slice B K.length c) ∧ w'.ownsRow w.heap.size 9 1 (.slice B K.length c) K.length (kcs K) ∧ Turn No w w' := by
  have C := Lib.hid (clone63 K A ck w hR hn)
  have HF := Lib.hid hf
  clear hR hf
  go_enter Try.func53, Try.ntmps53
  go_wp2_with (go_at_call 63; (with_reducible refine C.out.mono ?_); rintro e w1 ⟨B, c, rfl, ho, ht⟩; have H1 := Lib.hid (And.intro ho ht); clear ho ht)
  go_loopw [9] (fun i wr => ∃ kk : Nat, kk ≤ K.length ∧ i = .int .i64 (kk : Int) ∧ Hid (wr.ownsRow w.heap.size 9 1 (.slice B K.length c) K.length (kcs K) ∧ Turn No w wr)) (fun i _ => K.length - (RowKit.intOf i).toNat)
  case atStart => exact ⟨0, Nat.zero_le _, rfl, H1⟩
  case round =>
    obtain ⟨kk, hm, rfl, HP⟩ := hrel
    clear H1
    by_cases hlt : kk < K.length
    · obtain ⟨k, hk⟩ : ∃ p, K[kk]? = some p := ⟨K[kk], List.getElem?_eq_getElem hlt⟩
      obtain ⟨g, rfl, hz, hgl, cur, hat⟩ := own_some HP.out.1 (by omega)
      have x0 := own_cell HP.out.1 hk wr (Turn.refl _ _)
      have CC := Lib.hid (clone_any k (HF.out k (List.mem_of_getElem? hk)) wr)
      have HK := Lib.hid (And.intro hk hz)
      have HAT := Lib.hid hat
      have hq1 : (0 : Int) ≤ (kk : Int) := by omega
      have hq2 : (kk : Int) < (K.length : Int) := by omega
      clear hk hz hgl hat
      go_wp2_with (go_at_call 40; (with_reducible refine CC.out.mono ?_); rintro e w2 ⟨rfl, ht⟩; have H2 := Lib.hid ht; clear ht x0; have x0 := own_cell HP.out.1 HK.out.1 w2 H2.out; have z0 := (HAT.out.no H2.out).thawed kk)
      have HN : Hid ((w2.setCell ⟨g, kk, none⟩ (.string k)).ownsRow w.heap.size 9 1 (.slice (some ⟨g, 0, none⟩) K.length c) K.length (kcs K) ∧ Turn No w (w2.setCell ⟨g, kk, none⟩ (.string k))) := Lib.hid ⟨own_self (own_grown HP.out.1 H2.out fun _ _ h => h) HK.out.1, (HP.out.2.trans H2.out).setCell (p := ⟨g, kk, none⟩) (Or.inr HK.out.2) _⟩
      exact ⟨⟨kk + 1, by omega, by go_num, HN⟩, by simp [RowKit.intOf]; omega⟩
    · obtain rfl : kk = K.length := by omega
      go_wp2_with fail
      go_ret
      exact ⟨B, c, rfl, HP.out.1, HP.out.2⟩
end Go.Proofs.Ytengbkopihiiaaa
