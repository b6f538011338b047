/-
  New of a row of pairs.
-/
import Derived.Test.YtjjmooegpoeomaaWCpt
import Derived.Test.YtjjmooegpoeomaaWStb
namespace Go.Proofs.Ytjjmooegpoeomaa
open Go.RowKit Go.Lib
set_option linter.unusedVariables false
set_option linter.unusedSimpArgs false

theorem Hx.row {w : World} {g cap : Nat} {l : List Pr} (h : Hx w g cap l) (hc : cap ≤ maxLen) : Row w (some ⟨g, 0, none⟩) (pcs l) := by
  obtain ⟨cur, hd⟩ := h
  exact row_of_own (hd.own (Z := 0) (Nat.zero_le _) hc)
theorem news_length (l : List Pr) : (news l).length ≤ l.length := by
  have : ∀ (l m : List Pr), (l.foldl (fun m p => putL m p.k p.v) m).length ≤ m.length + l.length := by
    intro l
    induction l with
    | nil => intro m; simp
    | cons p t ih =>
      intro m
      rw [List.foldl_cons]
      have h1 := ih (putL m p.k p.v)
      have h2 := put_length m p.k p.v
      rw [List.length_cons]
      omega
  have := this l []
  simpa [news] using this
set_option maxHeartbeats 2000000 in
theorem new_some (l : List Pr) (a : Addr) (cap : Nat) (w : World) {Z : Nat} (hZ : Z ≤ w.heap.size) (h : Row w (some a) (pcs l)) (hf : ∀ p ∈ l, Fit p.k ∧ Fit p.v) (hl : l.length ≤ 30000) :
    Calls Try.prog 11 #[.slice (some a) l.length cap] w fun e w' => ∃ mb rb, e = .returned (.pointer (some ⟨mb, 0, none⟩)) ∧ Om w' Z mb (some rb) (news l) ∧ w.heap.size ≤ mb ∧ w.heap.size ≤ rb ∧ Turn No w w' := by
  have C1 := Lib.hid (clone25_any l a cap w h (by omega))
  have C2 := Lib.hid fun (w1 : World) (g c : Nat) (hx : Hx w1 g c l) => rev26_any l hx (n := l.length) (by omega) rfl
  have C3 := Lib.hid fun (w1 : World) (g c : Nat) (hc : c ≤ maxLen) (hx : Hx w1 g c l.reverse) => stab27_any l.reverse hx hc (n := l.length) (by omega) (by simp)
  have C4 := Lib.hid fun (w1 : World) (g c : Nat) (hc : c ≤ maxLen) (S : List Pr) (hs : Sd S) (hn : l.length = S.length) (hx : Hx w1 g c S) => comp30_any S hx hs hc (n := l.length) (by omega) hn
  have C5 := Lib.hid fun (w1 : World) (g c : Nat) (hx : Row w1 (some ⟨g, 0, none⟩) (pcs (news l))) => clonePairs_any (news l) (some ⟨g, 0, none⟩) c w1 hx (fun p hp => hf p (news_sub p hp)) (by have := news_length l; omega)
  have HL := Lib.hid (And.intro hf (And.intro hl hZ))
  clear h hf
  go_enter Try.func11, Try.ntmps11
  go_upto_region 2 with (go_at_call 25; refine C1.out.mono ?_; rintro e w1 ⟨g, c, rfl, hx, hc, hg, ht⟩; have H1 := Lib.hid (And.intro hx (And.intro hc (And.intro hg ht))); clear hx hc hg ht)
  have C2a := Lib.hid (C2.out w1 g c H1.out.1)
  clear C1 C2
  go_upto_region 3 with (go_at_call 26; refine C2a.out.mono ?_; rintro e w2 ⟨rfl, hx, ht⟩; have H2 := Lib.hid (And.intro hx ht); clear hx ht)
  have C3a := Lib.hid (C3.out w2 g c H1.out.2.1 H2.out.1)
  clear C2a C3
  go_upto_region 4 with (go_at_call 27; refine C3a.out.mono ?_; rintro e w3 ⟨rfl, hx, ht⟩; have H3 := Lib.hid (And.intro hx ht); clear hx ht)
  obtain ⟨S, hx3, hs3, hm3⟩ := H3.out.1
  rw [List.nil_append, List.append_nil] at hx3
  have C4a := Lib.hid (C4.out w3 g c H1.out.2.1 S hs3 (by rw [hm3.len, List.length_reverse]) hx3)
  have HM := Lib.hid hm3
  clear C3a C4 hx3 hs3 hm3
  go_upto_region 5 with (go_at_call 30; refine C4a.out.mono ?_; rintro e w4 ⟨K, rfl, hx, hk, ht⟩; have H4 := Lib.hid (And.intro hx (And.intro hk ht)); clear hx hk ht)
  have hK : K = news l := news_of HM.out H4.out.2.1
  have C5a := Lib.hid (C5.out w4 g c (by rw [← hK]; exact H4.out.1.row H1.out.2.1))
  have HT : Hid (Turn No w w4) := Lib.hid (H1.out.2.2.2.then ((H2.out.2.trans H3.out.2).trans H4.out.2.2) (fun i hi e => by have := H1.out.2.2.1; omega))
  rw [hK]
  have HN := Lib.hid (news_length l)
  obtain ⟨N, hN⟩ : ∃ N, news l = N := ⟨_, rfl⟩
  rw [hN] at C5a HN ⊢
  have HA := Lib.hid (hN ▸ asc_news l : Asc N)
  have HF : Hid (∀ p ∈ N, Fit p.k ∧ Fit p.v) := Lib.hid (hN ▸ fun p hp => HL.out.1 p (news_sub p hp))
  have HEQ := Lib.hid hN
  clear C4a C5 H1 H2 H3 H4 HM hK hN
  go_wp2_with (go_at_call 32; refine C5a.out.mono ?_; rintro e w5 ⟨B, rfl, ho, ht⟩)
  go_ret
  have hlt := ho.lt B rfl
  have hsz := (HT.out.trans ht).size
  rw [HEQ.out]
  refine ⟨_, B, rfl, ⟨⟨some ⟨B, 0, none⟩, N.length, At.new _ _, ?_, rfl⟩, HA.out, by have := HN.out; have := HL.out.2.1; omega, HF.out, Nat.le_trans HL.out.2.2 hsz⟩, hsz, Nat.le_trans HT.out.size hlt.1, (HT.out.trans ht).alloc _⟩
  exact ((ho.alloc _).mono (Nat.le_trans HL.out.2.2 HT.out.size) : _)
/-- New. -/
theorem new_any (l : List Pr) (A : Option Addr) (cap : Nat) (w : World) {Z : Nat} (hZ : Z ≤ w.heap.size) (h : Row w A (pcs l)) (hA : A = none → cap = 0) (hf : ∀ p ∈ l, Fit p.k ∧ Fit p.v) (hl : l.length ≤ 30000) :
    Calls Try.prog 11 #[.slice A l.length cap] w fun e w' => ∃ mb rb, e = .returned (.pointer (some ⟨mb, 0, none⟩)) ∧ Om w' Z mb (some rb) (news l) ∧ w.heap.size ≤ mb ∧ w.heap.size ≤ rb ∧ Turn No w w' := by
  cases A with
  | some a => exact new_some l a cap w hZ h hf hl
  | none =>
    have hc := hA rfl
    subst hc
    have : l = [] := by
      cases l with
      | nil => rfl
      | cons p t =>
        obtain ⟨b, o, hA, _⟩ := h 0 (.string p.k) rfl
        cases hA
    subst this
    exact new_nil w hZ
end Go.Proofs.Ytjjmooegpoeomaa
