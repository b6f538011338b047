/-
  wakes: an operation from its beginning to its end.
-/
import Derived.Test.YthopiamiipmobaaWCheck
import Derived.Test.YthopiamiipmobaaWEvents
namespace Go.Proofs.Ythopiamiipmobaa
open Go.RowKit Go.Lib
set_option linter.unusedVariables false
set_option linter.unusedSimpArgs false

/-- All blocks from Z on. -/
def Up (Z : Nat) (i : Nat) : Prop := Z ≤ i
theorem Turn.up {Z : Nat} {w a b : World} (h : Turn No w a) (t : Turn (Up Z) a b) (hz : w.heap.size ≤ Z) : Turn No w b := h.then t fun i hi hu => by unfold Up at hu; omega
theorem up_refl (Z : Nat) : ∀ i, Up Z i → Up Z i := fun _ h => h
section
variable {w w' : World} {Z hb : Nat} {L : List Ev} {ps : List (List Wr)} {e : Ev} {ws : List Wr} {r : Ending}
theorem Did.yes (h : Did w w' Z hb L ps (Up Z) e ws r) (hz : Z ≤ w.heap.size) (hf : fits L e = true) : r = .returned (.int .i64 0) ∧ Hs w' Z hb (L ++ [e.pure]) (ps ++ [ws]) (Up Z) ∧ Turn (Up Z) w w' := by
  rcases h with ⟨a, _⟩ | ⟨a, b, c, d⟩
  · rw [a] at hf; cases hf
  · exact ⟨b, c.mono fun i hi => hi.elim (fun h => h) fun h => Nat.le_trans hz h.1, d⟩
theorem Did.not (h : Did w w' Z hb L ps (Up Z) e ws r) (hf : fits L e = false) : r = .returned (.int .i64 31) ∧ Turn No w w' := by
  rcases h with ⟨a, b, c⟩ | ⟨a, _⟩
  · exact ⟨b, c⟩
  · rw [a] at hf; cases hf
end
theorem fits_of_pl (l : List Ev) (e : Ev) : fits l e = fits (pl l) e.pure := by rw [fits_pure, fits_pl]
theorem right_snoc_inv {l : List Ev} {e : Ev} (h : Right (l ++ [e])) : Right l ∧ fits l e = true := by
  generalize hq : l ++ [e] = q at h
  cases h with
  | nil => simp at hq
  | snoc hl hf =>
    obtain ⟨rfl, h2⟩ := List.append_inj' hq rfl
    cases h2
    exact ⟨hl, hf⟩
theorem right_of_pl : ∀ (n : Nat) (l : List Ev), l.length = n → Right (pl l) → Right l
  | 0, l, hn, _ => by rw [List.eq_nil_of_length_eq_zero hn]; exact .nil
  | n + 1, l, hn, h => by
    obtain ⟨q, e, rfl⟩ : ∃ q e, l = q ++ [e] := ⟨l.dropLast, l.getLast (by intro e; simp [e] at hn), (List.dropLast_concat_getLast _).symm⟩
    rw [pl_snoc] at h
    obtain ⟨h1, h2⟩ := right_snoc_inv h
    exact .snoc (right_of_pl n q (by simpa using hn) h1) (by rw [fits_of_pl]; exact h2)
theorem Right.take {l : List Ev} (h : Right l) : ∀ n, Right (l.take n) := by
  induction h with
  | nil => intro n; simpa using Right.nil
  | @snoc l e hl hf ih =>
    intro n
    by_cases hn : n ≤ l.length
    · rw [List.take_append_of_le_length hn]; exact ih n
    · rw [List.take_of_length_le (by simp; omega)]; exact .snoc hl hf
theorem Right.at_ {l : List Ev} (h : Right l) {n : Nat} {e : Ev} (he : l[n]? = some e) : fits (l.take n) e = true := by
  have := h.take (n + 1)
  rw [List.take_add_one, he] at this
  exact (right_snoc_inv this).2
theorem Right.not_bad {l : List Ev} (h : Right l) (n : Nat) : ¬ Bad l n := fun ⟨_, e, he, hf⟩ => by rw [h.at_ he] at hf; cases hf
theorem Checked.of_right {l : List Ev} {a c : Int} (h : Right l) (k : Checked l a c) : a = -1 ∧ c = 0 := by
  rcases k with ⟨_, a, b⟩ | ⟨n, hb, _⟩
  · exact ⟨a, b⟩
  · exact absurd hb (h.not_bad n)
theorem Evs.ids {w : World} {Z : Nat} {l : List Ev} {ps : List (List Wr)} {A : Option Addr} {c : Nat} (h : Evs w Z l ps A c) : ∀ e ∈ l, In64 e.id := fun e he => by
  obtain ⟨j, hj⟩ := List.mem_iff_getElem?.1 he
  obtain ⟨ws, _, _, hf⟩ := h.wss.get hj
  exact hf.id
theorem pl_cells {l L : List Ev} (h : pl l = L) {j : Nat} {e : Ev} (he : L[j]? = some e) : ∃ A c, l[j]? = some (e.on A c) := by
  subst h
  simp only [pl, List.getElem?_map, Option.map_eq_some_iff] at he
  obtain ⟨e', he', rfl⟩ := he
  exact ⟨e'.op.A, e'.op.cap, he'⟩

def kB : ByteArray := ⟨#[107]⟩
def opk : Opx := ⟨1, ⟨#[107]⟩, ⟨#[]⟩, ⟨#[]⟩, false, false, none, 0, 0⟩
def anf : Ans := ⟨0, true, ⟨#[]⟩, ⟨#[]⟩⟩
def we1 : Ev := ⟨1, 1, opk, ans00⟩
def we2 : Ev := ⟨2, 1, op00, anf⟩
def we3 : Ev := ⟨3, 1, op00, anf⟩
theorem opk_fit : opk.fit [] := ⟨by unfold Fit opk; decide, fit0, fit0, (by simp), rfl, by decide⟩
theorem anf_fit : anf.fit := ⟨fit0, fit0⟩
theorem zero00 : op00.zero = true := by simp [Opx.zero, op00, zeroB]
theorem kn1 : kn [we1] 1 = ⟨1, ans00⟩ := rfl
theorem kn2 : kn [we1, we2] 1 = ⟨2, anf⟩ := rfl
theorem fit_1 : fits [] we1 = true := by simp [fits, fitsK, we1, kn, kn0]
theorem fit_no : fits [we1] ⟨3, 1, op00, ans00⟩ = false := by simp [fits, fitsK, kn1]
theorem fit_2 : fits [we1] we2 = true := by
  have h : (⟨2, 1, op00, anf⟩ : Ev) = we2 := rfl
  unfold fits
  rw [show we2.id = 1 from rfl, kn1]
  simp [fitsK, we2, zero00]
theorem fit_3 : fits [we1, we2] we3 = true := by
  unfold fits
  rw [show we3.id = 1 from rfl, kn2]
  simp [fitsK, we3, zero00]
theorem wright : Right [we1, we2, we3] := .snoc (l := [we1, we2]) (.snoc (l := [we1]) (.snoc (l := []) .nil fit_1) fit_2) fit_3
theorem in1 : In64 1 := ⟨by decide, by decide⟩
set_option maxHeartbeats 4000000 in
theorem wakes_any (w : World) : Calls Try.prog 9 #[] w fun r w' => r = .returned (.bool true) ∧ Turn No w w' := by
  go_enter Try.func9, Try.ntmps9
  go_upto_region 2 with (go_at_call 10; refine (new_any _).mono ?_; rintro e w1 ⟨rfl, ht, hz, hs⟩; have H1 := Lib.hid (And.intro ht (And.intro hz (hs.mono (Y := Up w.heap.size) (fun i hi => by unfold Up; omega)))); clear ht hz hs)
  obtain ⟨hb, hhb⟩ : ∃ hb, w.heap.size = hb := ⟨_, rfl⟩
  have HB := Lib.hid hhb
  rw [hhb] at H1 ⊢
  clear hhb
  have C1 := Lib.hid (begin_any H1.out.2.2 (by simp) (by rw [H1.out.2.1]; omega) 1 in1 opk [] opk_fit (Row.nil _ _) (fun _ b o e => by cases e))
  go_upto_region 3 with (go_at_call 11; refine C1.out.mono ?_; rintro e w2 hd; obtain ⟨rfl, hs, ht⟩ := hd.yes (by rw [H1.out.2.1]; omega) fit_1; have H2 := Lib.hid (And.intro (H1.out.1.up ht (Nat.le_of_eq HB.out)) (And.intro (Nat.le_trans (by rw [H1.out.2.1]; omega) ht.size : hb ≤ w2.heap.size) hs)); clear hd hs ht)
  clear C1 H1
  have C2 := Lib.hid (end_any H2.out.2.2 (by decide) H2.out.2.1 1 in1)
  go_upto_region 4 with (go_at_call 13; refine C2.out.mono ?_; rintro e w3 hd; obtain ⟨rfl, ht⟩ := hd.not fit_no; have H3 := Lib.hid (And.intro (H2.out.1.trans ht) (And.intro (Nat.le_trans H2.out.2.1 ht.size) (H2.out.2.2.no ht))); clear hd ht)
  clear C2 H2
  have C3 := Lib.hid (mark_any H3.out.2.2 (by decide) H3.out.2.1 1 in1 anf anf_fit)
  go_upto_region 5 with (go_at_call 12; refine C3.out.mono ?_; rintro e w4 hd; obtain ⟨rfl, hs, ht⟩ := hd.yes H3.out.2.1 fit_2; have H4 := Lib.hid (And.intro (H3.out.1.up ht (Nat.le_of_eq HB.out)) (And.intro (Nat.le_trans H3.out.2.1 ht.size) hs)); clear hd hs ht)
  clear C3 H3
  have C4 := Lib.hid (end_any H4.out.2.2 (by decide) H4.out.2.1 1 in1)
  go_upto_region 6 with (go_at_call 13; refine C4.out.mono ?_; rintro e w5 hd; obtain ⟨rfl, hs, ht⟩ := hd.yes H4.out.2.1 fit_3; have H5 := Lib.hid (And.intro (H4.out.1.up ht (Nat.le_of_eq HB.out)) (And.intro (Nat.le_trans H4.out.2.1 ht.size) hs)); clear hd hs ht)
  clear C4 H4
  have C5 := Lib.hid (events_any H5.out.2.2 (by decide))
  go_upto_region 7 with (go_at_call 17; refine C5.out.mono ?_; rintro e w6 ⟨l', A, c, rfl, ht, hp, hv⟩; have H6 := Lib.hid (And.intro (H5.out.1.trans ht) (And.intro hp hv)); clear ht hp hv)
  clear C5 H5
  have hlen : l'.length = 3 := by rw [← pl_length, H6.out.2.1]; rfl
  have C6 := Lib.hid (check_any l' A c w6 H6.out.2.2.read H6.out.2.2.ids (by omega))
  have HL := Lib.hid hlen
  rw [hlen] at C6
  clear hlen
  go_upto_region 8 with (go_at_call 18; refine C6.out.mono ?_; rintro e w7 ⟨at_, code, rfl, hc, ht⟩; have H7 := Lib.hid (And.intro hc (And.intro (H6.out.1.trans ht) (H6.out.2.2.no ht))); clear hc ht)
  obtain ⟨rfl, rfl⟩ := H7.out.1.of_right (right_of_pl 3 l' HL.out (by rw [H6.out.2.1]; exact wright))
  obtain ⟨A2, c2, he⟩ := pl_cells H6.out.2.1 (j := 2) (e := we3) rfl
  obtain ⟨b, off, hA, hb', hx⟩ := H7.out.2.2.read.ev he
  have x10 : w7.cell? ⟨b, off + 26 + 10, none⟩ = some (.bool true) := hx 10 _ rfl
  subst hA
  clear hx hb' he C6
  go_wp2_with fail
  go_ret
  exact ⟨rfl, H7.out.2.1⟩
end Go.Proofs.Ythopiamiipmobaa
