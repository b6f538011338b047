/-
  A history as plain data: its events but for where their writes lie; what add makes of it.
-/
import Derived.Test.YthopiamiipmobaaWAddD
namespace Go.Proofs.Ythopiamiipmobaa
open Go.RowKit Go.Lib
set_option linter.unusedVariables false
set_option linter.unusedSimpArgs false

def Ev.pure (e : Ev) : Ev := e.on none 0
def pl (l : List Ev) : List Ev := l.map Ev.pure
theorem Ev.pure_on (e : Ev) (A : Option Addr) (c : Nat) : (e.on A c).pure = e.pure := rfl
theorem Ev.pure_pure (e : Ev) : e.pure.pure = e.pure := rfl
theorem pl_length (l : List Ev) : (pl l).length = l.length := by simp [pl]
theorem pl_snoc (l : List Ev) (e : Ev) : pl (l ++ [e]) = pl l ++ [e.pure] := by simp [pl]
theorem upd_pure (m : Int → Kn) (e : Ev) : upd m e.pure = upd m e := rfl
theorem kn_pl (l : List Ev) : kn (pl l) = kn l := by
  unfold kn pl
  rw [List.foldl_map]
  rfl
theorem fitsK_pure (k : Kn) (e : Ev) : fitsK k e.pure = fitsK k e := rfl
theorem fits_pl (l : List Ev) (e : Ev) : fits (pl l) e = fits l e := by unfold fits; rw [kn_pl]
theorem fits_pure (l : List Ev) (e : Ev) : fits l e.pure = fits l e := rfl
theorem right_pl {l : List Ev} (h : Right l) : Right (pl l) := by
  induction h with
  | nil => exact .nil
  | snoc hl hf ih => rw [pl_snoc]; exact .snoc ih (by rw [fits_pl, fits_pure]; exact hf)
theorem pl_get {l L : List Ev} (h : pl l = L) {j : Nat} {e : Ev} (he : l[j]? = some e) : L[j]? = some e.pure := by
  subst h
  simp [pl, he]

/-- A history at block hb, of the events L; X: what it may write, and reads. -/
def Hs (w : World) (Z hb : Nat) (L : List Ev) (ps : List (List Wr)) (X : Nat → Prop) : Prop :=
  ∃ l A cap m, pl l = L ∧ Ht w Z hb l ps A cap m ∧ ∀ i, Hx hb A m i ∨ Wb l i → X i
section
variable {w w' : World} {Z hb : Nat} {L : List Ev} {ps : List (List Wr)} {X Y : Nat → Prop}
theorem Hs.turn (h : Hs w Z hb L ps X) (t : Turn Y w w') (hY : ∀ i, X i → ¬ Y i) : Hs w' Z hb L ps X := by
  obtain ⟨l, A, cap, m, hl, ht, hx⟩ := h
  exact ⟨l, A, cap, m, hl, ht.turn t (fun i hi => hY i (hx i (.inl hi))) (fun i hi => hY i (hx i (.inr hi))), hx⟩
theorem Hs.no (h : Hs w Z hb L ps X) (t : Turn No w w') : Hs w' Z hb L ps X := h.turn t fun _ _ h => h
theorem Hs.mono (h : Hs w Z hb L ps X) (hY : ∀ i, X i → Y i) : Hs w Z hb L ps Y := by
  obtain ⟨l, A, cap, m, hl, ht, hx⟩ := h
  exact ⟨l, A, cap, m, hl, ht, fun i hi => hY i (hx i hi)⟩
theorem Hs.bound (h : Hs w Z hb L ps X) : Hs w Z hb L ps (fun i => X i ∧ Z ≤ i ∧ i < w.heap.size) := by
  obtain ⟨l, A, cap, m, hl, ht, hx⟩ := h
  exact ⟨l, A, cap, m, hl, ht, fun i hi => ⟨hx i hi, hi.elim (fun h => ht.hx h) fun h => ht.wb h⟩⟩
theorem Hs.len (h : Hs w Z hb L ps X) : ps.length = L.length := by
  obtain ⟨l, A, cap, m, hl, ht, hx⟩ := h
  rw [← hl, pl_length]; exact ht.wss.len
theorem Hs.right (h : Hs w Z hb L ps X) : Right L := by
  obtain ⟨l, A, cap, m, rfl, ht, hx⟩ := h
  exact right_pl ht.right
theorem Hs.fit (h : Hs w Z hb L ps X) {j : Nat} {e : Ev} (he : L[j]? = some e) : ∃ ws, ps[j]? = some ws ∧ e.fit ws := by
  obtain ⟨l, A, cap, m, rfl, ht, hx⟩ := h
  simp only [pl, List.getElem?_map, Option.map_eq_some_iff] at he
  obtain ⟨e', he', rfl⟩ := he
  obtain ⟨ws, h1, _, h2⟩ := ht.wss.get he'
  exact ⟨ws, h1, h2.on none 0⟩
end

/-- What a call that puts down the event e may answer, and what it makes of the history. -/
def Did (w w' : World) (Z hb : Nat) (L : List Ev) (ps : List (List Wr)) (X : Nat → Prop) (e : Ev) (ws : List Wr) (r : Ending) : Prop :=
  (fits L e = false ∧ r = .returned (.int .i64 31) ∧ Turn No w w') ∨
  (fits L e = true ∧ r = .returned (.int .i64 0) ∧ Hs w' Z hb (L ++ [e.pure]) (ps ++ [ws]) (fun i => X i ∨ (w.heap.size ≤ i ∧ i < w'.heap.size)) ∧ Turn X w w')

theorem add_any {w : World} {Z hb : Nat} {L : List Ev} {ps : List (List Wr)} {X : Nat → Prop} (h : Hs w Z hb L ps X) (hl : L.length < 65536) (hz : Z ≤ w.heap.size) (e : Ev) (ws : List Wr) (hf : e.fit ws)
    (hrow : Row w e.op.A (wcs ws)) (hsep : ws ≠ [] → ∀ b o, e.op.A = some ⟨b, o, none⟩ → ¬ X b) :
    Calls Try.prog 29 #[.pointer (some ⟨hb, 0, none⟩), e.val] w fun r w' => Did w w' Z hb L ps X e ws r := by
  obtain ⟨l, A, cap, m, rfl, ht, hx⟩ := h
  rw [pl_length] at hl
  cases hq : fits l e with
  | false =>
    refine (add_no ht hl e hf.id hq).mono ?_
    rintro r w' ⟨h1, h2⟩
    exact .inl ⟨by rw [fits_pl]; exact hq, h1, h2⟩
  | true =>
    refine (add_yes ht hl hz e ws hf hrow (fun hne b o hb hX => hsep hne b o hb (hx b (.inl hX))) hq).mono ?_
    rintro r w' ⟨h1, A1, c1, rB, rd, mb, h2, h3, h4, h5⟩
    refine .inr ⟨by rw [fits_pl]; exact hq, h1, ⟨_, _, _, _, ?_, h2, ?_⟩, h3.mono fun k _ hk => hx k (.inl hk)⟩
    · rw [pl_snoc, Ev.pure_on]
    · rintro i (hi | ⟨e', he', hA⟩)
      · rcases h4 i hi with h | h
        · exact .inl (hx i (.inl h))
        · exact .inr ⟨h, (h2.hx hi).2⟩
      · rcases List.mem_append.1 he' with he' | he'
        · exact .inl (hx i (.inr ⟨e', he', hA⟩))
        · have hw := (h2.wb ⟨e', by simp [he'] at *, hA⟩).2
          simp at he'
          subst he'
          exact .inr ⟨h5 i hA, hw⟩
end Go.Proofs.Ythopiamiipmobaa
