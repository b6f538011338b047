/-
  The document's search and the program's find the same: plain data.
-/
import Derived.Test.YtllppkfeiifklaaPrl
namespace Go.Proofs.Ytllppkfeiifklaa
open Go.RowKit Go.Lib
set_option linter.unusedVariables false
set_option maxRecDepth 20000
set_option linter.unusedSimpArgs false

/-- The document's search: row is what has been put so far. -/
inductive DR (l : List Ev) (ps : List (List Wr)) (I : List Int) : List Pr → List Int → Prop
  | done {M : List Pr} {row : List Int} : (∀ a ∈ I, ¬ stN l a = 3 ∨ a ∈ row) → DR l ps I M row
  | idle {M : List Pr} {row : List Int} {id : Int} : id ∈ I → id ∉ row → (∀ a ∈ I, a ∈ row ∨ ahead l a id = false) → survB l id = false → DR l ps I M (row ++ [id]) → DR l ps I M row
  | step {M : List Pr} {row : List Int} {id : Int} : id ∈ I → id ∉ row → (∀ a ∈ I, a ∈ row ∨ ahead l a id = false) → survB l id = true → (stN l id = 3 → opA M (stO l id) (stW l ps id) = stA l id) → DR l ps I (opD M (stO l id) (stW l ps id)) (row ++ [id]) → DR l ps I M row
theorem surv_mem {l : List Ev} {I : List Int} {id : Int} : id ∈ surv l I ↔ id ∈ I ∧ survB l id = true := List.mem_filter
theorem surv_not {l : List Ev} {id : Int} (h : survB l id = false) : stN l id = 3 ∧ idleA (stA l id) = true := by
  unfold survB at h
  simpa using h
theorem ahead_ended {l : List Ev} (hr : Right l) {a b : Int} (h : ahead l a b = true) : ∃ (q p : Nat) (y z : Ev), q < p ∧ l[q]? = some y ∧ y.kind = 3 ∧ y.id = a ∧ l[p]? = some z ∧ z.kind = 1 ∧ z.id = b := by
  unfold ahead at h
  split at h
  · cases h
  · rename_i q hq
    obtain ⟨hql, y, hy, hat, _⟩ := firstAt_get hq
    obtain ⟨ky, iy⟩ := isAt_iff.1 hat
    obtain ⟨s, hs⟩ := Option.isSome_iff_exists.1 h
    obtain ⟨hsl, x, hx, hat2, _⟩ := firstAt_get hs
    obtain ⟨kx, ix⟩ := isAt_iff.1 hat2
    rw [List.getElem?_drop] at hx
    refine ⟨q, q + s, y, x, ?_, hy, ky, iy, hx, kx, ix⟩
    rcases Nat.eq_zero_or_pos s with h0 | h0
    · rw [h0, Nat.add_zero, hy] at hx
      injection hx with hx
      rw [hx] at ky
      omega
    · omega
theorem ahead_ev {l : List Ev} (hr : Right l) {q p : Nat} {y z : Ev} (hqp : q < p) (hy : l[q]? = some y) (ky : y.kind = 3) (hz : l[p]? = some z) (kz : z.kind = 1) : ahead l y.id z.id = true := by
  obtain ⟨n, hn⟩ := firstAt_isSome (kind := 3) (id := y.id) hy ky rfl
  obtain ⟨_, x, hx, hat, _⟩ := firstAt_get hn
  obtain ⟨kx, ix⟩ := isAt_iff.1 hat
  have hnq : n = q := by
    rcases Nat.lt_trichotomy n q with h1 | h1 | h1
    · have := hr.rises.mono n q x y h1 hx hy ix; omega
    · exact h1
    · have := hr.rises.mono q n y x h1 hy hx ix.symm; omega
  subst hnq
  unfold ahead
  rw [hn]
  obtain ⟨m, hm⟩ := firstAt_isSome (kind := 1) (id := z.id) (l := l.drop n) (i := p - n) (x := z) (by rw [List.getElem?_drop, show n + (p - n) = p by omega]; exact hz) kz rfl
  show (firstAt 1 z.id (l.drop n)).isSome = true
  rw [hm]
  rfl
/-- What has ended has begun ahead of it. -/
theorem end_begun {l : List Ev} (hr : Right l) {q : Nat} {y : Ev} (hy : l[q]? = some y) (ky : y.kind = 3) : stN l y.id = 3 ∧ ∃ (p : Nat) (z : Ev), p < q ∧ l[p]? = some z ∧ z.kind = 1 ∧ z.id = y.id := by
  obtain ⟨p, z, hp, hz, iz, kz⟩ := hr.rises.pred q y hy (by omega)
  obtain ⟨p2, z2, hp2, hz2, iz2, kz2⟩ := hr.rises.pred p z hz (by omega)
  exact ⟨stN_three.2 ⟨firstAt_isSome hz2 (by omega) (by omega), firstAt_isSome hz (by omega) iz, firstAt_isSome hy ky rfl⟩, p2, z2, by omega, hz2, by omega, by omega⟩
theorem begun_uniq {l : List Ev} (hr : Right l) {p q : Nat} {y z : Ev} (hy : l[p]? = some y) (hz : l[q]? = some z) (hk : y.kind = z.kind) (hi : y.id = z.id) : p = q := by
  rcases Nat.lt_trichotomy p q with h | h | h
  · have := hr.rises.mono p q y z h hy hz hi; omega
  · exact h
  · have := hr.rises.mono q p z y h hz hy hi.symm; omega
theorem ahead_trans {l : List Ev} (hr : Right l) {a b c : Int} (h1 : ahead l a b = true) (h2 : ahead l b c = true) : ahead l a c = true := by
  obtain ⟨q, p, y, z, hqp, hy, ky, iy, hz, kz, iz⟩ := ahead_ended hr h1
  obtain ⟨q2, p2, y2, z2, hqp2, hy2, ky2, iy2, hz2, kz2, iz2⟩ := ahead_ended hr h2
  obtain ⟨_, p3, z3, hp3, hz3, kz3, iz3⟩ := end_begun hr hy2 ky2
  obtain rfl : p = p3 := begun_uniq hr hz hz3 (by omega) (by omega)
  rw [← iy, ← iz2]
  exact ahead_ev hr (by omega) hy ky hz2 kz2
/-- The idle ones that a thing waits for are put, one by one, as they ended. -/
theorem put_idle {l : List Ev} {ps : List (List Wr)} {M : List Pr} (hr : Right l) {T : Int → Bool} (hT : ∀ x y, T y = true → ahead l x y = true → T x = true) : ∀ (m n : Nat), n + m = l.length → ∀ row : List Int, (∀ a ∈ begs l, survB l a = true → T a = true → stN l a = 3 → a ∈ row) → (∀ (q : Nat) (y : Ev), q < n → l[q]? = some y → y.kind = 3 → survB l y.id = false → T y.id = true → y.id ∈ row) → (∀ row' : List Int, (∀ a ∈ row, a ∈ row') → (∀ a ∈ row', a ∈ row ∨ survB l a = false) → (∀ a ∈ begs l, survB l a = false → T a = true → a ∈ row') → DR l ps (begs l) M row') → DR l ps (begs l) M row
  | 0, n, hn, row, h1, h2, h3 => h3 row (fun a h => h) (fun a h => .inl h) fun a ha hs ht => by
    obtain ⟨_, _, q, hq⟩ := stN_three.1 (surv_not hs).1
    obtain ⟨hql, y, hy, hat, _⟩ := firstAt_get hq
    obtain ⟨ky, iy⟩ := isAt_iff.1 hat
    rw [← iy]
    exact h2 q y (by omega) hy ky (by rw [iy]; exact hs) (by rw [iy]; exact ht)
  | m + 1, n, hn, row, h1, h2, h3 => by
    obtain ⟨e, he⟩ : ∃ e, l[n]? = some e := ⟨l[n], List.getElem?_eq_getElem (by omega)⟩
    by_cases hc : e.kind = 3 ∧ survB l e.id = false ∧ T e.id = true ∧ e.id ∉ row
    · obtain ⟨k3, hs, ht, hno⟩ := hc
      obtain ⟨_, p, z, hp, hz, kz, iz⟩ := end_begun hr he k3
      refine .idle (by rw [← iz]; exact mem_begs hz kz) hno (fun a ha => ?_) hs (put_idle hr hT m (n + 1) (by omega) (row ++ [e.id]) (fun a ha b c d => List.mem_append.2 (.inl (h1 a ha b c d))) (fun q y hq hy ky hy2 hy3 => ?_) fun row' a1 a2 a3 => h3 row' (fun a ha => a1 a (List.mem_append.2 (.inl ha))) (fun a ha => ?_) a3)
      · cases hah : ahead l a e.id with
        | false => exact .inr rfl
        | true =>
          refine .inl ?_
          have hta := hT a e.id ht hah
          obtain ⟨q2, p2, y2, z2, hqp2, hy2, ky2, iy2, hz2, kz2, iz2⟩ := ahead_ended hr hah
          obtain rfl : p2 = p := begun_uniq hr hz2 hz (by omega) (by omega)
          cases hsa : survB l a with
          | true => exact h1 a ha hsa hta (by rw [← iy2]; exact (end_begun hr hy2 ky2).1)
          | false =>
            rw [← iy2]
            exact h2 q2 y2 (by omega) hy2 ky2 (by rw [iy2]; exact hsa) (by rw [iy2]; exact hta)
      · by_cases h : q = n
        · subst h
          rw [he] at hy
          injection hy with hy
          subst hy
          simp
        · exact List.mem_append.2 (.inl (h2 q y (by omega) hy ky hy2 hy3))
      · rcases a2 a ha with h | h
        · rcases List.mem_append.1 h with h | h
          · exact .inl h
          · simp at h
            subst h
            exact .inr hs
        · exact .inr h
    · refine put_idle hr hT m (n + 1) (by omega) row h1 (fun q y hq hy ky hy2 hy3 => ?_) h3
      by_cases h : q = n
      · subst h
        rw [he] at hy
        injection hy with hy
        subst hy
        by_cases hm : e.id ∈ row
        · exact hm
        · exact absurd ⟨ky, hy2, hy3, hm⟩ hc
      · exact h2 q y (by omega) hy ky hy2 hy3
section
variable {l : List Ev} {ps : List (List Wr)} {K : List ByteArray} (hr : Right l) (hK : Named l ps (surv l (begs l)) K)
include hr hK
theorem pr_of_dr {M : List Pr} {row : List Int} (h : DR l ps (begs l) M row) : ∀ (P : List Pr) (d : Nat), Nv l ps (surv l (begs l)) K M P → (∀ k id, (surv l (begs l))[k]? = some id → (d.testBit k = true ↔ id ∈ row)) → PR l ps (surv l (begs l)) P d := by
  induction h with
  | done h1 =>
    intro P d hv hd
    refine .done (all_iff.2 fun j hj => ?_)
    obtain ⟨_, a, ha, h3⟩ := endB_bit.1 hj
    have hm := surv_mem.1 (List.mem_of_getElem? ha)
    rcases h1 a hm.1 with h | h
    · exact absurd h3 h
    · exact (hd j a ha).2 h
  | @idle M row id hI hno hc hs h ih =>
    intro P d hv hd
    refine ih P d hv fun k a hk => ?_
    rw [hd k a hk]
    have hm := surv_mem.1 (List.mem_of_getElem? hk)
    constructor
    · intro h; exact List.mem_append.2 (.inl h)
    · intro h
      rcases List.mem_append.1 h with h | h
      · exact h
      · simp at h
        subst h
        rw [hs] at hm
        cases hm.2
  | @step M row id hI hno hc hs ha h ih =>
    intro P d hv hd
    have hmem : id ∈ surv l (begs l) := surv_mem.2 ⟨hI, hs⟩
    obtain ⟨k, hk⟩ := List.mem_iff_getElem?.1 hmem
    have hnd : (surv l (begs l)).Nodup := (begs_nodup hr).filter _
    refine .step hk (fun h => hno ((hd k _ hk).1 (bit_iff.1 h))) (all_iff.2 fun j hj => ?_) (fun h3 => ?_) (ih _ _ (hv.step hK hmem) fun k' id' hk' => ?_)
    · unfold ahdF at hj
      rw [hk] at hj
      obtain ⟨_, a, haj, hah⟩ := ahdB_bit.1 hj
      rcases hc a (surv_mem.1 (List.mem_of_getElem? haj)).1 with h | h
      · exact (hd j a haj).2 h
      · rw [hah] at h; cases h
    · rw [← hv.ans hK hmem]; exact ha h3
    · rw [bit_or, Bool.or_eq_true, hd k' id' hk']
      constructor
      · rintro (h | h)
        · exact List.mem_append.2 (.inl h)
        · obtain rfl : k = k' := of_decide_eq_true h
          rw [hk] at hk'
          injection hk' with hk'
          subst hk'
          simp
      · intro h
        rcases List.mem_append.1 h with h | h
        · exact .inl h
        · simp at h
          subst h
          exact .inr (decide_eq_true ((List.getElem?_inj (List.getElem?_eq_some_iff.1 hk).1 hnd).1 (by rw [hk, hk'])))
theorem dr_of_pr {P : List Pr} {d : Nat} (h : PR l ps (surv l (begs l)) P d) : ∀ (M : List Pr) (row : List Int), Nv l ps (surv l (begs l)) K M P → (∀ k id, (surv l (begs l))[k]? = some id → (d.testBit k = true ↔ id ∈ row)) → DR l ps (begs l) M row := by
  induction h with
  | @done P d h1 =>
    intro M row hv hd
    refine put_idle hr (T := fun _ => true) (fun _ _ _ _ => rfl) l.length 0 (by omega) row (fun a ha hs _ h3 => ?_) (fun q y hq => by omega) fun row' a1 a2 a3 => .done fun a ha => ?_
    · obtain ⟨k, hk⟩ := List.mem_iff_getElem?.1 (surv_mem.2 ⟨ha, hs⟩)
      exact (hd k a hk).1 (all_iff.1 h1 k (endB_bit.2 ⟨(List.getElem?_eq_some_iff.1 hk).1, a, hk, h3⟩))
    · by_cases h3 : stN l a = 3
      · refine .inr ?_
        cases hs : survB l a with
        | true =>
          obtain ⟨k, hk⟩ := List.mem_iff_getElem?.1 (surv_mem.2 ⟨ha, hs⟩)
          exact a1 a ((hd k a hk).1 (all_iff.1 h1 k (endB_bit.2 ⟨(List.getElem?_eq_some_iff.1 hk).1, a, hk, h3⟩)))
        | false => exact a3 a ha hs rfl
      · exact .inl h3
  | @step P d k id hk hno hc ha h ih =>
    intro M row hv hd
    have hmem := List.mem_of_getElem? hk
    have hm := surv_mem.1 hmem
    have hnd : (surv l (begs l)).Nodup := (begs_nodup hr).filter _
    have hsv : ∀ a ∈ begs l, survB l a = true → ahead l a id = true → a ∈ row := fun a ha hs hah => by
      obtain ⟨j, hj⟩ := List.mem_iff_getElem?.1 (surv_mem.2 ⟨ha, hs⟩)
      refine (hd j a hj).1 (all_iff.1 hc j ?_)
      unfold ahdF
      rw [hk]
      exact ahdB_bit.2 ⟨(List.getElem?_eq_some_iff.1 hj).1, a, hj, hah⟩
    have hnr : id ∉ row := fun h => hno (bit_iff.2 ((hd k id hk).2 h))
    refine put_idle hr (T := fun a => ahead l a id) (fun x y hy hx => ahead_trans hr hx hy) l.length 0 (by omega) row (fun a ha hs ht _ => hsv a ha hs ht) (fun q y hq => by omega) fun row' a1 a2 a3 => ?_
    have hno' : id ∉ row' := fun h => by
      rcases a2 id h with h | h
      · exact hnr h
      · rw [hm.2] at h; cases h
    refine .step hm.1 hno' (fun a ha => ?_) hm.2 (fun h3 => by rw [hv.ans hK hmem]; exact ha h3) (ih _ _ (hv.step hK hmem) fun k' id' hk' => ?_)
    · cases hah : ahead l a id with
      | false => exact .inr rfl
      | true =>
        refine .inl ?_
        cases hs : survB l a with
        | true => exact a1 a (hsv a ha hs hah)
        | false => exact a3 a ha hs hah
    · have hm' := surv_mem.1 (List.mem_of_getElem? hk')
      rw [bit_or, Bool.or_eq_true, hd k' id' hk']
      constructor
      · rintro (h | h)
        · exact List.mem_append.2 (.inl (a1 _ h))
        · obtain rfl : k = k' := of_decide_eq_true h
          rw [hk] at hk'
          injection hk' with hk'
          subst hk'
          simp
      · intro h
        rcases List.mem_append.1 h with h | h
        · rcases a2 _ h with h | h
          · exact .inl h
          · rw [hm'.2] at h; cases h
        · simp at h
          subst h
          exact .inr (decide_eq_true ((List.getElem?_inj (List.getElem?_eq_some_iff.1 hk).1 hnd).1 (by rw [hk, hk'])))
end
end Go.Proofs.Ytllppkfeiifklaa
