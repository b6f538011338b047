/-
  A witness that is right is a row that the search finds: plain data.
-/
import Derived.Test.YtllppkfeiifklaaNrp
import Derived.Test.YtllppkfeiifklaaLpx
namespace Go.Proofs.Ytllppkfeiifklaa
open Go.RowKit Go.Lib
set_option linter.unusedVariables false
set_option maxRecDepth 20000
set_option linter.unusedSimpArgs false

theorem endB_bit {l : List Ev} {J : List Int} : ∀ {n j : Nat}, (endB l J n).testBit j = true ↔ j < n ∧ ∃ a, J[j]? = some a ∧ stN l a = 3
  | 0, j => by simp [endB]
  | n + 1, j => by
    have ih := @endB_bit l J n j
    by_cases hc : ((J[n]?).map fun a => decide (stN l a = 3)) = some true
    · have e : endB l J (n + 1) = endB l J n ||| 2 ^ n := by
        conv => lhs; unfold endB
        rw [if_pos hc]
      rw [e, bit_or, Bool.or_eq_true, ih]
      obtain ⟨a, ha, h3⟩ := Option.map_eq_some_iff.1 hc
      constructor
      · rintro (⟨h1, h2⟩ | h)
        · exact ⟨by omega, h2⟩
        · obtain rfl : n = j := of_decide_eq_true h
          exact ⟨Nat.lt_succ_self _, a, ha, of_decide_eq_true h3⟩
      · rintro ⟨h1, h2⟩
        by_cases h : n = j
        · exact .inr (decide_eq_true h)
        · exact .inl ⟨by omega, h2⟩
    · have e : endB l J (n + 1) = endB l J n := by
        conv => lhs; unfold endB
        rw [if_neg hc]
      rw [e, ih]
      constructor
      · rintro ⟨h1, h2⟩; exact ⟨by omega, h2⟩
      · rintro ⟨h1, a, ha, h3⟩
        by_cases h : n = j
        · subst h
          exact absurd (by rw [ha]; simp [h3]) hc
        · exact ⟨by omega, a, ha, h3⟩
theorem ahdB_bit {l : List Ev} {J : List Int} {id : Int} : ∀ {n j : Nat}, (ahdB l J id n).testBit j = true ↔ j < n ∧ ∃ a, J[j]? = some a ∧ ahead l a id = true
  | 0, j => by simp [ahdB]
  | n + 1, j => by
    have ih := @ahdB_bit l J id n j
    by_cases hc : ((J[n]?).map fun a => ahead l a id) = some true
    · have e : ahdB l J id (n + 1) = ahdB l J id n ||| 2 ^ n := by
        conv => lhs; unfold ahdB
        rw [if_pos hc]
      rw [e, bit_or, Bool.or_eq_true, ih]
      obtain ⟨a, ha, h3⟩ := Option.map_eq_some_iff.1 hc
      constructor
      · rintro (⟨h1, h2⟩ | h)
        · exact ⟨by omega, h2⟩
        · obtain rfl : n = j := of_decide_eq_true h
          exact ⟨Nat.lt_succ_self _, a, ha, h3⟩
      · rintro ⟨h1, h2⟩
        by_cases h : n = j
        · exact .inr (decide_eq_true h)
        · exact .inl ⟨by omega, h2⟩
    · have e : ahdB l J id (n + 1) = ahdB l J id n := by
        conv => lhs; unfold ahdB
        rw [if_neg hc]
      rw [e, ih]
      constructor
      · rintro ⟨h1, h2⟩; exact ⟨by omega, h2⟩
      · rintro ⟨h1, a, ha, h3⟩
        by_cases h : n = j
        · subst h
          exact absurd (by rw [ha]; simp [h3]) hc
        · exact ⟨by omega, a, ha, h3⟩
/-- Each operation has begun once. -/
theorem begs_nodup {l : List Ev} (hr : Right l) : (begs l).Nodup := by
  induction hr with
  | nil => exact List.nodup_nil
  | @snoc l e hl hf ih =>
    have hr2 : Right (l ++ [e]) := Right.snoc hl hf
    have e1 : begs (l ++ [e]) = begs l ++ begs [e] := by unfold begs; rw [List.filter_append, List.map_append]
    rw [e1]
    by_cases h1 : e.kind = 1
    · have e2 : begs [e] = [e.id] := by simp [begs, h1]
      rw [e2, List.nodup_append]
      refine ⟨ih, by simp, fun a ha b hb => ?_⟩
      simp at hb
      subst hb
      rintro rfl
      have h2 := (firstAt_begun hr2 (get_last l e) h1).1
      rw [List.take_left' rfl] at h2
      unfold begs at ha
      obtain ⟨x, hx, hxe⟩ := List.mem_map.1 ha
      obtain ⟨hx1, hx2⟩ := List.mem_filter.1 hx
      have := firstAt_eq_none.1 h2 x hx1
      rw [isAt_iff.2 ⟨by simpa using hx2, hxe⟩] at this
      cases this
    · have e2 : begs [e] = [] := by simp [begs, h1]
      rw [e2, List.append_nil]
      exact ih
theorem stN_three {l : List Ev} {a : Int} : stN l a = 3 ↔ (∃ i, firstAt 1 a l = some i) ∧ (∃ j, firstAt 2 a l = some j) ∧ ∃ k, firstAt 3 a l = some k := by
  unfold stN
  cases firstAt 1 a l with
  | none => simp
  | some i =>
    cases firstAt 2 a l with
    | none => simp
    | some j =>
      cases firstAt 3 a l with
      | none => simp
      | some k => simp
theorem mark_an {l : List Ev} (h : Right l) {j : Nat} {e : Ev} (he : l[j]? = some e) (h2 : e.kind = 2) : stA l e.id = e.an := by
  obtain ⟨n, hn⟩ := firstAt_isSome (kind := 2) (id := e.id) he h2 rfl
  obtain ⟨_, x, hx, hat, _⟩ := firstAt_get hn
  obtain ⟨kx, ix⟩ := isAt_iff.1 hat
  have hnj : n = j := by
    rcases Nat.lt_trichotomy n j with h1 | h1 | h1
    · have := h.rises.mono n j x e h1 hx he ix; omega
    · exact h1
    · have := h.rises.mono j n e x h1 he hx ix.symm; omega
  subst hnj
  rw [he] at hx
  injection hx with hx
  subst hx
  exact answer_of hn he
/-- Has its mark, one that counts, gone by? -/
def Dne (l : List Ev) (n : Nat) (id : Int) : Prop := ∃ i e, i < n ∧ l[i]? = some e ∧ e.id = id ∧ actB e = true
theorem act_iff {e : Ev} : actB e = true ↔ e.kind = 2 ∧ idleA e.an = false := by
  unfold actB; rw [Bool.and_eq_true]; simp
/-- An ended one that counts has its mark ahead of its end. -/
theorem dn_ended {l : List Ev} (hr : Right l) {q : Nat} {y : Ev} (hy : l[q]? = some y) (h3 : y.kind = 3) (hs : survB l y.id = true) : Dne l q y.id := by
  obtain ⟨p, z, hp, hz, iz, kz⟩ := hr.rises.pred q y hy (by omega)
  obtain ⟨p2, z2, hp2, hz2, iz2, kz2⟩ := hr.rises.pred p z hz (by omega)
  have h33 : stN l y.id = 3 := stN_three.2 ⟨firstAt_isSome hz2 (by omega) (by omega), firstAt_isSome hz (by omega) iz, firstAt_isSome hy h3 rfl⟩
  refine ⟨p, z, hp, hz, iz, act_iff.2 ⟨by omega, ?_⟩⟩
  have := mark_an hr hz (by omega)
  rw [← this, iz]
  unfold survB at hs
  rw [decide_eq_true h33] at hs
  simpa using hs
theorem lnOk_at {l : List Ev} {ps : List (List Wr)} {M : List Pr} {e : Ev} (h : lnOk l ps M e = true) (ha : actB e = true) : opA M (stO l e.id) (stW l ps e.id) = e.an := by
  unfold lnOk at h
  rw [ha] at h
  simpa using h
theorem mem_begs {l : List Ev} {i : Nat} {e : Ev} (he : l[i]? = some e) (h1 : e.kind = 1) : e.id ∈ begs l := by
  unfold begs
  exact List.mem_map.2 ⟨e, List.mem_filter.2 ⟨List.mem_of_getElem? he, by rw [h1]; rfl⟩, rfl⟩
theorem pr_lin {l : List Ev} {ps : List (List Wr)} {M0 : List Pr} {K : List ByteArray} (hr : Right l) (hu : Upto l ps M0 l.length) (hK : Named l ps (surv l (begs l)) K) : ∀ (m n : Nat), n + m = l.length → ∀ (P : List Pr) (d : Nat), Nv l ps (surv l (begs l)) K (lnM l ps M0 n) P → (∀ k id, (surv l (begs l))[k]? = some id → (d.testBit k = true ↔ Dne l n id)) → PR l ps (surv l (begs l)) P d
  | 0, n, hn, P, d, hv, hd => by
    refine .done (all_iff.2 fun j hj => ?_)
    obtain ⟨_, a, ha, h3⟩ := endB_bit.1 hj
    refine (hd j a ha).2 ?_
    obtain ⟨_, _, q, hq⟩ := stN_three.1 h3
    obtain ⟨hql, y, hy, hat, _⟩ := firstAt_get hq
    obtain ⟨ky, iy⟩ := isAt_iff.1 hat
    have hs : survB l a = true := (List.mem_filter.1 (List.mem_of_getElem? ha)).2
    obtain ⟨i, e, h1, h2⟩ := dn_ended hr hy ky (by rw [iy]; exact hs)
    exact ⟨i, e, by omega, by rw [← iy]; exact h2⟩
  | m + 1, n, hn, P, d, hv, hd => by
    obtain ⟨e, he⟩ : ∃ e, l[n]? = some e := ⟨l[n], List.getElem?_eq_getElem (by omega)⟩
    have hM : lnM l ps M0 (n + 1) = lnS l ps (lnM l ps M0 n) e := lnM_snoc he
    cases ha : actB e with
    | false =>
      refine pr_lin hr hu hK m (n + 1) (by omega) P d ?_ fun k id hk => ?_
      · rw [hM]; unfold lnS; rw [ha]; exact hv
      · rw [hd k id hk]
        constructor
        · rintro ⟨i, x, h1, h2⟩; exact ⟨i, x, by omega, h2⟩
        · rintro ⟨i, x, h1, h2, h3, h4⟩
          refine ⟨i, x, ?_, h2, h3, h4⟩
          by_cases h : i = n
          · subst h
            rw [he] at h2
            injection h2 with h2
            rw [← h2, ha] at h4
            cases h4
          · omega
    | true =>
      obtain ⟨k2, hid⟩ := act_iff.1 ha
      have hsa := mark_an hr he k2
      obtain ⟨b, y, hb, hy, iy, ky⟩ := hr.rises.pred n e he (by omega)
      have hmem : e.id ∈ surv l (begs l) := by
        refine List.mem_filter.2 ⟨by rw [← iy]; exact mem_begs hy (by omega), ?_⟩
        unfold survB
        rw [hsa, hid]
        simp
      obtain ⟨k, hk⟩ := List.mem_iff_getElem?.1 hmem
      have hnd : (surv l (begs l)).Nodup := (begs_nodup hr).filter _
      have hno : ¬ Dne l n e.id := by
        rintro ⟨i, x, h1, h2, h3, h4⟩
        have := hr.rises.mono i n x e h1 h2 he h3
        have := (act_iff.1 h4).1
        omega
      refine .step hk (fun h => hno ((hd k _ hk).1 (bit_iff.1 h))) (all_iff.2 fun j hj => ?_) (fun _ => ?_) (pr_lin hr hu hK m (n + 1) (by omega) _ _ ?_ fun k' id' hk' => ?_)
      · unfold ahdF at hj
        rw [hk] at hj
        obtain ⟨_, a, haj, hah⟩ := ahdB_bit.1 hj
        refine (hd j a haj).2 ?_
        unfold ahead at hah
        split at hah
        · cases hah
        · rename_i q hq
          obtain ⟨hql, z, hz, hat, _⟩ := firstAt_get hq
          obtain ⟨kz, iz⟩ := isAt_iff.1 hat
          obtain ⟨s, hs⟩ := Option.isSome_iff_exists.1 hah
          obtain ⟨hsl, x, hx, hat2, _⟩ := firstAt_get hs
          obtain ⟨kx, ix⟩ := isAt_iff.1 hat2
          rw [List.getElem?_drop] at hx
          have hlt : q < n := by
            rcases Nat.lt_trichotomy (q + s) n with h | h | h
            · omega
            · rw [h, he] at hx
              injection hx with hx
              rw [hx] at k2
              omega
            · have := hr.rises.mono n (q + s) e x h he hx ix.symm
              omega
          have hsv : survB l z.id = true := by rw [iz]; exact (List.mem_filter.1 (List.mem_of_getElem? haj)).2
          obtain ⟨i, x2, h1, h2⟩ := dn_ended hr hz kz hsv
          exact ⟨i, x2, by omega, by rw [← iz]; exact h2⟩
      · rw [← hv.ans hK hmem, lnOk_at (hu n e (by omega) he) ha, hsa]
      · rw [hM]; unfold lnS; rw [if_pos ha]
        exact hv.step hK hmem
      · rw [bit_or, Bool.or_eq_true, hd k' id' hk']
        constructor
        · rintro (⟨i, x, h1, h2⟩ | h)
          · exact ⟨i, x, by omega, h2⟩
          · obtain rfl : k = k' := of_decide_eq_true h
            rw [hk] at hk'
            injection hk' with hk'
            exact ⟨n, e, Nat.lt_succ_self _, he, hk', ha⟩
        · rintro ⟨i, x, h1, h2, h3, h4⟩
          by_cases h : i = n
          · subst h
            rw [he] at h2
            injection h2 with h2
            subst h2
            refine .inr (decide_eq_true ?_)
            exact (List.getElem?_inj (List.getElem?_eq_some_iff.1 hk).1 hnd).1 (by rw [hk, hk', h3])
          · exact .inl ⟨i, x, by omega, h2, h3, h4⟩
end Go.Proofs.Ytllppkfeiifklaa
