/-
  What near leaves out changes no answer: plain data.
-/
import Derived.Test.YtllppkfeiifklaaJ36
namespace Go.Proofs.Ytllppkfeiifklaa
open Go.RowKit Go.Lib
set_option linter.unusedVariables false
set_option maxRecDepth 20000
set_option linter.unusedSimpArgs false

/-- In a sorted list, the first one that passes a test is the least. -/
theorem find_least {f : Pr → Bool} : ∀ {L : List Pr}, Asc L → ∀ {p : Pr}, L.find? f = some p ↔ p ∈ L ∧ f p = true ∧ ∀ q ∈ L, f q = true → q = p ∨ kl p.k q.k
  | [], _, p => by simp
  | x :: t, h, p => by
    have hx : ∀ {q : Pr}, q ∈ t → kl x.k q.k := fun {q} hq => List.rel_of_pairwise_cons h hq
    have ht : Asc t := List.Pairwise.of_cons h
    rw [List.find?_cons]
    cases hf : f x with
    | true =>
      simp only [Option.some.injEq]
      constructor
      · rintro rfl
        exact ⟨List.mem_cons_self, hf, fun q hq _ => (List.mem_cons.1 hq).elim Or.inl fun hq => Or.inr (hx hq)⟩
      · rintro ⟨h1, h2, h3⟩
        rcases h3 x List.mem_cons_self hf with e | e
        · exact e
        · rcases List.mem_cons.1 h1 with e1 | e1
          · exact e1.symm
          · exact absurd (kl_trans e (hx e1)) (kl_irrefl _)
    | false =>
      simp only
      rw [find_least ht]
      constructor
      · rintro ⟨h1, h2, h3⟩
        exact ⟨List.mem_cons_of_mem _ h1, h2, fun q hq hfq => (List.mem_cons.1 hq).elim (fun e => by rw [e, hf] at hfq; cases hfq) fun hq => h3 q hq hfq⟩
      · rintro ⟨h1, h2, h3⟩
        refine ⟨(List.mem_cons.1 h1).elim (fun e => by rw [e, hf] at h2; cases h2) id, h2, fun q hq hfq => h3 q (List.mem_cons_of_mem _ hq) hfq⟩
theorem asc_nexts {M : List Pr} (h : Asc M) (k : ByteArray) (aft : Bool) : Asc (nexts M k aft) := by
  unfold nexts
  split
  · exact List.Pairwise.sublist (List.tail_sublist _) (h.his k)
  · exact h.his k
/-- Sorted lists with the same ones of a kind, and the same first one of the others, have the same first one. -/
theorem nans_same {f : Pr → Bool} {L L' : List Pr} (h : Asc L) (h' : Asc L') (hf : ∀ p, f p = false → (p ∈ L ↔ p ∈ L')) (he : L.find? f = L'.find? f) : nans L = nans L' := by
  have key : ∀ {A B : List Pr} {p q : Pr} {s t : List Pr}, Asc A → Asc B → (∀ p, f p = false → (p ∈ A ↔ p ∈ B)) → A.find? f = B.find? f → A = p :: s → B = q :: t → p = q ∨ kl q.k p.k := by
    intro A B p q s t hA hB hm hn e1 e2
    subst e1 e2
    have hpq : p ∈ q :: t → p = q ∨ kl q.k p.k := fun hp => (List.mem_cons.1 hp).imp id fun hp => List.rel_of_pairwise_cons hB hp
    cases hfp : f p with
    | false => exact hpq ((hm p hfp).1 List.mem_cons_self)
    | true =>
      have : (p :: s).find? f = some p := by rw [List.find?_cons, hfp]
      rw [hn] at this
      exact hpq (List.mem_of_find?_eq_some this)
  cases hL : L with
  | nil =>
    subst hL
    cases hL' : L' with
    | nil => rfl
    | cons q t =>
      exfalso
      subst hL'
      cases hfq : f q with
      | false => have := (hf q hfq).2 List.mem_cons_self; simp at this
      | true => rw [List.find?_cons, hfq] at he; simp at he
  | cons p s =>
    cases hL' : L' with
    | nil =>
      exfalso
      subst hL hL'
      cases hfq : f p with
      | false => have := (hf p hfq).1 List.mem_cons_self; simp at this
      | true => rw [List.find?_cons, hfq] at he; simp at he
    | cons q t =>
      have e : p = q := by
        rcases key h h' hf he hL hL' with e | e
        · exact e
        · rcases key h' h (fun p hp => (hf p hp).symm) he.symm hL' hL with e2 | e2
          · exact e2.symm
          · exact absurd (kl_trans e e2) (kl_irrefl _)
      subst e
      rfl
/-- The document's map M and the program's P, near the named keys K. -/
structure Nv (l : List Ev) (ps : List (List Wr)) (J : List Int) (K : List ByteArray) (M P : List Pr) : Prop where
  am : Asc M
  ap : Asc P
  get : ∀ q, hasK K q = true → getL M q = getL P q
  nx : ∀ id ∈ J, (stO l id).kind = 5 → refO 5 (stO l id).k (stO l id).v (stO l id).o (stO l id).had (stW l ps id) = 0 → (nexts M (stO l id).k (stO l id).aft).find? (fun p => !keepB K p) = (nexts P (stO l id).k (stO l id).aft).find? (fun p => !keepB K p)
/-- The keys of J's operations are named. -/
def Named (l : List Ev) (ps : List (List Wr)) (J : List Int) (K : List ByteArray) : Prop := ∀ id ∈ J, ∀ k ∈ keysO (stO l id) (stW l ps id), hasK K k = true
theorem named_self (l : List Ev) (ps : List (List Wr)) (J : List Int) : Named l ps J (namL l ps J) := fun id hid k hk => by
  unfold hasK
  exact List.any_eq_true.2 ⟨k, List.mem_flatMap.2 ⟨id, hid, hk⟩, decide_eq_true rfl⟩
theorem get_iff {M P : List Pr} (hM : Asc M) (hP : Asc P) {q : ByteArray} (h : getL M q = getL P q) {p : Pr} (hp : p.k = q) : p ∈ M ↔ p ∈ P := by
  obtain ⟨k, v⟩ := p
  simp only at hp
  subst hp
  exact ⟨fun hm => by have := hM.get_of_mem hm; rw [h] at this; exact get_mem this, fun hm => by have := hP.get_of_mem hm; rw [← h] at this; exact get_mem this⟩
section
variable {l : List Ev} {ps : List (List Wr)} {J : List Int} {K : List ByteArray} {M P : List Pr}
theorem Nv.ans (h : Nv l ps J K M P) (hK : Named l ps J K) {id : Int} (hid : id ∈ J) : opA M (stO l id) (stW l ps id) = opA P (stO l id) (stW l ps id) := by
  have hk := hK id hid
  have hn := h.nx id hid
  generalize stO l id = o at hk hn
  generalize stW l ps id = ws at hk hn
  unfold opA
  by_cases hr : refO o.kind o.k o.v o.o o.had ws = 0
  · by_cases h5 : o.kind = 5
    · have e : ∀ N, doA N o.kind o.k o.v o.o o.had o.aft ws = nans (nexts N o.k o.aft) := fun N => by
        unfold doA
        rw [if_pos hr, if_neg (by omega), if_neg (by omega), if_pos h5]
      rw [e, e]
      refine nans_same (f := fun p => !keepB K p) (asc_nexts h.am _ _) (asc_nexts h.ap _ _) (fun p hp => ?_) (hn h5 (by rw [← h5]; exact hr))
      have hp2 : hasK K p.k = true := by
        have : (!keepB K p) = false := hp
        simpa [keepB] using this
      rw [h.am.nexts_ok, h.ap.nexts_ok, get_iff h.am h.ap (h.get _ hp2) rfl]
    · refine doA_same _ _ _ _ _ _ _ _ _ h5 fun h6 => h.get _ (hk _ ?_)
      unfold keysO
      rw [if_neg (by intro h; rcases h with h | h; exact h hr; exact h5 h), if_neg h6]
      exact List.mem_cons_self
  · unfold doA
    rw [if_neg hr, if_neg hr]
theorem opD_still (M : List Pr) {o : Opx} {ws : List Wr} (h : refO o.kind o.k o.v o.o o.had ws ≠ 0 ∨ o.kind = 5) : opD M o ws = M := by
  unfold opD doM
  split
  · rename_i h0
    rcases h with h | h
    · exact absurd h0 h
    · rw [h]; rfl
  · rfl
/-- What an operation doesn't name. -/
theorem names_keys {o : Opx} {ws : List Wr} (h : ¬ (refO o.kind o.k o.v o.o o.had ws ≠ 0 ∨ o.kind = 5)) {q : ByteArray} (hq : namesO o.kind o.k ws q = true) : q ∈ keysO o ws := by
  unfold keysO
  rw [if_neg h]
  unfold namesO at hq
  split
  · rename_i h6
    rw [if_pos h6] at hq
    obtain ⟨x, hx, he⟩ := List.any_eq_true.1 hq
    rw [← of_decide_eq_true he]
    exact List.mem_map.2 ⟨x, hx, rfl⟩
  · rename_i h6
    rw [if_neg h6] at hq
    rw [← of_decide_eq_true hq]
    exact List.mem_cons_self
/-- What has no name is first where it was. -/
theorem nx_same {M N : List Pr} (hM : Asc M) (hN : Asc N) (h : ∀ p, hasK K p.k = false → (p ∈ N ↔ p ∈ M)) (k : ByteArray) (aft : Bool) : (nexts N k aft).find? (fun p => !keepB K p) = (nexts M k aft).find? (fun p => !keepB K p) := by
  have hk : ∀ p, (!keepB K p) = true → hasK K p.k = false := fun p hp => by simpa [keepB] using hp
  have key : ∀ {A B : List Pr} {p : Pr}, Asc A → Asc B → (∀ p, hasK K p.k = false → (p ∈ A ↔ p ∈ B)) → (nexts A k aft).find? (fun p => !keepB K p) = some p → (nexts B k aft).find? (fun p => !keepB K p) = some p := by
    intro A B p hA hB hm hf
    obtain ⟨h1, h2, h3⟩ := (find_least (asc_nexts hA k aft)).1 hf
    refine (find_least (asc_nexts hB k aft)).2 ⟨?_, h2, fun q hq hfq => h3 q ?_ hfq⟩
    · have := hA.nexts_ok.1 h1
      exact hB.nexts_ok.2 ⟨(hm p (hk p h2)).1 this.1, this.2⟩
    · have := hB.nexts_ok.1 hq
      exact hA.nexts_ok.2 ⟨(hm q (hk q hfq)).2 this.1, this.2⟩
  cases h1 : (nexts N k aft).find? (fun p => !keepB K p) with
  | some p => rw [key hN hM h h1]
  | none =>
    cases h2 : (nexts M k aft).find? (fun p => !keepB K p) with
    | none => rfl
    | some p => rw [key hM hN (fun p hp => (h p hp).symm) h2] at h1; cases h1
theorem Nv.step (h : Nv l ps J K M P) (hK : Named l ps J K) {id : Int} (hid : id ∈ J) : Nv l ps J K (opD M (stO l id) (stW l ps id)) (opD P (stO l id) (stW l ps id)) := by
  have hk := hK id hid
  generalize stO l id = o at hk
  generalize stW l ps id = ws at hk
  by_cases hst : refO o.kind o.k o.v o.o o.had ws ≠ 0 ∨ o.kind = 5
  · rw [opD_still M hst, opD_still P hst]
    exact h
  · have h6 : o.kind ≠ 6 → getL M o.k = getL P o.k := fun h6 => h.get _ (hk _ (names_keys hst (names_self h6)))
    have ho : ∀ {N : List Pr}, Asc N → ∀ p : Pr, hasK K p.k = false → (p ∈ opD N o ws ↔ p ∈ N) := fun {N} hN p hp => mem_other hN (by
      cases hb : namesO o.kind o.k ws p.k with
      | false => rfl
      | true => rw [hk _ (names_keys hst hb)] at hp; cases hp)
    refine ⟨asc_doM h.am .., asc_doM h.ap .., fun q hq => doM_same _ _ _ _ _ _ _ _ _ q (h.get q hq) h6, fun i hi h5 hr => ?_⟩
    have a1 : Asc (opD M o ws) := asc_doM h.am ..
    have a2 : Asc (opD P o ws) := asc_doM h.ap ..
    rw [nx_same h.am a1 (ho h.am), nx_same h.ap a2 (ho h.ap)]
    exact h.nx i hi h5 hr
/-- The near map to begin with. -/
theorem mem_news_of {M N : List Pr} (hM : Asc M) (hs : ∀ p ∈ N, p ∈ M) {p : Pr} : p ∈ news N ↔ p ∈ N := by
  constructor
  · exact news_sub p
  · intro hp
    have h1 := get_news N p.k
    cases h2 : getL N.reverse p.k with
    | none =>
      exfalso
      unfold getL at h2
      rw [Option.map_eq_none_iff, List.find?_eq_none] at h2
      have := h2 p (List.mem_reverse.2 hp)
      simp at this
    | some v =>
      have h3 := List.mem_reverse.1 (get_mem h2)
      have h4 := hM.get_of_mem (k := p.k) (v := v) (hs _ h3)
      have h5 := hM.get_of_mem (k := p.k) (v := p.v) (hs p hp)
      rw [h4] at h5
      injection h5 with h5
      rw [h2, h5] at h1
      exact get_mem h1
theorem Nv.init (hM : Asc M) : Nv l ps J K M (news (nearL l ps M K J)) := by
  have hs : ∀ p ∈ nearL l ps M K J, p ∈ M := fun p hp => nearL_sub hM hp
  have hmem : ∀ {p}, p ∈ news (nearL l ps M K J) ↔ p ∈ nearL l ps M K J := fun {p} => mem_news_of hM hs
  have hP := asc_news (nearL l ps M K J)
  have hkp : ∀ p : Pr, hasK K p.k = true → (p ∈ M ↔ p ∈ news (nearL l ps M K J)) := fun p hp => by
    rw [hmem]
    exact ⟨fun h => List.mem_append.2 (.inl (List.mem_filter.2 ⟨h, hp⟩)), hs p⟩
  refine ⟨hM, hP, fun q hq => ?_, fun id hid h5 hr => ?_⟩
  · cases h1 : getL M q with
    | some v => exact (hP.get_of_mem ((hkp ⟨q, v⟩ hq).1 (get_mem h1))).symm
    | none =>
      cases h2 : getL (news (nearL l ps M K J)) q with
      | none => rfl
      | some v =>
        have := hM.get_of_mem ((hkp ⟨q, v⟩ hq).2 (get_mem h2))
        rw [h1] at this; cases this
  · have hin : ∀ p, (nexts M (stO l id).k (stO l id).aft).find? (fun p => !keepB K p) = some p → p ∈ nearL l ps M K J := fun p hp => by
      refine List.mem_append.2 (.inr (List.mem_flatMap.2 ⟨id, hid, ?_⟩))
      unfold nxO
      rw [if_pos ⟨h5, by rw [h5]; exact hr⟩, hp]
      simp
    cases h1 : (nexts M (stO l id).k (stO l id).aft).find? (fun p => !keepB K p) with
    | some p =>
      obtain ⟨a1, a2, a3⟩ := (find_least (asc_nexts hM _ _)).1 h1
      refine Eq.symm ((find_least (asc_nexts hP _ _)).2 ⟨hP.nexts_ok.2 ⟨hmem.2 (hin p h1), (hM.nexts_ok.1 a1).2⟩, a2, fun q hq hfq => a3 q ?_ hfq⟩)
      have := hP.nexts_ok.1 hq
      exact hM.nexts_ok.2 ⟨hs q (hmem.1 this.1), this.2⟩
    | none =>
      cases h2 : (nexts (news (nearL l ps M K J)) (stO l id).k (stO l id).aft).find? (fun p => !keepB K p) with
      | none => rfl
      | some q =>
        exfalso
        obtain ⟨a1, a2, a3⟩ := (find_least (asc_nexts hP _ _)).1 h2
        have h3 := hP.nexts_ok.1 a1
        rw [List.find?_eq_none] at h1
        exact h1 q (hM.nexts_ok.2 ⟨hs q (hmem.1 h3.1), h3.2⟩) a2
end
end Go.Proofs.Ytllppkfeiifklaa
