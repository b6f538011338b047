/-
  What is alive, by the document's slots and by the arenas; what becomes of the law's world where a thing is put in both pools.
-/
import Derived.Test.YtbdfbgkfhaiccaaDoorWorldB
namespace Go.Proofs.YtbdfbgkfhaiccaaDoor
open Go.RowKit Go.Maps
set_option linter.unusedVariables false

/-- The rows of handles and of acts stay. -/
def Keeps (w w' : World) : Prop := ∀ i c t, (t = 32 ∨ t = 63) → At w i (.cells c t (0, 0)) → At w' i (.cells c t (0, 0))
theorem Keeps.same {w w' : World} (t : Turn (fun _ => False) w w') : Keeps w w' := fun i c ty _ h => h.turn t (fun h => h)
theorem Keeps.trans {a b c : World} (h : Keeps a b) (k : Keeps b c) : Keeps a c := fun i d t ht hi => k i d t ht (h i d t ht hi)
theorem Keeps.off {w w' : World} {X : Nat → Prop} {m : Nat} (t : Turn X w w') (h : Off w [32, 63] m X) : Keeps w w' := fun i c ty ht hi => hi.turn t (h.row ⟨c, hi⟩ (by rcases ht with e | e <;> simp [e]))

/-- The slot of a handle that is alive in arena i. -/
def alv (L : List Sl) (i : Nat) (s : Int) (g : Nat) : Option (Nat × Sl) :=
  if s < 0 then none else match L[s.toNat]? with | some q => if q.who = i ∧ q.g = g then some (s.toNat, q) else none | none => none
section
variable {L : List Sl} {i g x : Nat} {s : Int} {q : Sl}
theorem alv_some (h : alv L i s g = some (x, q)) : s = (x : Int) ∧ L[x]? = some q ∧ q.who = i ∧ q.g = g := by
  unfold alv at h
  split at h
  · cases h
  · rename_i hs
    split at h
    · rename_i q' hq
      split at h
      · rename_i hc
        injection h with h
        injection h with h1 h2
        subst h1 h2
        exact ⟨by omega, hq, hc.1, hc.2⟩
      · cases h
    · cases h
theorem alv_none (h : alv L i s g = none) : s < 0 ∨ (0 ≤ s ∧ (L.length : Int) ≤ s) ∨ ∃ (x : Nat) (q : Sl), s = (x : Int) ∧ L[x]? = some q ∧ (q.who ≠ i ∨ (q.who = i ∧ q.g ≠ g)) := by
  unfold alv at h
  split at h
  · exact Or.inl (by assumption)
  · rename_i hs
    split at h
    · rename_i q' hq
      split at h
      · cases h
      · rename_i hc
        refine Or.inr (Or.inr ⟨s.toNat, q', by omega, hq, ?_⟩)
        by_cases hw : q'.who = i
        · exact Or.inr ⟨hw, fun hg => hc ⟨hw, hg⟩⟩
        · exact Or.inl hw
    · rename_i hq
      have := List.getElem?_eq_none_iff.1 hq
      exact Or.inr (Or.inl ⟨by omega, by omega⟩)
theorem dalive_all {qb lb cap : Nat} {w : World} (h : Doc w qb lb cap L) (i g : Nat) (s : Int) : Calls Tryd.prog 40 #[.pointer (some ⟨qb, 0, none⟩), .int .i64 (i : Int), .agg #[.int .i64 s, .int .u64 (g : Int)]] w fun e w' => e = .returned (.bool (alv L i s g).isSome) ∧ Turn (fun _ => False) w w' := by
  cases ha : alv L i s g with
  | none =>
    rcases alv_none ha with h0 | ⟨h0, h1⟩ | ⟨x, q, rfl, hq, hw | ⟨hw, hg⟩⟩
    · exact dalive_neg h i g s h0
    · exact dalive_far h i g s h0 h1
    · exact dalive_who h i g x q hq hw
    · exact dalive_gen h i g x q hq hw hg
  | some p =>
    obtain ⟨x, q⟩ := p
    obtain ⟨rfl, hq, hw, hg⟩ := alv_some ha
    exact dalive_yes h i g x q hq hw hg
end

section
variable {n : Nat} {G : List Nat} {fr : Nat → Bool} {MM : Nat → Nat → Option (Nat × Value)} {nn : Nat → Nat} {L : List Sl}
theorem PV.alive (h : PV n G fr MM nn L) {i x : Nat} {q : Sl} (h1 : 1 ≤ i) (h3 : i ≤ 3) (hq : L[x]? = some q) (hw : q.who = i) : ∃ v, MM i x = some (q.g, v) ∧ (i ≠ 2 → v = .string q.x) := by
  have hs := h.has i x h1 h3
  rw [isOf_at hq, hw] at hs
  simp only [beq_self_eq_true] at hs
  obtain ⟨p, hp⟩ := Option.isSome_iff_exists.1 hs
  obtain ⟨g, v⟩ := p
  obtain ⟨e, hv⟩ := h.at_ i x q g v h1 h3 hq hp
  exact ⟨v, by rw [hp, e], hv⟩
theorem PV.none_who (h : PV n G fr MM nn L) {i x : Nat} {q : Sl} (h1 : 1 ≤ i) (h3 : i ≤ 3) (hq : L[x]? = some q) (hw : q.who ≠ i) : MM i x = none := by
  have hs := h.has i x h1 h3
  rw [isOf_at hq, beq_eq_false_iff_ne.2 hw] at hs
  simpa using hs
theorem PV.none_far (h : PV n G fr MM nn L) {i x : Nat} (h1 : 1 ≤ i) (h3 : i ≤ 3) (hx : L.length ≤ x) : MM i x = none := by
  have hs := h.has i x h1 h3
  unfold isOf at hs
  rw [List.getElem?_eq_none hx] at hs
  simpa using hs
/-- Where a handle is not alive: what the arena has there. -/
theorem PV.dead (h : PV n G fr MM nn L) {i g : Nat} {s : Int} (h1 : 1 ≤ i) (h3 : i ≤ 3) (ha : alv L i s g = none) : s < 0 ∨ ∃ x : Nat, s = (x : Int) ∧ (MM i x = none ∨ ∃ g' v, MM i x = some (g', v) ∧ g' ≠ g) := by
  rcases alv_none ha with h0 | ⟨h0, hx⟩ | ⟨x, q, rfl, hq, hw | ⟨hw, hg⟩⟩
  · exact Or.inl h0
  · exact Or.inr ⟨s.toNat, by omega, Or.inl (h.none_far h1 h3 (by omega))⟩
  · exact Or.inr ⟨x, rfl, Or.inl (h.none_who h1 h3 hq hw)⟩
  · obtain ⟨v, hm, _⟩ := h.alive h1 h3 hq hw
    exact Or.inr ⟨x, rfl, Or.inr ⟨_, v, hm, hg⟩⟩
end

section
variable {w : World} {ab mb n : Nat} {pp : Value} {M : Nat → Option (Nat × Value)} {f : Int → Option Value}
def Dead (M : Nat → Option (Nat × Value)) (s : Int) (g : Nat) : Prop := s < 0 ∨ ∃ x : Nat, s = (x : Int) ∧ (M x = none ∨ ∃ g' v, M x = some (g', v) ∧ g' ≠ g)
theorem agetS_no (h : ArF 89 97 w ab mb pp M n f) (s : Int) (g : Nat) (hb : -9223372036854775808 ≤ s ∧ s < 9223372036854775808) (hd : Dead M s g) :
    Calls Tryd.prog 15 #[.pointer (some ⟨ab, 0, none⟩), .agg #[.int .i64 s, .int .u64 (g : Int)]] w fun e w' => e = .returned (.tuple #[.pointer none, .bool false]) ∧ Turn (fun _ => False) w w' := by
  rcases hd with h0 | ⟨x, rfl, hM | ⟨g', v, hM, hg⟩⟩
  · exact getS_below ⟨f, h⟩ s g h0 hb.1
  · exact getS_none ⟨f, h⟩ x g (by omega) hM
  · exact getS_other ⟨f, h⟩ x g g' v (by omega) hM hg
theorem agetT_no (h : ArF 113 134 w ab mb pp M n f) (s : Int) (g : Nat) (hb : -9223372036854775808 ≤ s ∧ s < 9223372036854775808) (hd : Dead M s g) :
    Calls Tryd.prog 59 #[.pointer (some ⟨ab, 0, none⟩), .agg #[.int .i64 s, .int .u64 (g : Int)]] w fun e w' => e = .returned (.tuple #[.pointer none, .bool false]) ∧ Turn (fun _ => False) w w' := by
  rcases hd with h0 | ⟨x, rfl, hM | ⟨g', v, hM, hg⟩⟩
  · exact getT_below ⟨f, h⟩ s g h0 hb.1
  · exact getT_none ⟨f, h⟩ x g (by omega) hM
  · exact getT_other ⟨f, h⟩ x g g' v (by omega) hM hg
theorem arelS_no (h : ArF 89 97 w ab mb pp M n f) (s : Int) (g : Nat) (hb : -9223372036854775808 ≤ s ∧ s < 9223372036854775808) (hd : Dead M s g) :
    Calls Tryd.prog 17 #[.pointer (some ⟨ab, 0, none⟩), .agg #[.int .i64 s, .int .u64 (g : Int)]] w fun e w' => e = .returned (.bool false) ∧ Turn (fun _ => False) w w' := by
  rcases hd with h0 | ⟨x, rfl, hM | ⟨g', v, hM, hg⟩⟩
  · exact relS_below ⟨f, h⟩ s g h0 hb.1
  · exact relS_none ⟨f, h⟩ x g (by omega) hM
  · exact relS_other ⟨f, h⟩ x g g' v (by omega) hM hg
theorem arelT_no (h : ArF 113 134 w ab mb pp M n f) (s : Int) (g : Nat) (hb : -9223372036854775808 ≤ s ∧ s < 9223372036854775808) (hd : Dead M s g) :
    Calls Tryd.prog 58 #[.pointer (some ⟨ab, 0, none⟩), .agg #[.int .i64 s, .int .u64 (g : Int)]] w fun e w' => e = .returned (.bool false) ∧ Turn (fun _ => False) w w' := by
  rcases hd with h0 | ⟨x, rfl, hM | ⟨g', v, hM, hg⟩⟩
  · exact relT_below ⟨f, h⟩ s g h0 hb.1
  · exact relT_none ⟨f, h⟩ x g (by omega) hM
  · exact relT_other ⟨f, h⟩ x g g' v (by omega) hM hg
/-- The blocks that a map of places names are there. -/
theorem ArF.old {tA tP : TypeId} (h : ArF tA tP w ab mb pp M n f) {i : Int} {v : Value} (hv : f i = some v) : ∃ q, v = .pointer (some ⟨q, 0, none⟩) ∧ q < w.heap.size ∧ ∃ c, At w q (.cells c tP (0, 0)) := by
  have hi : ¬ i < 0 := fun hi => by rw [h.2.2.1 i hi] at hv; cases hv
  obtain ⟨x, rfl⟩ : ∃ x : Nat, i = (x : Int) := ⟨i.toNat, by omega⟩
  have h0 := h.2.2.2.1 x
  cases hM : M x with
  | none => rw [hM] at h0; rw [show f (x : Int) = none from h0] at hv; cases hv
  | some gv =>
    obtain ⟨g', v'⟩ := gv
    rw [hM] at h0
    obtain ⟨q', e1, e2⟩ := h0
    rw [e1] at hv
    injection hv with hv
    exact ⟨q', hv.symm, e2.lt, _, e2⟩
end

section
variable {w0 wr wr' : World} {n xb pb gb fb : Nat} {ab mb : Nat → Nat} {qb lb cap : Nat} {vt : Value} {G : List Nat} {fr : Nat → Bool} {MM : Nat → Nat → Option (Nat × Value)} {nn : Nat → Nat} {ff : Nat → Int → Option Value} {L : List Sl} {hs : List (Nat × Nat)}
theorem WSt.putted (h : WSt w0 wr n xb pb gb fb ab mb qb lb cap vt G fr MM nn ff L hs) {i s : Nat} {q : Sl} (hs' : L[s]? = some q) (h0 : q.who = 0) (h1 : 1 ≤ i) (h3 : i ≤ 3) (x : ByteArray) (v : Value) (pq : Nat)
    (hp : Pool wr' pb gb fb G (fun y => fr y && y != s))
    (ha : i ≠ 2 → ArF 89 97 wr' (ab i) (mb i) (.pointer (some ⟨pb, 0, none⟩)) (updM (MM i) s (some (q.g, v))) (nn i + 1) (put (ff i) (s : Int) (.pointer (some ⟨pq, 0, none⟩))))
    (hb : i = 2 → ArF 113 134 wr' (ab i) (mb i) (.pointer (some ⟨pb, 0, none⟩)) (updM (MM i) s (some (q.g, v))) (nn i + 1) (put (ff i) (s : Int) (.pointer (some ⟨pq, 0, none⟩))))
    (hv : i ≠ 2 → v = .string x) (ht : i = 2 → Txt w0 wr' v x) (hq : wr.heap.size ≤ pq)
    (hd : Doc wr' qb lb cap (L.set s ⟨q.g, i, x⟩)) (t : Turn (fun k => k = gb ∨ k = fb ∨ k = mb i ∨ k = lb) wr wr') :
    WSt w0 wr' n xb pb gb fb ab mb qb lb cap vt G (fun y => fr y && y != s) (updMs MM i s (some (q.g, v))) (updNs nn i (nn i + 1)) (updFs ff i (put (ff i) (s : Int) (.pointer (some ⟨pq, 0, none⟩)))) (L.set s ⟨q.g, i, x⟩) hs := by
  have hsl : s < L.length := (List.getElem?_eq_some_iff.1 hs').1
  obtain ⟨n1, n2, n3, n4⟩ := h.new
  have nM := h.newM i
  have hold := h.old.size
  have hcase : ∀ j y v', updFs ff i (put (ff i) (s : Int) (.pointer (some ⟨pq, 0, none⟩))) j y = some v' → v' = .pointer (some ⟨pq, 0, none⟩) ∧ j = i ∨ ff j y = some v' := fun j y v' hv' => by
    unfold updFs at hv'
    by_cases e : j = i
    · subst e
      rw [if_pos rfl] at hv'
      unfold put at hv'
      split at hv'
      · injection hv' with hv'; exact Or.inl ⟨hv'.symm, rfl⟩
      · exact Or.inr hv'
    · rw [if_neg e] at hv'; exact Or.inr hv'
  have hlt : ∀ j y p, (j = 1 ∨ j = 3) → ff j y = some (.pointer (some ⟨p, 0, none⟩)) → p < wr.heap.size := fun j y p hj hp => by
    obtain ⟨p', e, hl, _⟩ := (h.a j hj).old hp
    injection e with e; injection e with e; injection e with e
    omega
  refine ⟨hp, ?_, ?_, hd, ?_, ?_, ?_, h.new, h.newM, h.ne, fun j y p hy => ?_, fun y z v' hy hz => ?_, ?_, h.pv.put hs' h0 h1 h3 x v hv, h.each⟩
  · intro j hj
    unfold updMs updNs updFs
    by_cases e : j = i
    · subst e
      rw [if_pos rfl, if_pos rfl, if_pos rfl]
      exact ha (by omega)
    · rw [if_neg e, if_neg e, if_neg e]
      exact (h.a j hj).off t (h.offs2 h1 h3 _ (by decide) (by decide) (h.mne h1 h3 (by omega) (by omega) (Ne.symm e)))
  · unfold updMs updNs updFs
    by_cases e : 2 = i
    · subst e
      rw [if_pos rfl, if_pos rfl, if_pos rfl]
      exact hb rfl
    · rw [if_neg e, if_neg e, if_neg e]
      exact h.b.off t (h.offs2 h1 h3 _ (by decide) (by decide) (h.mne h1 h3 (by omega) (by omega) (Ne.symm e)))
  · exact h.hd.turn t ((h.offs2 h1 h3 [60] (by decide) (by decide) (m := mb i + 1) (by omega)).row ⟨_, h.hd⟩ (by simp))
  · exact h.told.turn t (fun k c hk _ _ => (h.offs2 h1 h3 [32] (by decide) (by decide) (m := mb i + 1) (by omega)).row ⟨c, hk⟩ (by simp))
  · exact h.old.then t (fun k hk hx => by omega)
  · rcases hcase j y _ hy with ⟨e, _⟩ | e
    · injection e with e; injection e with e; injection e with e
      omega
    · exact h.newP j y p e
  · rcases hcase 1 y v' hy with ⟨e1, j1⟩ | e1 <;> rcases hcase 3 z v' hz with ⟨e3, j3⟩ | e3
    · omega
    · subst e1
      have := hlt 3 z pq (Or.inr rfl) e3
      omega
    · subst e3
      have := hlt 1 y pq (Or.inl rfl) e1
      omega
    · exact h.sep y z v' e1 e3
  · intro k p g v' hk hm
    unfold updMs at hm
    by_cases ek : k = s
    · subst ek
      rw [List.getElem?_set_self hsl] at hk
      injection hk with hk
      subst hk
      by_cases e : 2 = i
      · rw [if_pos e] at hm
        unfold updM at hm
        rw [if_pos rfl] at hm
        injection hm with hm
        injection hm with _ hm
        subst hm
        exact ht e.symm
      · rw [if_neg e] at hm
        have := h.pv.has 2 k (by omega) (by omega)
        rw [hm, isOf_at hs', h0] at this
        simp at this
    · rw [List.getElem?_set_ne (Ne.symm ek)] at hk
      have hm2 : MM 2 k = some (g, v') := by
        by_cases e : 2 = i
        · subst e
          rw [if_pos rfl] at hm
          unfold updM at hm
          rw [if_neg ek] at hm
          exact hm
        · rw [if_neg e] at hm; exact hm
      obtain ⟨tb, e, htt, hl⟩ := h.txt k p g v' hk hm2
      exact ⟨tb, e, htt.turn t ((h.offs2 h1 h3 [9] (by decide) (by decide) (m := mb i + 1) (by omega)).row ⟨_, htt⟩ (by simp)), hl⟩
end
end Go.Proofs.YtbdfbgkfhaiccaaDoor
