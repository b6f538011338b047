/-
  walks: All is what Next tells, from the empty key on.
  The document's map as plain data: a list of pairs in no row; the same pairs as the sorted one.
-/
import Derived.Test.YtllppkfeiifklaaJ10
import Derived.Test.YtllppkfeiifklaaJ16
namespace Go.Proofs.Ytllppkfeiifklaa
open Go.RowKit Go.Lib
set_option linter.unusedVariables false
set_option maxRecDepth 20000
set_option linter.unusedSimpArgs false

theorem not_kl_nil (a : ByteArray) : ¬ kl a ⟨#[]⟩ := by
  unfold kl kcmp
  have : (⟨#[]⟩ : ByteArray).data.toList = [] := rfl
  rw [this]
  cases a.data.toList <;> simp [Lib.compareBytes]
theorem nexts_first (l : List Pr) : nexts l ⟨#[]⟩ false = l := by
  unfold nexts
  rw [Bool.and_false, if_neg (by decide)]
  unfold hiL
  cases l with
  | nil => rfl
  | cons p t => rw [List.dropWhile_cons, if_neg (by simpa using not_kl_nil p.k)]
theorem hi_at {l : List Pr} (h : Asc l) {i : Nat} {p : Pr} (hp : l[i]? = some p) : hiL l p.k = p :: l.drop (i + 1) := by
  have e : l = l.take i ++ p :: l.drop (i + 1) := by rw [← drop_cons hp, List.take_append_drop]
  have h2 := h
  unfold Asc at h2
  rw [e, List.pairwise_append] at h2
  unfold hiL
  conv => lhs; rw [e]
  rw [List.dropWhile_append_of_pos (fun q hq => by simpa using h2.2.2 q hq p List.mem_cons_self), List.dropWhile_cons, if_neg (by simpa using kl_irrefl p.k)]
theorem nexts_after {l : List Pr} (h : Asc l) {i : Nat} {p : Pr} (hp : l[i]? = some p) : nexts l p.k true = l.drop (i + 1) := by
  have e := hi_at h hp
  unfold nexts hasL
  rw [e]
  simp
theorem doA_next (l : List Pr) (k : ByteArray) (aft : Bool) (h : bigK k = false) : doA l 5 k ⟨#[]⟩ ⟨#[]⟩ false aft [] = nans (nexts l k aft) := by
  unfold doA refO
  simp [h]
theorem doM_next (l : List Pr) (k v o : ByteArray) (had aft : Bool) (ws : List Wr) : doM l 5 k v o had aft ws = l := by
  unfold doM
  split <;> simp
structure Wl (w wr : World) (m : Nat) (r : Option Nat) (M : List Pr) (bb g : Nat) (a : Ans) : Prop where
  so : So w wr m r M
  row : Row wr (some ⟨bb, 0, none⟩) (pcs M)
  bm : bb ≠ m
  br : r ≠ some bb
  bl : bb < wr.heap.size
  box : At wr g (.cells #[.int .i64 a.code, .bool a.found, .string a.k, .string a.v] 38 (0, 0))
section
variable {w wr : World} {m : Nat} {r : Option Nat} {M : List Pr} {bb g : Nat} {a : Ans}
theorem Wl.no (h : Wl w wr m r M bb g a) {w2 : World} (t : Turn No wr w2) : Wl w w2 m r M bb g a := ⟨h.so.no t, h.row.no t, h.bm, h.br, Nat.lt_of_lt_of_le h.bl t.size, h.box.no t⟩
theorem Wl.step (h : Wl w wr m r M bb g a) {w2 : World} {r2 : Option Nat} (hom : Om w2 w.heap.size m r2 M) (hr : r2 = r ∨ ∃ k, r2 = some k ∧ wr.heap.size ≤ k) (t : Turn (Mp m r) wr w2) : Wl w w2 m r2 M bb g a := by
  refine ⟨⟨hom, turn_mp h.so.a h.so.tu t⟩, h.row.turn t (fun b o e hx => ?_), h.bm, ?_, Nat.lt_of_lt_of_le h.bl t.size, h.so.a.keep h.box (by decide) (by decide) t⟩
  · injection e with e; injection e with e
    subst e
    exact hx.elim h.bm h.br
  · rcases hr with e | ⟨k, e, hk⟩
    · rw [e]; exact h.br
    · rw [e]; intro e2; injection e2 with e2; have := h.bl; omega
theorem Wl.put (h : Wl w wr m r M bb g a) (b : Ans) (hg : w.heap.size ≤ g) : Wl w ((((wr.setCell ⟨g, 0, none⟩ (.int .i64 b.code)).setCell ⟨g, 1, none⟩ (.bool b.found)).setCell ⟨g, 2, none⟩ (.string b.k)).setCell ⟨g, 3, none⟩ (.string b.v)) m r M bb g b := by
  have t := turn4 wr g 0 1 2 3 (.int .i64 b.code) (.bool b.found) (.string b.k) (.string b.v)
  have hap := h.so.a.apart h.box (by decide) (by decide)
  refine ⟨⟨h.so.a.turn t (fun e => hap.1 e.symm) (fun k hk e => hap.2 (by rw [hk, e])), h.so.tu.then t (fun i hi e => by omega)⟩, ?_, h.bm, h.br, Nat.lt_of_lt_of_le h.bl t.size, ?_⟩
  · cases hM : M with
    | nil => exact Row.nil _ _
    | cons p t2 =>
      have hrow := h.row
      rw [hM] at hrow
      refine hrow.turn t (fun b' o e hx => ?_)
      injection e with e; injection e with e
      subst e
      subst hx
      obtain ⟨b3, o3, e3, _, hc⟩ := hrow 0 (.string p.k) rfl
      injection e3 with e3; injection e3 with e4 e5
      subst e4 e5
      rw [Nat.zero_add, h.box.cell] at hc
      simp at hc
  · simpa using (((h.box.set 0 (.int .i64 b.code)).set 1 (.bool b.found)).set 2 (.string b.k)).set 3 (.string b.v)
end

end Go.Proofs.Ytllppkfeiifklaa
namespace Go.Proofs.Ytllppkfeiifklaa
open Go.RowKit Go.Lib
set_option linter.unusedVariables false
set_option maxRecDepth 20000
set_option linter.unusedSimpArgs false

def withL (l : List Pr) (k v : ByteArray) : List Pr := delL l k ++ [⟨k, v⟩]
def wrR1 (l : List Pr) (x : Wr) : List Pr := if x.gone = true then delL l x.k else withL l x.k x.v
def wrR (l : List Pr) (ws : List Wr) : List Pr := ws.foldl wrR1 l
def newR (l : List Pr) : List Pr := l.foldl (fun m p => withL m p.k p.v) []
def doR (l : List Pr) (kind : Int) (k v o : ByteArray) (had aft : Bool) (ws : List Wr) : List Pr :=
  if refO kind k v o had ws = 0 then
    (if kind = 2 then withL l k v else if kind = 3 then delL l k else if kind = 4 then (if swD l k o had = true then withL l k v else l) else if kind = 6 then wrR l ws else l)
  else l
theorem ky_del (l : List Pr) (k q : ByteArray) : ky (delL l k) q = if q = k then [] else ky l q := by
  unfold ky delL
  rw [List.filter_filter]
  by_cases h : q = k
  · rw [if_pos h, List.filter_eq_nil_iff]
    intro p _
    subst h
    by_cases e : p.k = q <;> simp [e]
  · rw [if_neg h]
    apply List.filter_congr
    intro p _
    by_cases e : p.k = q
    · have : ¬ p.k = k := fun e2 => h (e.symm.trans e2)
      simp [e, h]
    · simp [e]
theorem len_del (l : List Pr) (k : ByteArray) : (delL l k).length + (ky l k).length = l.length := by
  induction l with
  | nil => rfl
  | cons p t ih =>
    unfold delL ky at *
    by_cases h : p.k = k
    · simp [h]; omega
    · simp [h]; omega
theorem Sim.del {l m : List Pr} (h : Sim l m) (k : ByteArray) : Sim (delL l k) (delL m k) := by
  refine ⟨?_, fun q => by rw [ky_del, ky_del, h.kys]⟩
  have h1 := len_del l k
  have h2 := len_del m k
  have h3 := h.len
  rw [h.kys] at h1
  omega
theorem Sim.get {l m : List Pr} (h : Sim l m) (k : ByteArray) : getL l k = getL m k := by rw [get_ky, get_ky, h.kys]
theorem put_sim {m : List Pr} (ha : Asc m) (k v : ByteArray) : Sim (withL m k v) (putL m k v) := by
  unfold withL
  rw [put_low, ha.del_low]
  obtain ⟨R, hR⟩ : ∃ R, (if hasL m k = true then (hiL m k).tail else hiL m k) = R := ⟨_, rfl⟩
  rw [hR]
  have hne : ∀ p ∈ R, p.k ≠ k := by
    intro p hp e
    have h1 : p ∈ delL m k := by rw [ha.del_low, hR]; exact List.mem_append.2 (.inr hp)
    unfold delL at h1
    have := (List.mem_filter.1 h1).2
    simp [e] at this
  rw [List.append_assoc]
  refine (Sim.refl _).append ?_
  have := Sim.swap (a := R) (b := [⟨k, v⟩]) (fun p hp q hq => by
    obtain rfl := List.mem_singleton.1 hq
    exact hne p hp)
  simpa using this
theorem Sim.put {l m : List Pr} (h : Sim l m) (ha : Asc m) (k v : ByteArray) : Sim (withL l k v) (putL m k v) :=
  (((h.del k).append (Sim.refl [⟨k, v⟩])) : Sim (withL l k v) (withL m k v)).trans (put_sim ha k v)
theorem Sim.wr1 {l m : List Pr} (h : Sim l m) (ha : Asc m) (x : Wr) : Sim (wrR1 l x) (wr1 m x) ∧ Asc (wr1 m x) := by
  unfold wrR1 Ytllppkfeiifklaa.wr1
  split
  · exact ⟨h.del _, ha.del _⟩
  · exact ⟨h.put ha _ _, ha.put _ _⟩
theorem Sim.wr {l m : List Pr} (h : Sim l m) (ha : Asc m) (ws : List Wr) : Sim (wrR l ws) (wrL m ws) := by
  unfold wrR wrL
  induction ws generalizing l m with
  | nil => exact h
  | cons x t ih =>
    rw [List.foldl_cons, List.foldl_cons]
    exact ih (h.wr1 ha x).1 (h.wr1 ha x).2
theorem new_sim (l : List Pr) : Sim (newR l) (news l) := by
  unfold newR news
  have : ∀ (l a b : List Pr), Sim a b → Asc b → Sim (l.foldl (fun m p => withL m p.k p.v) a) (l.foldl (fun m p => putL m p.k p.v) b) := by
    intro l
    induction l with
    | nil => intro a b h _; exact h
    | cons p t ih =>
      intro a b h hb
      rw [List.foldl_cons, List.foldl_cons]
      exact ih _ _ (h.put hb p.k p.v) (hb.put p.k p.v)
  exact this l [] [] (Sim.refl _) List.Pairwise.nil
theorem Sim.swD {l m : List Pr} (h : Sim l m) (k o : ByteArray) (had : Bool) : swD l k o had = swD m k o had := by
  unfold Ytllppkfeiifklaa.swD
  rw [h.get]
theorem Sim.doR {l m : List Pr} (h : Sim l m) (ha : Asc m) (kind : Int) (k v o : ByteArray) (had aft : Bool) (ws : List Wr) : Sim (doR l kind k v o had aft ws) (doM m kind k v o had aft ws) := by
  unfold Ytllppkfeiifklaa.doR doM
  rw [h.swD]
  split
  · split
    · exact h.put ha _ _
    · split
      · exact h.del _
      · split
        · split
          · exact h.put ha _ _
          · exact h
        · split
          · exact h.wr ha ws
          · exact h
  · exact h
/-- Not below a key, or above it. -/
def okB (key : ByteArray) (aft : Bool) (p : Pr) : Bool := !(decide (kl p.k key) || (aft && decide (p.k = key)))
theorem Asc.nexts_ok {m : List Pr} (ha : Asc m) {key : ByteArray} {aft : Bool} {p : Pr} : p ∈ nexts m key aft ↔ p ∈ m ∧ okB key aft p = true := by
  have hs : p ∈ m ↔ p ∈ lowL m key ∨ p ∈ hiL m key := by
    conv => lhs; rw [← split_L m key]
    exact List.mem_append
  unfold nexts okB
  constructor
  · intro h
    split at h
    · rename_i hh
      have hh := (Bool.and_eq_true _ _).mp hh
      obtain ⟨v, t, ht⟩ := has_true hh.1
      rw [ht, List.tail_cons] at h
      have hmem : p ∈ hiL m key := by rw [ht]; exact List.mem_cons_of_mem _ h
      have hkl : kl key p.k := by
        have := ha.his key
        rw [ht] at this
        exact List.rel_of_pairwise_cons this h
      refine ⟨hs.2 (.inr hmem), ?_⟩
      have h1 : ¬ kl p.k key := kl_asymm hkl
      have h2 : ¬ p.k = key := (kl_ne hkl).symm
      simp [h1, h2]
    · rename_i hh
      refine ⟨hs.2 (.inr h), ?_⟩
      have h1 : ¬ kl p.k key := ha.hi h
      cases haft : aft with
      | false => simp [h1]
      | true =>
        have hf : hasL m key = false := by
          cases hb : hasL m key with
          | false => rfl
          | true => rw [hb, haft] at hh; exact absurd rfl hh
        have h2 : ¬ p.k = key := (kl_ne (ha.has_false hf h)).symm
        simp [h1, h2]
  · rintro ⟨hm, ho⟩
    have h1 : ¬ kl p.k key := by
      intro e
      simp [e] at ho
    have h2 : aft = true → ¬ p.k = key := by
      intro e1 e2
      simp [e1, e2] at ho
    have hmem : p ∈ hiL m key := by
      rcases hs.1 hm with h | h
      · exact absurd (low_mem h) h1
      · exact h
    split
    · rename_i hh
      have hh := (Bool.and_eq_true _ _).mp hh
      obtain ⟨v, t, ht⟩ := has_true hh.1
      rw [ht] at hmem ⊢
      rcases List.mem_cons.1 hmem with e | e
      · subst e
        exact absurd rfl (h2 hh.2)
      · exact e
    · exact hmem
theorem Asc.nexts {m : List Pr} (ha : Asc m) (key : ByteArray) (aft : Bool) : Asc (nexts m key aft) := by
  unfold Ytllppkfeiifklaa.nexts
  split
  · exact List.Pairwise.sublist (List.tail_sublist _) (ha.his key)
  · exact ha.his key
/-- The least so far of those that are not below a key. -/
def Best (l : List Pr) (key : ByteArray) (aft : Bool) (a : Ans) : Prop :=
  (a = ⟨0, false, ⟨#[]⟩, ⟨#[]⟩⟩ ∧ ∀ p ∈ l, okB key aft p = false) ∨ ∃ p ∈ l, okB key aft p = true ∧ a = ⟨0, true, p.k, p.v⟩ ∧ ∀ q ∈ l, okB key aft q = true → ¬ kl q.k p.k
theorem Best.start (key : ByteArray) (aft : Bool) : Best [] key aft ⟨0, false, ⟨#[]⟩, ⟨#[]⟩⟩ := .inl ⟨rfl, by simp⟩
theorem Best.skip {l : List Pr} {key : ByteArray} {aft : Bool} {a : Ans} (h : Best l key aft a) {p : Pr} (hp : okB key aft p = false) : Best (l ++ [p]) key aft a := by
  rcases h with ⟨e, h⟩ | ⟨q, hq, ho, e, h⟩
  · refine .inl ⟨e, fun x hx => ?_⟩
    rcases List.mem_append.1 hx with h1 | h1
    · exact h x h1
    · obtain rfl := List.mem_singleton.1 h1; exact hp
  · refine .inr ⟨q, List.mem_append.2 (.inl hq), ho, e, fun x hx hxo => ?_⟩
    rcases List.mem_append.1 hx with h1 | h1
    · exact h x h1 hxo
    · obtain rfl := List.mem_singleton.1 h1; rw [hp] at hxo; cases hxo
theorem Best.take {l : List Pr} {key : ByteArray} {aft : Bool} {a : Ans} (h : Best l key aft a) {p : Pr} (hp : okB key aft p = true) (hb : a.found = false ∨ kl p.k a.k) : Best (l ++ [p]) key aft ⟨0, true, p.k, p.v⟩ := by
  refine .inr ⟨p, List.mem_append.2 (.inr (by simp)), hp, rfl, fun x hx hxo => ?_⟩
  rcases List.mem_append.1 hx with h1 | h1
  · rcases h with ⟨e, h⟩ | ⟨q, hq, ho, e, h⟩
    · rw [h x h1] at hxo; cases hxo
    · subst e
      rcases hb with hb | hb
      · cases hb
      · exact fun e2 => h x h1 hxo (kl_trans e2 hb)
  · obtain rfl := List.mem_singleton.1 h1; exact kl_irrefl _
theorem Best.keep {l : List Pr} {key : ByteArray} {aft : Bool} {a : Ans} (h : Best l key aft a) {p : Pr} (hf : a.found = true) (hk : ¬ kl p.k a.k) : Best (l ++ [p]) key aft a := by
  rcases h with ⟨e, h⟩ | ⟨q, hq, ho, e, h⟩
  · subst e; cases hf
  · subst e
    refine .inr ⟨q, List.mem_append.2 (.inl hq), ho, rfl, fun x hx hxo => ?_⟩
    rcases List.mem_append.1 hx with h1 | h1
    · exact h x h1 hxo
    · obtain rfl := List.mem_singleton.1 h1; exact hk
theorem Best.code {l : List Pr} {key : ByteArray} {aft : Bool} {a : Ans} (h : Best l key aft a) : a.code = 0 := by
  rcases h with ⟨e, h⟩ | ⟨q, hq, ho, e, h⟩ <;> rw [e]
theorem Best.none_ {l : List Pr} {key : ByteArray} {aft : Bool} {a : Ans} (h : Best l key aft a) (hf : a.found = false) : a = ⟨0, false, ⟨#[]⟩, ⟨#[]⟩⟩ := by
  rcases h with ⟨e, h⟩ | ⟨q, hq, ho, e, h⟩
  · exact e
  · rw [e] at hf; cases hf
/-- What is found at the end is what the sorted map tells. -/
theorem Best.done {l m : List Pr} {key : ByteArray} {aft : Bool} {a : Ans} (h : Best l key aft a) (hs : Sim l m) (ha : Asc m) : a = nans (nexts m key aft) := by
  rcases h with ⟨e, h⟩ | ⟨p, hp, ho, e, h⟩
  · have : nexts m key aft = [] := by
      rw [List.eq_nil_iff_forall_not_mem]
      intro x hx
      have := ha.nexts_ok.1 hx
      rw [h x (hs.symm.mem this.1)] at this
      cases this.2
    rw [this, e]
    rfl
  · have hpm := ha.nexts_ok.2 ⟨hs.mem hp, ho⟩
    have hasc := ha.nexts key aft
    have hsub : ∀ x ∈ nexts m key aft, ¬ kl x.k p.k := fun x hx => h x (hs.symm.mem (ha.nexts_ok.1 hx).1) (ha.nexts_ok.1 hx).2
    cases hn : nexts m key aft with
    | nil => rw [hn] at hpm; cases hpm
    | cons q t =>
      rw [hn] at hpm hasc hsub
      rcases List.mem_cons.1 hpm with e2 | e2
      · subst e2; exact e
      · exact absurd (List.rel_of_pairwise_cons hasc e2) (hsub q List.mem_cons_self)
end Go.Proofs.Ytllppkfeiifklaa
