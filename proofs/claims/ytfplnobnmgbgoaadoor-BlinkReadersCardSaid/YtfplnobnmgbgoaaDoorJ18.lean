/-
  Next without a visit.
  A tree with its pool, as the laws have it: Put where there are slots enough, Delete, what is read; one that is new.
  awake.
  Rows of acts as plain data; what they leave.
  made.
  The laws' Great.
  What was put and deleted, put anew from the greatest key on.
  pairs.
  The document's Done (layer 10).
  The document's moments (layer 10) as plain data, and a row of rows in memory.
  The document's Moments (layer 10).
-/
import Derived.Test.YtfplnobnmgbgoaaDoorJ17
import Derived.Test.YtfplnobnmgbgoaaDoorJ15
import Derived.Laws.IdiomStrings
import Derived.Test.YtfplnobnmgbgoaaDoorJ3
import Derived.Test.YtfplnobnmgbgoaaDoorJ6
namespace Go.Proofs.YtfplnobnmgbgoaaDoor
open Go.RowKit Go.Lib
set_option linter.unusedVariables false
set_option maxRecDepth 20000
set_option linter.unusedSimpArgs false

/-- What Next may tell of one tree is what the tree's keys say. -/
theorem nxok_one {l : List Pr} (ha : Asc l) {k0 : ByteArray} {r : Option Pr} (h1 : ∀ p, r = some p → getL l p.k = some p.v ∧ ¬ kl p.k k0) (h2 : ∀ x, ¬ kl x k0 → (∀ p, r = some p → kl x p.k) → getL l x = none) : r = nxR l k0 false := by
  unfold nxR
  cases hf : l.find? fun p => !nxP k0 false p with
  | none =>
    cases r with
    | none => rfl
    | some p =>
      have hp := List.find?_eq_none.1 hf ⟨p.k, p.v⟩ (get_mem (h1 p rfl).1)
      simp [nxP] at hp
      exact absurd hp (h1 p rfl).2
  | some p' =>
    obtain ⟨hq, A, B, e, hA⟩ := List.find?_eq_some_iff_append.1 hf
    have hm : p' ∈ l := by rw [e]; simp
    have hk : ¬ kl p'.k k0 := by simpa [nxP] using hq
    have hg := ha.get_of_mem (k := p'.k) (v := p'.v) hm
    cases r with
    | none =>
      have := h2 p'.k hk fun p h => (by cases h)
      rw [hg] at this
      cases this
    | some p =>
      obtain ⟨g1, g2⟩ := h1 p rfl
      have hpm := get_mem g1
      rcases kl_tri p'.k p.k with h | h | h
      · have := h2 p'.k hk fun p2 hp2 => by injection hp2 with hp2; rw [← hp2]; exact h
        rw [hg] at this
        cases this
      · rw [h, g1] at hg
        injection hg with hg
        obtain ⟨a, b⟩ := p
        obtain ⟨c, d⟩ := p'
        simp only at h hg
        rw [h, hg]
      · exfalso
        rw [e] at hpm ha
        rcases List.mem_append.1 hpm with hx | hx
        · have := hA _ hx
          simp [nxP] at this
          exact g2 this
        · rcases List.mem_cons.1 hx with hx | hx
          · rw [← hx] at h
            exact kl_irrefl _ h
          · have := List.rel_of_pairwise_cons (List.pairwise_append.1 ha).2.1 hx
            exact kl_asymm this h
theorem nxR_nk (l : List Pr) (key : ByteArray) (aft : Bool) : nxR l (nkK key aft) false = nxR l key aft := by
  cases aft with
  | true => unfold nkK; rw [if_pos rfl]; exact nxR_aft l key
  | false => unfold nkK; rw [if_neg (by decide)]
/-- Next without a visit. -/
theorem bnext_nil {w : World} {I : Ids} {N : Nat → Option Ent} {T : List Lvl} {root : Hn} (hT : Tr w I N T root) (hn : T.flatten.length ≤ 4096) (key : ByteArray) (aft : Bool) (hk : key.size ≤ 1000000) :
    Calls Tryd.prog 14 #[.pointer (some ⟨I.tb, 0, none⟩), .string key, .bool aft, .nilFunc] w fun e w' => e = .returned (nx4 (nxR (flatT T) key aft)) ∧ Turn No w w' :=
  (bnext_any (lookc_nil hT hn) (a := ()) (Turn.refl _ _) (by decide) key aft hk).mono (by
    rintro e w' ⟨_, r, _, ht, ⟨h1, h2⟩, rfl⟩
    have : r = nxR (flatT T) (nkK key aft) false := nxok_one (ch_asc hT.g.leaves.1) h1 fun x a b => by obtain ⟨_, _, _, h⟩ := h2 x a b; exact h
    rw [this, nxR_nk]
    exact ⟨rfl, ht⟩)
end Go.Proofs.YtfplnobnmgbgoaaDoor
namespace Go.Proofs.YtfplnobnmgbgoaaDoor
open Go.RowKit Go.Lib
set_option linter.unusedVariables false
set_option maxRecDepth 20000
set_option linter.unusedSimpArgs false


theorem two_pow_ge : ∀ n : Nat, n + 1 ≤ 2 ^ n
  | 0 => Nat.le_refl _
  | n + 1 => by have := two_pow_ge n; rw [Nat.pow_succ]; omega
/-- A tree with its pool, as a law has it: its levels; how many slots the tree's and the free ones are. -/
def Tq (w : World) (I : Ids) (T : List Lvl) (m : Nat) : Prop := ∃ N root G fr, Tm w I N T.flatten root G fr ∧ Good T root ∧ cnt fr G.length + T.flatten.length = m ∧ G.length = m
section
variable {w w' : World} {I : Ids} {T : List Lvl} {m : Nat}
theorem Tq.no (h : Tq w I T m) (t : Turn No w w') : Tq w' I T m := by
  obtain ⟨N, root, G, fr, h1, h2, h3⟩ := h
  exact ⟨N, root, G, fr, h1.no t, h2, h3⟩
theorem Tq.lt (h : Tq w I T m) : I.pb < w.heap.size ∧ I.tb < w.heap.size := by
  obtain ⟨N, root, G, fr, h1, h2, h3⟩ := h
  exact ⟨h1.p.lt.1, At.lt h1.t⟩
theorem Tq.tr (h : Tq w I T m) : ∃ N root, Tr w I N T root ∧ T.flatten.length ≤ 4096 := by
  obtain ⟨N, root, G, fr, h1, h2, h3⟩ := h
  exact ⟨N, root, h1.tr h2, h1.len⟩
theorem Good.asc {root : Hn} (g : Good T root) : Asc (flatT T) := ch_asc g.leaves.1
theorem Tq.asc (h : Tq w I T m) : Asc (flatT T) := by
  obtain ⟨N, root, G, fr, h1, h2, h3⟩ := h
  exact h2.asc
theorem good_size {root : Hn} (g : Good T root) : T.flatten.length + 1 ≤ 2 * (leaves T).length ∧ T.length ≤ (leaves T).length ∧ 2 ^ (T.length - 1) ≤ (leaves T).length := by
  obtain ⟨n, R, e⟩ := g.rt
  have ht := g.tw
  have hf := g.fl
  subst e
  obtain ⟨h1, h2⟩ := tower_size ht hf
  have h3 := two_pow_ge R.length
  simp only [List.length_cons, List.length_nil, Nat.zero_add, Nat.one_mul] at h1 h2 ⊢
  refine ⟨h1, by omega, ?_⟩
  rw [Nat.add_sub_cancel]
  exact h2
/-- What a Put into a tree comes to, where slots enough are free. -/
structure PutS (I : Ids) (T : List Lvl) (m : Nat) (F' : List Pr) (w w' : World) : Prop where
  r : ∃ T', Tq w' I T' m ∧ flatT T' = F' ∧ Tn I w w' ∧ (leaves T').length ≤ (leaves T).length + 1 ∧ (MinL T → MinL T') ∧ (∀ f q, VisT T f q → VisT T' f q)
theorem tq_put (h : Tq w I T m) (key val : ByteArray) (fk : Fit key) (fv : Fit val) (hs : 3 * (leaves T).length + 1 ≤ m) :
    Calls Tryd.prog 18 #[.pointer (some ⟨I.tb, 0, none⟩), .string key, .string val] w fun e w' => e = .returned (.tuple #[.string ((getL (flatT T) key).getD ⟨#[]⟩), .bool (getL (flatT T) key).isSome, .int .i64 0]) ∧ PutS I T m (putL (flatT T) key val) w w' := by
  obtain ⟨N, root, G, fr, h1, h2, h3⟩ := h
  obtain ⟨z1, z2, _⟩ := (good_size h2)
  refine (bput_any h1 h2 key val fk fv).mono ?_
  rintro e w' (⟨e1, ⟨N', T', root', fr', k1, k2, k3, k4, k5, k6, k7, k8, k9⟩⟩ | ⟨e1, e2, e3, e4⟩)
  · exact ⟨e1, ⟨T', ⟨N', root', G, fr', k1, k2, k8.trans h3.1, h3.2⟩, k4, k3, k6, k7, k5⟩⟩
  · exfalso
    omega
/-- What a Delete comes to. -/
structure DelS (I : Ids) (T : List Lvl) (m : Nat) (key : ByteArray) (w w' : World) : Prop where
  r : ∃ T', Tq w' I T' m ∧ flatT T' = delL (flatT T) key ∧ Tn I w w' ∧ (leaves T').length = (leaves T).length ∧ (getL (flatT T) key = none → MinL T → MinL T') ∧ (∀ f q, VisT T f q → VisT T' f q)
theorem tq_del (h : Tq w I T m) (key : ByteArray) (fk : Fit key) :
    Calls Tryd.prog 19 #[.pointer (some ⟨I.tb, 0, none⟩), .string key] w fun e w' => e = .returned (.tuple #[.string ((getL (flatT T) key).getD ⟨#[]⟩), .bool (getL (flatT T) key).isSome]) ∧ DelS I T m key w w' := by
  obtain ⟨N, root, G, fr, h1, h2, h3⟩ := h
  refine (bdel_any h1 h2 key fk).mono ?_
  rintro e w' ⟨e1, ⟨N', T', k1, k2, k3, k4, k5, k6, k7, k8⟩⟩
  exact ⟨e1, ⟨T', ⟨N', root, G, fr, k1, k2, by rw [k8]; exact h3.1, h3.2⟩, k4, k3, k6, k7, k5⟩⟩
theorem tq_get (h : Tq w I T m) (key : ByteArray) (fk : Fit key) :
    Calls Tryd.prog 11 #[.pointer (some ⟨I.tb, 0, none⟩), .string key, .nilFunc] w fun e w' => e = .returned (.tuple #[.string ((getL (flatT T) key).getD ⟨#[]⟩), .bool (getL (flatT T) key).isSome, .bool false]) ∧ Turn No w w' := by
  obtain ⟨N, root, h1, h2⟩ := h.tr
  exact bget_nil h1 h2 key fk
theorem tq_next (h : Tq w I T m) (key : ByteArray) (aft : Bool) (hk : key.size ≤ 1000000) :
    Calls Tryd.prog 14 #[.pointer (some ⟨I.tb, 0, none⟩), .string key, .bool aft, .nilFunc] w fun e w' => e = .returned (nx4 (nxR (flatT T) key aft)) ∧ Turn No w w' := by
  obtain ⟨N, root, h1, h2⟩ := h.tr
  exact bnext_nil h1 h2 key aft hk
theorem tq_len (h : Tq w I T m) : Calls Tryd.prog 22 #[.pointer (some ⟨I.tb, 0, none⟩)] w fun e w' => e = .returned (.int .i64 (((flatT T).length : Nat) : Int)) ∧ Turn No w w' := by
  obtain ⟨N, root, h1, h2⟩ := h.tr
  exact len_any h1 h2
theorem tq_slots (h : Tq w I T m) : Calls Tryd.prog 23 #[.pointer (some ⟨I.tb, 0, none⟩)] w fun e w' => e = .returned (.int .i64 ((T.flatten.length : Nat) : Int)) ∧ Turn No w w' := by
  obtain ⟨N, root, h1, h2⟩ := h.tr
  exact slots_any h1
theorem tq_check (h : Tq w I T m) : Calls Tryd.prog 16 #[.pointer (some ⟨I.tb, 0, none⟩)] w fun e w' => e = .returned (.bool true) ∧ Turn No w w' := by
  obtain ⟨N, root, h1, h2⟩ := h.tr
  exact check_any h1 h2
theorem tq_all (h : Tq w I T m) : Calls Tryd.prog 26 #[.pointer (some ⟨I.tb, 0, none⟩)] w fun e w' => ∃ B c, e = .returned (.slice B (flatT T).length c) ∧ Prw w w' (flatT T) B c := by
  obtain ⟨N, root, h1, h2⟩ := h.tr
  exact all_any h1 h2
end
theorem tq_live {w : World} {I : Ids} {T : List Lvl} {m : Nat} (h : Tq w I T m) : Calls Tryd.prog 24 #[.pointer (some ⟨I.pb, 0, none⟩)] w fun e w' => e = .returned (.int .i64 ((T.flatten.length : Nat) : Int)) ∧ Turn No w w' := by
  obtain ⟨N, root, G, fr, h1, h2, h3, h4⟩ := h
  refine (live_any h1.p).mono ?_
  rintro e w' ⟨rfl, n, rfl⟩
  refine ⟨?_, (Turn.refl No w).drewN n⟩
  congr 2
  omega
/-- A tree whose blocks, and whose pool's, are all new since. -/
structure Fr (w : World) (I : Ids) : Prop where
  t : w.heap.size ≤ I.tb
  a : w.heap.size ≤ I.ab
  m : w.heap.size ≤ I.mb
  p : w.heap.size ≤ I.pb
  g : w.heap.size ≤ I.gb
  f : w.heap.size ≤ I.fb
  z : w.heap.size ≤ I.Z
theorem Fr.turn {w w1 w2 : World} {I : Ids} (h : Fr w I) (t : Turn No w w1) (k : Tn I w1 w2) : Turn No w w2 := t.then k fun i hi hx => by
  rcases hx with e | e | e | e | ⟨e, _⟩
  · have := h.m; omega
  · have := h.t; omega
  · have := h.g; omega
  · have := h.f; omega
  · have := h.z; omega
/-- New, of a new pool. -/
theorem tq_new {w w1 : World} {pb gb fb n : Nat} (hn : 1 ≤ n) (hP : Pool w1 pb gb fb (List.replicate n 1) (fun x => decide (x < n))) (hT : Tab w1) (t : Turn No w w1) (l1 : w.heap.size ≤ pb) (l2 : w.heap.size ≤ gb) (l3 : w.heap.size ≤ fb) :
    Calls Tryd.prog 8 #[.pointer (some ⟨pb, 0, none⟩)] w1 fun e w' => ∃ I T, e = .returned (.tuple #[.pointer (some ⟨I.tb, 0, none⟩), .int .i64 0]) ∧ I.pb = pb ∧ Fr w I ∧ Tq w' I T n ∧ flatT T = [] ∧ (leaves T).length = 1 ∧ Turn No w w' := by
  have hc : cnt (fun x => decide (x < n)) n = n := by
    have h : ∀ k, k ≤ n → cnt (fun x => decide (x < n)) k = k := by
      intro k
      induction k with
      | zero => intro _; rfl
      | succ k ih => intro hk; have := ih (by omega); unfold cnt; rw [this]; simp; omega
    exact h n (Nat.le_refl _)
  refine (bnew_any hP hT (by rw [List.length_replicate, hc]; exact hn) fun x hx => ?_).mono ?_
  · have hx : x < n := by simpa using hx
    rw [List.getD_eq_getElem?_getD, List.getElem?_replicate, if_pos hx]
    exact Nat.le_refl _
  rintro e w' ⟨I, N, root, s, rfl, k1, k2, k3, k4, k5, k6, k7, k8, k9, k10, k11⟩
  have hz := t.size
  refine ⟨I, [[(root, nd1)]], rfl, k1, ⟨by omega, by omega, by omega, by omega, by omega, by omega, by omega⟩, ⟨N, root, _, _, k8, good1 root, ?_, List.length_replicate⟩, rfl, rfl, t.then k11 fun i hi hx => by have : i = fb := hx; omega⟩
  have h2 := cnt_out (fun x => decide (x < n)) s k9 (List.replicate n 1).length k10
  rw [List.length_replicate] at h2 ⊢
  show cnt (fun y => decide (y < n) && y != s) n + 1 = n
  omega
end Go.Proofs.YtfplnobnmgbgoaaDoor
namespace Go.Proofs.YtfplnobnmgbgoaaDoor
open Go.RowKit Go.Lib
set_option linter.unusedVariables false
set_option maxRecDepth 20000
set_option linter.unusedSimpArgs false


theorem leaves_two : ∀ {l : Lvl}, (∀ x ∈ l, 2 ≤ x.2.keys.length) → (∀ x ∈ l, x.2.leaf = true ∧ NdRight x.2) → 2 * l.length ≤ (flat (l.map Prod.snd)).length
  | [], _, _ => by simp
  | x :: l, h, hr => by
    have ih := leaves_two (fun y hy => h y (List.mem_cons_of_mem _ hy)) (fun y hy => hr y (List.mem_cons_of_mem _ hy))
    have h1 := h x (List.mem_cons_self ..)
    obtain ⟨h2, h3⟩ := hr x (List.mem_cons_self ..)
    have h4 : (prs x.2).length = x.2.keys.length := by
      have := (h3.2.2.2.1 h2).1
      unfold prs
      rw [zipP_length]
      omega
    rw [List.map_cons, flat_cons, List.length_append, List.length_cons]
    omega
theorem leaves_four : ∀ {l : Lvl}, (∀ x ∈ l, x.2.keys.length ≤ 4) → (flat (l.map Prod.snd)).length ≤ 4 * l.length
  | [], _ => by simp [flat]
  | x :: l, h => by
    have ih := leaves_four (fun y hy => h y (List.mem_cons_of_mem _ hy))
    have h1 := h x (List.mem_cons_self ..)
    have h4 : (prs x.2).length ≤ x.2.keys.length := by
      unfold prs
      rw [zipP_length]
      omega
    rw [List.map_cons, flat_cons, List.length_append, List.length_cons]
    omega
section
variable {T : List Lvl} {root : Hn}
theorem good_mem_leaves (g : Good T root) : leaves T ∈ T := by
  obtain ⟨n, R, e⟩ := g.rt
  unfold leaves
  rw [List.getLastD_eq_getLast?]
  cases h : T.getLast? with
  | none => rw [List.getLast?_eq_none_iff] at h; rw [h] at e; cases e
  | some l => exact List.mem_of_getLast? h
theorem good_few (g : Good T root) (hm : MinL T) : (leaves T).length = 1 ∨ 2 * (leaves T).length ≤ (flatT T).length := by
  rcases hm with h | h
  · exact .inl h
  · refine .inr (leaves_two h fun x hx => ch_leaf g.leaves.1 x.2 (List.mem_map.2 ⟨x, hx, rfl⟩))
theorem good_many (g : Good T root) : (flatT T).length ≤ 4 * T.flatten.length := by
  have h1 := leaves_four (fun x hx => g.sl _ (good_mem_leaves g) x hx)
  have h2 := leaves_len (T := T)
  unfold flatT
  omega
end
theorem Tq.few {w : World} {I : Ids} {T : List Lvl} {m : Nat} (h : Tq w I T m) (hm : MinL T) : (leaves T).length = 1 ∨ 2 * (leaves T).length ≤ (flatT T).length := by
  obtain ⟨N, root, G, fr, h1, h2, h3⟩ := h
  exact good_few h2 hm
theorem Tq.many {w : World} {I : Ids} {T : List Lvl} {m : Nat} (h : Tq w I T m) : (flatT T).length ≤ 4 * T.flatten.length := by
  obtain ⟨N, root, G, fr, h1, h2, h3⟩ := h
  exact good_many h2
/-- The keys that awake puts. -/
def ky : Nat → ByteArray
  | 0 => ⟨#[97]⟩
  | 1 => ⟨#[98]⟩
  | 2 => ⟨#[99]⟩
  | 3 => ⟨#[100]⟩
  | 4 => ⟨#[101]⟩
  | _ => ⟨#[102]⟩
def kws (i : Nat) : List Pr := (List.range i).map fun j => ⟨ky j, ⟨#[118]⟩⟩
theorem kws_none : ∀ i, i < 6 → getL (kws i) (ky i) = none := by decide
instance : DecidableEq Pr := fun a b => if h : a.k = b.k ∧ a.v = b.v then .isTrue (by obtain ⟨x, y⟩ := a; obtain ⟨z, t⟩ := b; obtain ⟨h1, h2⟩ := h; simp only at h1 h2; rw [h1, h2]) else .isFalse fun e => h (by rw [e]; exact ⟨rfl, rfl⟩)
theorem kws_put : ∀ i, i < 6 → putL (kws i) (ky i) ⟨#[118]⟩ = kws (i + 1) := by decide
theorem kws_get : getL (kws 6) ⟨#[101]⟩ = some ⟨#[118]⟩ := by decide
theorem ky_conv (i : Nat) (hi : i < 6) (w : World) : (convert 23 9 (.slice (some ⟨w.heap.size, 0, none⟩) 1 1)).run Tryd.prog (w.alloc (.cells #[.int .u8 (97 + (i : Int))] 5)) = .ok (.string (ky i)) (w.alloc (.cells #[.int .u8 (97 + (i : Int))] 5)) := by
  have hat := At.new w (.cells #[.int .u8 (97 + (i : Int))] 5)
  have hb : ∃ b : UInt8, ky i = ⟨#[b]⟩ ∧ (b.toNat : Int) = 97 + (i : Int) := by
    match i, hi with
    | 0, _ => exact ⟨97, rfl, by decide⟩
    | 1, _ => exact ⟨98, rfl, by decide⟩
    | 2, _ => exact ⟨99, rfl, by decide⟩
    | 3, _ => exact ⟨100, rfl, by decide⟩
    | 4, _ => exact ⟨101, rfl, by decide⟩
    | 5, _ => exact ⟨102, rfl, by decide⟩
  obtain ⟨b, e1, e2⟩ := hb
  rw [e1]
  refine run_convert_bytes_back (w.alloc (.cells #[.int .u8 (97 + (i : Int))] 5)) 23 9 5 ⟨w.heap.size, 0, none⟩ 1 [b] Tryd.underlying23 Tryd.underlying5 Tryd.underlying9 fun j hj => ?_
  have hj : j = 0 := by simp at hj; exact hj
  subst hj
  rw [Addr.add_lit, hat.cell]
  simp [e2]
set_option maxRecDepth 100000 in
set_option maxHeartbeats 8000000 in
/-- awake. -/
theorem awake_any (w : World) (hT : Tab w) :
    Calls Tryd.prog 6 #[] w fun e w' => e = .returned (.bool true) ∧ Turn No w w' := by
  have NP := Lib.hid (newPool_any 9 w (by omega) (by omega))
  have HR := Lib.hid hT
  clear hT
  go_enter Tryd.func6, Tryd.ntmps6
  go_wp2_with (first
    | (go_at_call 7; go_loud (refine NP.out.mono ?_); rintro e w1 ⟨pb, gb, fb, rfl, hP, ht, l1, l2, l3⟩; have CN := Lib.hid (tq_new (n := 9) (by decide) hP (HR.out.turn ht (fun h => h) HR.out.pos) ht l1 l2 l3); clear hP ht l1 l2 l3)
    | (go_at_call 8; (with_reducible refine CN.out.mono ?_); rintro e w2 ⟨I, T0, rfl, rfl, k2, k3, k4, k5, k6⟩; have H2 := Lib.hid (And.intro k2 (And.intro k3 (And.intro k4 (And.intro k5 k6)))); clear k2 k3 k4 k5 k6))
  go_loopw [5] (fun x wr => ∃ (i : Nat) (T : List Lvl), i ≤ 6 ∧ x = .int .i64 (i : Int) ∧ Hid (Tq wr I T 9 ∧ flatT T = kws i ∧ MinL T ∧ Turn No w wr)) (fun x _ => 6 - (RowKit.intOf x).toNat)
  case atStart => exact ⟨0, T0, Nat.zero_le _, rfl, Lib.hid ⟨H2.out.2.1, H2.out.2.2.1, .inl H2.out.2.2.2.1, H2.out.2.2.2.2⟩⟩
  case round =>
    obtain ⟨i, T, hi, rfl, HI⟩ := hrel
    by_cases hlt : i < 6
    · have q2 : (i : Int) < 6 := by omega
      have HP := Lib.hid fun W (t : Turn No wr W) => tq_put (HI.out.1.no t) (ky i) ⟨#[118]⟩ (by unfold Fit ky; split <;> decide) (by unfold Fit; decide) (by
        have h1 := HI.out.1.few HI.out.2.2.1
        rw [HI.out.2.1] at h1
        simp [kws] at h1
        omega)
      have HN : Hid (∀ W w', Turn No wr W → PutS I T 9 (putL (flatT T) (ky i) ⟨#[118]⟩) W w' → ∃ T', Tq w' I T' 9 ∧ flatT T' = kws (i + 1) ∧ MinL T' ∧ Turn No w w') := Lib.hid fun W w' t ⟨⟨T', k1, k2, k3, k4, k5, _⟩⟩ => ⟨T', k1, by rw [k2, HI.out.2.1, kws_put i hlt], k5 HI.out.2.2.1, H2.out.1.turn (HI.out.2.2.2.trans t) k3⟩
      have HZ : Hid (getL (flatT T) (ky i) = none) := Lib.hid (by rw [HI.out.2.1, kws_none i hlt])
      rw [HZ.out] at HP
      simp only [Option.getD, Option.isSome] at HP
      have HJ : Hid (i + 1 ≤ 6) := Lib.hid hlt
      have HJw : Hid (Value.int .i64 (wrap64 ((i : Int) + 1)) = Value.int .i64 ((i + 1 : Nat) : Int)) := Lib.hid (by rw [show wrap64 ((i : Int) + 1) = ((i + 1 : Nat) : Int) by simp only [wrap64]; omega])
      have HJm : Hid (6 - (RowKit.intOf (.int .i64 ((i + 1 : Nat) : Int))).toNat < 6 - (RowKit.intOf (.int .i64 (i : Int))).toNat) := Lib.hid (by simp [RowKit.intOf]; omega)
      have hb : (i : Int) < 6 := q2
      have hb0 : (0 : Int) ≤ (i : Int) := by omega
      have hw8 : IntKind.u8.wrap (wrap64 (97 + (i : Int))) = ((97 + i : Nat) : Int) := by simp only [wrap64, IntKind.wrap_u8]; omega
      have cv := ky_conv i hlt wr
      clear hw8
      go_wp2_with (go_at_call 18; (with_reducible refine (HP.out _ ((Turn.refl No _).alloc _)).mono ?_); rintro e w5 ⟨rfl, h5⟩; have H5 := Lib.hid (HN.out _ _ ((Turn.refl No _).alloc _) h5); clear h5)
      obtain ⟨T', h5⟩ := H5.out
      rw [show (i : Int) + 1 = ((i + 1 : Nat) : Int) by omega]
      exact ⟨⟨i + 1, T', HJ.out, rfl, Lib.hid h5⟩, HJm.out⟩
    · obtain rfl : i = 6 := by omega
      have HG := Lib.hid (tq_get HI.out.1 ⟨#[101]⟩ (by unfold Fit; decide))
      rw [HI.out.2.1, kws_get] at HG
      have HL := Lib.hid fun W (t : Turn No wr W) => tq_len (HI.out.1.no t)
      have HS := Lib.hid fun W (t : Turn No wr W) => tq_slots (HI.out.1.no t)
      have HC := Lib.hid fun W (t : Turn No wr W) => tq_check (HI.out.1.no t)
      rw [HI.out.2.1] at HL
      obtain ⟨n, hn⟩ : ∃ n, T.flatten.length = n := ⟨_, rfl⟩
      have hn1 : 1 < n := by
        have := HI.out.1.many
        rw [HI.out.2.1, hn] at this
        simp [kws] at this
        omega
      rw [hn] at HS
      have q3 : (1 : Int) < (n : Int) := by omega
      clear hn
      simp only [Option.getD, Option.isSome] at HG
      rw [show (kws 6).length = 6 from rfl] at HL
      go_wp2_with (first
        | (go_at_call 11; (with_reducible refine HG.out.mono ?_); rintro e w5 ⟨rfl, h5⟩; replace h5 := Lib.hid h5)
        | (go_at_call 22; (with_reducible refine (HL.out _ h5.out).mono ?_); rintro e w6 ⟨rfl, h6⟩; replace h6 := Lib.hid (h5.out.trans h6))
        | (go_at_call 23; (with_reducible refine (HS.out _ h6.out).mono ?_); rintro e w7 ⟨rfl, h7⟩; replace h7 := Lib.hid (h6.out.trans h7))
        | (go_at_call 16; (with_reducible refine (HC.out _ h7.out).mono ?_); rintro e w8 ⟨rfl, h8⟩; replace h8 := Lib.hid (h7.out.trans h8)))
      go_ret
      exact ⟨rfl, HI.out.2.2.2.trans h8.out⟩
end Go.Proofs.YtfplnobnmgbgoaaDoor
namespace Go.Proofs.YtfplnobnmgbgoaaDoor
open Go.RowKit Go.Lib
set_option linter.unusedVariables false
set_option maxRecDepth 20000
set_option linter.unusedSimpArgs false


/-- An act: what is done, its key, its value, and whether Next goes behind the key. -/
structure Ac where
  (d : Int)
  (k v : ByteArray)
  (aft : Bool)
def Ac.cs (a : Ac) : List Value := [.int .i64 a.d, .string a.k, .string a.v, .bool a.aft]
def acs (L : List Ac) : List Value := L.flatMap Ac.cs
theorem acs_length (L : List Ac) : (acs L).length = L.length * 4 := flat_length Ac.cs 4 (fun _ => rfl) L
theorem acs_append (L M : List Ac) : acs (L ++ M) = acs L ++ acs M := by unfold acs; rw [List.flatMap_append]
/-- The cells of an act in a row that is read. -/
structure ActAt (w : World) (b o : Nat) (a : Ac) : Prop where
  c0 : w.cell? ⟨b, o, none⟩ = some (.int .i64 a.d)
  c1 : w.cell? ⟨b, o + 1, none⟩ = some (.string a.k)
  c2 : w.cell? ⟨b, o + 2, none⟩ = some (.string a.v)
  c3 : w.cell? ⟨b, o + 3, none⟩ = some (.bool a.aft)
  lt : b < w.heap.size
theorem acs_get {w : World} {A : Option Addr} {L : List Ac} (h : Row w A (acs L)) {j : Nat} {a : Ac} (hj : L[j]? = some a) : ∃ b o, A = some ⟨b, o, none⟩ ∧ ActAt w b (o + j * 4) a := by
  have hc : ∀ i, i < 4 → (acs L)[j * 4 + i]? = a.cs[i]? := fun i hi => flat_at Ac.cs 4 (fun _ => rfl) L j i a hj hi
  obtain ⟨b, o, hA, hb, h0⟩ := h (j * 4 + 0) (.int .i64 a.d) (hc 0 (by decide))
  obtain ⟨b1, o1, hA1, _, h1⟩ := h (j * 4 + 1) (.string a.k) (hc 1 (by decide))
  obtain ⟨b2, o2, hA2, _, h2⟩ := h (j * 4 + 2) (.string a.v) (hc 2 (by decide))
  obtain ⟨b3, o3, hA3, _, h3⟩ := h (j * 4 + 3) (.bool a.aft) (hc 3 (by decide))
  rw [hA] at hA1 hA2 hA3
  injection hA1 with hA1
  injection hA1 with e1 e2
  injection hA2 with hA2
  injection hA2 with e3 e4
  injection hA3 with hA3
  injection hA3 with e5 e6
  subst e1 e2 e3 e4 e5 e6
  exact ⟨b, o, hA, ⟨h0, h1, h2, h3, hb⟩⟩
/-- What an act of putting or deleting leaves. -/
def doA (F : List Pr) (a : Ac) : List Pr := if a.d = 0 then putL F a.k a.v else if a.d = 1 then delL F a.k else F
def doneL (L : List Ac) : List Pr := L.foldl doA []
theorem doneL_take {L : List Ac} {i : Nat} {a : Ac} (h : L[i]? = some a) : doneL (L.take (i + 1)) = doA (doneL (L.take i)) a := by
  unfold doneL
  rw [List.take_add_one, h, List.foldl_append]
  rfl
/-- Small acts: what Great lets by. -/
structure Sm (L : List Ac) : Prop where
  n : L.length ≤ 300
  k : ∀ a ∈ L, a.k.size ≤ 40000 ∧ a.v.size ≤ 40000
theorem fit_of {a : ByteArray} (h : a.size ≤ 40000) : Fit a := by unfold Fit; omega
end Go.Proofs.YtfplnobnmgbgoaaDoor
namespace Go.Proofs.YtfplnobnmgbgoaaDoor
open Go.RowKit Go.Lib
set_option linter.unusedVariables false
set_option maxRecDepth 20000
set_option linter.unusedSimpArgs false


theorem ActAt.no {w w' : World} {b o : Nat} {a : Ac} (h : ActAt w b o a) (t : Turn No w w') : ActAt w' b o a := by
  have e : ∀ x, w'.cell? ⟨b, x, none⟩ = w.cell? ⟨b, x, none⟩ := fun x => World.cell?_of_block (w := w) (t.block b h.lt (fun h => h))
  exact ⟨(e _).trans h.c0, (e _).trans h.c1, (e _).trans h.c2, (e _).trans h.c3, Nat.lt_of_lt_of_le h.lt t.size⟩
theorem act_turn {w w' : World} {b o : Nat} {a : Ac} (h : ActAt w b o a) (t : Turn No w w') : w'.cell? ⟨b, o + 1, none⟩ = some (.string a.k) ∧ w'.cell? ⟨b, o + 2, none⟩ = some (.string a.v) :=
  ⟨(World.cell?_of_block (w := w) (t.block b h.lt (fun h => h))).trans h.c1, (World.cell?_of_block (w := w) (t.block b h.lt (fun h => h))).trans h.c2⟩
/-- What made comes to. -/
structure MadeS (L : List Ac) (w : World) (e : Ending) (w' : World) : Prop where
  r : ∃ I T, e = .returned (.tuple #[.pointer (some ⟨I.tb, 0, none⟩), .pointer (some ⟨I.pb, 0, none⟩), .bool true]) ∧ Tq w' I T 4096 ∧ flatT T = doneL L ∧ Turn No w w'
set_option maxRecDepth 100000 in
set_option maxHeartbeats 8000000 in
/-- made. -/
theorem made_any (L : List Ac) (A : Option Addr) (c : Nat) (w : World) (h : Row w A (acs L)) (hT : Tab w) (hs : Sm L) :
    Calls Tryd.prog 25 #[.slice A L.length c] w (MadeS L w) := by
  have NP := Lib.hid (newPool_any 4096 w (by omega) (by omega))
  have HR := Lib.hid (And.intro h (And.intro hT hs))
  clear h hT hs
  go_enter Tryd.func25, Tryd.ntmps25
  go_wp2_with (first
    | (go_at_call 7; go_loud (refine NP.out.mono ?_); rintro e w1 ⟨pb, gb, fb, rfl, hP, ht, l1, l2, l3⟩; have CN := Lib.hid (tq_new (n := 4096) (by decide) hP (HR.out.2.1.turn ht (fun h => h) HR.out.2.1.pos) ht l1 l2 l3); clear hP ht l1 l2 l3)
    | (go_at_call 8; (with_reducible refine CN.out.mono ?_); rintro e w2 ⟨I, T0, rfl, rfl, k2, k3, k4, k5, k6⟩; have H2 := Lib.hid (And.intro k2 (And.intro k3 (And.intro k4 (And.intro k5 k6)))); clear k2 k3 k4 k5 k6))
  go_loopw [8] (fun x wr => ∃ (i : Nat) (T : List Lvl), i ≤ L.length ∧ x = .int .i64 (i : Int) ∧ Hid (Tq wr I T 4096 ∧ flatT T = doneL (L.take i) ∧ (leaves T).length ≤ i + 1 ∧ Turn No w wr)) (fun x _ => L.length - (RowKit.intOf x).toNat)
  case atStart => exact ⟨0, T0, Nat.zero_le _, rfl, Lib.hid ⟨H2.out.2.1, by rw [H2.out.2.2.1]; rfl, by rw [H2.out.2.2.2.1]; exact Nat.le_refl _, H2.out.2.2.2.2⟩⟩
  case round =>
    obtain ⟨i, T, hi, rfl, HI⟩ := hrel
    have HL : Hid (L.length ≤ 300) := Lib.hid HR.out.2.2.n
    by_cases hlt : i < L.length
    · obtain ⟨a, ha⟩ : ∃ t, L[i]? = some t := ⟨L[i], List.getElem?_eq_getElem hlt⟩
      obtain ⟨b, o, hA, hc0⟩ := acs_get HR.out.1 ha
      have hc := hc0.no HI.out.2.2.2
      have HC := Lib.hid hc0
      clear hc0
      obtain ⟨c0, c1, c2, c3, lb⟩ := hc
      have hk := HR.out.2.2.k a (List.mem_of_getElem? ha)
      have HD := Lib.hid (doneL_take ha)
      have HP := Lib.hid fun W (t : Turn No wr W) => tq_put (HI.out.1.no t) a.k a.v (fit_of hk.1) (fit_of hk.2) (by have := HI.out.2.2.1; have := HL.out; omega)
      have HQ := Lib.hid fun W (t : Turn No wr W) => tq_del (HI.out.1.no t) a.k (fit_of hk.1)
      have HJw : Hid (Value.int .i64 (wrap64 ((i : Int) + 1)) = Value.int .i64 ((i + 1 : Nat) : Int)) := Lib.hid (by have h1 := HL.out; rw [show wrap64 ((i : Int) + 1) = ((i + 1 : Nat) : Int) by simp only [wrap64]; omega])
      have HJm : Hid (L.length - (RowKit.intOf (.int .i64 ((i + 1 : Nat) : Int))).toNat < L.length - (RowKit.intOf (.int .i64 (i : Int))).toNat) := Lib.hid (by simp [RowKit.intOf]; omega)
      have HJ : Hid (i + 1 ≤ L.length) := Lib.hid hlt
      subst hA
      have HS0 := Lib.hid fun W (t : Turn No w W) => (act_turn HC.out t)
      obtain ⟨d, k, v, aft⟩ := a
      have q1 : (0 : Int) ≤ (i : Int) := by omega
      have q2 : (i : Int) < (L.length : Int) := by omega
      simp only at c0 c1 c2 c3 HP HQ HD HS0
      clear HC
      clear hlt ha hk hi c3
      by_cases hd0 : d = 0
      · subst hd0
        have HN : Hid (∀ W w', Turn No wr W → PutS I T 4096 (putL (flatT T) k v) W w' → ∃ T', Tq w' I T' 4096 ∧ flatT T' = doneL (L.take (i + 1)) ∧ (leaves T').length ≤ i + 1 + 1 ∧ Turn No w w') := Lib.hid fun W w' t ⟨⟨T', k1, k2, k3, k4, _⟩⟩ => ⟨T', k1, by rw [HD.out, k2, HI.out.2.1]; rfl, by have := HI.out.2.2.1; omega, H2.out.1.turn (HI.out.2.2.2.trans t) k3⟩
        clear HD
        go_upto_region 12 with fail
        go_region_held3 (fun W => W.cell? ⟨b, o + i * 4 + 1, none⟩ = some (.string k) ∧ W.cell? ⟨b, o + i * 4 + 2, none⟩ = some (.string v)) (first | (exact HS0.out _ (by obtain ⟨T', h5⟩ := H5.out; exact h5.2.2.2)) | (exact HS0.out _ (HI.out.2.2.2.trans (by first | exact (Turn.refl No _).drew | exact (Turn.refl No _).drewN _ | exact Turn.refl No _)))) (first | (go_at_call 18; (with_reducible refine (HP.out _ (by first | exact (Turn.refl No _).drewN _ | exact (Turn.refl No _).drew | exact Turn.refl No _)).mono ?_); rintro e w5 ⟨rfl, h5⟩; have H5 := Lib.hid (HN.out _ _ (by first | exact (Turn.refl No _).drewN _ | exact (Turn.refl No _).drew | exact Turn.refl No _) h5); clear h5))
        all_goals go_wp2_with fail
        obtain ⟨T', h5⟩ := H5.out
        rw [HJw.out]
        exact ⟨⟨i + 1, T', HJ.out, rfl, Lib.hid h5⟩, HJm.out⟩
      · by_cases hd1 : d = 1
        · subst hd1
          have HN : Hid (∀ W w', Turn No wr W → DelS I T 4096 k W w' → ∃ T', Tq w' I T' 4096 ∧ flatT T' = doneL (L.take (i + 1)) ∧ (leaves T').length ≤ i + 1 + 1 ∧ Turn No w w') := Lib.hid fun W w' t ⟨⟨T', k1, k2, k3, k4, _⟩⟩ => ⟨T', k1, by rw [HD.out, k2, HI.out.2.1]; rfl, by have := HI.out.2.2.1; omega, H2.out.1.turn (HI.out.2.2.2.trans t) k3⟩
          clear HD hd0
          go_upto_region 14 with fail
          go_wp2_with (go_at_call 19; (with_reducible refine (HQ.out _ (by first | exact (Turn.refl No _).drewN _ | exact (Turn.refl No _).drew | exact Turn.refl No _)).mono ?_); rintro e w5 ⟨rfl, h5⟩; have H5 := Lib.hid (HN.out _ _ (by first | exact (Turn.refl No _).drewN _ | exact (Turn.refl No _).drew | exact Turn.refl No _) h5); clear h5)
          obtain ⟨T', h5⟩ := H5.out
          rw [HJw.out]
          exact ⟨⟨i + 1, T', HJ.out, rfl, Lib.hid h5⟩, HJm.out⟩
        · have HN : Hid (flatT T = doneL (L.take (i + 1)) ∧ (leaves T).length ≤ i + 1 + 1) := Lib.hid ⟨by rw [HD.out, HI.out.2.1]; unfold doA; rw [if_neg hd0, if_neg hd1], by have := HI.out.2.2.1; omega⟩
          clear HD
          go_wp2_with fail
          rw [HJw.out]
          exact ⟨⟨i + 1, T, HJ.out, rfl, Lib.hid ⟨HI.out.1.no (by first | exact (Turn.refl No _).drewN _ | exact (Turn.refl No _).drew | exact Turn.refl No _), HN.out.1, HN.out.2, HI.out.2.2.2.trans (by first | exact (Turn.refl No _).drewN _ | exact (Turn.refl No _).drew | exact Turn.refl No _)⟩⟩, HJm.out⟩
    · obtain rfl : i = L.length := by omega
      have q2 : ¬ (L.length : Int) < (L.length : Int) := by omega
      go_wp2_with fail
      go_ret3
      have := HI.out
      rw [List.take_length] at this
      exact ⟨⟨I, T, rfl, this.1, this.2.1, this.2.2.2⟩⟩
end Go.Proofs.YtfplnobnmgbgoaaDoor
namespace Go.Proofs.YtfplnobnmgbgoaaDoor
open Go.RowKit Go.Lib
set_option linter.unusedVariables false
set_option maxRecDepth 20000
set_option linter.unusedSimpArgs false


def mn (x : Nat) : Nat := min x 40001
theorem mn_int (x : Nat) : min (x : Int) 40001 = ((mn x : Nat) : Int) := by unfold mn; omega
theorem mn_le (x : Nat) : mn x ≤ 40001 := Nat.min_le_right _ _
theorem mn_sum (s x y : Nat) (h : s ≤ 24080602) : IntKind.i64.wrap (IntKind.i64.wrap ((s : Int) + min (x : Int) 40001) + min (y : Int) 40001) = ((s + mn x + mn y : Nat) : Int) := by
  have h1 := mn_le x
  have h2 := mn_le y
  rw [mn_int, mn_int]
  have e1 : IntKind.i64.wrap ((s : Int) + ((mn x : Nat) : Int)) = ((s + mn x : Nat) : Int) := by rw [show (s : Int) + ((mn x : Nat) : Int) = ((s + mn x : Nat) : Int) by omega]; exact IntWalk.i64_in _ ⟨by omega, by omega⟩
  rw [e1, show ((s + mn x : Nat) : Int) + ((mn y : Nat) : Int) = ((s + mn x + mn y : Nat) : Int) by omega]
  exact IntWalk.i64_in _ ⟨by omega, by omega⟩
/-- What Great comes to. -/
structure GreatS (L : List Ac) (w : World) (e : Ending) (w' : World) : Prop where
  r : ∃ b, e = .returned (.bool b) ∧ (b = false → Sm L) ∧ Turn No w w'
set_option maxRecDepth 100000 in
set_option maxHeartbeats 8000000 in
/-- Great: where it is false the acts are small. -/
theorem great_any (L : List Ac) (A : Option Addr) (c : Nat) (w : World) (h : Row w A (acs L)) (hn : L.length ≤ 9223372036854775807) (hf : ∀ a ∈ L, Fit a.k ∧ Fit a.v) :
    Calls Tryd.prog 17 #[.slice A L.length c] w (GreatS L w) := by
  have HR := Lib.hid h
  have HF := Lib.hid hf
  have HN := Lib.hid hn
  clear h hf hn
  go_enter Tryd.func17, Tryd.ntmps17
  go_wp2_with fail
  go_loopw [3, 4] (fun n x wr => ∃ (i s : Nat), i ≤ L.length ∧ i ≤ 301 ∧ x = .int .i64 (i : Int) ∧ n = .int .i64 (s : Int) ∧ Hid (s ≤ i * 80002 ∧ (∀ a ∈ L.take i, mn a.k.size + mn a.v.size ≤ s) ∧ Turn No w wr)) (fun n x _ => 302 - (RowKit.intOf x).toNat)
  case atStart => exact ⟨0, 0, Nat.zero_le _, Nat.zero_le _, rfl, rfl, Lib.hid ⟨Nat.zero_le _, by simp, Turn.refl _ _⟩⟩
  case round =>
    obtain ⟨i, s, hi, hi3, rfl, rfl, HI⟩ := hrel
    by_cases hlt : i < L.length
    · have q2 : (i : Int) < (L.length : Int) := by omega
      by_cases h3 : i ≤ 300
      · have q3 : (i : Int) ≤ 300 := by omega
        obtain ⟨a, ha⟩ : ∃ t, L[i]? = some t := ⟨L[i], List.getElem?_eq_getElem hlt⟩
        obtain ⟨b, o, hA, hc0⟩ := acs_get HR.out ha
        have hc := hc0.no HI.out.2.2
        have HC := Lib.hid hc0
        have HS0 := Lib.hid fun W (t : Turn No w W) => (act_turn HC.out t)
        obtain ⟨c0, c1, c2, c3, lb⟩ := hc
        have hs1 := HI.out.1
        have HT : Hid (∀ x ∈ L.take (i + 1), mn x.k.size + mn x.v.size ≤ s + mn a.k.size + mn a.v.size) := Lib.hid fun x hx => by
          rw [List.take_add_one, ha] at hx
          rcases List.mem_append.1 hx with h1 | h1
          · have := HI.out.2.1 x h1; omega
          · simp at h1
            subst h1
            omega
        have HZ := Lib.hid (mn_sum s a.k.size a.v.size (by omega))
        subst hA
        obtain ⟨d, k, v, aft⟩ := a
        simp only at c0 c1 c2 c3 HS0 HZ HT
        have q1 : (0 : Int) ≤ (i : Int) := by omega
        have HS1 : Hid (s + mn k.size + mn v.size ≤ (i + 1) * 80002) := Lib.hid (by have := mn_le k.size; have := mn_le v.size; omega)
        have HJ : Hid (i + 1 ≤ L.length ∧ i + 1 ≤ 301) := Lib.hid ⟨hlt, by omega⟩
        have HJw : Hid (Value.int .i64 (wrap64 ((i : Int) + 1)) = Value.int .i64 ((i + 1 : Nat) : Int)) := Lib.hid (by rw [show wrap64 ((i : Int) + 1) = ((i + 1 : Nat) : Int) by simp only [wrap64]; omega])
        have HJm : Hid (302 - (RowKit.intOf (.int .i64 ((i + 1 : Nat) : Int))).toNat < 302 - (RowKit.intOf (.int .i64 (i : Int))).toNat) := Lib.hid (by simp [RowKit.intOf]; omega)
        clear HC ha c0 c3 hs1 hlt h3 hi hi3
        go_upto_region 5 with fail
        go_region_held3 (fun W => W.cell? ⟨b, o + i * 4 + 1, none⟩ = some (.string k) ∧ W.cell? ⟨b, o + i * 4 + 2, none⟩ = some (.string v)) (exact HS0.out _ (HI.out.2.2.trans (by first | exact (Turn.refl No _).drew | exact (Turn.refl No _).drewN _ | exact Turn.refl No _))) (first | fail)
        all_goals rw [HZ.out]
        all_goals go_wp2_with fail
        all_goals rw [show (i : Int) + 1 = ((i + 1 : Nat) : Int) by omega]
        all_goals exact ⟨⟨i + 1, s + mn k.size + mn v.size, HJ.out.1, HJ.out.2, rfl, rfl, Lib.hid ⟨HS1.out, HT.out, HI.out.2.2.trans (by first | exact (Turn.refl No _).drew | exact (Turn.refl No _).drewN _ | exact Turn.refl No _)⟩⟩, HJm.out⟩
      · have q3 : ¬ (i : Int) ≤ 300 := by omega
        have HB : Hid (300 < L.length) := Lib.hid (by omega)
        have q4 : (300 : Int) < (L.length : Int) := by omega
        go_wp2_with fail
        go_ret
        exact ⟨⟨true, rfl, (fun h => by cases h), HI.out.2.2⟩⟩
    · obtain rfl : i = L.length := by omega
      have q2 : ¬ (L.length : Int) < (L.length : Int) := by omega
      by_cases h3 : (300 : Int) < (L.length : Int)
      · go_wp2_with fail
        go_ret
        exact ⟨⟨true, rfl, (fun h => by cases h), HI.out.2.2⟩⟩
      · by_cases h4 : (40000 : Int) < (s : Int)
        · go_wp2_with fail
          go_ret
          exact ⟨⟨true, rfl, (fun h => by cases h), HI.out.2.2⟩⟩
        · have HX : Hid (Sm L) := Lib.hid ⟨by omega, fun a ha => by
            have h1 := HI.out.2.1
            rw [List.take_length] at h1
            have h2 := h1 a ha
            unfold mn at h2
            omega⟩
          go_wp2_with fail
          go_ret
          exact ⟨⟨false, rfl, (fun _ => HX.out), HI.out.2.2⟩⟩
end Go.Proofs.YtfplnobnmgbgoaaDoor
namespace Go.Proofs.YtfplnobnmgbgoaaDoor
open Go.RowKit Go.Lib
set_option linter.unusedVariables false
set_option maxRecDepth 20000
set_option linter.unusedSimpArgs false


theorem putL_len (F : List Pr) (k v : ByteArray) : (putL F k v).length ≤ F.length + 1 := by
  induction F with
  | nil => exact Nat.le_refl _
  | cons p t ih =>
    unfold putL
    split
    · simp; omega
    · split <;> simp
theorem putL_mem {F : List Pr} {k v : ByteArray} {p : Pr} (h : p ∈ putL F k v) : p = ⟨k, v⟩ ∨ p ∈ F := by
  induction F with
  | nil => exact .inl (by simpa [putL] using h)
  | cons q t ih =>
    unfold putL at h
    split at h
    · rcases List.mem_cons.1 h with e | e
      · exact .inr (by rw [e]; exact List.mem_cons_self ..)
      · exact (ih e).elim .inl fun x => .inr (List.mem_cons_of_mem _ x)
    · split at h
      · rcases List.mem_cons.1 h with e | e
        · exact .inl e
        · exact .inr (List.mem_cons_of_mem _ e)
      · rcases List.mem_cons.1 h with e | e
        · exact .inl e
        · exact .inr e
theorem delL_mem {F : List Pr} {k : ByteArray} {p : Pr} (h : p ∈ delL F k) : p ∈ F := (List.mem_filter.1 h).1
theorem delL_len (F : List Pr) (k : ByteArray) : (delL F k).length ≤ F.length := List.length_filter_le _ _
theorem foldA_len : ∀ (L : List Ac) (F : List Pr), (L.foldl doA F).length ≤ F.length + L.length
  | [], F => Nat.le_refl _
  | a :: L, F => by
    have h1 := foldA_len L (doA F a)
    have h2 : (doA F a).length ≤ F.length + 1 := by
      unfold doA
      split
      · exact putL_len _ _ _
      · split
        · have := delL_len F a.k; omega
        · omega
    rw [List.foldl_cons, List.length_cons]
    omega
theorem foldA_mem : ∀ (L : List Ac) (F : List Pr) {p : Pr}, p ∈ L.foldl doA F → p ∈ F ∨ ∃ a ∈ L, p = ⟨a.k, a.v⟩
  | [], F, p, h => .inl h
  | a :: L, F, p, h => by
    rw [List.foldl_cons] at h
    rcases foldA_mem L (doA F a) h with h1 | ⟨b, hb, e⟩
    · unfold doA at h1
      split at h1
      · rcases putL_mem h1 with e | e
        · exact .inr ⟨a, List.mem_cons_self .., e⟩
        · exact .inl e
      · split at h1
        · exact .inl (delL_mem h1)
        · exact .inl h1
    · exact .inr ⟨b, List.mem_cons_of_mem _ hb, e⟩
theorem doneL_sm {L : List Ac} (h : Sm L) : (doneL L).length ≤ 300 ∧ ∀ p ∈ doneL L, p.k.size ≤ 40000 ∧ p.v.size ≤ 40000 := by
  refine ⟨?_, fun p hp => ?_⟩
  · have := foldA_len L []
    have := h.n
    simp at *
    unfold doneL
    omega
  · rcases foldA_mem L [] hp with h1 | ⟨a, ha, e⟩
    · cases h1
    · rw [e]
      exact h.k a ha
/-- A pair as an act that puts it. -/
def ofP (p : Pr) : Ac := ⟨0, p.k, p.v, false⟩
def backL (F : List Pr) : List Ac := F.reverse.map ofP
theorem backL_sm {F : List Pr} (h : F.length ≤ 300 ∧ ∀ p ∈ F, p.k.size ≤ 40000 ∧ p.v.size ≤ 40000) : Sm (backL F) := by
  refine ⟨?_, fun a ha => ?_⟩
  · unfold backL; rw [List.length_map, List.length_reverse]; exact h.1
  · obtain ⟨p, hp, rfl⟩ := List.mem_map.1 ha
    exact h.2 p (List.mem_reverse.1 hp)
theorem putL_head {p : Pr} {F : List Pr} (h : ∀ q ∈ F, kl p.k q.k) : putL F p.k p.v = p :: F := by
  cases F with
  | nil => rfl
  | cons q t =>
    have hq := h q (List.mem_cons_self ..)
    unfold putL
    rw [if_neg (kl_asymm hq), if_neg (fun e => by rw [e] at hq; exact kl_irrefl _ hq)]
theorem backL_done : ∀ {F : List Pr}, Asc F → doneL (backL F) = F
  | [], _ => rfl
  | p :: F, h => by
    have ih := backL_done (List.pairwise_cons.1 h).2
    unfold backL doneL at ih ⊢
    rw [List.reverse_cons, List.map_append, List.foldl_append, ih]
    show doA F (ofP p) = _
    unfold doA ofP
    rw [if_pos rfl]
    exact putL_head (List.pairwise_cons.1 h).1
/-- The acts that have come, while they are made from the greatest pair on. -/
theorem backL_next {F : List Pr} {j : Nat} {p : Pr} (h : F[j]? = some p) : backL (F.drop j) = backL (F.drop (j + 1)) ++ [ofP p] := by
  obtain ⟨hl, rfl⟩ := List.getElem?_eq_some_iff.1 h
  unfold backL
  rw [← List.getElem_cons_drop hl, List.reverse_cons, List.map_append]
  rfl
theorem infoAC : (Tryd.prog.info? 51).map (fun i => (i.zero, i.size, i.bytes)) = some (some (.agg #[.int .i64 0, .string ⟨#[]⟩, .string ⟨#[]⟩, .bool false]), 4, 48) := by kernel_rfl
/-- A row of acts of one's own, while it is made. -/
structure Arw (w0 wx : World) (l : List Ac) (B : Option Addr) (c : Nat) : Prop where
  tu : Turn No w0 wx
  row : wx.ownsRow w0.heap.size 51 4 (.slice B l.length c) l.length (acs l)
theorem Arw.nil (w : World) : Arw w w [] none 0 := ⟨Turn.refl _ _, rfl, .inl ⟨rfl, rfl⟩⟩
theorem Arw.no {w0 wx w2 : World} {l : List Ac} {B : Option Addr} {c : Nat} (h : Arw w0 wx l B c) (t : Turn No wx w2) : Arw w0 w2 l B c := ⟨h.tu.trans t, own_grown h.row t fun _ _ h => h⟩
theorem Arw.append {w0 wx : World} {l : List Ac} {B : Option Addr} {c : Nat} (h : Arw w0 wx l B c) (hl : l.length < 100000) (a : Ac) :
    ∃ B' c' w2, AppRun 48 48 (.slice B l.length c) (.slice (some ⟨wx.heap.size, 0, none⟩) 1 1) (.slice B' (l.length + 1) c') (wx.alloc (.cells #[.int .i64 a.d, .string a.k, .string a.v, .bool a.aft] 51)) w2 ∧ Arw w0 w2 (l ++ [a]) B' c' := by
  have tj : Turn No wx (wx.alloc (.cells #[.int .i64 a.d, .string a.k, .string a.v, .bool a.aft] 51)) := (Turn.refl _ _).alloc _
  have h2 := h.no tj
  have hn := At.new wx (.cells #[.int .i64 a.d, .string a.k, .string a.v, .bool a.aft] 51)
  obtain ⟨B', c', w2, qq, ho, ht, hB⟩ := app_gen Tryd.underlying48 infoAC rfl (by decide) (by decide) h2.row ⟨wx.heap.size, 0, none⟩ 1 1 [.int .i64 a.d, .string a.k, .string a.v, .bool a.aft] rfl
    (fun j u hj => by rw [Addr.add_lit, Nat.zero_add, hn.cell]; simpa using hj) (by
      intro u hu
      simp at hu
      rcases hu with rfl | rfl | rfl | rfl <;> rfl) (by omega) h2.tu.size 48
  refine ⟨B', c', w2, qq, ⟨h2.tu.then (ht.mono fun k _ hk => (by rw [own_ablk] at hk; exact hk : ablk B = some k)) fun i hi hb => ?_, ?_⟩⟩
  · have := (own_at h2.row hb).1
    omega
  · rw [List.length_append]
    have e : acs (l ++ [a]) = acs l ++ [.int .i64 a.d, .string a.k, .string a.v, .bool a.aft] := by unfold acs; rw [List.flatMap_append]; simp [Ac.cs]
    rw [e]
    exact ho
theorem pcs_get {w : World} {A : Option Addr} {l : List Pr} (h : Row w A (pcs l)) {j : Nat} {p : Pr} (hj : l[j]? = some p) : ∃ b o, A = some ⟨b, o, none⟩ ∧ b < w.heap.size ∧ w.cell? ⟨b, o + j * 2, none⟩ = some (.string p.k) ∧ w.cell? ⟨b, o + j * 2 + 1, none⟩ = some (.string p.v) := by
  have hc : ∀ i, i < 2 → (pcs l)[j * 2 + i]? = p.cs[i]? := fun i hi => flat_at Pr.cs 2 (fun _ => rfl) l j i p hj hi
  obtain ⟨b, o, hA, hb, h0⟩ := h (j * 2 + 0) (.string p.k) (hc 0 (by decide))
  obtain ⟨b1, o1, hA1, _, h1⟩ := h (j * 2 + 1) (.string p.v) (hc 1 (by decide))
  rw [hA] at hA1
  injection hA1 with hA1
  injection hA1 with e1 e2
  subst e1 e2
  exact ⟨b, o, hA, hb, h0, h1⟩
end Go.Proofs.YtfplnobnmgbgoaaDoor
namespace Go.Proofs.YtfplnobnmgbgoaaDoor
open Go.RowKit Go.Lib
set_option linter.unusedVariables false
set_option maxRecDepth 20000
set_option linter.unusedSimpArgs false


set_option maxRecDepth 10000 in
theorem neq_pr (a b : ByteArray) (w : World) : (binOp .neq 63 (.agg #[.string a, .string b]) (.agg #[.string a, .string b])).run Tryd.prog w = .ok (.bool false) w := by
  rw [run_neq_struct]
  rw [show (10000 : Nat) = 9998 + 1 + 1 from rfl, run_equalIn_struct (P := Tryd.prog) w (9998 + 1) 63 #[.string a, .string b] #[.string a, .string b] (by kernel_rfl) (by kernel_rfl)]
  simp only [Program.fieldsOf, Tryd.underlying63]
  rw [eqf_cons (by decide) (by rfl) (by rfl) (run_equalIn_string w 9998 9 a a (by kernel_rfl)),
    eqf_cons (by decide) (by rfl) (by rfl) (run_equalIn_string w 9998 9 b b (by kernel_rfl)), eqf_nil]
  simp [Result.andThen]
theorem pcs_get2 {w : World} {A : Option Addr} {l : List Pr} (h : Row w A (pcs l)) {j : Nat} {p : Pr} (hj : l[j]? = some p) : ∃ b o, A = some ⟨b, o, none⟩ ∧ ∀ W, Turn No w W → W.cell? ⟨b, o + j * 2, none⟩ = some (.string p.k) ∧ W.cell? ⟨b, o + j * 2 + 1, none⟩ = some (.string p.v) := by
  obtain ⟨b, o, hA, hb, h0, h1⟩ := pcs_get h hj
  exact ⟨b, o, hA, fun W t => ⟨(World.cell?_of_block (w := w) (t.block b hb (fun h => h))).trans h0, (World.cell?_of_block (w := w) (t.block b hb (fun h => h))).trans h1⟩⟩
set_option maxRecDepth 100000 in
set_option maxHeartbeats 8000000 in
/-- pairs, where they are the same. -/
theorem pairs_same (l : List Pr) (A B : Option Addr) (c c2 : Nat) (w : World) (h : Row w A (pcs l)) (h2 : Row w B (pcs l)) (hn : l.length ≤ 100000) :
    Calls Tryd.prog 27 #[.slice A l.length c, .slice B l.length c2] w fun e w' => e = .returned (.bool true) ∧ Turn No w w' := by
  have HR := Lib.hid (And.intro h (And.intro h2 hn))
  clear h h2 hn
  go_enter Tryd.func27, Tryd.ntmps27
  go_wp2_with fail
  go_loopw [5] (fun x wr => ∃ i : Nat, i ≤ l.length ∧ x = .int .i64 (i : Int) ∧ Hid (Turn No w wr)) (fun x _ => l.length - (RowKit.intOf x).toNat)
  case atStart => exact ⟨0, Nat.zero_le _, rfl, Lib.hid (Turn.refl _ _)⟩
  case round =>
    obtain ⟨i, hi, rfl, HI⟩ := hrel
    by_cases hlt : i < l.length
    · obtain ⟨p, hp⟩ : ∃ t, l[i]? = some t := ⟨l[i], List.getElem?_eq_getElem hlt⟩
      obtain ⟨b, o, hA, h1⟩ := pcs_get2 HR.out.1 hp
      obtain ⟨b2, o2, hB, h2⟩ := pcs_get2 HR.out.2.1 hp
      have HX := Lib.hid fun W (t : Turn No w W) => And.intro (h1 W t) (h2 W t)
      have hx := HX.out wr HI.out
      subst hA hB
      obtain ⟨k, v⟩ := p
      have qn := fun W => neq_pr k v W
      have q1 : (0 : Int) ≤ (i : Int) := by omega
      have q2 : (i : Int) < (l.length : Int) := by omega
      obtain ⟨⟨x1, x2⟩, x3, x4⟩ := hx
      simp only at x1 x2 x3 x4 HX
      have HL : Hid (l.length ≤ 100000) := Lib.hid HR.out.2.2
      have HJw : Hid (Value.int .i64 (wrap64 ((i : Int) + 1)) = Value.int .i64 ((i + 1 : Nat) : Int)) := Lib.hid (by have := HL.out; rw [show wrap64 ((i : Int) + 1) = ((i + 1 : Nat) : Int) by simp only [wrap64]; omega])
      have HJm : Hid (l.length - (RowKit.intOf (.int .i64 ((i + 1 : Nat) : Int))).toNat < l.length - (RowKit.intOf (.int .i64 (i : Int))).toNat) := Lib.hid (by simp [RowKit.intOf]; omega)
      have HJ : Hid (i + 1 ≤ l.length) := Lib.hid hlt
      clear hp h1 h2 hlt hi
      go_upto_region 6 with fail
      go_quiet (fail)
      go_wp2_with fail
      rw [HJw.out]
      exact ⟨⟨i + 1, HJ.out, rfl, Lib.hid (HI.out.trans (by first | exact (Turn.refl No _).drew | exact (Turn.refl No _).drewN _ | exact Turn.refl No _))⟩, HJm.out⟩
    · obtain rfl : i = l.length := by omega
      have q2 : ¬ (l.length : Int) < (l.length : Int) := by omega
      go_wp2_with fail
      go_ret
      exact ⟨rfl, HI.out⟩
end Go.Proofs.YtfplnobnmgbgoaaDoor
namespace Go.Proofs.YtfplnobnmgbgoaaDoor
open Go.RowKit Go.Lib
set_option linter.unusedVariables false
set_option maxRecDepth 20000
set_option linter.unusedSimpArgs false

/-- Pairs behind a write. -/
def wrD (l : List Pr) (k v : ByteArray) (gone : Bool) : List Pr := if gone = true then delL l k else putL l k v
theorem wrD_asc {l : List Pr} (h : Asc l) (k v : ByteArray) (gone : Bool) : Asc (wrD l k v gone) := by
  unfold wrD
  split
  · exact h.del k
  · exact h.put k v
theorem wrD_length (l : List Pr) (k v : ByteArray) (gone : Bool) : (wrD l k v gone).length ≤ l.length + 1 := by
  unfold wrD
  split
  · exact Nat.le_succ_of_le (del_length l k)
  · exact put_length l k v
theorem wrD_fit {l : List Pr} (h : ∀ p ∈ l, Fit p.k) {k v : ByteArray} {gone : Bool} (hk : Fit k) : ∀ p ∈ wrD l k v gone, Fit p.k := by
  intro p hp
  unfold wrD at hp
  split at hp
  · exact h p ((List.filter_sublist).subset hp)
  · rw [put_low] at hp
    rcases List.mem_append.1 hp with h1 | h1
    · exact h p ((List.takeWhile_sublist _).subset h1)
    · rcases List.mem_cons.1 h1 with h1 | h1
      · rw [h1]; exact hk
      · have h2 : p ∈ hiL l k := by
          split at h1
          · exact List.mem_of_mem_tail h1
          · exact h1
        exact h p ((List.dropWhile_sublist _).subset h2)
set_option maxHeartbeats 4000000 in
theorem rdone_any (l : List Pr) (k v : ByteArray) (gone : Bool) (B : Option Addr) (c : Nat) (w : World) (ha : Asc l) (hR : Row w B (pcs l)) (hf : ∀ p ∈ l, Fit p.k) (hk : Fit k) (hn : l.length ≤ 100000) :
    Calls Tryd.prog 10 #[.slice B l.length c, .agg #[.string k, .string v, .bool gone]] w fun e w' => ∃ B' c', e = .returned (.slice B' (wrD l k v gone).length c') ∧ Ps w w' (wrD l k v gone) B' c' := by
  have tj : Turn No w (w.alloc (.cells #[.string k, .string v, .bool gone] 26)) := (Turn.refl _ _).alloc _
  have HB := Lib.hid (And.intro tj (At.new w (.cells #[.string k, .string v, .bool gone] 26)))
  have CD := Lib.hid (rdel_any l k B c _ (hR.no tj) hn)
  have CP := Lib.hid (rput_any l k v B c _ ha (hR.no tj) hf hk hn)
  clear tj hR
  go_enter Tryd.func10, Tryd.ntmps10
  go_upto_region 1 with fail
  generalize w.alloc (.cells #[.string k, .string v, .bool gone] 26) = w1 at HB CD CP ⊢
  obtain ⟨g, hg⟩ : ∃ x, w.heap.size = x := ⟨_, rfl⟩
  have HG := Lib.hid hg
  rw [hg] at HB
  rw [hg]
  clear hg
  have c0 := HB.out.2.cell 0
  have c1 := HB.out.2.cell 1
  have c2 := HB.out.2.cell 2
  simp at c0 c1 c2
  cases gone with
  | true =>
    go_wp2_with (go_at_call 32; (with_reducible refine CD.out.mono ?_); rintro e w2 ⟨B', c', rfl, hp⟩; have HP := Lib.hid hp; clear hp)
    go_ret
    exact ⟨B', c', rfl, HB.out.1.trans HP.out.tu, own_from HP.out.row HB.out.1.size⟩
  | false =>
    go_wp2_with (go_at_call 33; (with_reducible refine CP.out.mono ?_); rintro e w2 ⟨B', c', rfl, hp⟩; have HP := Lib.hid hp; clear hp)
    go_ret
    exact ⟨B', c', rfl, HB.out.1.trans HP.out.tu, own_from HP.out.row HB.out.1.size⟩
end Go.Proofs.YtfplnobnmgbgoaaDoor
namespace Go.Proofs.YtfplnobnmgbgoaaDoor
open Go.RowKit Go.Lib
set_option linter.unusedVariables false
set_option maxRecDepth 20000
set_option linter.unusedSimpArgs false

/-- A write, as plain data. -/
structure Wx where
  k : ByteArray
  v : ByteArray
  gone : Bool
def Wx.cs (x : Wx) : List Value := [.string x.k, .string x.v, .bool x.gone]
def xcs (ws : List Wx) : List Value := ws.flatMap Wx.cs
def stepD (l : List Pr) (x : Wx) : List Pr := wrD l x.k x.v x.gone
/-- What there is behind the first i writes. -/
def cur (l : List Pr) (ws : List Wx) (i : Nat) : List Pr := (ws.take i).foldl stepD l
def moms (l : List Pr) (ws : List Wx) (n : Nat) : List (List Pr) := (List.range n).map (cur l ws)
theorem moms_succ (l : List Pr) (ws : List Wx) (n : Nat) : moms l ws (n + 1) = moms l ws n ++ [cur l ws n] := by
  unfold moms
  rw [List.range_succ, List.map_append]
  rfl
theorem moms_length (l : List Pr) (ws : List Wx) (n : Nat) : (moms l ws n).length = n := by simp [moms]
theorem cur_succ {l : List Pr} {ws : List Wx} {i : Nat} {x : Wx} (h : ws[i]? = some x) : cur l ws (i + 1) = stepD (cur l ws i) x := by
  unfold cur
  rw [List.take_add_one, h]
  simp [List.foldl_append]
theorem cur_asc {l : List Pr} (h : Asc l) (ws : List Wx) : ∀ i, Asc (cur l ws i) := fun i => by
  unfold cur
  generalize ws.take i = m
  induction m generalizing l with
  | nil => exact h
  | cons x t ih => exact ih (wrD_asc h _ _ _)
theorem cur_fit {l : List Pr} (h : ∀ p ∈ l, Fit p.k) {ws : List Wx} (hw : ∀ x ∈ ws, Fit x.k) : ∀ i, ∀ p ∈ cur l ws i, Fit p.k := fun i => by
  have hm : ∀ x ∈ ws.take i, Fit x.k := fun x hx => hw x (List.mem_of_mem_take hx)
  unfold cur
  generalize ws.take i = m at hm
  induction m generalizing l with
  | nil => exact h
  | cons x t ih => exact ih (wrD_fit h (hm x (List.mem_cons_self ..))) fun y hy => hm y (List.mem_cons_of_mem _ hy)
theorem cur_length (l : List Pr) (ws : List Wx) : ∀ i, (cur l ws i).length ≤ l.length + i := fun i => by
  have hi : (ws.take i).length ≤ i := by rw [List.length_take]; exact Nat.min_le_left ..
  unfold cur
  generalize ws.take i = m at hi
  induction m generalizing l i with
  | nil => exact Nat.le_add_right ..
  | cons x t ih =>
    have h1 := ih (stepD l x) (i - 1) (by simp at hi; omega)
    have h2 : (stepD l x).length ≤ l.length + 1 := wrD_length l x.k x.v x.gone
    simp at hi
    show (List.foldl stepD (stepD l x) t).length ≤ _
    omega
/-- A row of pairs that one of the moments is: it came in, or is one's own. -/
def El (w0 wx : World) (m : List Pr) (v : Value) : Prop := ∃ A c, v = .slice A m.length c ∧ (Row w0 A (pcs m) ∨ ∃ Z, wx.ownsRow Z 95 2 (.slice A m.length c) m.length (pcs m))
theorem El.row {w0 wx : World} {m : List Pr} {v : Value} (h : El w0 wx m v) (t : Turn No w0 wx) : ∃ A c, v = .slice A m.length c ∧ Row wx A (pcs m) := by
  obtain ⟨A, c, h1, h2 | ⟨Z, h2⟩⟩ := h
  · exact ⟨A, c, h1, h2.no t⟩
  · exact ⟨A, c, h1, row_of_own h2⟩
theorem El.no {w0 wx w2 : World} {m : List Pr} {v : Value} (h : El w0 wx m v) (t : Turn No wx w2) : El w0 w2 m v := by
  obtain ⟨A, c, h1, h2 | ⟨Z, h2⟩⟩ := h
  · exact ⟨A, c, h1, .inl h2⟩
  · exact ⟨A, c, h1, .inr ⟨Z, own_grown h2 t fun _ _ h => h⟩⟩
theorem El.past {w0 wx w2 : World} {m : List Pr} {v : Value} (h : El w0 wx m v) {Z n s : Nat} {B : Option Addr} {cb : Nat} {xs : List Value} (ho : wx.ownsRow Z 37 s (.slice B n cb) n xs) (t : Turn (fun i => ablk B = some i) wx w2) : El w0 w2 m v := by
  obtain ⟨A, c, h1, h2 | ⟨Z, h2⟩⟩ := h
  · exact ⟨A, c, h1, .inl h2⟩
  · exact ⟨A, c, h1, .inr ⟨Z, own_grown h2 t fun k hk e => own_typed h2 ho (by decide) (by rw [own_ablk]; exact e) hk⟩⟩
/-- A row of rows of pairs. -/
structure Mos (w0 wx : World) (M : List (List Pr)) (B : Option Addr) (c : Nat) : Prop where
  tu : Turn No w0 wx
  row : ∃ xs, wx.ownsRow w0.heap.size 37 1 (.slice B M.length c) M.length xs ∧ ∀ (i : Nat) (m : List Pr), M[i]? = some m → ∃ v, xs[i]? = some v ∧ El w0 wx m v
theorem Mos.no {w0 wx w2 : World} {M : List (List Pr)} {B : Option Addr} {c : Nat} (h : Mos w0 wx M B c) (t : Turn No wx w2) : Mos w0 w2 M B c := by
  obtain ⟨xs, h1, h2⟩ := h.row
  exact ⟨h.tu.trans t, xs, own_grown h1 t fun _ _ h => h, fun i m hm => by
    obtain ⟨v, h3, h4⟩ := h2 i m hm
    exact ⟨v, h3, h4.no t⟩⟩
theorem infoSP : (Tryd.prog.info? 37).map (fun i => (i.zero, i.size, i.bytes)) = some (some (.slice none 0 0), 1, 24) := by kernel_rfl
theorem Mos.append {w0 wx : World} {M : List (List Pr)} {B : Option Addr} {c : Nat} (h : Mos w0 wx M B c) (hl : M.length < 100000) {m : List Pr} {v : Value} (hv : El w0 wx m v) :
    ∃ B' c' w2, AppRun 42 42 (.slice B M.length c) (.slice (some ⟨wx.heap.size, 0, none⟩) 1 1) (.slice B' (M.length + 1) c') (wx.alloc (.cells #[v] 37)) w2 ∧ Mos w0 w2 (M ++ [m]) B' c' ∧ Turn (fun i => ablk B = some i) wx w2 ∧ El w0 w2 m v := by
  have tj : Turn No wx (wx.alloc (.cells #[v] 37)) := (Turn.refl _ _).alloc _
  have h2 := h.no tj
  have hn := At.new wx (.cells #[v] 37)
  have hrow := own_grown h.row.choose_spec.1 tj fun _ _ h => h
  have hel := h.row.choose_spec.2
  generalize h.row.choose = xs at hrow hel
  obtain ⟨B', c', w2, q, ho, ht, hB⟩ := app_gen Tryd.underlying42 infoSP rfl (by decide) (by decide) hrow ⟨wx.heap.size, 0, none⟩ 1 1 [v] rfl
    (fun j u hj => by rw [Addr.add_lit, Nat.zero_add, hn.cell]; simpa using hj) (by
      intro u hu
      simp at hu
      subst hu
      obtain ⟨A, c, rfl, _⟩ := hv
      rfl) (by omega) h2.tu.size 42
  have ht2 : Turn (fun i => ablk B = some i) (wx.alloc (.cells #[v] 37)) w2 := ht.mono fun k _ hk => by rw [own_ablk] at hk; exact hk
  refine ⟨B', c', w2, q, ⟨h2.tu.then ht2 fun i hi hb => ?_, xs ++ [v], by rw [List.length_append]; exact ho, fun i m' hm => ?_⟩, (tj.mono fun _ _ h => h.elim).trans ht2, (hv.no tj).past hrow ht2⟩
  · have := (own_at hrow hb).1
    omega
  · rcases Nat.lt_or_ge i M.length with h3 | h3
    · rw [List.getElem?_append_left h3] at hm
      obtain ⟨u, h4, h5⟩ := hel i m' hm
      refine ⟨u, ?_, (h5.no tj).past hrow ht2⟩
      rw [List.getElem?_append_left (List.getElem?_eq_some_iff.1 h4).1]
      exact h4
    · rw [List.getElem?_append_right h3] at hm
      have hi : i - M.length = 0 := by
        have := (List.getElem?_eq_some_iff.1 hm).1
        simp at this
        omega
      rw [hi] at hm
      simp at hm
      subst hm
      have hxl : xs.length = M.length := by have := hrow.1; omega
      refine ⟨v, ?_, (hv.no tj).past hrow ht2⟩
      rw [List.getElem?_append_right (by omega), hxl, hi]
      rfl
end Go.Proofs.YtfplnobnmgbgoaaDoor
namespace Go.Proofs.YtfplnobnmgbgoaaDoor
open Go.RowKit Go.Lib
set_option linter.unusedVariables false
set_option maxRecDepth 20000
set_option linter.unusedSimpArgs false

theorem Row.wx {w : World} {A : Option Addr} {ws : List Wx} (h : Row w A (xcs ws)) {j : Nat} {x : Wx} (hj : ws[j]? = some x) :
    ∃ b o, A = some ⟨b, o, none⟩ ∧ ∀ W, Turn No w W → W.cell? ⟨b, o + j * 3, none⟩ = some (.string x.k) ∧ W.cell? ⟨b, o + j * 3 + 1, none⟩ = some (.string x.v) ∧ W.cell? ⟨b, o + j * 3 + 2, none⟩ = some (.bool x.gone) := by
  have hat : ∀ i, i < 3 → (xcs ws)[j * 3 + i]? = x.cs[i]? := fun i hi => flat_at Wx.cs 3 (fun _ => rfl) ws j i x hj hi
  obtain ⟨b, o, hA, hb, _⟩ := h (j * 3 + 0) (.string x.k) (by rw [hat 0 (by decide)]; rfl)
  refine ⟨b, o, hA, fun W t => ?_⟩
  have hc : ∀ i u, i < 3 → x.cs[i]? = some u → W.cell? ⟨b, o + (j * 3 + i), none⟩ = some u := fun i u hi hu => by
    obtain ⟨b', o', hA', _, h1⟩ := (h.no t) (j * 3 + i) u (by rw [hat i hi]; exact hu)
    rw [hA] at hA'
    injection hA' with hA'
    injection hA' with e1 e2
    subst e1 e2
    exact h1
  exact ⟨hc 0 _ (by decide) rfl, hc 1 _ (by decide) rfl, hc 2 _ (by decide) rfl⟩
set_option maxRecDepth 100000 in
set_option maxHeartbeats 8000000 in
theorem moments_any (l : List Pr) (ws : List Wx) (A0 : Option Addr) (c0 : Nat) (WA : Option Addr) (wc : Nat) (w : World) (ha : Asc l) (hR : Row w A0 (pcs l)) (hf : ∀ p ∈ l, Fit p.k) (hw : ∀ x ∈ ws, Fit x.k) (hW : Row w WA (xcs ws)) (hn : l.length ≤ 50000) (hm : ws.length ≤ 40000) :
    Calls Tryd.prog 13 #[.slice A0 l.length c0, .slice WA ws.length wc] w fun e w' => ∃ B c, e = .returned (.slice B (ws.length + 1) c) ∧ Mos w w' (moms l ws (ws.length + 1)) B c := by
  have hn9 : moms l ws 1 = [l] := rfl
  have tj : Turn No w (w.alloc (.cells #[.slice A0 l.length c0] 37)) := (Turn.refl _ _).alloc _
  have H0 : Hid (Mos w (w.alloc (.cells #[.slice A0 l.length c0] 37)) (moms l ws 1) (some ⟨w.heap.size, 0, none⟩) 1) := Lib.hid (by
    have o := World.ownsRow_lit (base := w.heap.size) (e := 37) (size := 1) w #[.slice A0 l.length c0] 1 (Nat.le_refl _) (by decide) (by rfl)
    refine ⟨tj, [.slice A0 l.length c0], o, fun i m hi => ?_⟩
    rw [hn9] at hi
    have : i = 0 := by
      have := (List.getElem?_eq_some_iff.1 hi).1
      simp at this
      omega
    subst this
    simp at hi
    subst hi
    exact ⟨_, rfl, A0, c0, rfl, .inl hR⟩)
  have HL := Lib.hid (And.intro ha (And.intro hf (And.intro hw (And.intro hW (And.intro hn hm)))))
  have HE : Hid (El w (w.alloc (.cells #[.slice A0 l.length c0] 37)) (cur l ws 0) (.slice A0 (cur l ws 0).length c0)) := Lib.hid ⟨A0, c0, rfl, .inl hR⟩
  have hcl : (cur l ws 0).length = l.length := rfl
  clear ha hf hw hW hR hn9 tj
  go_enter Tryd.func13, Tryd.ntmps13
  go_upto_region 2 with fail
  generalize w.alloc (.cells #[.slice A0 l.length c0] 37) = w1 at H0 HE ⊢
  go_wp2_with fail
  go_loopw [0, 5, 6] (fun x y z wr => ∃ (i : Nat) (A : Option Addr) (c : Nat) (B : Option Addr) (cb : Nat), i ≤ ws.length ∧ x = .slice A (cur l ws i).length c ∧ y = .slice B (i + 1) cb ∧ z = .int .i64 (i : Int) ∧ Hid (Mos w wr (moms l ws (i + 1)) B cb ∧ El w wr (cur l ws i) (.slice A (cur l ws i).length c))) (fun x y z _ => ws.length - (RowKit.intOf z).toNat)
  case atStart => exact ⟨0, A0, c0, some ⟨w.heap.size, 0, none⟩, 1, Nat.zero_le _, rfl, rfl, rfl, Lib.hid ⟨H0.out, HE.out⟩⟩
  case round =>
    obtain ⟨i, A, c, B, cb, hi, rfl, rfl, rfl, HP⟩ := hrel
    by_cases hlt : i < ws.length
    · obtain ⟨x, hx⟩ : ∃ t, ws[i]? = some t := ⟨ws[i], List.getElem?_eq_getElem hlt⟩
      obtain ⟨b, o, hB, hc⟩ := HL.out.2.2.2.1.wx hx
      have HN : Hid (cur l ws (i + 1) = wrD (cur l ws i) x.k x.v x.gone) := Lib.hid (cur_succ hx)
      obtain ⟨A', c', hAc, hrow⟩ := HP.out.2.row HP.out.1.tu
      injection hAc with e1 e2 e3
      subst e1 e3
      have hlen := cur_length l ws i
      have CD := Lib.hid (rdone_any (cur l ws i) x.k x.v x.gone A c wr (cur_asc HL.out.1 ws i) hrow (cur_fit HL.out.2.1 HL.out.2.2.1 i) (HL.out.2.2.1 x (List.mem_of_getElem? hx)) (by have := HL.out.2.2.2.2.1; have := HL.out.2.2.2.2.2; omega))
      obtain ⟨y0, y1, y2⟩ := hc wr HP.out.1.tu
      obtain ⟨xk, xv, xg⟩ := x
      simp only at y0 y1 y2 HN CD
      subst hB
      obtain ⟨m, hm9⟩ : ∃ m, cur l ws i = m := ⟨_, rfl⟩
      obtain ⟨m2, hm2⟩ : ∃ m', wrD m xk xv xg = m' := ⟨_, rfl⟩
      rw [hm9] at CD HN HP hlen
      rw [hm9]
      rw [hm2] at CD HN
      have HLE := Lib.hid hlen
      clear hx hc hrow hm9 hm2 hlen
      have hq1 : (0 : Int) ≤ (i : Int) := by omega
      have hq2 : (i : Int) < (ws.length : Int) := by omega
      go_upto_region 6 with (go_at_call 10; (with_reducible refine CD.out.mono ?_); rintro e w2 ⟨B2, c2, rfl, hp⟩; have HD := Lib.hid hp; clear hp)
      clear y0 y1 y2 CD
      have hmo := HP.out.1.no HD.out.tu
      obtain ⟨B3, c3, w3, q, hq, _, hel⟩ := hmo.append (by rw [moms_length]; have := HL.out.2.2.2.2.2; omega) (m := m2) (v := .slice B2 m2.length c2) ⟨B2, c2, rfl, .inr ⟨_, HD.out.row⟩⟩
      rw [moms_length] at q
      have HQ : Hid (Mos w w3 (moms l ws (i + 1 + 1)) B3 c3 ∧ El w w3 (cur l ws (i + 1)) (.slice B2 (cur l ws (i + 1)).length c2)) := Lib.hid (by
        rw [moms_succ l ws (i + 1), HN.out]
        exact ⟨hq, hel⟩)
      clear hmo hq hel
      go_wp2_with (at_builtin; refine wpList_append_run rfl _ _ 42 rfl _ _ _ rfl rfl q ?_)
      exact ⟨⟨i + 1, B2, c2, B3, c3, by omega, by rw [HN.out], by trivial, by go_num, HQ⟩, by simp [RowKit.intOf]; omega⟩
    · obtain rfl : i = ws.length := by omega
      have hq2 : ¬ (ws.length : Int) < (ws.length : Int) := by omega
      go_wp2_with fail
      go_ret
      exact ⟨B, cb, rfl, HP.out.1⟩
end Go.Proofs.YtfplnobnmgbgoaaDoor
