/-
  A tree with its pool, as the laws have it: Put where there are slots enough, Delete, what is read; one that is new.
  awake.
  Rows of acts as plain data; what they leave.
  made.
  The laws' Great.
  What was put and deleted, put anew from the greatest key on.
  pairs.
  A reader of a tree that nobody writes.
-/
import Derived.Test.YtfplnobnmgbgoaaDoorJ15
import Derived.Test.YtfplnobnmgbgoaaDoorJ17
import Derived.Laws.IdiomStrings
namespace Go.Proofs.YtfplnobnmgbgoaaDoor
open Go.RowKit Go.Lib
set_option linter.unusedVariables false
set_option maxRecDepth 20000
set_option linter.unusedSimpArgs false


theorem two_pow_ge : ∀ n : Nat, n + 1 ≤ 2 ^ n
  | 0 => Nat.le_refl _
  | n + 1 => by have := two_pow_ge n; rw [Nat.pow_succ]; omega
/-- A tree with its pool, as a law has it: its levels; how many slots the tree's and the free ones are. -/
def Tq (w : World) (I : Ids) (T : List Lvl) (m : Nat) : Prop := ∃ N root G fr, Tm w I N T.flatten root G fr ∧ Good T root ∧ cnt fr G.length + T.flatten.length = m ∧ G.length = m
section
variable {w w' : World} {I : Ids} {T : List Lvl} {m : Nat}
theorem Tq.no (h : Tq w I T m) (t : Turn No w w') : Tq w' I T m := by
  obtain ⟨N, root, G, fr, h1, h2, h3⟩ := h
  exact ⟨N, root, G, fr, h1.no t, h2, h3⟩
theorem Tq.lt (h : Tq w I T m) : I.pb < w.heap.size ∧ I.tb < w.heap.size := by
  obtain ⟨N, root, G, fr, h1, h2, h3⟩ := h
  exact ⟨h1.p.lt.1, At.lt h1.t⟩
theorem Tq.tr (h : Tq w I T m) : ∃ N root, Tr w I N T root ∧ T.flatten.length ≤ 4096 := by
  obtain ⟨N, root, G, fr, h1, h2, h3⟩ := h
  exact ⟨N, root, h1.tr h2, h1.len⟩
theorem Good.asc {root : Hn} (g : Good T root) : Asc (flatT T) := ch_asc g.leaves.1
theorem Tq.asc (h : Tq w I T m) : Asc (flatT T) := by
  obtain ⟨N, root, G, fr, h1, h2, h3⟩ := h
  exact h2.asc
theorem good_size {root : Hn} (g : Good T root) : T.flatten.length + 1 ≤ 2 * (leaves T).length ∧ T.length ≤ (leaves T).length ∧ 2 ^ (T.length - 1) ≤ (leaves T).length := by
  obtain ⟨n, R, e⟩ := g.rt
  have ht := g.tw
  have hf := g.fl
  subst e
  obtain ⟨h1, h2⟩ := tower_size ht hf
  have h3 := two_pow_ge R.length
  simp only [List.length_cons, List.length_nil, Nat.zero_add, Nat.one_mul] at h1 h2 ⊢
  refine ⟨h1, by omega, ?_⟩
  rw [Nat.add_sub_cancel]
  exact h2
/-- What a Put into a tree comes to, where slots enough are free. -/
structure PutS (I : Ids) (T : List Lvl) (m : Nat) (F' : List Pr) (w w' : World) : Prop where
  r : ∃ T', Tq w' I T' m ∧ flatT T' = F' ∧ Tn I w w' ∧ (leaves T').length ≤ (leaves T).length + 1 ∧ (MinL T → MinL T') ∧ (∀ f q, VisT T f q → VisT T' f q)
theorem tq_put (h : Tq w I T m) (key val : ByteArray) (fk : Fit key) (fv : Fit val) (hs : 3 * (leaves T).length + 1 ≤ m) :
    Calls Tryd.prog 18 #[.pointer (some ⟨I.tb, 0, none⟩), .string key, .string val] w fun e w' => e = .returned (.tuple #[.string ((getL (flatT T) key).getD ⟨#[]⟩), .bool (getL (flatT T) key).isSome, .int .i64 0]) ∧ PutS I T m (putL (flatT T) key val) w w' := by
  obtain ⟨N, root, G, fr, h1, h2, h3⟩ := h
  obtain ⟨z1, z2, _⟩ := (good_size h2)
  refine (bput_any h1 h2 key val fk fv).mono ?_
  rintro e w' (⟨e1, ⟨N', T', root', fr', k1, k2, k3, k4, k5, k6, k7, k8, k9⟩⟩ | ⟨e1, e2, e3, e4⟩)
  · exact ⟨e1, ⟨T', ⟨N', root', G, fr', k1, k2, k8.trans h3.1, h3.2⟩, k4, k3, k6, k7, k5⟩⟩
  · exfalso
    omega
/-- What a Delete comes to. -/
structure DelS (I : Ids) (T : List Lvl) (m : Nat) (key : ByteArray) (w w' : World) : Prop where
  r : ∃ T', Tq w' I T' m ∧ flatT T' = delL (flatT T) key ∧ Tn I w w' ∧ (leaves T').length = (leaves T).length ∧ (getL (flatT T) key = none → MinL T → MinL T') ∧ (∀ f q, VisT T f q → VisT T' f q)
theorem tq_del (h : Tq w I T m) (key : ByteArray) (fk : Fit key) :
    Calls Tryd.prog 19 #[.pointer (some ⟨I.tb, 0, none⟩), .string key] w fun e w' => e = .returned (.tuple #[.string ((getL (flatT T) key).getD ⟨#[]⟩), .bool (getL (flatT T) key).isSome]) ∧ DelS I T m key w w' := by
  obtain ⟨N, root, G, fr, h1, h2, h3⟩ := h
  refine (bdel_any h1 h2 key fk).mono ?_
  rintro e w' ⟨e1, ⟨N', T', k1, k2, k3, k4, k5, k6, k7, k8⟩⟩
  exact ⟨e1, ⟨T', ⟨N', root, G, fr, k1, k2, by rw [k8]; exact h3.1, h3.2⟩, k4, k3, k6, k7, k5⟩⟩
theorem tq_get (h : Tq w I T m) (key : ByteArray) (fk : Fit key) :
    Calls Tryd.prog 11 #[.pointer (some ⟨I.tb, 0, none⟩), .string key, .nilFunc] w fun e w' => e = .returned (.tuple #[.string ((getL (flatT T) key).getD ⟨#[]⟩), .bool (getL (flatT T) key).isSome, .bool false]) ∧ Turn No w w' := by
  obtain ⟨N, root, h1, h2⟩ := h.tr
  exact bget_nil h1 h2 key fk
theorem tq_next (h : Tq w I T m) (key : ByteArray) (aft : Bool) (hk : key.size ≤ 1000000) :
    Calls Tryd.prog 14 #[.pointer (some ⟨I.tb, 0, none⟩), .string key, .bool aft, .nilFunc] w fun e w' => e = .returned (nx4 (nxR (flatT T) key aft)) ∧ Turn No w w' := by
  obtain ⟨N, root, h1, h2⟩ := h.tr
  exact bnext_nil h1 h2 key aft hk
theorem tq_len (h : Tq w I T m) : Calls Tryd.prog 22 #[.pointer (some ⟨I.tb, 0, none⟩)] w fun e w' => e = .returned (.int .i64 (((flatT T).length : Nat) : Int)) ∧ Turn No w w' := by
  obtain ⟨N, root, h1, h2⟩ := h.tr
  exact len_any h1 h2
theorem tq_slots (h : Tq w I T m) : Calls Tryd.prog 23 #[.pointer (some ⟨I.tb, 0, none⟩)] w fun e w' => e = .returned (.int .i64 ((T.flatten.length : Nat) : Int)) ∧ Turn No w w' := by
  obtain ⟨N, root, h1, h2⟩ := h.tr
  exact slots_any h1
theorem tq_check (h : Tq w I T m) : Calls Tryd.prog 16 #[.pointer (some ⟨I.tb, 0, none⟩)] w fun e w' => e = .returned (.bool true) ∧ Turn No w w' := by
  obtain ⟨N, root, h1, h2⟩ := h.tr
  exact check_any h1 h2
theorem tq_all (h : Tq w I T m) : Calls Tryd.prog 26 #[.pointer (some ⟨I.tb, 0, none⟩)] w fun e w' => ∃ B c, e = .returned (.slice B (flatT T).length c) ∧ Prw w w' (flatT T) B c := by
  obtain ⟨N, root, h1, h2⟩ := h.tr
  exact all_any h1 h2
end
theorem tq_live {w : World} {I : Ids} {T : List Lvl} {m : Nat} (h : Tq w I T m) : Calls Tryd.prog 24 #[.pointer (some ⟨I.pb, 0, none⟩)] w fun e w' => e = .returned (.int .i64 ((T.flatten.length : Nat) : Int)) ∧ Turn No w w' := by
  obtain ⟨N, root, G, fr, h1, h2, h3, h4⟩ := h
  refine (live_any h1.p).mono ?_
  rintro e w' ⟨rfl, n, rfl⟩
  refine ⟨?_, (Turn.refl No w).drewN n⟩
  congr 2
  omega
/-- A tree whose blocks, and whose pool's, are all new since. -/
structure Fr (w : World) (I : Ids) : Prop where
  t : w.heap.size ≤ I.tb
  a : w.heap.size ≤ I.ab
  m : w.heap.size ≤ I.mb
  p : w.heap.size ≤ I.pb
  g : w.heap.size ≤ I.gb
  f : w.heap.size ≤ I.fb
  z : w.heap.size ≤ I.Z
theorem Fr.turn {w w1 w2 : World} {I : Ids} (h : Fr w I) (t : Turn No w w1) (k : Tn I w1 w2) : Turn No w w2 := t.then k fun i hi hx => by
  rcases hx with e | e | e | e | ⟨e, _⟩
  · have := h.m; omega
  · have := h.t; omega
  · have := h.g; omega
  · have := h.f; omega
  · have := h.z; omega
/-- New, of a new pool. -/
theorem tq_new {w w1 : World} {pb gb fb n : Nat} (hn : 1 ≤ n) (hP : Pool w1 pb gb fb (List.replicate n 1) (fun x => decide (x < n))) (hT : Tab w1) (t : Turn No w w1) (l1 : w.heap.size ≤ pb) (l2 : w.heap.size ≤ gb) (l3 : w.heap.size ≤ fb) :
    Calls Tryd.prog 8 #[.pointer (some ⟨pb, 0, none⟩)] w1 fun e w' => ∃ I T, e = .returned (.tuple #[.pointer (some ⟨I.tb, 0, none⟩), .int .i64 0]) ∧ I.pb = pb ∧ Fr w I ∧ Tq w' I T n ∧ flatT T = [] ∧ (leaves T).length = 1 ∧ Turn No w w' := by
  have hc : cnt (fun x => decide (x < n)) n = n := by
    have h : ∀ k, k ≤ n → cnt (fun x => decide (x < n)) k = k := by
      intro k
      induction k with
      | zero => intro _; rfl
      | succ k ih => intro hk; have := ih (by omega); unfold cnt; rw [this]; simp; omega
    exact h n (Nat.le_refl _)
  refine (bnew_any hP hT (by rw [List.length_replicate, hc]; exact hn) fun x hx => ?_).mono ?_
  · have hx : x < n := by simpa using hx
    rw [List.getD_eq_getElem?_getD, List.getElem?_replicate, if_pos hx]
    exact Nat.le_refl _
  rintro e w' ⟨I, N, root, s, rfl, k1, k2, k3, k4, k5, k6, k7, k8, k9, k10, k11⟩
  have hz := t.size
  refine ⟨I, [[(root, nd1)]], rfl, k1, ⟨by omega, by omega, by omega, by omega, by omega, by omega, by omega⟩, ⟨N, root, _, _, k8, good1 root, ?_, List.length_replicate⟩, rfl, rfl, t.then k11 fun i hi hx => by have : i = fb := hx; omega⟩
  have h2 := cnt_out (fun x => decide (x < n)) s k9 (List.replicate n 1).length k10
  rw [List.length_replicate] at h2 ⊢
  show cnt (fun y => decide (y < n) && y != s) n + 1 = n
  omega
end Go.Proofs.YtfplnobnmgbgoaaDoor
namespace Go.Proofs.YtfplnobnmgbgoaaDoor
open Go.RowKit Go.Lib
set_option linter.unusedVariables false
set_option maxRecDepth 20000
set_option linter.unusedSimpArgs false


theorem leaves_two : ∀ {l : Lvl}, (∀ x ∈ l, 2 ≤ x.2.keys.length) → (∀ x ∈ l, x.2.leaf = true ∧ NdRight x.2) → 2 * l.length ≤ (flat (l.map Prod.snd)).length
  | [], _, _ => by simp
  | x :: l, h, hr => by
    have ih := leaves_two (fun y hy => h y (List.mem_cons_of_mem _ hy)) (fun y hy => hr y (List.mem_cons_of_mem _ hy))
    have h1 := h x (List.mem_cons_self ..)
    obtain ⟨h2, h3⟩ := hr x (List.mem_cons_self ..)
    have h4 : (prs x.2).length = x.2.keys.length := by
      have := (h3.2.2.2.1 h2).1
      unfold prs
      rw [zipP_length]
      omega
    rw [List.map_cons, flat_cons, List.length_append, List.length_cons]
    omega
theorem leaves_four : ∀ {l : Lvl}, (∀ x ∈ l, x.2.keys.length ≤ 4) → (flat (l.map Prod.snd)).length ≤ 4 * l.length
  | [], _ => by simp [flat]
  | x :: l, h => by
    have ih := leaves_four (fun y hy => h y (List.mem_cons_of_mem _ hy))
    have h1 := h x (List.mem_cons_self ..)
    have h4 : (prs x.2).length ≤ x.2.keys.length := by
      unfold prs
      rw [zipP_length]
      omega
    rw [List.map_cons, flat_cons, List.length_append, List.length_cons]
    omega
section
variable {T : List Lvl} {root : Hn}
theorem good_mem_leaves (g : Good T root) : leaves T ∈ T := by
  obtain ⟨n, R, e⟩ := g.rt
  unfold leaves
  rw [List.getLastD_eq_getLast?]
  cases h : T.getLast? with
  | none => rw [List.getLast?_eq_none_iff] at h; rw [h] at e; cases e
  | some l => exact List.mem_of_getLast? h
theorem good_few (g : Good T root) (hm : MinL T) : (leaves T).length = 1 ∨ 2 * (leaves T).length ≤ (flatT T).length := by
  rcases hm with h | h
  · exact .inl h
  · refine .inr (leaves_two h fun x hx => ch_leaf g.leaves.1 x.2 (List.mem_map.2 ⟨x, hx, rfl⟩))
theorem good_many (g : Good T root) : (flatT T).length ≤ 4 * T.flatten.length := by
  have h1 := leaves_four (fun x hx => g.sl _ (good_mem_leaves g) x hx)
  have h2 := leaves_len (T := T)
  unfold flatT
  omega
end
theorem Tq.few {w : World} {I : Ids} {T : List Lvl} {m : Nat} (h : Tq w I T m) (hm : MinL T) : (leaves T).length = 1 ∨ 2 * (leaves T).length ≤ (flatT T).length := by
  obtain ⟨N, root, G, fr, h1, h2, h3⟩ := h
  exact good_few h2 hm
theorem Tq.many {w : World} {I : Ids} {T : List Lvl} {m : Nat} (h : Tq w I T m) : (flatT T).length ≤ 4 * T.flatten.length := by
  obtain ⟨N, root, G, fr, h1, h2, h3⟩ := h
  exact good_many h2
/-- The keys that awake puts. -/
def ky : Nat → ByteArray
  | 0 => ⟨#[97]⟩
  | 1 => ⟨#[98]⟩
  | 2 => ⟨#[99]⟩
  | 3 => ⟨#[100]⟩
  | 4 => ⟨#[101]⟩
  | _ => ⟨#[102]⟩
def kws (i : Nat) : List Pr := (List.range i).map fun j => ⟨ky j, ⟨#[118]⟩⟩
theorem kws_none : ∀ i, i < 6 → getL (kws i) (ky i) = none := by decide
instance : DecidableEq Pr := fun a b => if h : a.k = b.k ∧ a.v = b.v then .isTrue (by obtain ⟨x, y⟩ := a; obtain ⟨z, t⟩ := b; obtain ⟨h1, h2⟩ := h; simp only at h1 h2; rw [h1, h2]) else .isFalse fun e => h (by rw [e]; exact ⟨rfl, rfl⟩)
theorem kws_put : ∀ i, i < 6 → putL (kws i) (ky i) ⟨#[118]⟩ = kws (i + 1) := by decide
theorem kws_get : getL (kws 6) ⟨#[101]⟩ = some ⟨#[118]⟩ := by decide
theorem ky_conv (i : Nat) (hi : i < 6) (w : World) : (convert 23 9 (.slice (some ⟨w.heap.size, 0, none⟩) 1 1)).run Tryd.prog (w.alloc (.cells #[.int .u8 (97 + (i : Int))] 5)) = .ok (.string (ky i)) (w.alloc (.cells #[.int .u8 (97 + (i : Int))] 5)) := by
  have hat := At.new w (.cells #[.int .u8 (97 + (i : Int))] 5)
  have hb : ∃ b : UInt8, ky i = ⟨#[b]⟩ ∧ (b.toNat : Int) = 97 + (i : Int) := by
    match i, hi with
    | 0, _ => exact ⟨97, rfl, by decide⟩
    | 1, _ => exact ⟨98, rfl, by decide⟩
    | 2, _ => exact ⟨99, rfl, by decide⟩
    | 3, _ => exact ⟨100, rfl, by decide⟩
    | 4, _ => exact ⟨101, rfl, by decide⟩
    | 5, _ => exact ⟨102, rfl, by decide⟩
  obtain ⟨b, e1, e2⟩ := hb
  rw [e1]
  refine run_convert_bytes_back (w.alloc (.cells #[.int .u8 (97 + (i : Int))] 5)) 23 9 5 ⟨w.heap.size, 0, none⟩ 1 [b] Tryd.underlying23 Tryd.underlying5 Tryd.underlying9 fun j hj => ?_
  have hj : j = 0 := by simp at hj; exact hj
  subst hj
  rw [Addr.add_lit, hat.cell]
  simp [e2]
set_option maxRecDepth 100000 in
set_option maxHeartbeats 8000000 in
/-- awake. -/
theorem awake_any (w : World) (hT : Tab w) :
    Calls Tryd.prog 6 #[] w fun e w' => e = .returned (.bool true) ∧ Turn No w w' := by
  have NP := Lib.hid (newPool_any 9 w (by omega) (by omega))
  have HR := Lib.hid hT
  clear hT
  go_enter Tryd.func6, Tryd.ntmps6
  go_wp2_with (first
    | (go_at_call 7; go_loud (refine NP.out.mono ?_); rintro e w1 ⟨pb, gb, fb, rfl, hP, ht, l1, l2, l3⟩; have CN := Lib.hid (tq_new (n := 9) (by decide) hP (HR.out.turn ht (fun h => h) HR.out.pos) ht l1 l2 l3); clear hP ht l1 l2 l3)
    | (go_at_call 8; (with_reducible refine CN.out.mono ?_); rintro e w2 ⟨I, T0, rfl, rfl, k2, k3, k4, k5, k6⟩; have H2 := Lib.hid (And.intro k2 (And.intro k3 (And.intro k4 (And.intro k5 k6)))); clear k2 k3 k4 k5 k6))
  go_loopw [5] (fun x wr => ∃ (i : Nat) (T : List Lvl), i ≤ 6 ∧ x = .int .i64 (i : Int) ∧ Hid (Tq wr I T 9 ∧ flatT T = kws i ∧ MinL T ∧ Turn No w wr)) (fun x _ => 6 - (RowKit.intOf x).toNat)
  case atStart => exact ⟨0, T0, Nat.zero_le _, rfl, Lib.hid ⟨H2.out.2.1, H2.out.2.2.1, .inl H2.out.2.2.2.1, H2.out.2.2.2.2⟩⟩
  case round =>
    obtain ⟨i, T, hi, rfl, HI⟩ := hrel
    by_cases hlt : i < 6
    · have q2 : (i : Int) < 6 := by omega
      have HP := Lib.hid fun W (t : Turn No wr W) => tq_put (HI.out.1.no t) (ky i) ⟨#[118]⟩ (by unfold Fit ky; split <;> decide) (by unfold Fit; decide) (by
        have h1 := HI.out.1.few HI.out.2.2.1
        rw [HI.out.2.1] at h1
        simp [kws] at h1
        omega)
      have HN : Hid (∀ W w', Turn No wr W → PutS I T 9 (putL (flatT T) (ky i) ⟨#[118]⟩) W w' → ∃ T', Tq w' I T' 9 ∧ flatT T' = kws (i + 1) ∧ MinL T' ∧ Turn No w w') := Lib.hid fun W w' t ⟨⟨T', k1, k2, k3, k4, k5, _⟩⟩ => ⟨T', k1, by rw [k2, HI.out.2.1, kws_put i hlt], k5 HI.out.2.2.1, H2.out.1.turn (HI.out.2.2.2.trans t) k3⟩
      have HZ : Hid (getL (flatT T) (ky i) = none) := Lib.hid (by rw [HI.out.2.1, kws_none i hlt])
      rw [HZ.out] at HP
      simp only [Option.getD, Option.isSome] at HP
      have HJ : Hid (i + 1 ≤ 6) := Lib.hid hlt
      have HJw : Hid (Value.int .i64 (wrap64 ((i : Int) + 1)) = Value.int .i64 ((i + 1 : Nat) : Int)) := Lib.hid (by rw [show wrap64 ((i : Int) + 1) = ((i + 1 : Nat) : Int) by simp only [wrap64]; omega])
      have HJm : Hid (6 - (RowKit.intOf (.int .i64 ((i + 1 : Nat) : Int))).toNat < 6 - (RowKit.intOf (.int .i64 (i : Int))).toNat) := Lib.hid (by simp [RowKit.intOf]; omega)
      have hb : (i : Int) < 6 := q2
      have hb0 : (0 : Int) ≤ (i : Int) := by omega
      have hw8 : IntKind.u8.wrap (wrap64 (97 + (i : Int))) = ((97 + i : Nat) : Int) := by simp only [wrap64, IntKind.wrap_u8]; omega
      have cv := ky_conv i hlt wr
      clear hw8
      go_wp2_with (go_at_call 18; (with_reducible refine (HP.out _ ((Turn.refl No _).alloc _)).mono ?_); rintro e w5 ⟨rfl, h5⟩; have H5 := Lib.hid (HN.out _ _ ((Turn.refl No _).alloc _) h5); clear h5)
      obtain ⟨T', h5⟩ := H5.out
      rw [show (i : Int) + 1 = ((i + 1 : Nat) : Int) by omega]
      exact ⟨⟨i + 1, T', HJ.out, rfl, Lib.hid h5⟩, HJm.out⟩
    · obtain rfl : i = 6 := by omega
      have HG := Lib.hid (tq_get HI.out.1 ⟨#[101]⟩ (by unfold Fit; decide))
      rw [HI.out.2.1, kws_get] at HG
      have HL := Lib.hid fun W (t : Turn No wr W) => tq_len (HI.out.1.no t)
      have HS := Lib.hid fun W (t : Turn No wr W) => tq_slots (HI.out.1.no t)
      have HC := Lib.hid fun W (t : Turn No wr W) => tq_check (HI.out.1.no t)
      rw [HI.out.2.1] at HL
      obtain ⟨n, hn⟩ : ∃ n, T.flatten.length = n := ⟨_, rfl⟩
      have hn1 : 1 < n := by
        have := HI.out.1.many
        rw [HI.out.2.1, hn] at this
        simp [kws] at this
        omega
      rw [hn] at HS
      have q3 : (1 : Int) < (n : Int) := by omega
      clear hn
      simp only [Option.getD, Option.isSome] at HG
      rw [show (kws 6).length = 6 from rfl] at HL
      go_wp2_with (first
        | (go_at_call 11; (with_reducible refine HG.out.mono ?_); rintro e w5 ⟨rfl, h5⟩; replace h5 := Lib.hid h5)
        | (go_at_call 22; (with_reducible refine (HL.out _ h5.out).mono ?_); rintro e w6 ⟨rfl, h6⟩; replace h6 := Lib.hid (h5.out.trans h6))
        | (go_at_call 23; (with_reducible refine (HS.out _ h6.out).mono ?_); rintro e w7 ⟨rfl, h7⟩; replace h7 := Lib.hid (h6.out.trans h7))
        | (go_at_call 16; (with_reducible refine (HC.out _ h7.out).mono ?_); rintro e w8 ⟨rfl, h8⟩; replace h8 := Lib.hid (h7.out.trans h8)))
      go_ret
      exact ⟨rfl, HI.out.2.2.2.trans h8.out⟩
end Go.Proofs.YtfplnobnmgbgoaaDoor
namespace Go.Proofs.YtfplnobnmgbgoaaDoor
open Go.RowKit Go.Lib
set_option linter.unusedVariables false
set_option maxRecDepth 20000
set_option linter.unusedSimpArgs false


/-- An act: what is done, its key, its value, and whether Next goes behind the key. -/
structure Ac where
  (d : Int)
  (k v : ByteArray)
  (aft : Bool)
def Ac.cs (a : Ac) : List Value := [.int .i64 a.d, .string a.k, .string a.v, .bool a.aft]
def acs (L : List Ac) : List Value := L.flatMap Ac.cs
theorem acs_length (L : List Ac) : (acs L).length = L.length * 4 := flat_length Ac.cs 4 (fun _ => rfl) L
theorem acs_append (L M : List Ac) : acs (L ++ M) = acs L ++ acs M := by unfold acs; rw [List.flatMap_append]
/-- The cells of an act in a row that is read. -/
structure ActAt (w : World) (b o : Nat) (a : Ac) : Prop where
  c0 : w.cell? ⟨b, o, none⟩ = some (.int .i64 a.d)
  c1 : w.cell? ⟨b, o + 1, none⟩ = some (.string a.k)
  c2 : w.cell? ⟨b, o + 2, none⟩ = some (.string a.v)
  c3 : w.cell? ⟨b, o + 3, none⟩ = some (.bool a.aft)
  lt : b < w.heap.size
theorem acs_get {w : World} {A : Option Addr} {L : List Ac} (h : Row w A (acs L)) {j : Nat} {a : Ac} (hj : L[j]? = some a) : ∃ b o, A = some ⟨b, o, none⟩ ∧ ActAt w b (o + j * 4) a := by
  have hc : ∀ i, i < 4 → (acs L)[j * 4 + i]? = a.cs[i]? := fun i hi => flat_at Ac.cs 4 (fun _ => rfl) L j i a hj hi
  obtain ⟨b, o, hA, hb, h0⟩ := h (j * 4 + 0) (.int .i64 a.d) (hc 0 (by decide))
  obtain ⟨b1, o1, hA1, _, h1⟩ := h (j * 4 + 1) (.string a.k) (hc 1 (by decide))
  obtain ⟨b2, o2, hA2, _, h2⟩ := h (j * 4 + 2) (.string a.v) (hc 2 (by decide))
  obtain ⟨b3, o3, hA3, _, h3⟩ := h (j * 4 + 3) (.bool a.aft) (hc 3 (by decide))
  rw [hA] at hA1 hA2 hA3
  injection hA1 with hA1
  injection hA1 with e1 e2
  injection hA2 with hA2
  injection hA2 with e3 e4
  injection hA3 with hA3
  injection hA3 with e5 e6
  subst e1 e2 e3 e4 e5 e6
  exact ⟨b, o, hA, ⟨h0, h1, h2, h3, hb⟩⟩
/-- What an act of putting or deleting leaves. -/
def doA (F : List Pr) (a : Ac) : List Pr := if a.d = 0 then putL F a.k a.v else if a.d = 1 then delL F a.k else F
def doneL (L : List Ac) : List Pr := L.foldl doA []
theorem doneL_take {L : List Ac} {i : Nat} {a : Ac} (h : L[i]? = some a) : doneL (L.take (i + 1)) = doA (doneL (L.take i)) a := by
  unfold doneL
  rw [List.take_add_one, h, List.foldl_append]
  rfl
/-- Small acts: what Great lets by. -/
structure Sm (L : List Ac) : Prop where
  n : L.length ≤ 300
  k : ∀ a ∈ L, a.k.size ≤ 40000 ∧ a.v.size ≤ 40000
theorem fit_of {a : ByteArray} (h : a.size ≤ 40000) : Fit a := by unfold Fit; omega
end Go.Proofs.YtfplnobnmgbgoaaDoor
namespace Go.Proofs.YtfplnobnmgbgoaaDoor
open Go.RowKit Go.Lib
set_option linter.unusedVariables false
set_option maxRecDepth 20000
set_option linter.unusedSimpArgs false


theorem ActAt.no {w w' : World} {b o : Nat} {a : Ac} (h : ActAt w b o a) (t : Turn No w w') : ActAt w' b o a := by
  have e : ∀ x, w'.cell? ⟨b, x, none⟩ = w.cell? ⟨b, x, none⟩ := fun x => World.cell?_of_block (w := w) (t.block b h.lt (fun h => h))
  exact ⟨(e _).trans h.c0, (e _).trans h.c1, (e _).trans h.c2, (e _).trans h.c3, Nat.lt_of_lt_of_le h.lt t.size⟩
theorem act_turn {w w' : World} {b o : Nat} {a : Ac} (h : ActAt w b o a) (t : Turn No w w') : w'.cell? ⟨b, o + 1, none⟩ = some (.string a.k) ∧ w'.cell? ⟨b, o + 2, none⟩ = some (.string a.v) :=
  ⟨(World.cell?_of_block (w := w) (t.block b h.lt (fun h => h))).trans h.c1, (World.cell?_of_block (w := w) (t.block b h.lt (fun h => h))).trans h.c2⟩
/-- What made comes to. -/
structure MadeS (L : List Ac) (w : World) (e : Ending) (w' : World) : Prop where
  r : ∃ I T, e = .returned (.tuple #[.pointer (some ⟨I.tb, 0, none⟩), .pointer (some ⟨I.pb, 0, none⟩), .bool true]) ∧ Tq w' I T 4096 ∧ flatT T = doneL L ∧ Turn No w w'
set_option maxRecDepth 100000 in
set_option maxHeartbeats 8000000 in
/-- made. -/
theorem made_any (L : List Ac) (A : Option Addr) (c : Nat) (w : World) (h : Row w A (acs L)) (hT : Tab w) (hs : Sm L) :
    Calls Tryd.prog 25 #[.slice A L.length c] w (MadeS L w) := by
  have NP := Lib.hid (newPool_any 4096 w (by omega) (by omega))
  have HR := Lib.hid (And.intro h (And.intro hT hs))
  clear h hT hs
  go_enter Tryd.func25, Tryd.ntmps25
  go_wp2_with (first
    | (go_at_call 7; go_loud (refine NP.out.mono ?_); rintro e w1 ⟨pb, gb, fb, rfl, hP, ht, l1, l2, l3⟩; have CN := Lib.hid (tq_new (n := 4096) (by decide) hP (HR.out.2.1.turn ht (fun h => h) HR.out.2.1.pos) ht l1 l2 l3); clear hP ht l1 l2 l3)
    | (go_at_call 8; (with_reducible refine CN.out.mono ?_); rintro e w2 ⟨I, T0, rfl, rfl, k2, k3, k4, k5, k6⟩; have H2 := Lib.hid (And.intro k2 (And.intro k3 (And.intro k4 (And.intro k5 k6)))); clear k2 k3 k4 k5 k6))
  go_loopw [8] (fun x wr => ∃ (i : Nat) (T : List Lvl), i ≤ L.length ∧ x = .int .i64 (i : Int) ∧ Hid (Tq wr I T 4096 ∧ flatT T = doneL (L.take i) ∧ (leaves T).length ≤ i + 1 ∧ Turn No w wr)) (fun x _ => L.length - (RowKit.intOf x).toNat)
  case atStart => exact ⟨0, T0, Nat.zero_le _, rfl, Lib.hid ⟨H2.out.2.1, by rw [H2.out.2.2.1]; rfl, by rw [H2.out.2.2.2.1]; exact Nat.le_refl _, H2.out.2.2.2.2⟩⟩
  case round =>
    obtain ⟨i, T, hi, rfl, HI⟩ := hrel
    have HL : Hid (L.length ≤ 300) := Lib.hid HR.out.2.2.n
    by_cases hlt : i < L.length
    · obtain ⟨a, ha⟩ : ∃ t, L[i]? = some t := ⟨L[i], List.getElem?_eq_getElem hlt⟩
      obtain ⟨b, o, hA, hc0⟩ := acs_get HR.out.1 ha
      have hc := hc0.no HI.out.2.2.2
      have HC := Lib.hid hc0
      clear hc0
      obtain ⟨c0, c1, c2, c3, lb⟩ := hc
      have hk := HR.out.2.2.k a (List.mem_of_getElem? ha)
      have HD := Lib.hid (doneL_take ha)
      have HP := Lib.hid fun W (t : Turn No wr W) => tq_put (HI.out.1.no t) a.k a.v (fit_of hk.1) (fit_of hk.2) (by have := HI.out.2.2.1; have := HL.out; omega)
      have HQ := Lib.hid fun W (t : Turn No wr W) => tq_del (HI.out.1.no t) a.k (fit_of hk.1)
      have HJw : Hid (Value.int .i64 (wrap64 ((i : Int) + 1)) = Value.int .i64 ((i + 1 : Nat) : Int)) := Lib.hid (by have h1 := HL.out; rw [show wrap64 ((i : Int) + 1) = ((i + 1 : Nat) : Int) by simp only [wrap64]; omega])
      have HJm : Hid (L.length - (RowKit.intOf (.int .i64 ((i + 1 : Nat) : Int))).toNat < L.length - (RowKit.intOf (.int .i64 (i : Int))).toNat) := Lib.hid (by simp [RowKit.intOf]; omega)
      have HJ : Hid (i + 1 ≤ L.length) := Lib.hid hlt
      subst hA
      have HS0 := Lib.hid fun W (t : Turn No w W) => (act_turn HC.out t)
      obtain ⟨d, k, v, aft⟩ := a
      have q1 : (0 : Int) ≤ (i : Int) := by omega
      have q2 : (i : Int) < (L.length : Int) := by omega
      simp only at c0 c1 c2 c3 HP HQ HD HS0
      clear HC
      clear hlt ha hk hi c3
      by_cases hd0 : d = 0
      · subst hd0
        have HN : Hid (∀ W w', Turn No wr W → PutS I T 4096 (putL (flatT T) k v) W w' → ∃ T', Tq w' I T' 4096 ∧ flatT T' = doneL (L.take (i + 1)) ∧ (leaves T').length ≤ i + 1 + 1 ∧ Turn No w w') := Lib.hid fun W w' t ⟨⟨T', k1, k2, k3, k4, _⟩⟩ => ⟨T', k1, by rw [HD.out, k2, HI.out.2.1]; rfl, by have := HI.out.2.2.1; omega, H2.out.1.turn (HI.out.2.2.2.trans t) k3⟩
        clear HD
        go_upto_region 12 with fail
        go_region_held3 (fun W => W.cell? ⟨b, o + i * 4 + 1, none⟩ = some (.string k) ∧ W.cell? ⟨b, o + i * 4 + 2, none⟩ = some (.string v)) (first | (exact HS0.out _ (by obtain ⟨T', h5⟩ := H5.out; exact h5.2.2.2)) | (exact HS0.out _ (HI.out.2.2.2.trans (by first | exact (Turn.refl No _).drew | exact (Turn.refl No _).drewN _ | exact Turn.refl No _)))) (first | (go_at_call 18; (with_reducible refine (HP.out _ (by first | exact (Turn.refl No _).drewN _ | exact (Turn.refl No _).drew | exact Turn.refl No _)).mono ?_); rintro e w5 ⟨rfl, h5⟩; have H5 := Lib.hid (HN.out _ _ (by first | exact (Turn.refl No _).drewN _ | exact (Turn.refl No _).drew | exact Turn.refl No _) h5); clear h5))
        all_goals go_wp2_with fail
        obtain ⟨T', h5⟩ := H5.out
        rw [HJw.out]
        exact ⟨⟨i + 1, T', HJ.out, rfl, Lib.hid h5⟩, HJm.out⟩
      · by_cases hd1 : d = 1
        · subst hd1
          have HN : Hid (∀ W w', Turn No wr W → DelS I T 4096 k W w' → ∃ T', Tq w' I T' 4096 ∧ flatT T' = doneL (L.take (i + 1)) ∧ (leaves T').length ≤ i + 1 + 1 ∧ Turn No w w') := Lib.hid fun W w' t ⟨⟨T', k1, k2, k3, k4, _⟩⟩ => ⟨T', k1, by rw [HD.out, k2, HI.out.2.1]; rfl, by have := HI.out.2.2.1; omega, H2.out.1.turn (HI.out.2.2.2.trans t) k3⟩
          clear HD hd0
          go_upto_region 14 with fail
          go_wp2_with (go_at_call 19; (with_reducible refine (HQ.out _ (by first | exact (Turn.refl No _).drewN _ | exact (Turn.refl No _).drew | exact Turn.refl No _)).mono ?_); rintro e w5 ⟨rfl, h5⟩; have H5 := Lib.hid (HN.out _ _ (by first | exact (Turn.refl No _).drewN _ | exact (Turn.refl No _).drew | exact Turn.refl No _) h5); clear h5)
          obtain ⟨T', h5⟩ := H5.out
          rw [HJw.out]
          exact ⟨⟨i + 1, T', HJ.out, rfl, Lib.hid h5⟩, HJm.out⟩
        · have HN : Hid (flatT T = doneL (L.take (i + 1)) ∧ (leaves T).length ≤ i + 1 + 1) := Lib.hid ⟨by rw [HD.out, HI.out.2.1]; unfold doA; rw [if_neg hd0, if_neg hd1], by have := HI.out.2.2.1; omega⟩
          clear HD
          go_wp2_with fail
          rw [HJw.out]
          exact ⟨⟨i + 1, T, HJ.out, rfl, Lib.hid ⟨HI.out.1.no (by first | exact (Turn.refl No _).drewN _ | exact (Turn.refl No _).drew | exact Turn.refl No _), HN.out.1, HN.out.2, HI.out.2.2.2.trans (by first | exact (Turn.refl No _).drewN _ | exact (Turn.refl No _).drew | exact Turn.refl No _)⟩⟩, HJm.out⟩
    · obtain rfl : i = L.length := by omega
      have q2 : ¬ (L.length : Int) < (L.length : Int) := by omega
      go_wp2_with fail
      go_ret3
      have := HI.out
      rw [List.take_length] at this
      exact ⟨⟨I, T, rfl, this.1, this.2.1, this.2.2.2⟩⟩
end Go.Proofs.YtfplnobnmgbgoaaDoor
namespace Go.Proofs.YtfplnobnmgbgoaaDoor
open Go.RowKit Go.Lib
set_option linter.unusedVariables false
set_option maxRecDepth 20000
set_option linter.unusedSimpArgs false


def mn (x : Nat) : Nat := min x 40001
theorem mn_int (x : Nat) : min (x : Int) 40001 = ((mn x : Nat) : Int) := by unfold mn; omega
theorem mn_le (x : Nat) : mn x ≤ 40001 := Nat.min_le_right _ _
theorem mn_sum (s x y : Nat) (h : s ≤ 24080602) : IntKind.i64.wrap (IntKind.i64.wrap ((s : Int) + min (x : Int) 40001) + min (y : Int) 40001) = ((s + mn x + mn y : Nat) : Int) := by
  have h1 := mn_le x
  have h2 := mn_le y
  rw [mn_int, mn_int]
  have e1 : IntKind.i64.wrap ((s : Int) + ((mn x : Nat) : Int)) = ((s + mn x : Nat) : Int) := by rw [show (s : Int) + ((mn x : Nat) : Int) = ((s + mn x : Nat) : Int) by omega]; exact IntWalk.i64_in _ ⟨by omega, by omega⟩
  rw [e1, show ((s + mn x : Nat) : Int) + ((mn y : Nat) : Int) = ((s + mn x + mn y : Nat) : Int) by omega]
  exact IntWalk.i64_in _ ⟨by omega, by omega⟩
/-- What Great comes to. -/
structure GreatS (L : List Ac) (w : World) (e : Ending) (w' : World) : Prop where
  r : ∃ b, e = .returned (.bool b) ∧ (b = false → Sm L) ∧ Turn No w w'
set_option maxRecDepth 100000 in
set_option maxHeartbeats 8000000 in
/-- Great: where it is false the acts are small. -/
theorem great_any (L : List Ac) (A : Option Addr) (c : Nat) (w : World) (h : Row w A (acs L)) (hn : L.length ≤ 9223372036854775807) (hf : ∀ a ∈ L, Fit a.k ∧ Fit a.v) :
    Calls Tryd.prog 17 #[.slice A L.length c] w (GreatS L w) := by
  have HR := Lib.hid h
  have HF := Lib.hid hf
  have HN := Lib.hid hn
  clear h hf hn
  go_enter Tryd.func17, Tryd.ntmps17
  go_wp2_with fail
  go_loopw [3, 4] (fun n x wr => ∃ (i s : Nat), i ≤ L.length ∧ i ≤ 301 ∧ x = .int .i64 (i : Int) ∧ n = .int .i64 (s : Int) ∧ Hid (s ≤ i * 80002 ∧ (∀ a ∈ L.take i, mn a.k.size + mn a.v.size ≤ s) ∧ Turn No w wr)) (fun n x _ => 302 - (RowKit.intOf x).toNat)
  case atStart => exact ⟨0, 0, Nat.zero_le _, Nat.zero_le _, rfl, rfl, Lib.hid ⟨Nat.zero_le _, by simp, Turn.refl _ _⟩⟩
  case round =>
    obtain ⟨i, s, hi, hi3, rfl, rfl, HI⟩ := hrel
    by_cases hlt : i < L.length
    · have q2 : (i : Int) < (L.length : Int) := by omega
      by_cases h3 : i ≤ 300
      · have q3 : (i : Int) ≤ 300 := by omega
        obtain ⟨a, ha⟩ : ∃ t, L[i]? = some t := ⟨L[i], List.getElem?_eq_getElem hlt⟩
        obtain ⟨b, o, hA, hc0⟩ := acs_get HR.out ha
        have hc := hc0.no HI.out.2.2
        have HC := Lib.hid hc0
        have HS0 := Lib.hid fun W (t : Turn No w W) => (act_turn HC.out t)
        obtain ⟨c0, c1, c2, c3, lb⟩ := hc
        have hs1 := HI.out.1
        have HT : Hid (∀ x ∈ L.take (i + 1), mn x.k.size + mn x.v.size ≤ s + mn a.k.size + mn a.v.size) := Lib.hid fun x hx => by
          rw [List.take_add_one, ha] at hx
          rcases List.mem_append.1 hx with h1 | h1
          · have := HI.out.2.1 x h1; omega
          · simp at h1
            subst h1
            omega
        have HZ := Lib.hid (mn_sum s a.k.size a.v.size (by omega))
        subst hA
        obtain ⟨d, k, v, aft⟩ := a
        simp only at c0 c1 c2 c3 HS0 HZ HT
        have q1 : (0 : Int) ≤ (i : Int) := by omega
        have HS1 : Hid (s + mn k.size + mn v.size ≤ (i + 1) * 80002) := Lib.hid (by have := mn_le k.size; have := mn_le v.size; omega)
        have HJ : Hid (i + 1 ≤ L.length ∧ i + 1 ≤ 301) := Lib.hid ⟨hlt, by omega⟩
        have HJw : Hid (Value.int .i64 (wrap64 ((i : Int) + 1)) = Value.int .i64 ((i + 1 : Nat) : Int)) := Lib.hid (by rw [show wrap64 ((i : Int) + 1) = ((i + 1 : Nat) : Int) by simp only [wrap64]; omega])
        have HJm : Hid (302 - (RowKit.intOf (.int .i64 ((i + 1 : Nat) : Int))).toNat < 302 - (RowKit.intOf (.int .i64 (i : Int))).toNat) := Lib.hid (by simp [RowKit.intOf]; omega)
        clear HC ha c0 c3 hs1 hlt h3 hi hi3
        go_upto_region 5 with fail
        go_region_held3 (fun W => W.cell? ⟨b, o + i * 4 + 1, none⟩ = some (.string k) ∧ W.cell? ⟨b, o + i * 4 + 2, none⟩ = some (.string v)) (exact HS0.out _ (HI.out.2.2.trans (by first | exact (Turn.refl No _).drew | exact (Turn.refl No _).drewN _ | exact Turn.refl No _))) (first | fail)
        all_goals rw [HZ.out]
        all_goals go_wp2_with fail
        all_goals rw [show (i : Int) + 1 = ((i + 1 : Nat) : Int) by omega]
        all_goals exact ⟨⟨i + 1, s + mn k.size + mn v.size, HJ.out.1, HJ.out.2, rfl, rfl, Lib.hid ⟨HS1.out, HT.out, HI.out.2.2.trans (by first | exact (Turn.refl No _).drew | exact (Turn.refl No _).drewN _ | exact Turn.refl No _)⟩⟩, HJm.out⟩
      · have q3 : ¬ (i : Int) ≤ 300 := by omega
        have HB : Hid (300 < L.length) := Lib.hid (by omega)
        have q4 : (300 : Int) < (L.length : Int) := by omega
        go_wp2_with fail
        go_ret
        exact ⟨⟨true, rfl, (fun h => by cases h), HI.out.2.2⟩⟩
    · obtain rfl : i = L.length := by omega
      have q2 : ¬ (L.length : Int) < (L.length : Int) := by omega
      by_cases h3 : (300 : Int) < (L.length : Int)
      · go_wp2_with fail
        go_ret
        exact ⟨⟨true, rfl, (fun h => by cases h), HI.out.2.2⟩⟩
      · by_cases h4 : (40000 : Int) < (s : Int)
        · go_wp2_with fail
          go_ret
          exact ⟨⟨true, rfl, (fun h => by cases h), HI.out.2.2⟩⟩
        · have HX : Hid (Sm L) := Lib.hid ⟨by omega, fun a ha => by
            have h1 := HI.out.2.1
            rw [List.take_length] at h1
            have h2 := h1 a ha
            unfold mn at h2
            omega⟩
          go_wp2_with fail
          go_ret
          exact ⟨⟨false, rfl, (fun _ => HX.out), HI.out.2.2⟩⟩
end Go.Proofs.YtfplnobnmgbgoaaDoor
namespace Go.Proofs.YtfplnobnmgbgoaaDoor
open Go.RowKit Go.Lib
set_option linter.unusedVariables false
set_option maxRecDepth 20000
set_option linter.unusedSimpArgs false


theorem putL_len (F : List Pr) (k v : ByteArray) : (putL F k v).length ≤ F.length + 1 := by
  induction F with
  | nil => exact Nat.le_refl _
  | cons p t ih =>
    unfold putL
    split
    · simp; omega
    · split <;> simp
theorem putL_mem {F : List Pr} {k v : ByteArray} {p : Pr} (h : p ∈ putL F k v) : p = ⟨k, v⟩ ∨ p ∈ F := by
  induction F with
  | nil => exact .inl (by simpa [putL] using h)
  | cons q t ih =>
    unfold putL at h
    split at h
    · rcases List.mem_cons.1 h with e | e
      · exact .inr (by rw [e]; exact List.mem_cons_self ..)
      · exact (ih e).elim .inl fun x => .inr (List.mem_cons_of_mem _ x)
    · split at h
      · rcases List.mem_cons.1 h with e | e
        · exact .inl e
        · exact .inr (List.mem_cons_of_mem _ e)
      · rcases List.mem_cons.1 h with e | e
        · exact .inl e
        · exact .inr e
theorem delL_mem {F : List Pr} {k : ByteArray} {p : Pr} (h : p ∈ delL F k) : p ∈ F := (List.mem_filter.1 h).1
theorem delL_len (F : List Pr) (k : ByteArray) : (delL F k).length ≤ F.length := List.length_filter_le _ _
theorem foldA_len : ∀ (L : List Ac) (F : List Pr), (L.foldl doA F).length ≤ F.length + L.length
  | [], F => Nat.le_refl _
  | a :: L, F => by
    have h1 := foldA_len L (doA F a)
    have h2 : (doA F a).length ≤ F.length + 1 := by
      unfold doA
      split
      · exact putL_len _ _ _
      · split
        · have := delL_len F a.k; omega
        · omega
    rw [List.foldl_cons, List.length_cons]
    omega
theorem foldA_mem : ∀ (L : List Ac) (F : List Pr) {p : Pr}, p ∈ L.foldl doA F → p ∈ F ∨ ∃ a ∈ L, p = ⟨a.k, a.v⟩
  | [], F, p, h => .inl h
  | a :: L, F, p, h => by
    rw [List.foldl_cons] at h
    rcases foldA_mem L (doA F a) h with h1 | ⟨b, hb, e⟩
    · unfold doA at h1
      split at h1
      · rcases putL_mem h1 with e | e
        · exact .inr ⟨a, List.mem_cons_self .., e⟩
        · exact .inl e
      · split at h1
        · exact .inl (delL_mem h1)
        · exact .inl h1
    · exact .inr ⟨b, List.mem_cons_of_mem _ hb, e⟩
theorem doneL_sm {L : List Ac} (h : Sm L) : (doneL L).length ≤ 300 ∧ ∀ p ∈ doneL L, p.k.size ≤ 40000 ∧ p.v.size ≤ 40000 := by
  refine ⟨?_, fun p hp => ?_⟩
  · have := foldA_len L []
    have := h.n
    simp at *
    unfold doneL
    omega
  · rcases foldA_mem L [] hp with h1 | ⟨a, ha, e⟩
    · cases h1
    · rw [e]
      exact h.k a ha
/-- A pair as an act that puts it. -/
def ofP (p : Pr) : Ac := ⟨0, p.k, p.v, false⟩
def backL (F : List Pr) : List Ac := F.reverse.map ofP
theorem backL_sm {F : List Pr} (h : F.length ≤ 300 ∧ ∀ p ∈ F, p.k.size ≤ 40000 ∧ p.v.size ≤ 40000) : Sm (backL F) := by
  refine ⟨?_, fun a ha => ?_⟩
  · unfold backL; rw [List.length_map, List.length_reverse]; exact h.1
  · obtain ⟨p, hp, rfl⟩ := List.mem_map.1 ha
    exact h.2 p (List.mem_reverse.1 hp)
theorem putL_head {p : Pr} {F : List Pr} (h : ∀ q ∈ F, kl p.k q.k) : putL F p.k p.v = p :: F := by
  cases F with
  | nil => rfl
  | cons q t =>
    have hq := h q (List.mem_cons_self ..)
    unfold putL
    rw [if_neg (kl_asymm hq), if_neg (fun e => by rw [e] at hq; exact kl_irrefl _ hq)]
theorem backL_done : ∀ {F : List Pr}, Asc F → doneL (backL F) = F
  | [], _ => rfl
  | p :: F, h => by
    have ih := backL_done (List.pairwise_cons.1 h).2
    unfold backL doneL at ih ⊢
    rw [List.reverse_cons, List.map_append, List.foldl_append, ih]
    show doA F (ofP p) = _
    unfold doA ofP
    rw [if_pos rfl]
    exact putL_head (List.pairwise_cons.1 h).1
/-- The acts that have come, while they are made from the greatest pair on. -/
theorem backL_next {F : List Pr} {j : Nat} {p : Pr} (h : F[j]? = some p) : backL (F.drop j) = backL (F.drop (j + 1)) ++ [ofP p] := by
  obtain ⟨hl, rfl⟩ := List.getElem?_eq_some_iff.1 h
  unfold backL
  rw [← List.getElem_cons_drop hl, List.reverse_cons, List.map_append]
  rfl
theorem infoAC : (Tryd.prog.info? 51).map (fun i => (i.zero, i.size, i.bytes)) = some (some (.agg #[.int .i64 0, .string ⟨#[]⟩, .string ⟨#[]⟩, .bool false]), 4, 48) := by kernel_rfl
/-- A row of acts of one's own, while it is made. -/
structure Arw (w0 wx : World) (l : List Ac) (B : Option Addr) (c : Nat) : Prop where
  tu : Turn No w0 wx
  row : wx.ownsRow w0.heap.size 51 4 (.slice B l.length c) l.length (acs l)
theorem Arw.nil (w : World) : Arw w w [] none 0 := ⟨Turn.refl _ _, rfl, .inl ⟨rfl, rfl⟩⟩
theorem Arw.no {w0 wx w2 : World} {l : List Ac} {B : Option Addr} {c : Nat} (h : Arw w0 wx l B c) (t : Turn No wx w2) : Arw w0 w2 l B c := ⟨h.tu.trans t, own_grown h.row t fun _ _ h => h⟩
theorem Arw.append {w0 wx : World} {l : List Ac} {B : Option Addr} {c : Nat} (h : Arw w0 wx l B c) (hl : l.length < 100000) (a : Ac) :
    ∃ B' c' w2, AppRun 48 48 (.slice B l.length c) (.slice (some ⟨wx.heap.size, 0, none⟩) 1 1) (.slice B' (l.length + 1) c') (wx.alloc (.cells #[.int .i64 a.d, .string a.k, .string a.v, .bool a.aft] 51)) w2 ∧ Arw w0 w2 (l ++ [a]) B' c' := by
  have tj : Turn No wx (wx.alloc (.cells #[.int .i64 a.d, .string a.k, .string a.v, .bool a.aft] 51)) := (Turn.refl _ _).alloc _
  have h2 := h.no tj
  have hn := At.new wx (.cells #[.int .i64 a.d, .string a.k, .string a.v, .bool a.aft] 51)
  obtain ⟨B', c', w2, qq, ho, ht, hB⟩ := app_gen Tryd.underlying48 infoAC rfl (by decide) (by decide) h2.row ⟨wx.heap.size, 0, none⟩ 1 1 [.int .i64 a.d, .string a.k, .string a.v, .bool a.aft] rfl
    (fun j u hj => by rw [Addr.add_lit, Nat.zero_add, hn.cell]; simpa using hj) (by
      intro u hu
      simp at hu
      rcases hu with rfl | rfl | rfl | rfl <;> rfl) (by omega) h2.tu.size 48
  refine ⟨B', c', w2, qq, ⟨h2.tu.then (ht.mono fun k _ hk => (by rw [own_ablk] at hk; exact hk : ablk B = some k)) fun i hi hb => ?_, ?_⟩⟩
  · have := (own_at h2.row hb).1
    omega
  · rw [List.length_append]
    have e : acs (l ++ [a]) = acs l ++ [.int .i64 a.d, .string a.k, .string a.v, .bool a.aft] := by unfold acs; rw [List.flatMap_append]; simp [Ac.cs]
    rw [e]
    exact ho
theorem pcs_get {w : World} {A : Option Addr} {l : List Pr} (h : Row w A (pcs l)) {j : Nat} {p : Pr} (hj : l[j]? = some p) : ∃ b o, A = some ⟨b, o, none⟩ ∧ b < w.heap.size ∧ w.cell? ⟨b, o + j * 2, none⟩ = some (.string p.k) ∧ w.cell? ⟨b, o + j * 2 + 1, none⟩ = some (.string p.v) := by
  have hc : ∀ i, i < 2 → (pcs l)[j * 2 + i]? = p.cs[i]? := fun i hi => flat_at Pr.cs 2 (fun _ => rfl) l j i p hj hi
  obtain ⟨b, o, hA, hb, h0⟩ := h (j * 2 + 0) (.string p.k) (hc 0 (by decide))
  obtain ⟨b1, o1, hA1, _, h1⟩ := h (j * 2 + 1) (.string p.v) (hc 1 (by decide))
  rw [hA] at hA1
  injection hA1 with hA1
  injection hA1 with e1 e2
  subst e1 e2
  exact ⟨b, o, hA, hb, h0, h1⟩
end Go.Proofs.YtfplnobnmgbgoaaDoor
namespace Go.Proofs.YtfplnobnmgbgoaaDoor
open Go.RowKit Go.Lib
set_option linter.unusedVariables false
set_option maxRecDepth 20000
set_option linter.unusedSimpArgs false


set_option maxRecDepth 10000 in
theorem neq_pr (a b : ByteArray) (w : World) : (binOp .neq 63 (.agg #[.string a, .string b]) (.agg #[.string a, .string b])).run Tryd.prog w = .ok (.bool false) w := by
  rw [run_neq_struct]
  rw [show (10000 : Nat) = 9998 + 1 + 1 from rfl, run_equalIn_struct (P := Tryd.prog) w (9998 + 1) 63 #[.string a, .string b] #[.string a, .string b] (by kernel_rfl) (by kernel_rfl)]
  simp only [Program.fieldsOf, Tryd.underlying63]
  rw [eqf_cons (by decide) (by rfl) (by rfl) (run_equalIn_string w 9998 9 a a (by kernel_rfl)),
    eqf_cons (by decide) (by rfl) (by rfl) (run_equalIn_string w 9998 9 b b (by kernel_rfl)), eqf_nil]
  simp [Result.andThen]
theorem pcs_get2 {w : World} {A : Option Addr} {l : List Pr} (h : Row w A (pcs l)) {j : Nat} {p : Pr} (hj : l[j]? = some p) : ∃ b o, A = some ⟨b, o, none⟩ ∧ ∀ W, Turn No w W → W.cell? ⟨b, o + j * 2, none⟩ = some (.string p.k) ∧ W.cell? ⟨b, o + j * 2 + 1, none⟩ = some (.string p.v) := by
  obtain ⟨b, o, hA, hb, h0, h1⟩ := pcs_get h hj
  exact ⟨b, o, hA, fun W t => ⟨(World.cell?_of_block (w := w) (t.block b hb (fun h => h))).trans h0, (World.cell?_of_block (w := w) (t.block b hb (fun h => h))).trans h1⟩⟩
set_option maxRecDepth 100000 in
set_option maxHeartbeats 8000000 in
/-- pairs, where they are the same. -/
theorem pairs_same (l : List Pr) (A B : Option Addr) (c c2 : Nat) (w : World) (h : Row w A (pcs l)) (h2 : Row w B (pcs l)) (hn : l.length ≤ 100000) :
    Calls Tryd.prog 27 #[.slice A l.length c, .slice B l.length c2] w fun e w' => e = .returned (.bool true) ∧ Turn No w w' := by
  have HR := Lib.hid (And.intro h (And.intro h2 hn))
  clear h h2 hn
  go_enter Tryd.func27, Tryd.ntmps27
  go_wp2_with fail
  go_loopw [5] (fun x wr => ∃ i : Nat, i ≤ l.length ∧ x = .int .i64 (i : Int) ∧ Hid (Turn No w wr)) (fun x _ => l.length - (RowKit.intOf x).toNat)
  case atStart => exact ⟨0, Nat.zero_le _, rfl, Lib.hid (Turn.refl _ _)⟩
  case round =>
    obtain ⟨i, hi, rfl, HI⟩ := hrel
    by_cases hlt : i < l.length
    · obtain ⟨p, hp⟩ : ∃ t, l[i]? = some t := ⟨l[i], List.getElem?_eq_getElem hlt⟩
      obtain ⟨b, o, hA, h1⟩ := pcs_get2 HR.out.1 hp
      obtain ⟨b2, o2, hB, h2⟩ := pcs_get2 HR.out.2.1 hp
      have HX := Lib.hid fun W (t : Turn No w W) => And.intro (h1 W t) (h2 W t)
      have hx := HX.out wr HI.out
      subst hA hB
      obtain ⟨k, v⟩ := p
      have qn := fun W => neq_pr k v W
      have q1 : (0 : Int) ≤ (i : Int) := by omega
      have q2 : (i : Int) < (l.length : Int) := by omega
      obtain ⟨⟨x1, x2⟩, x3, x4⟩ := hx
      simp only at x1 x2 x3 x4 HX
      have HL : Hid (l.length ≤ 100000) := Lib.hid HR.out.2.2
      have HJw : Hid (Value.int .i64 (wrap64 ((i : Int) + 1)) = Value.int .i64 ((i + 1 : Nat) : Int)) := Lib.hid (by have := HL.out; rw [show wrap64 ((i : Int) + 1) = ((i + 1 : Nat) : Int) by simp only [wrap64]; omega])
      have HJm : Hid (l.length - (RowKit.intOf (.int .i64 ((i + 1 : Nat) : Int))).toNat < l.length - (RowKit.intOf (.int .i64 (i : Int))).toNat) := Lib.hid (by simp [RowKit.intOf]; omega)
      have HJ : Hid (i + 1 ≤ l.length) := Lib.hid hlt
      clear hp h1 h2 hlt hi
      go_upto_region 6 with fail
      go_quiet (fail)
      go_wp2_with fail
      rw [HJw.out]
      exact ⟨⟨i + 1, HJ.out, rfl, Lib.hid (HI.out.trans (by first | exact (Turn.refl No _).drew | exact (Turn.refl No _).drewN _ | exact Turn.refl No _))⟩, HJm.out⟩
    · obtain rfl : i = l.length := by omega
      have q2 : ¬ (l.length : Int) < (l.length : Int) := by omega
      go_wp2_with fail
      go_ret
      exact ⟨rfl, HI.out⟩
end Go.Proofs.YtfplnobnmgbgoaaDoor
namespace Go.Proofs.YtfplnobnmgbgoaaDoor
open Go.RowKit Go.Lib
set_option linter.unusedVariables false
set_option maxRecDepth 20000
set_option linter.unusedSimpArgs false


/-- Where a reader of a key stands in a tree that nobody writes: so many levels below the root, at the node that covers the key. -/
structure AtF (T : List Lvl) (key : ByteArray) (x : Hn × Nd) (j : Nat) : Prop where
  at_ : ∃ U A B D, T = U ++ (A ++ x :: B) :: D ∧ U.length = j ∧ (∀ a ∈ A, ¬ NdCov a.2 key) ∧ NdCov x.2 key
section
variable {T : List Lvl} {root : Hn} {key : ByteArray} {x : Hn × Nd} {j : Nat}
theorem AtF.at10 (h : AtF T key x j) : ∃ d, At10 T key x d := by
  obtain ⟨U, A, B, D, e, _, hA, _⟩ := h.at_
  exact ⟨_, ⟨U, A, B, D, e, hA, rfl⟩⟩
theorem AtF.mem (h : AtF T key x j) : x ∈ T.flatten := by
  obtain ⟨d, h⟩ := h.at10
  exact h.mem
theorem AtF.lt (h : AtF T key x j) : j < T.length := by
  obtain ⟨U, A, B, D, e, hj, _⟩ := h.at_
  rw [e, List.length_append, List.length_cons]
  omega
theorem atf_root (g : Good T root) (key : ByteArray) : ∃ n, AtF T key (root, n) 0 := by
  obtain ⟨n, R, e⟩ := g.rt
  refine ⟨n, ⟨[], [], [], R, by rw [e]; rfl, rfl, (fun a ha => by cases ha), ?_⟩⟩
  obtain ⟨P, k2, c, e2, h1, _⟩ := tower_lst e g.tw
  have : P = [] := by
    cases P with
    | nil => rfl
    | cons p P => injection e2 with _ e2; cases P <;> cases e2
  subst this
  injection e2 with e2
  injection e2 with _ e2
  rw [← e2] at h1
  intro hb
  unfold En1 at h1
  have hb : n.bnd = true := hb
  rw [if_pos hb] at h1
  cases h1
theorem atf_on (g : Good T root) (h : AtF T key x j) {k : Hn} {is : Bool} (hk : KidR x.2 key k is) (hl : x.2.leaf = false) : ∃ y, onwH is k x.2.nx = y.1 ∧ AtF T key y (j + 1) := by
  obtain ⟨h1, h2⟩ := hk.1 ⟨(good_right g h.mem).1, hl, by obtain ⟨U, A, B, D, e, _, _, hc⟩ := h.at_; exact hc⟩
  obtain ⟨U, A, B, D, e, hj, hA, hc⟩ := h.at_
  obtain ⟨xh, n⟩ := x
  have ht : Tower ((A ++ (xh, n) :: B) :: D) := tower_drop (A := U) (by rw [← e]; exact g.tw) (by simp)
  obtain ⟨_, h3⟩ := tower_down ht hA hc
  rcases h3 with h3 | ⟨_, A', kid, c, B', R', hD, hkid, hcv, hA', _⟩
  · simp only at hl
    rw [hl] at h3
    cases h3.1
  · simp only at h2
    rw [hkid] at h2
    injection h2 with h2
    subst h2 hD
    exact ⟨(kid, c), by unfold onwH; rw [if_pos h1], ⟨U ++ [A ++ (xh, n) :: B], A', B', R', by rw [e]; simp, by rw [List.length_append, hj]; rfl, hA', hcv⟩⟩
theorem atf_leaf (g : Good T root) (h : AtF T key x j) (hl : x.2.leaf = true) : j + 1 = T.length := by
  obtain ⟨U, A, B, D, e, hj, hA, hc⟩ := h.at_
  have ht : Tower ((A ++ x :: B) :: D) := tower_drop (A := U) (by rw [← e]; exact g.tw) (by simp)
  cases D with
  | nil => rw [e, List.length_append, hj]; rfl
  | cons d D =>
    have := (ht.1.inner x (by simp)).1
    rw [hl] at this
    cases this
theorem AtF.cov (h : AtF T key x j) : NdCov x.2 key := by
  obtain ⟨U, A, B, D, e, _, _, hc⟩ := h.at_
  exact hc
end
/-- What a reader's look comes to in a tree that nobody writes: so many looks are done. -/
structure LookF (vis : Value) (I : Ids) (N : Nat → Option Ent) (T : List Lvl) (root : Hn) (St : Nat → World → Prop) : Prop where
  tr : ∀ a w, St a w → Tr w I N T root
  no : ∀ a w w', St a w → Turn No w w' → St a w'
  sz : T.flatten.length ≤ 4096
  look : ∀ a w x, St a w → x ∈ T.flatten → Calls Tryd.prog 39 #[.pointer (some ⟨I.tb, 0, none⟩), .agg #[.int .i64 x.1.slot, .int .u64 x.1.gen], vis] w fun e w' => St (a + 1) w' ∧ e = .returned (.tuple #[pq (blkOf N x), .bool true])
set_option maxRecDepth 100000 in
set_option maxHeartbeats 8000000 in
/-- reach, in a tree that nobody writes: a look at each level. -/
theorem reach_fix {vis : Value} {I : Ids} {N : Nat → Option Ent} {T : List Lvl} {root : Hn} {St : Nat → World → Prop} (C : LookF vis I N T root St) {a : Nat} {w : World} (hs : St a w) (key : ByteArray) (fk : Fit key) :
    Calls Tryd.prog 34 #[.pointer (some ⟨I.tb, 0, none⟩), .string key, vis] w fun e w' => ∃ x j, St (a + T.length) w' ∧ AtF T key x j ∧ x.2.leaf = true ∧ e = .returned (.tuple #[pq (blkOf N x), .bool true]) := by
  have hT := C.tr a w hs
  obtain ⟨n0, hx0⟩ := atf_root hT.g key
  have hrz : rtZ root = false := hT.nz hx0.mem
  have CS := Lib.hid (stands_any I root w hT.t)
  rw [hrz] at CS
  have CL := Lib.hid (C.look a w _ hs hx0.mem)
  have t2 := At.cell hT.t 2
  have t3 := At.cell hT.t 3
  simp at t2 t3
  have ltb := At.lt hT.t
  have HC := Lib.hid C
  have HK := Lib.hid fk
  have HX := Lib.hid hx0
  clear hT hx0 hrz C fk
  unfold pq at CL ⊢
  go_enter Tryd.func34, Tryd.ntmps34
  go_wp2_with (first | (go_at_call 42; refine CS.out.mono ?_; rintro e w1 ⟨rfl, hw⟩; rw [hw]; clear hw) | (go_at_call 39; (with_reducible refine CL.out.mono ?_); rintro e w1 ⟨h1, rfl⟩; have H1 := Lib.hid h1; clear h1 CL CS t2 t3 ltb))
  go_loopg [8, 9] (T.length) (fun k x o wr => ∃ z j, k + j = T.length ∧ x = .pointer (some ⟨blkOf N z, 1, none⟩) ∧ o = .bool true ∧ Hid (St (a + j + 1) wr ∧ AtF T key z j))
  case atStart => exact ⟨(root, n0), 0, rfl, rfl, rfl, Lib.hid ⟨H1.out, HX.out⟩⟩
  case round =>
    clear H1 HX
    obtain ⟨z, j, hkj, rfl, rfl, HR⟩ := hrel
    have hT := HC.out.tr _ wr HR.out.1
    obtain ⟨g, AK, ck, AV, cv, AD, cd, hat, hin⟩ := hT.node HR.out.2.mem
    obtain ⟨q, hq⟩ : ∃ x, blkOf N z = x := ⟨_, rfl⟩
    rw [hq] at hat ⊢
    have HQ := Lib.hid hq
    obtain ⟨c1, c2, c3, c4, c5, c6, c7, c8⟩ := node_cells hat
    have lq := hat.lt
    have CV := Lib.hid (covers_c z.2 AK AV AD ck cv cd key wr hin.i HK.out)
    have CO := Lib.hid fun W (t : Turn No wr W) => onward_any z.2 key HK.out (hat.no t) (hin.no t)
    have HG := Lib.hid hT.g
    have HKJ := Lib.hid hkj
    obtain ⟨lf, hlf⟩ : ∃ x, z.2.leaf = x := ⟨_, rfl⟩
    rw [hlf] at CV c1
    have HLF := Lib.hid hlf
    clear hT hat hin hq hlf hkj
    cases lf with
    | true =>
      go_wp2_with (go_at_call 57; (with_reducible refine CV.out.mono ?_); rintro e5 w5 ⟨bb, rfl, hbb, ht⟩; obtain rfl : bb = true := hbb.2 HR.out.2.cov; have HV := Lib.hid ht; clear hbb ht)
      go_ret2
      have hj := atf_leaf HG.out HR.out.2 HLF.out
      refine ⟨z, j, ?_, HR.out.2, HLF.out, by rw [HQ.out]; rfl⟩
      rw [← hj]
      exact HC.out.no _ _ _ HR.out.1 HV.out
    | false =>
      go_wp2_with (first | (go_at_call 58; (with_reducible refine (CO.out _ (Turn.refl _ _)).mono ?_); rintro e6 w6 ⟨kh, is, hkr, rfl, ht⟩; obtain ⟨y2, hy2, ha2⟩ := atf_on HG.out HR.out.2 hkr HLF.out; rw [hy2]; have CL2 := Lib.hid (HC.out.look _ _ y2 (HC.out.no _ _ _ HR.out.1 ht) ha2.mem); have HA2 := Lib.hid ha2; clear hkr ht hy2 ha2; unfold pq at CL2) | (go_at_call 39; (with_reducible refine CL2.out.mono ?_); rintro e7 w7 ⟨h1, rfl⟩; have H7 := Lib.hid h1; clear h1 CL2))
      go_roundg (T.length - (j + 1))
      case measure => have := HKJ.out; have := HR.out.2.lt; omega
      case rel => exact ⟨y2, j + 1, by have := HA2.out.lt; omega, rfl, rfl, Lib.hid ⟨by have := H7.out; rwa [Nat.add_assoc a j 1] at this, HA2.out⟩⟩
end Go.Proofs.YtfplnobnmgbgoaaDoor
