/-
  A B-link tree as plain data: Next where a node is split; the levels from the leaves up.
  A B-link tree as plain data: the ends of a level rise; what becomes of the node above when one is split.
  An answer while it is made: the node that came in, the clone, its rows.
  Put.
-/
import Derived.Test.YtfplnobnmgbgoaaDoorJ6
namespace Go.Proofs.YtfplnobnmgbgoaaDoor
open Go.RowKit Go.Lib
set_option linter.unusedVariables false
set_option maxRecDepth 20000
set_option linter.unusedSimpArgs false

theorem nxs_keep : ∀ {A : List (Hn × Nd)} {h : Hn} {n m : Nd} {B : List (Hn × Nd)}, Nxs (A ++ (h, n) :: B) → m.nx = n.nx → Nxs (A ++ (h, m) :: B)
  | [], _, _, _, [], h, e => e.trans h
  | [], _, _, _, _ :: _, h, e => ⟨e.trans h.1, h.2⟩
  | [a], _, _, _, _, h, e => ⟨h.1, nxs_keep (A := []) h.2 e⟩
  | a :: b :: A, _, _, _, _, h, e => ⟨h.1, nxs_keep (A := b :: A) h.2 e⟩
theorem nxs_split : ∀ {A : List (Hn × Nd)} {h r : Hn} {n x y : Nd} {B : List (Hn × Nd)}, Nxs (A ++ (h, n) :: B) → x.nx = r → y.nx = n.nx → Nxs (A ++ (h, x) :: (r, y) :: B)
  | [], _, _, _, _, _, [], h, e1, e2 => ⟨e1, e2.trans h⟩
  | [], _, _, _, _, _, _ :: _, h, e1, e2 => ⟨e1, e2.trans h.1, h.2⟩
  | [a], _, _, _, _, _, _, h, e1, e2 => ⟨h.1, nxs_split (A := []) h.2 e1 e2⟩
  | a :: b :: A, _, _, _, _, _, _, h, e1, e2 => ⟨h.1, nxs_split (A := b :: A) h.2 e1 e2⟩
/-- The levels above one, from the lowest of them up to the root. -/
def Above : List (Hn × Nd) → List (List (Hn × Nd)) → Prop
  | l, [] => ∃ h n, l = [(h, n)]
  | l, u :: r => Lev u l ∧ Nxs u ∧ Above u r
theorem above_keep {l1 l2 : List (Hn × Nd)} {U : List (List (Hn × Nd))} (h : Above l1 U) (he : l2.map (fun x => En1 x.2) = l1.map fun x => En1 x.2) (hf : l2.map Prod.fst = l1.map Prod.fst) : Above l2 U := by
  cases U with
  | nil =>
    obtain ⟨k, n, e⟩ := h
    rw [e] at hf
    match l2, hf with
    | [x], _ => exact ⟨x.1, x.2, rfl⟩
  | cons u r =>
    obtain ⟨h1, h2, h3⟩ := h
    exact ⟨⟨h1.ends.trans he.symm, h1.kids.trans hf.symm, h1.inner⟩, h2, h3⟩
/-- The whole tree, told from its leaves up, is the tower told from its root down. -/
theorem tower_up : ∀ {U : List (List (Hn × Nd))} {l : List (Hn × Nd)} {D : List (List (Hn × Nd))}, Tower (l :: D) → Above l U → Tower (U.reverse ++ l :: D)
  | [], _, _, h, _ => h
  | u :: r, l, D, h, ⟨h1, h2, h3⟩ => by
    rw [List.reverse_cons, List.append_assoc]
    exact tower_up (U := r) (l := u) (D := l :: D) ⟨h1, h2, h⟩ h3
end Go.Proofs.YtfplnobnmgbgoaaDoor
namespace Go.Proofs.YtfplnobnmgbgoaaDoor
open Go.RowKit Go.Lib
set_option linter.unusedVariables false
set_option maxRecDepth 20000
set_option linter.unusedSimpArgs false

abbrev Lvl := List (Hn × Nd)
/-- One end is ahead of another. -/
def EnR (e f : Option ByteArray) : Prop := ∃ a, e = some a ∧ ∀ b, f = some b → kl a b
theorem ch_ends : ∀ {ls : List Nd} {l : ByteArray}, Ch (some l) ls → ∀ n ∈ ls, ∀ b, En1 n = some b → kl l b
  | [], _, h, _, _, _, _ => h.elim
  | [n], l, h, m, hm, b, hb => by
    simp at hm
    subst hm
    unfold En1 at hb
    rw [if_neg (by rw [h.2]; decide)] at hb
    cases hb
  | n :: m :: r, l, h, x, hx, b, hb => by
    obtain ⟨h1, h2, h3⟩ := h
    have hk := h1.2.2.2 l rfl h2
    rcases List.mem_cons.1 hx with e | e
    · rw [e] at hb
      unfold En1 at hb
      rw [if_pos h2] at hb
      injection hb with hb
      rw [← hb]
      exact hk
    · exact kl_trans hk (ch_ends h3 x e b hb)
theorem ends_leaf : ∀ {ls : List Nd} {lo : Option ByteArray}, Ch lo ls → (ls.map En1).Pairwise EnR
  | [], _, h => h.elim
  | [n], _, h => List.pairwise_singleton _ _
  | n :: m :: r, _, h => by
    obtain ⟨h1, h2, h3⟩ := h
    rw [List.map_cons]
    refine List.pairwise_cons.2 ⟨fun e he => ?_, ends_leaf h3⟩
    obtain ⟨x, hx, rfl⟩ := List.mem_map.1 he
    exact ⟨n.high, by unfold En1; rw [if_pos h2], fun b hb => ch_ends h3 x hx b hb⟩
theorem ends_sub : ∀ (l : Lvl), (l.map fun x => En1 x.2).Sublist (l.flatMap fun x => endsOf x.2)
  | [] => List.Sublist.slnil
  | x :: t => by
    rw [List.map_cons, List.flatMap_cons]
    unfold endsOf
    rw [List.append_assoc]
    exact List.sublist_append_of_sublist_right (List.Sublist.append (List.Sublist.refl [En1 x.2]) (ends_sub t))
/-- The ends of a level rise. -/
theorem tower_ends : ∀ {R : List Lvl} {l : Lvl}, Tower (l :: R) → (l.map fun x => En1 x.2).Pairwise EnR
  | [], l, h => by
    have := ends_leaf h.1
    rw [List.map_map] at this
    exact this
  | d :: R, l, h => by
    have := tower_ends h.2.2
    rw [← h.1.ends] at this
    exact this.sublist (ends_sub l)
/-- No key of a node is below the end of one ahead of it. -/
theorem tower_low {R : List Lvl} {A B : Lvl} {h : Hn} {n : Nd} (hT : Tower ((A ++ (h, n) :: B) :: R)) : ∀ a ∈ A, ∀ k ∈ n.keys, ∃ e, En1 a.2 = some e ∧ ¬ kl k e := by
  intro a ha k hk
  cases R with
  | nil =>
    have hc := hT.1
    rw [List.map_append, List.map_cons] at hc
    have : ∀ {P : List Nd} {x : Nd} {Q : List Nd} {lo : Option ByteArray}, Ch lo (P ++ x :: Q) → ∀ p ∈ P, ∀ k ∈ x.keys, ∃ e, En1 p = some e ∧ ¬ kl k e := by
      intro P
      induction P with
      | nil => intro x Q lo _ p hp; cases hp
      | cons p0 P ih =>
        intro x Q lo h p hp k hk
        obtain ⟨h1, h2, _⟩ := ch_head h
        obtain ⟨hb, h3⟩ := h2 (by simp)
        rcases List.mem_cons.1 hp with e | e
        · subst e
          refine ⟨p.high, by unfold En1; rw [if_pos hb], ?_⟩
          have hx := ch_leaf h3 x (by simp)
          have : k ∈ (prs x).map Pr.k := by rw [(prs_keys hx.1 hx.2).1]; exact hk
          obtain ⟨q, hq, e2⟩ := List.mem_map.1 this
          rw [← e2]
          refine ch_ge h3 q ?_
          show q ∈ flat (P ++ x :: Q)
          rw [flat_split]
          exact List.mem_append.2 (.inl (List.mem_append.2 (.inr hq)))
        · exact ih h3 p e k hk
    exact this hc a.2 (List.mem_map_of_mem ha) k hk
  | cons d R =>
    have hp := tower_ends hT.2.2
    rw [← hT.1.ends, List.flatMap_append, List.flatMap_cons] at hp
    have h1 := (List.pairwise_append.1 hp).2.2 (En1 a.2) (List.mem_flatMap.2 ⟨a, ha, by unfold endsOf; simp⟩) (some k) (List.mem_append.2 (.inl (by unfold endsOf; simp [hk])))
    obtain ⟨e, he, h2⟩ := h1
    exact ⟨e, he, kl_asymm (h2 k rfl)⟩
theorem lev_at {A B down : Lvl} {h : Hn} {n : Nd} (hL : Lev (A ++ (h, n) :: B) down) (j : Nat) (hj : j < (endsOf n).length) : (down.map fun x => En1 x.2)[(A.flatMap fun x => endsOf x.2).length + j]? = (endsOf n)[j]? := by
  rw [← hL.ends, rows_kids, List.getElem?_append_left (by rw [List.length_append]; show _ < _ + (endsOf n).length; omega), List.getElem?_append_right (by omega)]
  congr 1
  omega
theorem plc_eq {K : List ByteArray} (hK : Rk K) {s : ByteArray} {i : Nat} (hi : i ≤ K.length) (h1 : ∀ j k, K[j]? = some k → j < i → kl k s) (h2 : ∀ j k, K[j]? = some k → i ≤ j → ¬ kl k s) : plc K s = i := by
  have e : K.filter (fun x => decide (kl x s)) = K.take i := by
    conv => lhs; rw [← List.take_append_drop i K]
    rw [List.filter_append, List.filter_eq_self.2, List.filter_eq_nil_iff.2, List.append_nil]
    · intro x hx
      obtain ⟨j, hj⟩ := List.mem_iff_getElem?.1 hx
      rw [List.getElem?_drop] at hj
      simpa using h2 (i + j) x hj (by omega)
    · intro x hx
      obtain ⟨j, hj⟩ := List.mem_iff_getElem?.1 hx
      rw [List.getElem?_take] at hj
      split at hj
      · rename_i hlt
        simpa using h1 j x hj hlt
      · cases hj
  show (K.filter (fun x => decide (kl x s))).length = i
  rw [e, List.length_take]
  omega
/-- A node, the halves that stand for it, and the key that parts them. -/
structure Sp5 (t x y : Nd) (sep : ByteArray) (r : Hn) : Prop where
  lx : x.leaf = t.leaf
  ly : y.leaf = t.leaf
  rt : NdRight t
  rx : NdRight x
  ry : NdRight y
  xb : x.bnd = true
  xh : x.high = sep
  xn : x.nx = r
  yb : y.bnd = t.bnd
  yh : y.high = t.high
  yn : y.nx = t.nx
  kx : ∀ k ∈ x.keys, k ∈ t.keys
  ky : ∀ k ∈ y.keys, k ∈ t.keys
  ks : sep ∈ t.keys
  x0 : ∃ k, k ∈ x.keys
  y0 : ∀ k ∈ y.keys, ¬ kl k sep
  lf : t.leaf = true → prs x ++ prs y = prs t
  inn : t.leaf = false → endsOf x ++ endsOf y = endsOf t ∧ x.kids ++ y.kids = t.kids
theorem Sp5.en {t x y : Nd} {sep : ByteArray} {r : Hn} (h : Sp5 t x y sep r) : En1 x = some sep ∧ En1 y = En1 t := by
  unfold En1
  rw [h.xb, h.xh, h.yb, h.yh]
  exact ⟨rfl, rfl⟩
/-- A node is changed for its halves: the tower stands. -/
theorem tower_split {A B : Lvl} {D : List Lvl} {k r : Hn} {t x y : Nd} {sep : ByteArray} (hT : Tower ((A ++ (k, t) :: B) :: D)) (hs : Sp5 t x y sep r) : Tower ((A ++ (k, x) :: (r, y) :: B) :: D) := by
  obtain ⟨k0, hk0⟩ := hs.x0
  cases D with
  | nil =>
    obtain ⟨hc, hn⟩ := hT
    rw [List.map_append, List.map_cons] at hc
    have ht := (ch_leaf hc t (by simp)).1
    refine ⟨?_, nxs_split hn hs.xn hs.yn⟩
    rw [List.map_append, List.map_cons, List.map_cons]
    exact ch_two hc (hs.lx.trans ht) (hs.ly.trans ht) hs.rx hs.ry hs.xb hs.yb hs.yh hs.kx hs.ky (by rw [hs.xh]; exact hs.ks) ⟨k0, hk0, hs.rx.2.2.1 hs.xb k0 hk0⟩ (by rw [hs.xh]; exact hs.y0)
  | cons d D =>
    obtain ⟨hL, hn, hr⟩ := hT
    have ht := (hL.inner (k, t) (by simp)).1
    obtain ⟨h1, h2⟩ := hs.inn ht
    exact ⟨hL.halves h1 h2 ⟨hs.lx.trans ht, hs.rx⟩ ⟨hs.ly.trans ht, hs.ry⟩, nxs_split hn hs.xn hs.yn, hr⟩
theorem getE_mid {α : Type} {A B : List α} {x : α} {i : Nat} (h : A.length = i) : (A ++ x :: B)[i]? = some x := by
  rw [List.getElem?_append_right (by omega), show i - A.length = 0 by omega]
  rfl
/-- One level up: what the node above becomes by Add. -/
theorem up_step {A B A2 B2 : Lvl} {D : List Lvl} {k r h2 : Hn} {t x y n2 m2 : Nd} {sep key : ByteArray} (hT : Tower ((A ++ (k, t) :: B) :: D)) (hL : Lev (A2 ++ (h2, n2) :: B2) (A ++ (k, t) :: B)) (hN : Nxs (A2 ++ (h2, n2) :: B2)) (hp : A.length = (A2.flatMap fun x => endsOf x.2).length + kix n2.keys key) (hs : Sp5 t x y sep r)
    (hm : AddR n2 sep r m2) : AddO n2 sep ∧ m2 = { n2 with keys := ins n2.keys (plc n2.keys sep) sep, kids := ins n2.kids (plc n2.keys sep + 1) r } ∧ Tower ((A2 ++ (h2, m2) :: B2) :: (A ++ (k, x) :: (r, y) :: B) :: D) := by
  obtain ⟨hl2, hr2⟩ := hL.inner (h2, n2) (by simp)
  have hK : Rk n2.keys := hr2.1
  obtain ⟨i, hi⟩ : ∃ i, kix n2.keys key = i := ⟨_, rfl⟩
  rw [hi] at hp
  have hil : i ≤ n2.keys.length := by rw [← hi]; exact kix_le _ _
  have hel : (endsOf n2).length = n2.keys.length + 1 := by unfold endsOf; simp
  obtain ⟨k0, hk0⟩ := hs.x0
  have hk0s : kl k0 sep := by have := hs.rx.2.2.1 hs.xb k0 hk0; rwa [hs.xh] at this
  have hend : ∀ j q, n2.keys[j]? = some q → (endsOf n2)[j]? = some (some q) := fun j q hj => by
    unfold endsOf
    rw [List.getElem?_append_left (by rw [List.length_map]; exact (List.getElem?_eq_some_iff.1 hj).1), List.getElem?_map, hj]
    rfl
  have low : ∀ j q, n2.keys[j]? = some q → j < i → kl q sep := fun j q hj hlt => by
    have h1 := lev_at hL j (by have := (List.getElem?_eq_some_iff.1 hj).1; omega)
    rw [hend j q hj, List.map_append, List.getElem?_append_left (by rw [List.length_map]; omega), List.getElem?_map] at h1
    cases ha : A[(A2.flatMap fun x => endsOf x.2).length + j]? with
    | none => rw [ha] at h1; cases h1
    | some a =>
      rw [ha] at h1
      have h1 : En1 a.2 = some q := by injection h1
      obtain ⟨e, he, h3⟩ := tower_low hT a (List.mem_of_getElem? ha) k0 (hs.kx k0 hk0)
      rw [h1] at he
      injection he with he
      subst he
      exact kl_le_lt h3 hk0s
  have hmid : (endsOf n2)[i]? = some (En1 t) := by
    have h1 := lev_at hL i (by omega)
    rw [← h1, List.map_append, List.map_cons]
    exact getE_mid (by rw [List.length_map, hp])
  have hts : ∀ q, En1 t = some q → kl sep q := fun q hq => by
    unfold En1 at hq
    split at hq
    · rename_i hb
      injection hq with hq
      rw [← hq]
      exact hs.rt.2.2.1 hb sep hs.ks
    · cases hq
  have high : ∀ j q, n2.keys[j]? = some q → i ≤ j → kl sep q := fun j q hj hle => by
    have hjl := (List.getElem?_eq_some_iff.1 hj).1
    have hiq : ∃ p, n2.keys[i]? = some p := ⟨n2.keys[i]'(by omega), List.getElem?_eq_getElem (by omega)⟩
    obtain ⟨p, hpk⟩ := hiq
    have h1 : kl sep p := hts p (by have := hend i p hpk; rw [hmid] at this; injection this)
    rcases Nat.lt_or_ge i j with h2 | h2
    · have := List.pairwise_iff_getElem.1 hK i j (by omega) hjl h2
      rw [(List.getElem?_eq_some_iff.1 hpk).2, (List.getElem?_eq_some_iff.1 hj).2] at this
      exact kl_trans h1 this
    · have : j = i := by omega
      subst this
      rw [hj] at hpk
      injection hpk with hpk
      rw [hpk]
      exact h1
  have hplc : plc n2.keys sep = i := plc_eq hK hil low fun j q hj hle h => kl_asymm (high j q hj hle) h
  have hnot : sep ∉ n2.keys := fun hm => by
    obtain ⟨j, hj⟩ := List.mem_iff_getElem?.1 hm
    rcases Nat.lt_or_ge j i with h1 | h1
    · exact kl_irrefl _ (low j sep hj h1)
    · exact kl_irrefl _ (high j sep hj h1)
  have hcov : NdCov n2 sep := fun hb => by
    rcases Nat.lt_or_ge i n2.keys.length with h1 | h1
    · obtain ⟨p, hpk⟩ : ∃ p, n2.keys[i]? = some p := ⟨n2.keys[i], List.getElem?_eq_getElem h1⟩
      exact kl_trans (high i p hpk (Nat.le_refl _)) (hr2.2.2.1 hb p (List.mem_of_getElem? hpk))
    · have he : i = n2.keys.length := by omega
      have h3 : (endsOf n2)[i]? = some (En1 n2) := by
        unfold endsOf
        exact getE_mid (by rw [List.length_map, he])
      rw [hmid] at h3
      injection h3 with h3
      exact hts n2.high (by rw [h3]; unfold En1; rw [if_pos hb])
  have hO : AddO n2 sep := ⟨hr2, hl2, hcov, hnot⟩
  have e := hm.1 hO
  refine ⟨hO, e, ?_⟩
  have hkl : n2.kids.length = n2.keys.length + 1 := (hr2.2.2.2.2 hl2).2
  have hm2 : m2.leaf = false ∧ NdRight m2 := by
    rw [e]
    refine ⟨hl2, rk_ins hK hnot, hr2.2.1, fun hb q hq => ?_, fun h => ?_, fun _ => ⟨(hr2.2.2.2.2 hl2).1, ?_⟩⟩
    · rcases mem_ins.1 hq with h1 | h1
      · rw [h1]; exact hcov hb
      · exact hr2.2.2.1 hb q h1
    · have h : n2.leaf = true := h
      rw [hl2] at h
      cases h
    · show (ins n2.kids (plc n2.keys sep + 1) r).length = (ins n2.keys (plc n2.keys sep) sep).length + 1
      rw [ins_length _ (by rw [hplc]; omega), ins_length _ (plc_le _ _), hkl]
  obtain ⟨e1, e2⟩ := hs.en
  refine ⟨hL.split hil hp e1 e2 (by rw [e, hplc]) (by rw [e, hplc]) (by rw [e]; rfl) hm2, nxs_keep hN (by rw [e]), tower_split hT hs⟩
/-- The way down to a node, from the level above it up to the root: which node of each level, and where its kid stands. -/
def Pth (key : ByteArray) : List Lvl → Lvl → Nat → Prop
  | [], [], a => a = 0
  | u :: U, (h, n) :: L, a => ∃ A B, u = A ++ (h, n) :: B ∧ a = (A.flatMap fun x => endsOf x.2).length + kix n.keys key ∧ Pth key U L A.length
  | _, _, _ => False
end Go.Proofs.YtfplnobnmgbgoaaDoor
namespace Go.Proofs.YtfplnobnmgbgoaaDoor
open Go.RowKit Go.Lib
set_option linter.unusedVariables false
set_option maxRecDepth 20000
set_option maxRecDepth 20000
set_option linter.unusedSimpArgs false

/-- What stands while an answer is made: the node that came in (block g), the answer (block r), whose rows are its own, from block Z on. -/
structure Cl (w wx : World) (g r : Nat) (node : Array Value) (Z : Nat) (leaf : Bool) (K V : List ByteArray) (D : List Hn) (high : ByteArray) (bnd : Bool) (sl ge : Int) (B1 : Option Addr) (d1 : Nat) (B2 : Option Addr) (d2 : Nat) (B3 : Option Addr) (d3 : Nat) : Prop where
  tu : Turn No w wx
  a : At wx g (.cells node 79 (0, 0))
  b : At wx r (.cells #[.bool leaf, .slice B1 K.length d1, .slice B2 V.length d2, .slice B3 D.length d3, .string high, .bool bnd, .int .i64 sl, .int .u64 ge] 79 (0, 0))
  own : Own Z wx K V D B1 d1 B2 d2 B3 d3
  dis : ∀ i, ablk B1 = some i → ¬ ablk B2 = some i
  zr : w.heap.size ≤ r
  gr : g ≠ r
  zz : w.heap.size ≤ Z
  zx : Z ≤ wx.heap.size
section
variable {w wx : World} {g r : Nat} {node : Array Value} {Z : Nat} {leaf : Bool} {K V : List ByteArray} {D : List Hn} {high : ByteArray} {bnd : Bool} {sl ge : Int} {B1 : Option Addr} {d1 : Nat} {B2 : Option Addr} {d2 : Nat} {B3 : Option Addr} {d3 : Nat}
theorem Cl.no (h : Cl w wx g r node Z leaf K V D high bnd sl ge B1 d1 B2 d2 B3 d3) {w2 : World} (t : Turn No wx w2) : Cl w w2 g r node Z leaf K V D high bnd sl ge B1 d1 B2 d2 B3 d3 :=
  ⟨h.tu.trans t, h.a.no t, h.b.no t, h.own.no t, h.dis, h.zr, h.gr, h.zz, Nat.le_trans h.zx t.size⟩
theorem Cl.thawed (h : Cl w wx g r node Z leaf K V D high bnd sl ge B1 d1 B2 d2 B3 d3) (i : Nat) : wx.frozen? ⟨r, i, none⟩ = false := h.b.thawed i
/-- The answer written anew, as it is. -/
theorem Cl.again (h : Cl w wx g r node Z leaf K V D high bnd sl ge B1 d1 B2 d2 B3 d3) : Cl w ((((((((wx.setCell ⟨r, 0, none⟩ (.bool leaf)).setCell ⟨r, 1, none⟩ (.slice B1 K.length d1)).setCell ⟨r, 2, none⟩ (.slice B2 V.length d2)).setCell ⟨r, 3, none⟩ (.slice B3 D.length d3)).setCell ⟨r, 4, none⟩ (.string high)).setCell ⟨r, 5, none⟩ (.bool bnd)).setCell ⟨r, 6, none⟩ (.int .i64 sl)).setCell ⟨r, 7, none⟩ (.int .u64 ge)) g r node Z leaf K V D high bnd sl ge B1 d1 B2 d2 B3 d3 := by
  have tw := turn8 wx r (.bool leaf) (.slice B1 K.length d1) (.slice B2 V.length d2) (.slice B3 D.length d3) (.string high) (.bool bnd) (.int .i64 sl) (.int .u64 ge)
  exact ⟨h.tu.then tw fun i hi e => by have := h.zr; omega, h.a.turn tw h.gr, put8 h.b _ _ _ _ _ _ _ _, h.own.wr h.b tw, h.dis, h.zr, h.gr, h.zz, Nat.le_trans h.zx tw.size⟩
theorem Cl.got (h : Cl w wx g r node Z leaf K V D high bnd sl ge B1 d1 B2 d2 B3 d3) : Got w.heap.size wx ⟨leaf, K, V, D, high, bnd, ⟨sl, ge⟩⟩ B1 B2 B3 :=
  Own.got (n := ⟨leaf, K, V, D, high, bnd, ⟨sl, ge⟩⟩) (h.own.from h.zz)
theorem blk_ne {w : World} {Z n c : Nat} {t s : Nat} {A : Option Addr} {xs : List Value} (h : w.ownsRow Z t s (.slice A n c) n xs) {g : Nat} {cc : Array Value} {t' : Nat} {f : Nat × Nat} (hg : At w g (.cells cc t' f)) (ht : t' ≠ t) : ablk A ≠ some g := by
  have := own_neG h hg ht
  rwa [own_ablk] at this
theorem blk_two {w : World} {Z n c : Nat} {t s : Nat} {A : Option Addr} {xs : List Value} {Z' n' c' : Nat} {t' s' : Nat} {A' : Option Addr} {xs' : List Value} (h : w.ownsRow Z t s (.slice A n c) n xs) (h' : w.ownsRow Z' t' s' (.slice A' n' c') n' xs') (ht : t ≠ t') : ∀ i, ablk A = some i → ¬ ablk A' = some i := fun i h1 h2 => by
  obtain ⟨_, cur, hat⟩ := own_at h' h2
  exact blk_ne h hat (fun e => ht e.symm) h1
theorem Cl.setK (h : Cl w wx g r node Z leaf K V D high bnd sl ge B1 d1 B2 d2 B3 d3) {w2 : World} {Kn : List ByteArray} {Bn : Option Addr} {dn : Nat} (ho : w2.ownsRow Z 9 1 (.slice Bn Kn.length dn) Kn.length (kcs Kn)) (t : Turn (fun k => ablk B1 = some k) wx w2) (hB : ∀ i, ablk Bn = some i → ablk B1 = some i ∨ wx.heap.size ≤ i) :
    Cl w (w2.setCell ⟨r, 1, none⟩ (.slice Bn Kn.length dn)) g r node Z leaf Kn V D high bnd sl ge Bn dn B2 d2 B3 d3 := by
  have tw := Turn.set1 w2 r 1 (.slice Bn Kn.length dn)
  have hb2 : At w2 r (.cells #[.bool leaf, .slice B1 K.length d1, .slice B2 V.length d2, .slice B3 D.length d3, .string high, .bool bnd, .int .i64 sl, .int .u64 ge] 79 (0, 0)) := h.b.turn t (blk_ne h.own.k h.b (by decide))
  have ha2 : At w2 g (.cells node 79 (0, 0)) := h.a.turn t (blk_ne h.own.k h.a (by decide))
  have ho2 : Own Z w2 Kn V D Bn dn B2 d2 B3 d3 := ⟨ho, own_grown h.own.v t (fun k hk e => h.dis k e (by rw [own_ablk] at hk; exact hk)), own_grown h.own.d t (fun k hk e => blk_two h.own.d h.own.k (by decide) k (by rw [own_ablk] at hk; exact hk) e)⟩
  have hlt : ∀ i, ablk B1 = some i → Z ≤ i ∧ i < wx.heap.size := fun i hi => by
    obtain ⟨hz, cur, hat⟩ := own_at h.own.k hi
    exact ⟨hz, hat.lt⟩
  refine ⟨(h.tu.then t fun i hi e => ?_).then tw fun i hi e => ?_, ha2.turn tw h.gr, by simpa using hb2.set 1 (.slice Bn Kn.length dn), ho2.wr hb2 tw, fun i h1 h2 => ?_, h.zr, h.gr, h.zz, Nat.le_trans (Nat.le_trans h.zx t.size) tw.size⟩
  · have := (hlt i e).1
    have := h.zz
    omega
  · have := h.zr
    omega
  · rcases hB i h1 with h3 | h3
    · exact h.dis i h3 h2
    · obtain ⟨_, cur, hat⟩ := own_at h.own.v h2
      have := hat.lt
      omega
theorem Cl.setV (h : Cl w wx g r node Z leaf K V D high bnd sl ge B1 d1 B2 d2 B3 d3) {w2 : World} {Vn : List ByteArray} {Bn : Option Addr} {dn : Nat} (ho : w2.ownsRow Z 9 1 (.slice Bn Vn.length dn) Vn.length (kcs Vn)) (t : Turn (fun k => ablk B2 = some k) wx w2) (hB : ∀ i, ablk Bn = some i → ablk B2 = some i ∨ wx.heap.size ≤ i) :
    Cl w (w2.setCell ⟨r, 2, none⟩ (.slice Bn Vn.length dn)) g r node Z leaf K Vn D high bnd sl ge B1 d1 Bn dn B3 d3 := by
  have tw := Turn.set1 w2 r 2 (.slice Bn Vn.length dn)
  have hb2 : At w2 r (.cells #[.bool leaf, .slice B1 K.length d1, .slice B2 V.length d2, .slice B3 D.length d3, .string high, .bool bnd, .int .i64 sl, .int .u64 ge] 79 (0, 0)) := h.b.turn t (blk_ne h.own.v h.b (by decide))
  have ha2 : At w2 g (.cells node 79 (0, 0)) := h.a.turn t (blk_ne h.own.v h.a (by decide))
  have ho2 : Own Z w2 K Vn D B1 d1 Bn dn B3 d3 := ⟨own_grown h.own.k t (fun k hk e => h.dis k (by rw [own_ablk] at hk; exact hk) e), ho, own_grown h.own.d t (fun k hk e => blk_two h.own.d h.own.v (by decide) k (by rw [own_ablk] at hk; exact hk) e)⟩
  have hlt : ∀ i, ablk B2 = some i → Z ≤ i ∧ i < wx.heap.size := fun i hi => by
    obtain ⟨hz, cur, hat⟩ := own_at h.own.v hi
    exact ⟨hz, hat.lt⟩
  refine ⟨(h.tu.then t fun i hi e => ?_).then tw fun i hi e => ?_, ha2.turn tw h.gr, by simpa using hb2.set 2 (.slice Bn Vn.length dn), ho2.wr hb2 tw, fun i h1 h2 => ?_, h.zr, h.gr, h.zz, Nat.le_trans (Nat.le_trans h.zx t.size) tw.size⟩
  · have := (hlt i e).1
    have := h.zz
    omega
  · have := h.zr
    omega
  · rcases hB i h2 with h3 | h3
    · exact h.dis i h1 h3
    · obtain ⟨_, cur, hat⟩ := own_at h.own.k h1
      have := hat.lt
      omega
theorem Cl.setD (h : Cl w wx g r node Z leaf K V D high bnd sl ge B1 d1 B2 d2 B3 d3) {w2 : World} {Dn : List Hn} {Bn : Option Addr} {dn : Nat} (ho : w2.ownsRow Z 77 2 (.slice Bn Dn.length dn) Dn.length (hcs Dn)) (t : Turn (fun k => ablk B3 = some k) wx w2) (hB : ∀ i, ablk Bn = some i → ablk B3 = some i ∨ wx.heap.size ≤ i) :
    Cl w (w2.setCell ⟨r, 3, none⟩ (.slice Bn Dn.length dn)) g r node Z leaf K V Dn high bnd sl ge B1 d1 B2 d2 Bn dn := by
  have tw := Turn.set1 w2 r 3 (.slice Bn Dn.length dn)
  have hb2 : At w2 r (.cells #[.bool leaf, .slice B1 K.length d1, .slice B2 V.length d2, .slice B3 D.length d3, .string high, .bool bnd, .int .i64 sl, .int .u64 ge] 79 (0, 0)) := h.b.turn t (blk_ne h.own.d h.b (by decide))
  have ha2 : At w2 g (.cells node 79 (0, 0)) := h.a.turn t (blk_ne h.own.d h.a (by decide))
  have ho2 : Own Z w2 K V Dn B1 d1 B2 d2 Bn dn := ⟨own_grown h.own.k t (fun k hk e => blk_two h.own.k h.own.d (by decide) k (by rw [own_ablk] at hk; exact hk) e), own_grown h.own.v t (fun k hk e => blk_two h.own.v h.own.d (by decide) k (by rw [own_ablk] at hk; exact hk) e), ho⟩
  have hlt : ∀ i, ablk B3 = some i → Z ≤ i ∧ i < wx.heap.size := fun i hi => by
    obtain ⟨hz, cur, hat⟩ := own_at h.own.d hi
    exact ⟨hz, hat.lt⟩
  refine ⟨(h.tu.then t fun i hi e => ?_).then tw fun i hi e => ?_, ha2.turn tw h.gr, by simpa using hb2.set 3 (.slice Bn Dn.length dn), ho2.wr hb2 tw, fun i h1 h2 => ?_, h.zr, h.gr, h.zz, Nat.le_trans (Nat.le_trans h.zx t.size) tw.size⟩
  · have := (hlt i e).1
    have := h.zz
    omega
  · have := h.zr
    omega
  · exact h.dis i h1 h2
theorem Cl.stK (h : Cl w wx g r node Z leaf K V D high bnd sl ge B1 d1 B2 d2 B3 d3) {w2 : World} (t : Turn (fun k => ablk B1 = some k) wx w2) : At w2 r (.cells #[.bool leaf, .slice B1 K.length d1, .slice B2 V.length d2, .slice B3 D.length d3, .string high, .bool bnd, .int .i64 sl, .int .u64 ge] 79 (0, 0)) := h.b.turn t (blk_ne h.own.k h.b (by decide))
theorem Cl.stV (h : Cl w wx g r node Z leaf K V D high bnd sl ge B1 d1 B2 d2 B3 d3) {w2 : World} (t : Turn (fun k => ablk B2 = some k) wx w2) : At w2 r (.cells #[.bool leaf, .slice B1 K.length d1, .slice B2 V.length d2, .slice B3 D.length d3, .string high, .bool bnd, .int .i64 sl, .int .u64 ge] 79 (0, 0)) := h.b.turn t (blk_ne h.own.v h.b (by decide))
theorem Cl.stD (h : Cl w wx g r node Z leaf K V D high bnd sl ge B1 d1 B2 d2 B3 d3) {w2 : World} (t : Turn (fun k => ablk B3 = some k) wx w2) : At w2 r (.cells #[.bool leaf, .slice B1 K.length d1, .slice B2 V.length d2, .slice B3 D.length d3, .string high, .bool bnd, .int .i64 sl, .int .u64 ge] 79 (0, 0)) := h.b.turn t (blk_ne h.own.d h.b (by decide))
theorem blk_lt {w : World} {Z n c : Nat} {t s : Nat} {A : Option Addr} {xs : List Value} (h : w.ownsRow Z t s (.slice A n c) n xs) {i : Nat} (hi : ablk A = some i) : Z ≤ i ∧ i < w.heap.size := by
  obtain ⟨hz, cur, hat⟩ := own_at h hi
  exact ⟨hz, hat.lt⟩
/-- A value written over in its place. -/
theorem Cl.putV {g2 : Nat} (h : Cl w wx g r node Z leaf K V D high bnd sl ge B1 d1 (some ⟨g2, 0, none⟩) d2 B3 d3) (P : Nat) (val : ByteArray) {V1 : List ByteArray} (hV : V.set P val = V1) : Cl w (wx.setCell ⟨g2, P, none⟩ (.string val)) g r node Z leaf K V1 D high bnd sl ge B1 d1 (some ⟨g2, 0, none⟩) d2 B3 d3 := by
  have tw := Turn.set1 wx g2 P (.string val)
  have hl : V1.length = V.length := by rw [← hV, List.length_set]
  have hne : ∀ i, ablk (some ⟨g2, 0, none⟩) = some i ↔ i = g2 := fun i => ⟨fun h => by injection h with h; exact h.symm, fun h => by rw [h]; rfl⟩
  have t2 : Turn (fun k => ablk (some ⟨g2, 0, none⟩) = some k) wx (wx.setCell ⟨g2, P, none⟩ (.string val)) := tw.mono fun k _ e => (hne k).2 e
  have hb := h.stV t2
  obtain ⟨hz, hlt⟩ := blk_lt h.own.v ((hne g2).2 rfl)
  refine ⟨h.tu.then tw fun i hi e => by have := h.zz; omega, h.a.turn t2 (blk_ne h.own.v h.a (by decide)), by rw [hl]; exact hb, ⟨own_grown h.own.k tw fun k hk e => h.dis k (by rw [own_ablk] at hk; exact hk) ((hne k).2 e), ?_, own_grown h.own.d tw fun k hk e => blk_two h.own.d h.own.v (by decide) k (by rw [own_ablk] at hk; exact hk) ((hne k).2 e)⟩, h.dis, h.zr, h.gr, h.zz, Nat.le_trans h.zx tw.size⟩
  have := own_set h.own.v P (.string val)
  rw [kcs_set, hV] at this
  rw [hl]
  exact this
end
end Go.Proofs.YtfplnobnmgbgoaaDoor
namespace Go.Proofs.YtfplnobnmgbgoaaDoor
open Go.RowKit Go.Lib
set_option linter.unusedVariables false
set_option maxRecDepth 20000
set_option maxRecDepth 20000
set_option linter.unusedSimpArgs false

structure Fits (w : World) (leaf : Bool) (K V : List ByteArray) (D : List Hn) (high : ByteArray) (AK AV AD : Option Addr) : Prop where
  k : Row w AK (kcs K)
  v : Row w AV (kcs V)
  d : Row w AD (hcs D)
  fk : ∀ k ∈ K, Fit k
  fv : ∀ k ∈ V, Fit k
  fh : Fit high
  lk : K.length ≤ 10000
  lv : V.length ≤ 10000
  ld : D.length ≤ 10000
theorem Fits.no {w w2 : World} {leaf : Bool} {K V : List ByteArray} {D : List Hn} {high : ByteArray} {AK AV AD : Option Addr} (h : Fits w leaf K V D high AK AV AD) (t : Turn No w w2) : Fits w2 leaf K V D high AK AV AD :=
  ⟨h.k.no t, h.v.no t, h.d.no t, h.fk, h.fv, h.fh, h.lk, h.lv, h.ld⟩
theorem th8 {w : World} {g : Nat} {c : Array Value} {t : TypeId} (h : At w g (.cells c t (0, 0))) : w.frozen? ⟨g, 0, none⟩ = false ∧ w.frozen? ⟨g, 1, none⟩ = false ∧ w.frozen? ⟨g, 2, none⟩ = false ∧ w.frozen? ⟨g, 3, none⟩ = false ∧ w.frozen? ⟨g, 4, none⟩ = false ∧ w.frozen? ⟨g, 5, none⟩ = false ∧ w.frozen? ⟨g, 6, none⟩ = false ∧ w.frozen? ⟨g, 7, none⟩ = false :=
  ⟨h.thawed 0, h.thawed 1, h.thawed 2, h.thawed 3, h.thawed 4, h.thawed 5, h.thawed 6, h.thawed 7⟩
/-- What Put and Delete answer. -/
def PutRes (n : Nd) (R : Nd → ByteArray → Bool → Prop) (w : World) (e : Ending) (w' : World) : Prop :=
  ∃ m BK dk BV dv BD dd old had, e = .returned (.tuple #[.agg #[.bool m.leaf, .slice BK m.keys.length dk, .slice BV m.vals.length dv, .slice BD m.kids.length dd, .string m.high, .bool m.bnd, .int .i64 m.nx.slot, .int .u64 m.nx.gen], .string old, .bool had]) ∧ R m old had ∧ Got w.heap.size w' m BK BV BD ∧ Turn No w w'
theorem PutRes.of {n : Nd} {R : Nd → ByteArray → Bool → Prop} {w : World} {e : Ending} {w' : World} (m : Nd) {BK BV BD : Option Addr} {dk dv dd : Nat} (old : ByteArray) (had : Bool) (h1 : e = .returned (.tuple #[.agg #[.bool m.leaf, .slice BK m.keys.length dk, .slice BV m.vals.length dv, .slice BD m.kids.length dd, .string m.high, .bool m.bnd, .int .i64 m.nx.slot, .int .u64 m.nx.gen], .string old, .bool had])) (h2 : R m old had) (h3 : Got w.heap.size w' m BK BV BD) (h4 : Turn No w w') : PutRes n R w e w' :=
  ⟨m, BK, dk, BV, dv, BD, dd, old, had, h1, h2, h3, h4⟩
set_option maxRecDepth 100000 in
set_option maxHeartbeats 16000000 in
theorem putN (leaf : Bool) (K V : List ByteArray) (D : List Hn) (high : ByteArray) (bnd : Bool) (sl ge : Int) (AK AV AD : Option Addr) (ck cv cd : Nat) (key val : ByteArray) (w : World) (hin : Fits w leaf K V D high AK AV AD) (hk : Fit key) (hv : Fit val) :
    Calls Tryd.prog 47 #[.agg #[.bool leaf, .slice AK K.length ck, .slice AV V.length cv, .slice AD D.length cd, .string high, .bool bnd, .int .i64 sl, .int .u64 ge], .string key, .string val] w fun e w' => PutRes ⟨leaf, K, V, D, high, bnd, ⟨sl, ge⟩⟩ (PutR ⟨leaf, K, V, D, high, bnd, ⟨sl, ge⟩⟩ key val) w e w' := by
  have CS := Lib.hid fun (W : World) => clone_any key hk W
  have CS2 := Lib.hid fun (W : World) => clone_any val hv W
  clear hk hv
  have t1 : Turn No w (w.alloc (.cells #[.bool leaf, .slice AK K.length ck, .slice AV V.length cv, .slice AD D.length cd, .string high, .bool bnd, .int .i64 sl, .int .u64 ge] 79)) := (Turn.refl _ _).alloc _
  have t2 : Turn No (w.alloc (.cells #[.bool leaf, .slice AK K.length ck, .slice AV V.length cv, .slice AD D.length cd, .string high, .bool bnd, .int .i64 sl, .int .u64 ge] 79)) ((w.alloc (.cells #[.bool leaf, .slice AK K.length ck, .slice AV V.length cv, .slice AD D.length cd, .string high, .bool bnd, .int .i64 sl, .int .u64 ge] 79)).alloc (.cells #[.bool false, .slice none 0 0, .slice none 0 0, .slice none 0 0, .string ⟨#[]⟩, .bool false, .int .i64 0, .int .u64 0] 79)) := (Turn.refl _ _).alloc _
  have a1 := (At.new w (.cells #[.bool leaf, .slice AK K.length ck, .slice AV V.length cv, .slice AD D.length cd, .string high, .bool bnd, .int .i64 sl, .int .u64 ge] 79)).no t2
  have a2 := At.new (w.alloc (.cells #[.bool leaf, .slice AK K.length ck, .slice AV V.length cv, .slice AD D.length cd, .string high, .bool bnd, .int .i64 sl, .int .u64 ge] 79)) (.cells #[.bool false, .slice none 0 0, .slice none 0 0, .slice none 0 0, .string ⟨#[]⟩, .bool false, .int .i64 0, .int .u64 0] 79)
  rw [World.size_alloc] at a2
  have HB : Hid (Turn No w ((w.alloc (.cells #[.bool leaf, .slice AK K.length ck, .slice AV V.length cv, .slice AD D.length cd, .string high, .bool bnd, .int .i64 sl, .int .u64 ge] 79)).alloc (.cells #[.bool false, .slice none 0 0, .slice none 0 0, .slice none 0 0, .string ⟨#[]⟩, .bool false, .int .i64 0, .int .u64 0] 79)) ∧ At ((w.alloc (.cells #[.bool leaf, .slice AK K.length ck, .slice AV V.length cv, .slice AD D.length cd, .string high, .bool bnd, .int .i64 sl, .int .u64 ge] 79)).alloc (.cells #[.bool false, .slice none 0 0, .slice none 0 0, .slice none 0 0, .string ⟨#[]⟩, .bool false, .int .i64 0, .int .u64 0] 79)) w.heap.size (.cells #[.bool leaf, .slice AK K.length ck, .slice AV V.length cv, .slice AD D.length cd, .string high, .bool bnd, .int .i64 sl, .int .u64 ge] 79 (0, 0)) ∧ At ((w.alloc (.cells #[.bool leaf, .slice AK K.length ck, .slice AV V.length cv, .slice AD D.length cd, .string high, .bool bnd, .int .i64 sl, .int .u64 ge] 79)).alloc (.cells #[.bool false, .slice none 0 0, .slice none 0 0, .slice none 0 0, .string ⟨#[]⟩, .bool false, .int .i64 0, .int .u64 0] 79)) (w.heap.size + 1) (.cells #[.bool false, .slice none 0 0, .slice none 0 0, .slice none 0 0, .string ⟨#[]⟩, .bool false, .int .i64 0, .int .u64 0] 79 (0, 0)) ∧ ((w.alloc (.cells #[.bool leaf, .slice AK K.length ck, .slice AV V.length cv, .slice AD D.length cd, .string high, .bool bnd, .int .i64 sl, .int .u64 ge] 79)).alloc (.cells #[.bool false, .slice none 0 0, .slice none 0 0, .slice none 0 0, .string ⟨#[]⟩, .bool false, .int .i64 0, .int .u64 0] 79)).heap.size = w.heap.size + 2) := Lib.hid ⟨t1.trans t2, a1, a2, by simp⟩
  clear t1 t2 a1 a2
  have HR := Lib.hid hin
  have CN := Lib.hid fun (W : World) (t : Turn No w W) => cloneN leaf K V D high bnd sl ge AK AV AD ck cv cd W (HR.out.k.no t) (HR.out.v.no t) (HR.out.d.no t) hin.fk hin.fv hin.fh (by have := hin.lk; omega) (by have := hin.lv; omega) (by have := hin.ld; omega)
  have CT := Lib.hid fun (W : World) (t : Turn No w W) => takesP leaf K V D high bnd sl ge AK AV AD ck cv cd key W (HR.out.k.no t) (by have := hin.lk; omega)
  have CF := Lib.hid fun (W : World) (t : Turn No w W) => findP leaf K V D high bnd sl ge AK AV AD ck cv cd key W (HR.out.k.no t) (by have := hin.lk; omega)
  have hPle := plc_le K key
  have HPL := Lib.hid (And.intro hPle hin.lk)
  have HRK := Lib.hid fun (h : Rk K) (hm : inK K key = true) => plc_lt h hm
  obtain ⟨P, hP⟩ : ∃ x, plc K key = x := ⟨_, rfl⟩
  obtain ⟨Q, hQ⟩ : ∃ x, inK K key = x := ⟨_, rfl⟩
  rw [hP, hQ] at CF
  rw [hP] at HPL HRK
  rw [hQ] at HRK
  have HPQ := Lib.hid (And.intro hP hQ)
  clear hP hQ hin hPle
  go_enter Tryd.func47, Tryd.ntmps47
  go_upto_region 1 with fail
  obtain ⟨w1, hw1⟩ : ∃ x, ((w.alloc (.cells #[.bool leaf, .slice AK K.length ck, .slice AV V.length cv, .slice AD D.length cd, .string high, .bool bnd, .int .i64 sl, .int .u64 ge] 79)).alloc (.cells #[.bool false, .slice none 0 0, .slice none 0 0, .slice none 0 0, .string ⟨#[]⟩, .bool false, .int .i64 0, .int .u64 0] 79)) = x := ⟨_, rfl⟩
  rw [hw1] at HB
  rw [hw1]
  obtain ⟨g, hg⟩ : ∃ x, w.heap.size = x := ⟨_, rfl⟩
  rw [hg] at HB
  rw [hg]
  have HG := Lib.hid hg
  clear hg hw1
  obtain ⟨c0, c1, c2, c3, c4, c5, c6, c7⟩ := at8 HB.out.2.1
  go_upto_region 2 with (go_at_call 66; (with_reducible refine (CN.out _ HB.out.1).mono ?_); rintro e w2 ⟨B1, d1, B2, d2, B3, d3, rfl, ho, hd, ht⟩; have H2 := Lib.hid (And.intro ho (And.intro hd ht)); clear ho hd ht c0 c1 c2 c3 c4 c5 c6 c7; obtain ⟨e0, e1, e2, e3, e4, e5, e6, e7⟩ := at8 (HB.out.2.2.1.no H2.out.2.2); obtain ⟨z0, z1, z2, z3, z4, z5, z6, z7⟩ := th8 (HB.out.2.2.1.no H2.out.2.2))
  have H3 : Hid (Cl w ((((((((w2.setCell ⟨g + 1, 0, none⟩ (.bool leaf)).setCell ⟨g + 1, 1, none⟩ (.slice B1 K.length d1)).setCell ⟨g + 1, 2, none⟩ (.slice B2 V.length d2)).setCell ⟨g + 1, 3, none⟩ (.slice B3 D.length d3)).setCell ⟨g + 1, 4, none⟩ (.string high)).setCell ⟨g + 1, 5, none⟩ (.bool bnd)).setCell ⟨g + 1, 6, none⟩ (.int .i64 sl)).setCell ⟨g + 1, 7, none⟩ (.int .u64 ge)) g (g + 1) #[.bool leaf, .slice AK K.length ck, .slice AV V.length cv, .slice AD D.length cd, .string high, .bool bnd, .int .i64 sl, .int .u64 ge] (g + 2) leaf K V D high bnd sl ge B1 d1 B2 d2 B3 d3) := Lib.hid (by
    have tw := turn8 w2 (g + 1) (.bool leaf) (.slice B1 K.length d1) (.slice B2 V.length d2) (.slice B3 D.length d3) (.string high) (.bool bnd) (.int .i64 sl) (.int .u64 ge)
    have hs := HB.out.2.2.2
    have hgg := HG.out
    have sz := H2.out.2.2.size
    refine ⟨(HB.out.1.trans H2.out.2.2).then tw fun i hi e => by omega, (HB.out.2.1.no H2.out.2.2).turn tw (by omega), put8 (HB.out.2.2.1.no H2.out.2.2) _ _ _ _ _ _ _ _, (H2.out.1.from (by omega)).wr (HB.out.2.2.1.no H2.out.2.2) tw, H2.out.2.1, by omega, by omega, by omega, ?_⟩
    have := tw.size
    omega)
  clear e0 e1 e2 e3 e4 e5 e6 e7 z0 z1 z2 z3 z4 z5 z6 z7 H2 HB CN
  generalize ((((((((w2.setCell ⟨g + 1, 0, none⟩ (.bool leaf)).setCell ⟨g + 1, 1, none⟩ (.slice B1 K.length d1)).setCell ⟨g + 1, 2, none⟩ (.slice B2 V.length d2)).setCell ⟨g + 1, 3, none⟩ (.slice B3 D.length d3)).setCell ⟨g + 1, 4, none⟩ (.string high)).setCell ⟨g + 1, 5, none⟩ (.bool bnd)).setCell ⟨g + 1, 6, none⟩ (.int .i64 sl)).setCell ⟨g + 1, 7, none⟩ (.int .u64 ge)) = w3 at H3 ⊢
  cases leaf with
  | false =>
    have HNO : Hid (¬ LeafR ⟨false, K, V, D, high, bnd, ⟨sl, ge⟩⟩ key) := Lib.hid fun h => by cases h.2.1
    obtain ⟨c0, c1, c2, c3, c4, c5, c6, c7⟩ := at8 H3.out.a
    go_upto_region 3 with fail
    obtain ⟨e0, e1, e2, e3, e4, e5, e6, e7⟩ := at8 H3.out.b
    obtain ⟨z0, z1, z2, z3, z4, z5, z6, z7⟩ := th8 H3.out.b
    have HZ := Lib.hid H3.out.again
    go_wp2_with fail
    generalize ((((((((w3.setCell ⟨g + 1, 0, none⟩ (.bool false)).setCell ⟨g + 1, 1, none⟩ (.slice B1 K.length d1)).setCell ⟨g + 1, 2, none⟩ (.slice B2 V.length d2)).setCell ⟨g + 1, 3, none⟩ (.slice B3 D.length d3)).setCell ⟨g + 1, 4, none⟩ (.string high)).setCell ⟨g + 1, 5, none⟩ (.bool bnd)).setCell ⟨g + 1, 6, none⟩ (.int .i64 sl)).setCell ⟨g + 1, 7, none⟩ (.int .u64 ge)) = w9 at HZ ⊢
    (try simp only [Exit.inBlock, Exit.then])
    refine bodyPost_ret (results_cell12 rfl _ _ (g + 1) 79 _ (0, 0) _ (by rfl) HZ.out.b Tryd.underlying79 (by kernel_rfl)) rfl ?_
    exact PutRes.of ⟨false, K, V, D, high, bnd, ⟨sl, ge⟩⟩ ⟨#[]⟩ false rfl ⟨fun h => absurd h HNO.out, fun _ => ⟨rfl, rfl, rfl⟩⟩ HZ.out.got HZ.out.tu
  | true =>
    obtain ⟨c0, c1, c2, c3, c4, c5, c6, c7⟩ := at8 H3.out.a
    go_upto_if 20 with (go_at_call 67; (with_reducible refine (CT.out _ H3.out.tu).mono ?_); rintro e w4 ⟨(_ | _), rfl, hb, ht⟩ <;> have H4 := Lib.hid (And.intro hb (H3.out.no ht)) <;> clear hb ht c0 c1 c2 c3 c4 c5 c6 c7)
    · have HNO : Hid (¬ LeafR ⟨true, K, V, D, high, bnd, ⟨sl, ge⟩⟩ key) := Lib.hid fun h => by have := H4.out.1.2 ⟨h.1, h.2.2⟩; cases this
      have H5 := Lib.hid H4.out.2
      go_upto_region 3 with fail
      obtain ⟨e0, e1, e2, e3, e4, e5, e6, e7⟩ := at8 H5.out.b
      obtain ⟨z0, z1, z2, z3, z4, z5, z6, z7⟩ := th8 H5.out.b
      have HZ := Lib.hid H5.out.again
      go_wp2_with fail
      generalize ((((((((w4.setCell ⟨g + 1, 0, none⟩ (.bool true)).setCell ⟨g + 1, 1, none⟩ (.slice B1 K.length d1)).setCell ⟨g + 1, 2, none⟩ (.slice B2 V.length d2)).setCell ⟨g + 1, 3, none⟩ (.slice B3 D.length d3)).setCell ⟨g + 1, 4, none⟩ (.string high)).setCell ⟨g + 1, 5, none⟩ (.bool bnd)).setCell ⟨g + 1, 6, none⟩ (.int .i64 sl)).setCell ⟨g + 1, 7, none⟩ (.int .u64 ge)) = w9 at HZ ⊢
      (try simp only [Exit.inBlock, Exit.then])
      refine bodyPost_ret (results_cell12 rfl _ _ (g + 1) 79 _ (0, 0) _ (by rfl) HZ.out.b Tryd.underlying79 (by kernel_rfl)) rfl ?_
      exact PutRes.of ⟨true, K, V, D, high, bnd, ⟨sl, ge⟩⟩ ⟨#[]⟩ false rfl ⟨fun h => absurd h HNO.out, fun _ => ⟨rfl, rfl, rfl⟩⟩ HZ.out.got HZ.out.tu
    · have HYE : Hid (LeafR ⟨true, K, V, D, high, bnd, ⟨sl, ge⟩⟩ key) := Lib.hid (by
        have h : RightP true K V.length D.length high bnd ∧ (bnd = true → kl key high) := by first | exact H4.out.1.1 rfl | exact H4.out.1.1 trivial
        exact ⟨h.1, rfl, h.2⟩)
      have H5 := Lib.hid H4.out.2
      clear H4 H3 CT
      go_upto_region 4 with fail
      go_upto_region 5 with (first | (go_at_call 36; (with_reducible refine (CS.out _).mono ?_); rintro e w5 ⟨rfl, ht⟩; have H6 := Lib.hid (H5.out.no ht); clear ht) | (go_at_call 36; (with_reducible refine (CS2.out _).mono ?_); rintro e w6 ⟨rfl, ht⟩; have H7 := Lib.hid (H6.out.no ht); clear ht))
      clear CS CS2
      have HVL : Hid (V.length = K.length ∧ Rk K) := Lib.hid ⟨(HYE.out.1.2.2.2.1 rfl).1, HYE.out.1.1⟩
      obtain ⟨c0, c1, c2, c3, c4, c5, c6, c7⟩ := at8 H7.out.a
      go_upto_region 6 with (go_at_call 35; (with_reducible refine (CF.out _ H7.out.tu).mono ?_); rintro e w7 ⟨rfl, ht⟩; have H8 := Lib.hid (H7.out.no ht); clear ht c0 c1 c2 c3 c4 c5 c6 c7)
      clear H7 H6 H5 CF
      cases Q with
      | true =>
        have hlt : P < V.length := by rw [HVL.out.1]; exact HRK.out HVL.out.2 rfl
        obtain ⟨v0, hv0⟩ : ∃ v0, V[P]? = some v0 := ⟨V[P], List.getElem?_eq_getElem hlt⟩
        obtain ⟨g2, rfl, hz2, hl2, cur, hat⟩ := own_some H8.out.own.v (by omega)
        have x0 := own_cell H8.out.own.v hv0 w7 (Turn.refl _ _)
        have y0 := hat.thawed P
        have e2 := H8.out.b.cell 2
        simp at e2
        obtain ⟨V1, hV1⟩ : ∃ x, V.set P val = x := ⟨_, rfl⟩
        have H9 := Lib.hid (H8.out.putV P val hV1)
        have HV0 := Lib.hid (And.intro hv0 hV1)
        have hq1 : (0 : Int) ≤ (P : Int) := by omega
        have hq2 : (P : Int) < (V.length : Int) := by omega
        clear hat hz2 hl2 hv0 hV1 hlt
        go_upto_region 7 with fail
        go_region
        all_goals
          generalize w7.setCell ⟨g2, P, none⟩ (.string val) = w8 at H9 ⊢
          clear x0 y0 e2
          go_upto_region 8 with fail
          obtain ⟨e0, e1, e2, e3, e4, e5, e6, e7⟩ := at8 H9.out.b
          obtain ⟨z0, z1, z2, z3, z4, z5, z6, z7⟩ := th8 H9.out.b
          have HZ := Lib.hid H9.out.again
          go_wp2_with fail
          generalize ((((((((w8.setCell ⟨g + 1, 0, none⟩ (.bool true)).setCell ⟨g + 1, 1, none⟩ (.slice B1 K.length d1)).setCell ⟨g + 1, 2, none⟩ (.slice (some ⟨g2, 0, none⟩) V1.length d2)).setCell ⟨g + 1, 3, none⟩ (.slice B3 D.length d3)).setCell ⟨g + 1, 4, none⟩ (.string high)).setCell ⟨g + 1, 5, none⟩ (.bool bnd)).setCell ⟨g + 1, 6, none⟩ (.int .i64 sl)).setCell ⟨g + 1, 7, none⟩ (.int .u64 ge)) = w9 at HZ ⊢
          (try simp only [Exit.inBlock, Exit.then])
          refine bodyPost_ret (results_cell12 rfl _ _ (g + 1) 79 _ (0, 0) _ (by rfl) HZ.out.b Tryd.underlying79 (by kernel_rfl)) rfl ?_
          refine PutRes.of ⟨true, K, V1, D, high, bnd, ⟨sl, ge⟩⟩ v0 true rfl ⟨fun _ => ?_, fun h => absurd HYE.out h⟩ (HZ.out.no (Turn.refl No w9).drew).got (HZ.out.no (Turn.refl No w9).drew).tu
          obtain ⟨p1, p2⟩ := putL_yes HVL.out.1 HVL.out.2 HPQ.out.2 val
          have p3 := get_zip HVL.out.1 HVL.out.2 (key := key)
          rw [HPQ.out.2, if_pos rfl, HPQ.out.1, HV0.out.1] at p3
          rw [HPQ.out.1, HV0.out.2] at p2
          show _ = Nd.mk true _ _ D high bnd ⟨sl, ge⟩ ∧ _
          rw [p1, p2, p3]
          exact ⟨rfl, rfl, rfl⟩
      | false =>
        obtain ⟨K1, hK1⟩ : ∃ x, ins K P key = x := ⟨_, rfl⟩
        obtain ⟨V1, hV1⟩ : ∃ x, ins V P val = x := ⟨_, rfl⟩
        have hKl : K1.length = K.length + 1 := by rw [← hK1]; exact ins_length K HPL.out.1 key
        have hVl : V1.length = V.length + 1 := by rw [← hV1]; exact ins_length V (by rw [HVL.out.1]; exact HPL.out.1) val
        have HKV := Lib.hid (And.intro hK1 (And.intro hV1 (And.intro hKl hVl)))
        have tn : Turn No w7 (w7.alloc (.cells #[.string key] 9)) := (Turn.refl _ _).alloc _
        have HA := Lib.hid (H8.out.no tn)
        have ci := insK K HPL.out.1 HA.out.own.k (by have := HPL.out.2; omega) w7.heap.size key (At.new _ _) (fun h => by have := (blk_lt H8.out.own.k h).2; omega) HA.out.zx
        rw [hK1, ← hKl] at ci
        have CI := Lib.hid ci
        have e1 := H8.out.b.cell 1
        simp at e1
        clear tn ci hK1 hV1 hKl hVl
        go_upto_region 9 with fail
        go_upto_region 10 with (go_at_call 68; (with_reducible refine CI.out.mono ?_); rintro e w8 ⟨B4, d4, rfl, ho, ht, hB⟩; have H9 := Lib.hid (HA.out.setK ho ht (fun i hi => by injection hi with hi; subst hi; exact hB)); obtain ⟨y1, z1⟩ := And.intro ((HA.out.stK ht).cell 1) ((HA.out.stK ht).thawed 1); simp at y1; clear ho ht hB)
        clear e1 y1 z1 CI HA H8
        generalize w8.setCell ⟨g + 1, 1, none⟩ (.slice (some ⟨B4, 0, none⟩) K1.length d4) = w9 at H9 ⊢
        have tn : Turn No w9 (w9.alloc (.cells #[.string val] 9)) := (Turn.refl _ _).alloc _
        have HA := Lib.hid (H9.out.no tn)
        have ci := insK V (i := P) (by rw [HVL.out.1]; exact HPL.out.1) HA.out.own.v (by have := HPL.out.2; have := HVL.out.1; omega) w9.heap.size val (At.new _ _) (fun h => by have := (blk_lt H9.out.own.v h).2; omega) HA.out.zx
        rw [HKV.out.2.1, ← HKV.out.2.2.2] at ci
        have CI := Lib.hid ci
        have e2 := H9.out.b.cell 2
        simp at e2
        clear tn ci
        go_upto_region 11 with (go_at_call 68; (with_reducible refine CI.out.mono ?_); rintro e w10 ⟨B5, d5, rfl, ho, ht, hB⟩; have H10 := Lib.hid (HA.out.setV ho ht (fun i hi => by injection hi with hi; subst hi; exact hB)); obtain ⟨y1, z1⟩ := And.intro ((HA.out.stV ht).cell 2) ((HA.out.stV ht).thawed 2); simp at y1; clear ho ht hB)
        clear e2 y1 z1 CI HA H9
        generalize w10.setCell ⟨g + 1, 2, none⟩ (.slice (some ⟨B5, 0, none⟩) V1.length d5) = w11 at H10 ⊢
        obtain ⟨e0, e1, e2, e3, e4, e5, e6, e7⟩ := at8 H10.out.b
        obtain ⟨z0, z1, z2, z3, z4, z5, z6, z7⟩ := th8 H10.out.b
        have HZ := Lib.hid H10.out.again
        go_wp2_with fail
        generalize ((((((((w11.setCell ⟨g + 1, 0, none⟩ (.bool true)).setCell ⟨g + 1, 1, none⟩ (.slice (some ⟨B4, 0, none⟩) K1.length d4)).setCell ⟨g + 1, 2, none⟩ (.slice (some ⟨B5, 0, none⟩) V1.length d5)).setCell ⟨g + 1, 3, none⟩ (.slice B3 D.length d3)).setCell ⟨g + 1, 4, none⟩ (.string high)).setCell ⟨g + 1, 5, none⟩ (.bool bnd)).setCell ⟨g + 1, 6, none⟩ (.int .i64 sl)).setCell ⟨g + 1, 7, none⟩ (.int .u64 ge)) = w12 at HZ ⊢
        (try simp only [Exit.inBlock, Exit.then])
        refine bodyPost_ret (results_cell12 rfl _ _ (g + 1) 79 _ (0, 0) _ (by rfl) HZ.out.b Tryd.underlying79 (by kernel_rfl)) rfl ?_
        refine PutRes.of ⟨true, K1, V1, D, high, bnd, ⟨sl, ge⟩⟩ ⟨#[]⟩ false rfl ⟨fun _ => ?_, fun h => absurd HYE.out h⟩ HZ.out.got HZ.out.tu
        obtain ⟨p1, p2⟩ := putL_no HVL.out.1 HVL.out.2 HPQ.out.2 val
        have p3 := get_zip HVL.out.1 HVL.out.2 (key := key)
        rw [HPQ.out.2, if_neg (by decide)] at p3
        rw [HPQ.out.1, HKV.out.1] at p1
        rw [HPQ.out.1, HKV.out.2.1] at p2
        show _ = Nd.mk true _ _ D high bnd ⟨sl, ge⟩ ∧ _
        rw [p1, p2, p3]
        exact ⟨rfl, rfl, rfl⟩
end Go.Proofs.YtfplnobnmgbgoaaDoor
