/-
  A B-link tree as plain data: what Split makes of five keys; how many nodes; the slots that the nodes stand in.
  The contracts of math/bits.Mul64 and Mul at this translation, each by one application of the library.
  What slices.Repeat of one number, NewPool and New come to.
  An arena in memory: its struct, its map, and the places that the map points to; and what becomes of it when a place comes or goes.
  An arena in memory: its struct, its map, and the places that the map points to; and what becomes of it when a place comes or goes.
  What the methods of an arena of one type of things come to: New, Get, Alloc, Release, Live.
-/
import Derived.Test.YtfplnobnmgbgoaaDoorJ7
import Derived.Test.YtfplnobnmgbgoaaDoorJ10
import Derived.Shelf.Bits.Mul64
import Derived.Test.YtfplnobnmgbgoaaDoorProg
import Derived.Test.YtfplnobnmgbgoaaDoorJ1
import Derived.OwnWalk
import Derived.Laws.CopyOwn
import Derived.Deep.RegionWith
import Derived.Deep.CutRange
import Derived.Test.YtfplnobnmgbgoaaDoorJ4
namespace Go.Proofs.YtfplnobnmgbgoaaDoor
open Go.RowKit Go.Lib
set_option linter.unusedVariables false
set_option maxRecDepth 20000
set_option linter.unusedSimpArgs false

theorem zipP_cut {K V : List ByteArray} (m : Nat) : zipP (K.take m) (V.take m) ++ zipP (K.drop m) (V.drop m) = zipP K V := by
  unfold zipP
  rw [← List.map_append, List.zip_eq_zipWith, List.zip_eq_zipWith, List.zip_eq_zipWith, ← List.take_zipWith, ← List.drop_zipWith, List.take_append_drop]
/-- What Split makes of a node with five keys. -/
theorem sp5_of {t l r : Nd} {sep : ByteArray} {nxt : Hn} (hr : NdRight t) (h5 : t.keys.length = 5) (hs : SplR t nxt l r sep) : Sp5 t l r sep nxt ∧ l.keys.length = 2 ∧ r.keys.length = if t.leaf = true then 3 else 2 := by
  obtain ⟨leaf, K, V, D, high, bnd, nx⟩ := t
  have h5 : K.length = 5 := h5
  have hO : SplO ⟨leaf, K, V, D, high, bnd, nx⟩ := ⟨hr, fun _ => by show 2 ≤ K.length; omega, fun _ => by show 3 ≤ K.length; omega⟩
  obtain ⟨hsep, el, er⟩ := hs.1 hO
  have hM : K.length / 2 = 2 := by omega
  have hsp : K[2]? = some sep := by
    have : spM ⟨leaf, K, V, D, high, bnd, nx⟩ = 2 := hM
    rw [this] at hsep
    exact hsep
  obtain ⟨e1, r1⟩ := spl_left hO hM hsp nxt
  obtain ⟨e2, r2⟩ := spl_right hO hM
  rw [e1] at el r1
  rw [e2] at er r2
  subst el er
  obtain ⟨e, ha, hb⟩ := half_cut (K := K) hr.1 hsp
  have hd : K.drop 2 = sep :: K.drop 3 := by
    obtain ⟨hl, rfl⟩ := List.getElem?_eq_some_iff.1 hsp
    rw [List.getElem_cons_drop]
  refine ⟨⟨rfl, rfl, hr, r1, r2, rfl, rfl, rfl, rfl, rfl, rfl, fun k hk => List.mem_of_mem_take hk, ?_, List.mem_of_getElem? hsp, ?_, ?_, ?_, ?_⟩, ?_, ?_⟩
  · intro k hk
    cases leaf with
    | true => exact List.mem_of_mem_drop (i := 2) hk
    | false => exact List.mem_of_mem_drop (i := 3) hk
  · refine ⟨K[0]'(by omega), ?_⟩
    show _ ∈ K.take 2
    exact List.mem_of_getElem? (i := 0) (by rw [List.getElem?_take, if_pos (by decide)]; exact List.getElem?_eq_getElem (by omega))
  · intro k hk hlt
    cases leaf with
    | true =>
      have hk : k ∈ K.drop 2 := hk
      rw [hd] at hk
      rcases List.mem_cons.1 hk with h1 | h1
      · rw [h1] at hlt; exact kl_irrefl _ hlt
      · exact kl_asymm (hb k h1) hlt
    | false => exact kl_asymm (hb k hk) hlt
  · intro hl
    have hl : leaf = true := hl
    subst hl
    exact zipP_cut 2
  · intro hl
    have hl : leaf = false := hl
    subst hl
    refine ⟨?_, ?_⟩
    · unfold endsOf En1
      show (K.take 2).map some ++ [some sep] ++ ((K.drop 3).map some ++ [if bnd = true then some high else none]) = K.map some ++ [if bnd = true then some high else none]
      conv => rhs; rw [e]
      simp
    · show D.take 3 ++ D.drop 3 = D
      exact List.take_append_drop ..
  · show (K.take 2).length = 2
    rw [List.length_take]
    omega
  · cases leaf with
    | true => show (K.drop 2).length = 3; rw [List.length_drop]; omega
    | false => show (K.drop 3).length = 2; rw [List.length_drop]; omega
/-! Sizes. -/
def leaves (T : List Lvl) : Lvl := T.getLastD []
def flatT (T : List Lvl) : List Pr := flat ((leaves T).map Prod.snd)
theorem leaves_cons (l : Lvl) (m : Lvl) (R : List Lvl) : leaves (l :: m :: R) = leaves (m :: R) := rfl
theorem leaves_one (l : Lvl) : leaves [l] = l := rfl
theorem leaves_app (U : List Lvl) (l : Lvl) (R : List Lvl) : leaves (U ++ l :: R) = leaves (l :: R) := by
  induction U with
  | nil => rfl
  | cons u U ih =>
    cases U with
    | nil => rfl
    | cons v V => exact ih
/-- Each inner node has a key. -/
def Fil (T : List Lvl) : Prop := ∀ l ∈ T, ∀ x ∈ l, x.2.leaf = false → x.2.keys ≠ []
theorem kids_two : ∀ {up : Lvl}, (∀ x ∈ up, x.2.leaf = false ∧ NdRight x.2) → (∀ x ∈ up, x.2.leaf = false → x.2.keys ≠ []) → 2 * up.length ≤ (up.flatMap fun x => x.2.kids).length
  | [], _, _ => by simp
  | x :: t, h, hf => by
    obtain ⟨h1, h2⟩ := h x (List.mem_cons_self ..)
    have ih := kids_two (fun y hy => h y (List.mem_cons_of_mem _ hy)) (fun y hy => hf y (List.mem_cons_of_mem _ hy))
    have hk : x.2.kids.length = x.2.keys.length + 1 := (h2.2.2.2.2 h1).2
    have h0 := List.length_pos_iff.2 (hf x (List.mem_cons_self ..) h1)
    rw [List.flatMap_cons, List.length_append, List.length_cons]
    omega
theorem lev_two {up down : Lvl} (h : Lev up down) (hf : ∀ x ∈ up, x.2.leaf = false → x.2.keys ≠ []) : 2 * up.length ≤ down.length := by
  have := kids_two h.inner hf
  rw [h.kids, List.length_map] at this
  exact this
/-- How many nodes a tree has at most, and how many levels, by its leaves. -/
theorem tower_size : ∀ {R : List Lvl} {l : Lvl}, Tower (l :: R) → Fil (l :: R) → (l :: R).flatten.length + l.length ≤ 2 * (leaves (l :: R)).length ∧ l.length * 2 ^ R.length ≤ (leaves (l :: R)).length
  | [], l, h, _ => by
    rw [leaves_one]
    simp
    omega
  | d :: R, l, h, hf => by
    obtain ⟨h1, h2⟩ := tower_size h.2.2 (fun m hm => hf m (List.mem_cons_of_mem _ hm))
    have h3 := lev_two h.1 (hf l (List.mem_cons_self ..))
    rw [leaves_cons, List.flatten_cons, List.length_append, List.length_cons (a := d), Nat.pow_succ]
    refine ⟨by omega, Nat.le_trans ?_ h2⟩
    rw [Nat.mul_comm (2 ^ R.length) 2, ← Nat.mul_assoc, Nat.mul_comm l.length 2]
    exact Nat.mul_le_mul_right _ h3
/-! The store. -/
structure Ent where
  gen : Nat
  blk : Nat
  nd : Nd
/-- What stands in the slots is just these nodes. -/
structure Sto (N : Nat → Option Ent) (X : Lvl) : Prop where
  mem : ∀ h n, (h, n) ∈ X ↔ ∃ x e, N x = some e ∧ h = ⟨(x : Int), (e.gen : Int)⟩ ∧ n = e.nd
  nd : (X.map fun x => x.1.slot).Nodup
theorem Sto.perm {N : Nat → Option Ent} {X Y : Lvl} (h : Sto N X) (hp : X.Perm Y) : Sto N Y := ⟨fun a n => (hp.mem_iff (a := (a, n))).symm.trans (h.mem a n), (hp.map _).nodup_iff.1 h.nd⟩
def updE (N : Nat → Option Ent) (s : Nat) (o : Option Ent) : Nat → Option Ent := fun x => if x = s then o else N x
theorem Sto.head {N : Nat → Option Ent} {h : Hn} {n : Nd} {X : Lvl} (hs : Sto N ((h, n) :: X)) : ∃ x e, N x = some e ∧ h = ⟨(x : Int), (e.gen : Int)⟩ ∧ n = e.nd := (hs.mem h n).1 (List.mem_cons_self ..)
theorem Sto.of {N : Nat → Option Ent} {X : Lvl} (hs : Sto N X) {x : Nat} {e : Ent} (h : N x = some e) : (⟨(x : Int), (e.gen : Int)⟩, e.nd) ∈ X := (hs.mem _ _).2 ⟨x, e, h, rfl, rfl⟩
/-- A node is written over. -/
theorem Sto.set {N : Nat → Option Ent} {x : Nat} {e : Ent} {n : Nd} {X : Lvl} (hs : Sto N ((⟨(x : Int), (e.gen : Int)⟩, n) :: X)) (he : N x = some e) (m : Nd) : Sto (updE N x (some ⟨e.gen, e.blk, m⟩)) ((⟨(x : Int), (e.gen : Int)⟩, m) :: X) := by
  have hnd := hs.nd
  rw [List.map_cons, List.nodup_cons] at hnd
  refine ⟨fun h k => ?_, by rw [List.map_cons, List.nodup_cons]; exact hnd⟩
  have hne : ∀ y e2 k2, N y = some e2 → (⟨(y : Int), (e2.gen : Int)⟩, k2) ∈ X → y ≠ x := fun y e2 k2 _ hm e => by
    subst e
    exact hnd.1 (List.mem_map.2 ⟨_, hm, rfl⟩)
  constructor
  · intro hm
    rcases List.mem_cons.1 hm with e1 | e1
    · injection e1 with e1 e2
      exact ⟨x, ⟨e.gen, e.blk, m⟩, by unfold updE; rw [if_pos rfl], e1, e2⟩
    · obtain ⟨y, e2, h1, h2, h3⟩ := (hs.mem h k).1 (List.mem_cons_of_mem _ e1)
      subst h2
      exact ⟨y, e2, by unfold updE; rw [if_neg (hne y e2 k h1 e1)]; exact h1, rfl, h3⟩
  · rintro ⟨y, e2, h1, h2, h3⟩
    unfold updE at h1
    split at h1
    · rename_i hy
      injection h1 with h1
      subst h1 hy h2 h3
      exact List.mem_cons_self ..
    · rename_i hy
      have := (hs.mem h k).2 ⟨y, e2, h1, h2, h3⟩
      rcases List.mem_cons.1 this with e1 | e1
      · injection e1 with e1 _
        rw [h2] at e1
        injection e1 with e1 _
        exact absurd (by omega) hy
      · exact List.mem_cons_of_mem _ e1
/-- One more node. -/
theorem Sto.add {N : Nat → Option Ent} {X : Lvl} (hs : Sto N X) {x : Nat} (hx : N x = none) (e : Ent) : Sto (updE N x (some e)) ((⟨(x : Int), (e.gen : Int)⟩, e.nd) :: X) := by
  have hne : ∀ y e2, N y = some e2 → y ≠ x := fun y e2 h e => by rw [e, hx] at h; cases h
  refine ⟨fun h k => ?_, ?_⟩
  · constructor
    · intro hm
      rcases List.mem_cons.1 hm with e1 | e1
      · injection e1 with e1 e2
        exact ⟨x, e, by unfold updE; rw [if_pos rfl], e1, e2⟩
      · obtain ⟨y, e2, h1, h2, h3⟩ := (hs.mem h k).1 e1
        exact ⟨y, e2, by unfold updE; rw [if_neg (hne y e2 h1)]; exact h1, h2, h3⟩
    · rintro ⟨y, e2, h1, h2, h3⟩
      unfold updE at h1
      split at h1
      · rename_i hy
        injection h1 with h1
        subst h1 hy h2 h3
        exact List.mem_cons_self ..
      · exact List.mem_cons_of_mem _ ((hs.mem h k).2 ⟨y, e2, h1, h2, h3⟩)
  · rw [List.map_cons, List.nodup_cons]
    refine ⟨fun hm => ?_, hs.nd⟩
    obtain ⟨⟨h, k⟩, h1, h2⟩ := List.mem_map.1 hm
    obtain ⟨y, e2, h3, h4, _⟩ := (hs.mem h k).1 h1
    subst h4
    have h2 : (y : Int) = (x : Int) := h2
    exact hne y e2 h3 (by omega)
end Go.Proofs.YtfplnobnmgbgoaaDoor
namespace Go.Proofs
open Go.Shelf
def Tryd.lays264_ren : Go.Shelf.Ren := ⟨fun | 264 => 77 | n => n, fun | 53 => 68 | 46 => 111 | n => n, fun | n => n⟩
theorem Tryd.lays264 : Go.Proofs.Lays.n264 Tryd.prog Tryd.lays264_ren := {
  mixed := by kernel_rfl
  f264 := Tryd.func77.trans (congrArg some (by kernel_rfl))
  t46 := Tryd.underlying111
  a46 := Tryd.isAgg111
  z46 := Tryd.sizeOf111
  v46 := Tryd.zeroValue111
  t53 := Tryd.underlying68
  a53 := Tryd.isAgg68
  z53 := Tryd.sizeOf68
  v53 := Tryd.zeroValue68 }
open Go.RowKit Go.Lib in
theorem Tryd.bits_Mul64 (x y : Nat) (hx : x < 18446744073709551616) (hy : y < 18446744073709551616) (w : World) :
    Calls Tryd.prog 77 #[.int .u64 x, .int .u64 y] w fun e w' => e = .returned (.tuple #[.int .u64 ((x * y / 18446744073709551616 : Nat) : Int), .int .u64 ((x * y % 18446744073709551616 : Nat) : Int)]) ∧ w' = w := Any.bits_Mul64 Tryd.lays264 x y hx hy w
def Tryd.lays212_ren : Go.Shelf.Ren := ⟨fun | 212 => 55 | 263 => 76 | 264 => 77 | n => n, fun | 46 => 111 | 51 => 141 | 146 => 142 | 53 => 68 | 148 => 144 | n => n, fun | n => n⟩
theorem Tryd.lays212 : Go.Proofs.Lays.n212 Tryd.prog Tryd.lays212_ren := {
  mixed := by kernel_rfl
  f212 := Tryd.func55.trans (congrArg some (by kernel_rfl))
  f263 := Tryd.func76.trans (congrArg some (by kernel_rfl))
  f264 := Tryd.func77.trans (congrArg some (by kernel_rfl))
  t46 := Tryd.underlying111
  a46 := Tryd.isAgg111
  z46 := Tryd.sizeOf111
  v46 := Tryd.zeroValue111
  t51 := Tryd.underlying141
  a51 := Tryd.isAgg141
  z51 := Tryd.sizeOf141
  v51 := Tryd.zeroValue141
  t53 := Tryd.underlying68
  a53 := Tryd.isAgg68
  z53 := Tryd.sizeOf68
  v53 := Tryd.zeroValue68
  t146 := Tryd.underlying142
  a146 := Tryd.isAgg142
  z146 := Tryd.sizeOf142
  v146 := Tryd.zeroValue142
  t148 := Tryd.underlying144
  a148 := Tryd.isAgg144
  z148 := Tryd.sizeOf144
  v148 := Tryd.zeroValue144 }
open Go.RowKit Go.Lib in
theorem Tryd.bits_Mul (x y : Nat) (hx : x < 18446744073709551616) (hy : y < 18446744073709551616) (w : World) :
    Calls Tryd.prog 55 #[.int .u64 x, .int .u64 y] w fun e w' => e = .returned (.tuple #[.int .u64 ((x * y / 18446744073709551616 : Nat) : Int), .int .u64 ((x * y % 18446744073709551616 : Nat) : Int)]) ∧ w' = w := Any.bits_Mul Tryd.lays212 x y hx hy w
end Go.Proofs
namespace Go.Proofs.YtfplnobnmgbgoaaDoor
open Go.RowKit
set_option linter.unusedVariables false
set_option maxRecDepth 20000

theorem info30 : (Tryd.prog.info? 68).map (fun i => (i.zero, i.size, i.bytes)) = some (some (.int .u64 0), 1, 8) := by kernel_rfl

theorem make_u64 (n : Nat) (h : n ≤ 4096) (w : World) :
    (Instr.makeSlice 66 (.int .i64 (n : Int)) (.int .i64 (n : Int))).run Tryd.prog w = .ok (.slice (some ⟨w.heap.size, 0, none⟩) n n) (w.alloc (.cells (u64s (List.replicate n 0)) 68)) := by
  obtain ⟨i0, hi, hz0, hz1, hz2⟩ := info_parts info30
  have := run_makeSlice (P := Tryd.prog) w 66 68 i0 (.int .u64 0) Tryd.underlying66 hi hz0 .i64 .i64 n n (by omega) (by omega) (by rw [hz1]; omega) (by rw [hz2]; omega) (by omega)
  rw [this]
  have e : madeCells (Value.cells (.int .u64 0)) (Int.toNat (n : Int) * i0.size) = u64s (List.replicate n 0) := by
    rw [hz1, Nat.mul_one, Int.toNat_natCast]
    apply Array.toList_inj.1
    show (madeCells #[.int .u64 0] n).toList = _
    rw [toList_madeCells_one]
    simp [u64s]
  rw [e]
  simp

def ones (m n : Nat) : List Nat := List.replicate m 1 ++ List.replicate (n - m) 0
theorem ones_len (m n : Nat) (h : m ≤ n) : (ones m n).length = n := by simp [ones]; omega
theorem ones_at (m n j : Nat) (h : j < m) : (ones m n)[j]? = some 1 := by
  simp [ones, List.getElem?_append, h]

theorem u64s_size (l : List Nat) : (u64s l).size = l.length := by simp [u64s]
theorem ones_splice (m n k : Nat) (h : m + k ≤ n) : ((u64s (ones m n)).toList.take m ++ List.replicate k (Value.int .u64 1) ++ (u64s (ones m n)).toList.drop (m + (List.replicate k (Value.int .u64 1)).length)).toArray = u64s (ones (m + k) n) := by
  have e : (u64s (ones m n)).toList = List.replicate m (Value.int .u64 1) ++ List.replicate (n - m) (Value.int .u64 0) := by simp [u64s, ones]
  have e' : u64s (ones (m + k) n) = (List.replicate (m + k) (Value.int .u64 1) ++ List.replicate (n - (m + k)) (Value.int .u64 0)).toArray := by simp [u64s, ones]
  rw [e, e', List.length_replicate, List.take_append_of_le_length (by simp), List.take_replicate, Nat.min_self, List.drop_append, List.drop_replicate, List.drop_replicate, List.length_replicate]
  rw [show m - (m + k) = 0 by omega, show n - m - (m + k - m) = n - (m + k) by omega]
  simp only [List.replicate_zero, List.nil_append, List.replicate_append_replicate]
theorem copy_u64 {w : World} {g m n k : Nat} {ad : Addr} {sLen sCap : Nat} (hg : At w g (.cells (u64s (ones m n)) 68 (0, 0))) (hmk : m + k ≤ n) (dCap : Nat) (hk : k = Nat.min sLen (n - m))
    (hsrc : ∀ j, j < k → w.cell? (ad.add j) = some (.int .u64 1)) (ty : TypeId) :
    ∃ w', (Builtin.copy_ #[66, 66] ty #[.slice (some ⟨g, m, none⟩) (n - m) dCap, .slice (some ad) sLen sCap]).run Tryd.prog w = .ok (.int .i64 (k : Int)) w' ∧ At w' g (.cells (u64s (ones (m + k) n)) 68 (0, 0)) ∧ Turn (· = g) w w' := by
  obtain ⟨i0, hi, hz0, hz1, hz2⟩ := info_parts info30
  have hcs : (List.replicate k (Value.int .u64 1)).length = Nat.min sLen (n - m) := by simp [hk]
  have hr := run_copy_row (P := Tryd.prog) w 66 66 ty 68 g m (n - m) dCap ad sLen sCap (u64s (ones m n)) 68 (List.replicate k (.int .u64 1)) Tryd.underlying66 (by rw [hi]; simp [hz1]) hg hcs
    (fun j v hv => by
      obtain ⟨hj, hv'⟩ := List.getElem?_eq_some_iff.1 hv
      rw [List.getElem_replicate] at hv'
      rw [← hv']
      exact hsrc j (by simpa using hj))
    (by rw [u64s_size, ones_len m n (by omega)]; simp; omega) (fun v hv => by rw [(List.mem_replicate.1 hv).2]; rfl)
  refine ⟨w.setRow g (u64s (ones (m + k) n)), ?_, ?_, ?_⟩
  · rw [hr, ones_splice m n k hmk]
    simp [goInt]
  · exact setRow_heap w g _ _ 68 (0, 0) hg
  · exact ⟨rfl, rfl, rfl, by simp [World.setRow], fun i _ hi => setRow_other w g i _ hi⟩

def RepRel (w : World) (n : Nat) (m : Value) (wr : World) : Prop :=
  ∃ k : Nat, 1 ≤ k ∧ k ≤ n ∧ m = .int .i64 k ∧ At wr w.heap.size (.cells (u64s (ones k n)) 68 (0, 0)) ∧ Turn (fun _ => False) w wr

set_option maxRecDepth 100000 in
theorem repeat_any (xb n : Nat) (w : World) (h1 : 1 ≤ n) (h2 : n ≤ 4096) (hx : w.cell? ⟨xb, 0, none⟩ = some (.int .u64 1)) (hlt : xb < w.heap.size) :
    Calls Tryd.prog 28 #[.slice (some ⟨xb, 0, none⟩) 1 1, .int .i64 n] w fun e w' => e = .returned (.slice (some ⟨w.heap.size, 0, none⟩) n n) ∧ At w' w.heap.size (.cells (u64s (ones n n)) 68 (0, 0)) ∧ Turn (fun _ => False) w w' := by
  have g1 : decide ((9223372036854775807 : Int) < (n : Int)) = false := by simp only [decide_eq_false_iff_not]; omega
  have g2 : decide ((n : Int) < 0) = false := by simp
  have MU := Lib.hid (Tryd.bits_Mul 1 n (by omega) (by omega) w)
  rw [Nat.one_mul, Nat.div_eq_of_lt (by omega), Nat.mod_eq_of_lt (by omega)] at MU
  have hmk := make_u64 n h2 w
  have hnew : At (w.alloc (.cells (u64s (List.replicate n 0)) 68)) w.heap.size (.cells (u64s (ones 0 n)) 68 (0, 0)) := by
    have := At.new w (.cells (u64s (List.replicate n 0)) 68)
    simpa [ones] using this
  obtain ⟨w2, hcp, hat2, ht2⟩ := copy_u64 (ad := ⟨xb, 0, none⟩) (k := 1) (sLen := 1) (sCap := 1) hnew (by omega) n (by simp [Nat.min_def]; omega) (fun j hj => by
    obtain rfl : j = 0 := by omega
    exact (World.cell?_alloc_lt w _ _ hlt).trans hx) 3
  rw [Nat.sub_zero] at hcp
  have HA := Lib.hid (show RepRel w n (.int .i64 1) w2 from ⟨1, by omega, h1, rfl, hat2, ((Turn.refl _ w).alloc _).then ht2 (fun i hi he => by omega)⟩)
  clear hat2 ht2 hnew
  go_enter Tryd.func28, Tryd.ntmps28
  go_wp2_with fail
  refine MU.out.mono ?_
  rintro e w' ⟨rfl, hw⟩
  obtain rfl : w = w' := hw.symm
  go_wp2_with fail
  go_loopw [8] (fun m wr => RepRel w n m wr) (fun m _ => n - (intOf m).toNat)
  case atStart => exact HA.out
  case round =>
    obtain ⟨k, hk1, hk2, rfl, hat, ht⟩ := hrel
    by_cases hlt2 : k < n
    · have b1 : (0 : Int) ≤ (k : Int) := by omega
      have b2 : (k : Int) < (n : Int) := by omega
      have b3 : (k : Int) ≤ (n : Int) := by omega
      obtain ⟨w2, hcp, hat2, ht2⟩ := copy_u64 (w := wr.drew) (ad := ⟨w.heap.size, 0, none⟩) (m := k) (n := n) (k := min k (n - k)) (sLen := k) (sCap := n) hat (by omega) (n - k) rfl (fun j hj => by
        have hj' : j < k := by omega
        have := At.cell hat j
        rw [u64s_at _ _ (by rw [ones_len k n hk2]; omega)] at this
        rw [List.getD_eq_getElem?_getD, ones_at k n j hj'] at this
        unfold Addr.add
        split
        · subst j; exact this
        · simpa using this) 3
      have HR := Lib.hid (show RepRel w n (.int .i64 ((k + min k (n - k) : Nat) : Int)) w2 from ⟨_, by omega, by omega, rfl, hat2, (ht.drew).then ht2 (fun i hi he => by omega)⟩)
      clear hat2 ht2 hat ht
      have b4 : min k (n - k) ≤ n - k := Nat.min_le_right _ _
      have b5 : 1 ≤ min k (n - k) := by omega
      generalize min k (n - k) = q at *
      go_wp2_with fail
      go_region
      go_wp2_with fail
      go_roundw
      case rel => exact HR.out
      case measure => simp [intOf]; omega
    · have b2 : ¬ (k : Int) < (n : Int) := by omega
      obtain rfl : k = n := by omega
      have HA := Lib.hid hat
      have HT := Lib.hid ht
      clear hat ht
      go_wp2_with fail
      go_ret
      exact ⟨rfl, HA.out, HT.out⟩
def NewRel (w : World) (n : Nat) (s : Value) (wx : World) : Prop :=
  ∃ pb gb fb, s = .pointer (some ⟨pb, 0, none⟩) ∧ Pool wx pb gb fb (ones n n) (fun _ => false) ∧ Turn (fun _ => False) w wx ∧ w.heap.size ≤ pb ∧ w.heap.size ≤ gb ∧ w.heap.size ≤ fb

theorem words_val (n : Nat) (h2 : n ≤ 4096) : IntKind.i64.wrap ((IntKind.i64.wrap (IntKind.i64.wrap ((n : Int) + 64) - 1)).tdiv 64) = (((n + 63) / 64 : Nat) : Int) := by
  rw [IntWalk.i64_in ((n : Int) + 64) (by omega), IntWalk.i64_in ((n : Int) + 64 - 1) (by omega), show ((n : Int) + 64 - 1) = ((n + 63 : Nat) : Int) by omega]
  have : ((n + 63 : Nat) : Int).tdiv 64 = (((n + 63) / 64 : Nat) : Int) := rfl
  rw [this, IntWalk.i64_in _ (by omega)]

theorem bitAt_zero (q x : Nat) : bitAt (List.replicate q 0) x = false := by
  unfold bitAt
  have : (List.replicate q 0).getD (x / 64) 0 = 0 := by
    rw [List.getD_eq_getElem?_getD, List.getElem?_replicate]
    split <;> rfl
  rw [this]
  simp

theorem newRel_mk {w wx : World} {n q pb gb fb : Nat} (h1 : 1 ≤ n) (h2 : n ≤ 4096) (hq : (n + 63) / 64 = q) (hp : At wx pb (.cells #[.slice (some ⟨gb, 0, none⟩) n n, .slice (some ⟨fb, 0, none⟩) q q] 70 (0, 0)))
    (hg : At wx gb (.cells (u64s (ones n n)) 68 (0, 0))) (hf : At wx fb (.cells (u64s (List.replicate q 0)) 68 (0, 0))) (hne : gb ≠ fb) (t : Turn (fun _ => False) w wx) (l1 : w.heap.size ≤ pb) (l2 : w.heap.size ≤ gb) (l3 : w.heap.size ≤ fb) :
    NewRel w n (.pointer (some ⟨pb, 0, none⟩)) wx := by
  refine ⟨pb, gb, fb, rfl, ⟨List.replicate q 0, ?_, hg, hf, hne, ?_, ?_, ?_, ?_, ?_, fun x => bitAt_zero q x, fun x h => by cases h⟩, t, l1, l2, l3⟩
  · rw [ones_len n n (Nat.le_refl _), List.length_replicate]; exact hp
  · intro x hx
    simp [ones] at hx
    omega
  · intro x hx
    rw [(List.mem_replicate.1 hx).2]
    omega
  · rw [ones_len n n (Nat.le_refl _), List.length_replicate, hq]
  · rw [ones_len n n (Nat.le_refl _)]; exact h1
  · rw [ones_len n n (Nat.le_refl _)]; exact h2

theorem Pool.congr {w : World} {pb gb fb : Nat} {G G' : List Nat} {fr fr' : Nat → Bool} (h : Pool w pb gb fb G fr) (hG : G = G') (hf : ∀ x, fr x = fr' x) : Pool w pb gb fb G' fr' := by
  have : fr = fr' := funext hf
  subst hG; subst this; exact h

def NewPost (w : World) (n : Nat) (e : Ending) (w' : World) : Prop :=
  ∃ pb gb fb, e = .returned (.tuple #[.pointer (some ⟨pb, 0, none⟩), .int .i64 0]) ∧ Pool w' pb gb fb (List.replicate n 1) (fun x => decide (x < n)) ∧ Turn (fun _ => False) w w' ∧ w.heap.size ≤ pb ∧ w.heap.size ≤ gb ∧ w.heap.size ≤ fb

theorem ones_full (n : Nat) : ones n n = List.replicate n 1 := by simp [ones]

set_option maxRecDepth 100000 in
theorem newPool_any (n : Nat) (w : World) (h1 : 1 ≤ n) (h2 : n ≤ 4096) : Calls Tryd.prog 7 #[.int .i64 n] w (NewPost w n) := by
  have g1 : decide ((n : Int) < 1) = false := by simp only [decide_eq_false_iff_not]; omega
  have g2 : decide ((4096 : Int) < (n : Int)) = false := by simp only [decide_eq_false_iff_not]; omega
  have RP := Lib.hid fun (w : World) (xb : Nat) => repeat_any xb n w h1 h2
  have hmk : ∀ w : World, (Instr.makeSlice 66 (.int .i64 (IntKind.i64.wrap ((IntKind.i64.wrap (IntKind.i64.wrap ((n : Int) + 64) - 1)).tdiv 64))) (.int .i64 (IntKind.i64.wrap ((IntKind.i64.wrap (IntKind.i64.wrap ((n : Int) + 64) - 1)).tdiv 64)))).run Tryd.prog w = .ok (.slice (some ⟨w.heap.size, 0, none⟩) ((n + 63) / 64) ((n + 63) / 64)) (w.alloc (.cells (u64s (List.replicate ((n + 63) / 64) 0)) 68)) := fun w => by
    rw [words_val n h2]; exact make_u64 _ (by omega) w
  obtain ⟨q, hq⟩ : ∃ q, (n + 63) / 64 = q := ⟨_, rfl⟩
  rw [hq] at hmk
  have HQ := Lib.hid hq
  clear hq
  go_enter Tryd.func7, Tryd.ntmps7
  go_upto_region 3 with (fail)
  go_cut [4] from 12 to 21 (fun s wx => NewRel w n s wx)
  case first =>
    go_region_with (go_at_call 28; refine (RP.out _ _ (by simp) (by simp <;> omega)).mono ?_; rintro e w1 ⟨rfl, hat, ht⟩)
    all_goals (go_wp2_with fail; go_meet)
    · have e : (w.alloc (.cells #[.int .u64 1] 68)).drew.heap.size = w.heap.size + 1 := by simp
      rw [e] at hat
      have t1 : Turn (fun _ => False) w w1 := (((Turn.refl _ w).alloc _).drew).trans ht
      have hl := hat.lt
      refine newRel_mk h1 h2 HQ.out ?_ ((hat.turn (((Turn.refl (fun _ => False) _).alloc _).alloc _) (fun h => h))) ((At.new w1 _).turn ((Turn.refl (fun _ => False) _).alloc _) (fun h => h)) (by omega) ((t1.alloc _).alloc _) (by omega) (by omega) (by omega)
      have := At.new (w1.alloc (.cells (u64s (List.replicate q 0)) 68)) (.cells #[.slice (some ⟨w.heap.size + 1, 0, none⟩) n n, .slice (some ⟨w1.heap.size, 0, none⟩) q q] 70)
      simpa using this
    · have e : ((w.alloc (.cells #[.int .u64 1] 68)).alloc (.cells (u64s (List.replicate q 0)) 68)).drew.heap.size = w.heap.size + 1 + 1 := by simp
      rw [e] at hat
      have t1 : Turn (fun _ => False) w w1 := ((((Turn.refl _ w).alloc _).alloc _).drew).trans ht
      have hl := hat.lt
      have hz : At w1 (w.heap.size + 1) (.cells (u64s (List.replicate q 0)) 68 (0, 0)) := by
        have := At.new (w.alloc (.cells #[.int .u64 1] 68)) (.cells (u64s (List.replicate q 0)) 68)
        have e2 : (w.alloc (.cells #[.int .u64 1] 68)).heap.size = w.heap.size + 1 := by simp
        rw [e2] at this
        exact this.turn (((Turn.refl (fun _ => False) _).drew).trans ht) (fun h => h)
      exact newRel_mk h1 h2 HQ.out (At.new w1 _) (hat.turn ((Turn.refl (fun _ => False) _).alloc _) (fun h => h)) (hz.turn ((Turn.refl (fun _ => False) _).alloc _) (fun h => h)) (by omega) (t1.alloc _) (by omega) (by omega) (by omega)
    · have e : ((w.alloc (.cells (u64s (List.replicate q 0)) 68)).alloc (.cells #[.int .u64 1] 68)).drew.heap.size = w.heap.size + 1 + 1 := by simp
      rw [e] at hat
      have t1 : Turn (fun _ => False) w w1 := ((((Turn.refl _ w).alloc _).alloc _).drew).trans ht
      have hl := hat.lt
      have hz : At w1 w.heap.size (.cells (u64s (List.replicate q 0)) 68 (0, 0)) := by
        have := At.new w (.cells (u64s (List.replicate q 0)) 68)
        exact this.turn (((Turn.refl (fun _ => False) _).alloc _).drew.trans ht) (fun h => h)
      exact newRel_mk h1 h2 HQ.out (At.new w1 _) (hat.turn ((Turn.refl (fun _ => False) _).alloc _) (fun h => h)) (hz.turn ((Turn.refl (fun _ => False) _).alloc _) (fun h => h)) (by omega) (t1.alloc _) (by omega) (by omega) (by omega)
  case rest =>
    obtain ⟨pb, gb, fb, rfl, hp, ht, l1, l2, l3⟩ := hcut
    have HP := Lib.hid hp
    have HT := Lib.hid ht
    clear hp ht hmk RP
    go_wp2_with fail
    go_loopw [23] (fun i wr => ∃ k : Nat, k ≤ n ∧ i = .int .i64 k ∧ Hid (Pool wr pb gb fb (ones n n) (fun x => decide (x < k))) ∧ Hid (Turn (fun _ => False) w wr)) (fun i _ => n - (intOf i).toNat)
    case atStart => exact ⟨0, Nat.zero_le _, rfl, HP.out.congr rfl (fun x => by simp), HT⟩
    case round =>
      obtain ⟨k, hk, rfl, hpo, hto⟩ := hrel
      by_cases hlt : k < n
      · have b1 : (k : Int) < (n : Int) := by omega
        have SF := Lib.hid (setFree_any hpo.out (s := k) (by rw [ones_len n n (Nat.le_refl _)]; exact hlt))
        go_wp2_with fail
        refine SF.out.mono ?_
        rintro e w1 ⟨rfl, hp1, ht1⟩
        have HP1 := Lib.hid hp1
        have HT1 := Lib.hid ht1
        clear hp1 ht1
        go_wp2_with fail
        go_roundw
        case rel => exact ⟨k + 1, by omega, by go_num, HP1.out.congr rfl (fun x => by rw [Bool.eq_iff_iff]; simp; omega), hto.out.then HT1.out (fun i hi he => by omega)⟩
        case measure => simp [intOf]; omega
      · have b1 : ¬ (k : Int) < (n : Int) := by omega
        obtain rfl : k = n := by omega
        go_wp2_with fail
        go_ret2
        exact ⟨pb, gb, fb, rfl, hpo.out.congr (ones_full _) (fun x => rfl), hto.out, l1, l2, l3⟩

theorem newPool_no (n : Int) (w : World) (h : n < 1 ∨ 4096 < n) :
    Calls Tryd.prog 7 #[.int .i64 n] w fun e w' => e = .returned (.tuple #[.pointer none, .int .i64 1]) ∧ w = w' := by
  rcases h with h | h
  · go_enter Tryd.func7, Tryd.ntmps7
    go_wp2_with fail
    go_ret2
    exact ⟨rfl, rfl⟩
  · have h' : ¬ n < 1 := by omega
    go_enter Tryd.func7, Tryd.ntmps7
    go_wp2_with fail
    go_ret2
    exact ⟨rfl, rfl⟩
end Go.Proofs.YtfplnobnmgbgoaaDoor
namespace Go.Proofs.YtfplnobnmgbgoaaDoor
open Go.RowKit Go.Maps
set_option linter.unusedVariables false
set_option maxRecDepth 20000

/-- What Get of a thing that is alive comes to. -/
def GetYes (tP : TypeId) (g : Nat) (v : Value) (w : World) (e : Ending) (w' : World) : Prop := ∃ q, e = .returned (.tuple #[.pointer (some ⟨q, 1, none⟩), .bool true]) ∧ At w q (.cells #[.int .u64 (g : Int), v] tP (0, 0)) ∧ Turn (fun _ => False) w w'

theorem law3 : Keyed Tryd.prog 3 := int_keyed Tryd.underlying3

/-- What stands at slot x. -/
def Place (tP : TypeId) (w : World) (f : Int → Option Value) (x : Nat) : Option (Nat × Value) → Prop
  | none => f (x : Int) = none
  | some (g, v) => ∃ q, f (x : Int) = some (.pointer (some ⟨q, 0, none⟩)) ∧ At w q (.cells #[.int .u64 (g : Int), v] tP (0, 0))

def ArF (tA tP : TypeId) (w : World) (ab mb : Nat) (pp : Value) (M : Nat → Option (Nat × Value)) (n : Nat) (f : Int → Option Value) : Prop :=
  At w ab (.cells #[pp, .map (some mb)] tA (0, 0)) ∧ IMap Tryd.prog 3 w mb f n ∧ (∀ i : Int, i < 0 → f i = none) ∧ (∀ x : Nat, Place tP w f x (M x)) ∧ ∀ i j v, f i = some v → f j = some v → i = j

/-- An arena: its block, its map's block, its pool, what stands in which slot, and how many things. -/
def Ar (tA tP : TypeId) (w : World) (ab mb : Nat) (pp : Value) (M : Nat → Option (Nat × Value)) (n : Nat) : Prop := ∃ f, ArF tA tP w ab mb pp M n f

section
variable {tA tP : TypeId} {w w' : World} {ab mb : Nat} {pp : Value} {M : Nat → Option (Nat × Value)} {n : Nat} {f : Int → Option Value}

theorem Place.turn {X : Nat → Prop} {x : Nat} : ∀ {o : Option (Nat × Value)}, Place tP w f x o → Turn X w w' → (∀ q c, At w q (.cells c tP (0, 0)) → ¬ X q) → Place tP w' f x o
  | none, h, _, _ => h
  | some (g, v), ⟨q, h1, h2⟩, t, hX => ⟨q, h1, h2.turn t (hX q _ h2)⟩

theorem ArF.turn {X : Nat → Prop} (h : ArF tA tP w ab mb pp M n f) (t : Turn X w w') (h1 : ¬ X ab) (h2 : ¬ X mb) (hX : ∀ q c, At w q (.cells c tP (0, 0)) → ¬ X q) : ArF tA tP w' ab mb pp M n f :=
  ⟨h.1.turn t h1, h.2.1.turn t h2, h.2.2.1, fun x => (h.2.2.2.1 x).turn t hX, h.2.2.2.2⟩
theorem Ar.turn {X : Nat → Prop} (h : Ar tA tP w ab mb pp M n) (t : Turn X w w') (h1 : ¬ X ab) (h2 : ¬ X mb) (hX : ∀ q c, At w q (.cells c tP (0, 0)) → ¬ X q) : Ar tA tP w' ab mb pp M n := by
  obtain ⟨f, h⟩ := h
  exact ⟨f, h.turn t h1 h2 hX⟩
theorem Ar.same (h : Ar tA tP w ab mb pp M n) (t : Turn (fun _ => False) w w') : Ar tA tP w' ab mb pp M n := h.turn t (fun h => h) (fun h => h) (fun _ _ _ h => h)
theorem ArF.same (h : ArF tA tP w ab mb pp M n f) (t : Turn (fun _ => False) w w') : ArF tA tP w' ab mb pp M n f := h.turn t (fun h => h) (fun h => h) (fun _ _ _ h => h)

/-- The pool's words turn: the arena doesn't. -/
theorem Ar.words {X : Nat → Prop} (h : Ar tA tP w ab mb pp M n) (t : Turn X w w') (hA : tA ≠ 68) (hP : tP ≠ 68) (hX : ∀ i, X i → ∃ c, At w i (.cells c 68 (0, 0))) : Ar tA tP w' ab mb pp M n := by
  obtain ⟨f, h⟩ := h
  refine ⟨f, h.turn t ?_ ?_ ?_⟩
  · intro hx
    obtain ⟨c, hc⟩ := hX _ hx
    have := h.1.eq hc
    injection this with _ this
    exact hA this
  · intro hx
    obtain ⟨c, hc⟩ := hX _ hx
    exact h.2.1.ne hc rfl
  · intro q c hq hx
    obtain ⟨c', hc⟩ := hX _ hx
    have := hq.eq hc
    injection this with _ this
    exact hP this
/-- Another arena's map turns. -/
theorem Ar.map {X : Nat → Prop} (h : Ar tA tP w ab mb pp M n) (t : Turn X w w') {b2 : Nat} {f2 : Int → Option Value} {n2 : Nat} (h2 : IMap Tryd.prog 3 w b2 f2 n2) (hX : ∀ i, X i → i = b2) (hne : mb ≠ b2) : Ar tA tP w' ab mb pp M n := by
  obtain ⟨f, h⟩ := h
  refine ⟨f, h.turn t ?_ ?_ ?_⟩
  · intro hx
    exact h2.ne h.1 (hX _ hx).symm
  · intro hx
    exact hne (hX _ hx)
  · intro q c hq hx
    exact h2.ne hq (hX _ hx).symm

def updM (M : Nat → Option (Nat × Value)) (s : Nat) (o : Option (Nat × Value)) : Nat → Option (Nat × Value) := fun x => if x = s then o else M x

theorem Place.lt {x : Nat} {q : Nat} {c : Array Value} (h : At w q (.cells c tP (0, 0))) : q < w.heap.size := h.lt

/-- Behind 'm[s] = &place{..}': W is the world in which the place has come, q its block. -/
theorem ArF.stored {W w2 : World} {s q g : Nat} {v : Value} (h : ArF tA tP w ab mb pp M n f) (t : Turn (fun _ => False) w W) (hq : At W q (.cells #[.int .u64 (g : Int), v] tP (0, 0))) (hf : w.heap.size ≤ q) (hM : M s = none)
    (hI : IMap Tryd.prog 3 w2 mb (put f (s : Int) (.pointer (some ⟨q, 0, none⟩))) (if (f (s : Int)).isSome then n else n + 1)) (t2 : Turn (· = mb) W w2) : Ar tA tP w2 ab mb pp (updM M s (some (g, v))) (n + 1) := by
  have hs : f (s : Int) = none := by have := h.2.2.2.1 s; rw [hM] at this; exact this
  have hW := h.same t
  rw [hs] at hI
  have hmq : ∀ q c t', At W q (.cells c t' (0, 0)) → ¬ q = mb := fun q c t' hq e => hW.2.1.ne hq e.symm
  refine ⟨_, hW.1.turn t2 (hmq _ _ _ hW.1), hI, ?_, ?_, ?_⟩
  · intro i hi
    unfold put
    rw [if_neg (by omega)]
    exact h.2.2.1 i hi
  · intro x
    unfold updM
    by_cases hx : x = s
    · subst hx
      rw [if_pos rfl]
      exact ⟨q, by simp [put], hq.turn t2 (hmq _ _ _ hq)⟩
    · rw [if_neg hx]
      have h0 := hW.2.2.2.1 x
      have e : put f (s : Int) (.pointer (some ⟨q, 0, none⟩)) (x : Int) = f (x : Int) := by
        unfold put
        rw [if_neg (by omega)]
      cases hMx : M x with
      | none => rw [hMx] at h0; exact e.trans h0
      | some gv =>
        obtain ⟨g', v'⟩ := gv
        rw [hMx] at h0
        obtain ⟨q', h1, h2⟩ := h0
        exact ⟨q', e.trans h1, h2.turn t2 (hmq _ _ _ h2)⟩
  · have old : ∀ i v, f i = some v → v ≠ .pointer (some ⟨q, 0, none⟩) := by
      intro i v hv e
      subst e
      have hi : ¬ i < 0 := fun hi => by rw [h.2.2.1 i hi] at hv; cases hv
      obtain ⟨x, rfl⟩ : ∃ x : Nat, i = (x : Int) := ⟨i.toNat, by omega⟩
      have h0 := h.2.2.2.1 x
      cases hMx : M x with
      | none => rw [hMx] at h0; rw [show f (x : Int) = none from h0] at hv; cases hv
      | some gv =>
        obtain ⟨g', v'⟩ := gv
        rw [hMx] at h0
        obtain ⟨q', h1, h2⟩ := h0
        rw [h1] at hv
        injection hv with hv
        injection hv with hv
        injection hv with hv
        injection hv with hv
        subst hv
        have := h2.lt
        omega
    intro i j v hi hj
    unfold put at hi hj
    split at hi <;> split at hj
    · omega
    · injection hi with hi
      subst hi
      exact absurd rfl (old j _ hj)
    · injection hj with hj
      subst hj
      exact absurd rfl (old i _ hi)
    · exact h.2.2.2.2 i j v hi hj

/-- Behind 'delete(m, s)'. -/
theorem ArF.dropped {w2 : World} {s g : Nat} {v : Value} (h : ArF tA tP w ab mb pp M n f) (hM : M s = some (g, v)) (hI : IMap Tryd.prog 3 w2 mb (del f (s : Int)) (if (f (s : Int)).isSome then n - 1 else n)) (t2 : Turn (· = mb) w w2) :
    Ar tA tP w2 ab mb pp (updM M s none) (n - 1) := by
  have hs : (f (s : Int)).isSome = true := by
    have := h.2.2.2.1 s
    rw [hM] at this
    obtain ⟨q, h1, _⟩ := this
    rw [h1]; rfl
  rw [if_pos hs] at hI
  have hmq : ∀ q c t', At w q (.cells c t' (0, 0)) → ¬ q = mb := fun q c t' hq e => h.2.1.ne hq e.symm
  refine ⟨_, h.1.turn t2 (hmq _ _ _ h.1), hI, ?_, ?_, ?_⟩
  · intro i hi
    unfold del
    split
    · rfl
    · exact h.2.2.1 i hi
  · intro x
    unfold updM
    by_cases hx : x = s
    · subst hx
      rw [if_pos rfl]
      show del f (x : Int) (x : Int) = none
      simp [del]
    · rw [if_neg hx]
      have h0 := h.2.2.2.1 x
      have e : del f (s : Int) (x : Int) = f (x : Int) := by
        unfold del
        rw [if_neg (by omega)]
      cases hMx : M x with
      | none => rw [hMx] at h0; exact e.trans h0
      | some gv =>
        obtain ⟨g', v'⟩ := gv
        rw [hMx] at h0
        obtain ⟨q', h1, h2⟩ := h0
        exact ⟨q', e.trans h1, h2.turn t2 (hmq _ _ _ h2)⟩
  · intro i j v hi hj
    unfold del at hi hj
    split at hi
    · cases hi
    · split at hj
      · cases hj
      · exact h.2.2.2.2 i j v hi hj

theorem ArF.made (w : World) (tA tP : TypeId) (pp : Value) : ArF tA tP ((w.alloc (.map #[] 0)).alloc (.cells #[pp, .map (some w.heap.size)] tA)) (w.heap.size + 1) w.heap.size pp (fun _ => none) 0 (fun _ => none) := by
  have h1 := IMap.made Tryd.prog 3 w
  have e : (w.alloc (.map #[] 0)).heap.size = w.heap.size + 1 := by simp
  refine ⟨?_, h1.turn ((Turn.refl (fun _ => False) _).alloc _) (fun h => h), fun _ _ => rfl, fun _ => rfl, fun _ _ _ h => by cases h⟩
  have := At.new (w.alloc (.map #[] 0)) (.cells #[pp, .map (some w.heap.size)] tA)
  rw [e] at this
  exact this
end
end Go.Proofs.YtfplnobnmgbgoaaDoor
namespace Go.Proofs.YtfplnobnmgbgoaaDoor
open Go.RowKit Go.Maps
set_option linter.unusedVariables false
set_option maxRecDepth 20000

/-- What Get of a thing that is alive comes to. -/
def GetYesN (tP : TypeId) (g : Nat) (v : Array Value) (w : World) (e : Ending) (w' : World) : Prop := ∃ q, e = .returned (.tuple #[.pointer (some ⟨q, 1, none⟩), .bool true]) ∧ At w q (.cells (#[.int .u64 (g : Int)] ++ v) tP (0, 0)) ∧ Turn (fun _ => False) w w'


/-- What stands at slot x. -/
def PlaceN (tP : TypeId) (w : World) (f : Int → Option Value) (x : Nat) : Option (Nat × Array Value) → Prop
  | none => f (x : Int) = none
  | some (g, v) => ∃ q, f (x : Int) = some (.pointer (some ⟨q, 0, none⟩)) ∧ At w q (.cells (#[.int .u64 (g : Int)] ++ v) tP (0, 0))

def ArFN (tA tP : TypeId) (w : World) (ab mb : Nat) (pp : Value) (M : Nat → Option (Nat × Array Value)) (n : Nat) (f : Int → Option Value) : Prop :=
  At w ab (.cells #[pp, .map (some mb)] tA (0, 0)) ∧ IMap Tryd.prog 3 w mb f n ∧ (∀ i : Int, i < 0 → f i = none) ∧ (∀ x : Nat, PlaceN tP w f x (M x)) ∧ ∀ i j v, f i = some v → f j = some v → i = j

/-- An arena: its block, its map's block, its pool, what stands in which slot, and how many things. -/
def ArN (tA tP : TypeId) (w : World) (ab mb : Nat) (pp : Value) (M : Nat → Option (Nat × Array Value)) (n : Nat) : Prop := ∃ f, ArFN tA tP w ab mb pp M n f

section
variable {tA tP : TypeId} {w w' : World} {ab mb : Nat} {pp : Value} {M : Nat → Option (Nat × Array Value)} {n : Nat} {f : Int → Option Value}

theorem PlaceN.turn {X : Nat → Prop} {x : Nat} : ∀ {o : Option (Nat × Array Value)}, PlaceN tP w f x o → Turn X w w' → (∀ q c, At w q (.cells c tP (0, 0)) → ¬ X q) → PlaceN tP w' f x o
  | none, h, _, _ => h
  | some (g, v), ⟨q, h1, h2⟩, t, hX => ⟨q, h1, h2.turn t (hX q _ h2)⟩

theorem ArFN.turn {X : Nat → Prop} (h : ArFN tA tP w ab mb pp M n f) (t : Turn X w w') (h1 : ¬ X ab) (h2 : ¬ X mb) (hX : ∀ q c, At w q (.cells c tP (0, 0)) → ¬ X q) : ArFN tA tP w' ab mb pp M n f :=
  ⟨h.1.turn t h1, h.2.1.turn t h2, h.2.2.1, fun x => (h.2.2.2.1 x).turn t hX, h.2.2.2.2⟩
theorem ArN.turn {X : Nat → Prop} (h : ArN tA tP w ab mb pp M n) (t : Turn X w w') (h1 : ¬ X ab) (h2 : ¬ X mb) (hX : ∀ q c, At w q (.cells c tP (0, 0)) → ¬ X q) : ArN tA tP w' ab mb pp M n := by
  obtain ⟨f, h⟩ := h
  exact ⟨f, h.turn t h1 h2 hX⟩
theorem ArN.same (h : ArN tA tP w ab mb pp M n) (t : Turn (fun _ => False) w w') : ArN tA tP w' ab mb pp M n := h.turn t (fun h => h) (fun h => h) (fun _ _ _ h => h)
theorem ArFN.same (h : ArFN tA tP w ab mb pp M n f) (t : Turn (fun _ => False) w w') : ArFN tA tP w' ab mb pp M n f := h.turn t (fun h => h) (fun h => h) (fun _ _ _ h => h)

/-- The pool's words turn: the arena doesn't. -/
theorem ArN.words {X : Nat → Prop} (h : ArN tA tP w ab mb pp M n) (t : Turn X w w') (hA : tA ≠ 68) (hP : tP ≠ 68) (hX : ∀ i, X i → ∃ c, At w i (.cells c 68 (0, 0))) : ArN tA tP w' ab mb pp M n := by
  obtain ⟨f, h⟩ := h
  refine ⟨f, h.turn t ?_ ?_ ?_⟩
  · intro hx
    obtain ⟨c, hc⟩ := hX _ hx
    have := h.1.eq hc
    injection this with _ this
    exact hA this
  · intro hx
    obtain ⟨c, hc⟩ := hX _ hx
    exact h.2.1.ne hc rfl
  · intro q c hq hx
    obtain ⟨c', hc⟩ := hX _ hx
    have := hq.eq hc
    injection this with _ this
    exact hP this
/-- Another arena's map turns. -/
theorem ArN.map {X : Nat → Prop} (h : ArN tA tP w ab mb pp M n) (t : Turn X w w') {b2 : Nat} {f2 : Int → Option Value} {n2 : Nat} (h2 : IMap Tryd.prog 3 w b2 f2 n2) (hX : ∀ i, X i → i = b2) (hne : mb ≠ b2) : ArN tA tP w' ab mb pp M n := by
  obtain ⟨f, h⟩ := h
  refine ⟨f, h.turn t ?_ ?_ ?_⟩
  · intro hx
    exact h2.ne h.1 (hX _ hx).symm
  · intro hx
    exact hne (hX _ hx)
  · intro q c hq hx
    exact h2.ne hq (hX _ hx).symm

def updMN (M : Nat → Option (Nat × Array Value)) (s : Nat) (o : Option (Nat × Array Value)) : Nat → Option (Nat × Array Value) := fun x => if x = s then o else M x

theorem PlaceN.lt {x : Nat} {q : Nat} {c : Array Value} (h : At w q (.cells c tP (0, 0))) : q < w.heap.size := h.lt

/-- Behind 'm[s] = &place{..}': W is the world in which the place has come, q its block. -/
theorem ArFN.stored {W w2 : World} {s q g : Nat} {v : Array Value} (h : ArFN tA tP w ab mb pp M n f) (t : Turn (fun _ => False) w W) (hq : At W q (.cells (#[.int .u64 (g : Int)] ++ v) tP (0, 0))) (hf : w.heap.size ≤ q) (hM : M s = none)
    (hI : IMap Tryd.prog 3 w2 mb (put f (s : Int) (.pointer (some ⟨q, 0, none⟩))) (if (f (s : Int)).isSome then n else n + 1)) (t2 : Turn (· = mb) W w2) : ArN tA tP w2 ab mb pp (updMN M s (some (g, v))) (n + 1) := by
  have hs : f (s : Int) = none := by have := h.2.2.2.1 s; rw [hM] at this; exact this
  have hW := h.same t
  rw [hs] at hI
  have hmq : ∀ q c t', At W q (.cells c t' (0, 0)) → ¬ q = mb := fun q c t' hq e => hW.2.1.ne hq e.symm
  refine ⟨_, hW.1.turn t2 (hmq _ _ _ hW.1), hI, ?_, ?_, ?_⟩
  · intro i hi
    unfold put
    rw [if_neg (by omega)]
    exact h.2.2.1 i hi
  · intro x
    unfold updMN
    by_cases hx : x = s
    · subst hx
      rw [if_pos rfl]
      exact ⟨q, by simp [put], hq.turn t2 (hmq _ _ _ hq)⟩
    · rw [if_neg hx]
      have h0 := hW.2.2.2.1 x
      have e : put f (s : Int) (.pointer (some ⟨q, 0, none⟩)) (x : Int) = f (x : Int) := by
        unfold put
        rw [if_neg (by omega)]
      cases hMx : M x with
      | none => rw [hMx] at h0; exact e.trans h0
      | some gv =>
        obtain ⟨g', v'⟩ := gv
        rw [hMx] at h0
        obtain ⟨q', h1, h2⟩ := h0
        exact ⟨q', e.trans h1, h2.turn t2 (hmq _ _ _ h2)⟩
  · have old : ∀ i v, f i = some v → v ≠ .pointer (some ⟨q, 0, none⟩) := by
      intro i v hv e
      subst e
      have hi : ¬ i < 0 := fun hi => by rw [h.2.2.1 i hi] at hv; cases hv
      obtain ⟨x, rfl⟩ : ∃ x : Nat, i = (x : Int) := ⟨i.toNat, by omega⟩
      have h0 := h.2.2.2.1 x
      cases hMx : M x with
      | none => rw [hMx] at h0; rw [show f (x : Int) = none from h0] at hv; cases hv
      | some gv =>
        obtain ⟨g', v'⟩ := gv
        rw [hMx] at h0
        obtain ⟨q', h1, h2⟩ := h0
        rw [h1] at hv
        injection hv with hv
        injection hv with hv
        injection hv with hv
        injection hv with hv
        subst hv
        have := h2.lt
        omega
    intro i j v hi hj
    unfold put at hi hj
    split at hi <;> split at hj
    · omega
    · injection hi with hi
      subst hi
      exact absurd rfl (old j _ hj)
    · injection hj with hj
      subst hj
      exact absurd rfl (old i _ hi)
    · exact h.2.2.2.2 i j v hi hj

/-- Behind 'delete(m, s)'. -/
theorem ArFN.dropped {w2 : World} {s g : Nat} {v : Array Value} (h : ArFN tA tP w ab mb pp M n f) (hM : M s = some (g, v)) (hI : IMap Tryd.prog 3 w2 mb (del f (s : Int)) (if (f (s : Int)).isSome then n - 1 else n)) (t2 : Turn (· = mb) w w2) :
    ArN tA tP w2 ab mb pp (updMN M s none) (n - 1) := by
  have hs : (f (s : Int)).isSome = true := by
    have := h.2.2.2.1 s
    rw [hM] at this
    obtain ⟨q, h1, _⟩ := this
    rw [h1]; rfl
  rw [if_pos hs] at hI
  have hmq : ∀ q c t', At w q (.cells c t' (0, 0)) → ¬ q = mb := fun q c t' hq e => h.2.1.ne hq e.symm
  refine ⟨_, h.1.turn t2 (hmq _ _ _ h.1), hI, ?_, ?_, ?_⟩
  · intro i hi
    unfold del
    split
    · rfl
    · exact h.2.2.1 i hi
  · intro x
    unfold updMN
    by_cases hx : x = s
    · subst hx
      rw [if_pos rfl]
      show del f (x : Int) (x : Int) = none
      simp [del]
    · rw [if_neg hx]
      have h0 := h.2.2.2.1 x
      have e : del f (s : Int) (x : Int) = f (x : Int) := by
        unfold del
        rw [if_neg (by omega)]
      cases hMx : M x with
      | none => rw [hMx] at h0; exact e.trans h0
      | some gv =>
        obtain ⟨g', v'⟩ := gv
        rw [hMx] at h0
        obtain ⟨q', h1, h2⟩ := h0
        exact ⟨q', e.trans h1, h2.turn t2 (hmq _ _ _ h2)⟩
  · intro i j v hi hj
    unfold del at hi hj
    split at hi
    · cases hi
    · split at hj
      · cases hj
      · exact h.2.2.2.2 i j v hi hj

theorem ArFN.made (w : World) (tA tP : TypeId) (pp : Value) : ArFN tA tP ((w.alloc (.map #[] 0)).alloc (.cells #[pp, .map (some w.heap.size)] tA)) (w.heap.size + 1) w.heap.size pp (fun _ => none) 0 (fun _ => none) := by
  have h1 := IMap.made Tryd.prog 3 w
  have e : (w.alloc (.map #[] 0)).heap.size = w.heap.size + 1 := by simp
  refine ⟨?_, h1.turn ((Turn.refl (fun _ => False) _).alloc _) (fun h => h), fun _ _ => rfl, fun _ => rfl, fun _ _ _ h => by cases h⟩
  have := At.new (w.alloc (.map #[] 0)) (.cells #[pp, .map (some w.heap.size)] tA)
  rw [e] at this
  exact this
end
end Go.Proofs.YtfplnobnmgbgoaaDoor
namespace Go.Proofs.YtfplnobnmgbgoaaDoor
open Go.RowKit Go.Maps
set_option linter.unusedVariables false
set_option maxRecDepth 20000

theorem zeroN (w : World) : (zeroValue 119).run Tryd.prog w = .ok (.pointer none) w := by kernel_rfl

theorem newN (pp : Option Addr) (w : World) : Calls Tryd.prog 30 #[.pointer pp] w fun e w' => e = .returned (.pointer (some ⟨w.heap.size + 1, 0, none⟩)) ∧ ArN 116 121 w' (w.heap.size + 1) w.heap.size (.pointer pp) (fun _ => none) 0 ∧ Turn (fun _ => False) w w' := by
  have hmm := @run_makeMap Tryd.prog
  have HA := Lib.hid (ArFN.made w 116 121 (.pointer pp))
  go_enter Tryd.func30, Tryd.ntmps30
  go_wp2_with fail
  go_ret
  exact ⟨rfl, ⟨_, HA.out⟩, ((Turn.refl _ w).alloc _).alloc _⟩

theorem getN_none_w (ab mb : Nat) (i : Int) (g : Nat) (w : World) (h1 : w.cell? ⟨ab, 1, none⟩ = some (.map (some mb))) (l : ab < w.heap.size)
    (hL : ∀ n, (Instr.lookup 114 (.map (some mb)) (.int .i64 i) true).run Tryd.prog ((w.alloc (.cells #[.int .i64 i, .int .u64 (g : Int)] 77)).drewN n) = .ok (.tuple #[.pointer none, .bool false]) ((w.alloc (.cells #[.int .i64 i, .int .u64 (g : Int)] 77)).drewN n)) :
    Calls Tryd.prog 61 #[.pointer (some ⟨ab, 0, none⟩), .agg #[.int .i64 i, .int .u64 (g : Int)]] w fun e w' => e = .returned (.tuple #[.pointer none, .bool false]) ∧ Turn (fun _ => False) w w' := by
  go_enter Tryd.func61, Tryd.ntmps61
  go_wp2_with fail
  go_quiet (fail)
  go_wp2_with fail
  go_quiet (fail)
  go_wp2_with fail
  go_ret2
  first | exact ⟨rfl, (((Turn.refl _ w).alloc _).drewN _).drewN _⟩ | exact ⟨rfl, ((Turn.refl _ w).alloc _).drewN _⟩

theorem getN_some_w (ab mb q : Nat) (i : Int) (g g' : Nat) (w : World) (h1 : w.cell? ⟨ab, 1, none⟩ = some (.map (some mb))) (l : ab < w.heap.size) (lq : q < w.heap.size) (hq : w.cell? ⟨q, 0, none⟩ = some (.int .u64 (g' : Int)))
    (hL : ∀ n, (Instr.lookup 114 (.map (some mb)) (.int .i64 i) true).run Tryd.prog ((w.alloc (.cells #[.int .i64 i, .int .u64 (g : Int)] 77)).drewN n) = .ok (.tuple #[.pointer (some ⟨q, 0, none⟩), .bool true]) ((w.alloc (.cells #[.int .i64 i, .int .u64 (g : Int)] 77)).drewN n)) :
    Calls Tryd.prog 61 #[.pointer (some ⟨ab, 0, none⟩), .agg #[.int .i64 i, .int .u64 (g : Int)]] w fun e w' => e = .returned (if g' = g then .tuple #[.pointer (some ⟨q, 1, none⟩), .bool true] else .tuple #[.pointer none, .bool false]) ∧ Turn (fun _ => False) w w' := by
  by_cases hg : g' = g
  · rw [if_pos hg]
    subst hg
    have b : ((g' : Int) != (g' : Int)) = false := by simp
    go_enter Tryd.func61, Tryd.ntmps61
    go_wp2_with fail
    go_quiet (fail)
    go_wp2_with fail
    go_quiet (fail)
    go_wp2_with fail
    go_ret2
    first | exact ⟨rfl, (((Turn.refl _ w).alloc _).drewN _).drewN _⟩ | exact ⟨rfl, ((Turn.refl _ w).alloc _).drewN _⟩
  · rw [if_neg hg]
    have b : ((g' : Int) != (g : Int)) = true := by simp; omega
    clear hg
    go_enter Tryd.func61, Tryd.ntmps61
    go_wp2_with fail
    go_quiet (fail)
    go_wp2_with fail
    go_quiet (fail)
    go_wp2_with fail
    go_ret2
    first | exact ⟨rfl, (((Turn.refl _ w).alloc _).drewN _).drewN _⟩ | exact ⟨rfl, ((Turn.refl _ w).alloc _).drewN _⟩

theorem lookN {w : World} {ab mb n : Nat} {pp : Value} {M : Nat → Option (Nat × Array Value)} {f : Int → Option Value} (h : ArFN 116 121 w ab mb pp M n f) (i : Int) (hw : (Lit.int .i64 i).wf = true) (o : Obj) (k : Nat) :
    (Instr.lookup 114 (.map (some mb)) (.int .i64 i) true).run Tryd.prog ((w.alloc o).drewN k) = .ok (.tuple #[(f i).getD (.pointer none), .bool (f i).isSome]) ((w.alloc o).drewN k) :=
  (h.2.1.turn (((Turn.refl (fun _ => False) w).alloc o).drewN k) (fun h => h)).look law3 Tryd.underlying3 Tryd.underlying114 (zeroN _) hw

section
variable {w : World} {ab mb n : Nat} {pp : Value} {M : Nat → Option (Nat × Array Value)}

/-- Get where nothing stands. -/
theorem getN_none (h : ArN 116 121 w ab mb pp M n) (x g : Nat) (hx : x < 9223372036854775808) (hM : M x = none) :
    Calls Tryd.prog 61 #[.pointer (some ⟨ab, 0, none⟩), .agg #[.int .i64 (x : Int), .int .u64 (g : Int)]] w fun e w' => e = .returned (.tuple #[.pointer none, .bool false]) ∧ Turn (fun _ => False) w w' := by
  obtain ⟨f, h⟩ := h
  have hf : f (x : Int) = none := by have := h.2.2.2.1 x; rw [hM] at this; exact this
  refine getN_none_w ab mb x g w (h.1.cell 1) h.1.lt (fun k => ?_)
  rw [lookN h _ (wf64 (by omega) (by omega)), hf]
  rfl

theorem getN_below (h : ArN 116 121 w ab mb pp M n) (i : Int) (g : Nat) (hi : i < 0) (hw : -9223372036854775808 ≤ i) :
    Calls Tryd.prog 61 #[.pointer (some ⟨ab, 0, none⟩), .agg #[.int .i64 i, .int .u64 (g : Int)]] w fun e w' => e = .returned (.tuple #[.pointer none, .bool false]) ∧ Turn (fun _ => False) w w' := by
  obtain ⟨f, h⟩ := h
  refine getN_none_w ab mb i g w (h.1.cell 1) h.1.lt (fun k => ?_)
  rw [lookN h _ (wf64 hw (by omega)), h.2.2.1 i hi]
  rfl

/-- Get where a thing of another generation stands. -/
theorem getN_other (h : ArN 116 121 w ab mb pp M n) (x g g' : Nat) (v : Array Value) (hx : x < 9223372036854775808) (hM : M x = some (g', v)) (hg : g' ≠ g) :
    Calls Tryd.prog 61 #[.pointer (some ⟨ab, 0, none⟩), .agg #[.int .i64 (x : Int), .int .u64 (g : Int)]] w fun e w' => e = .returned (.tuple #[.pointer none, .bool false]) ∧ Turn (fun _ => False) w w' := by
  obtain ⟨f, h⟩ := h
  have h0 := h.2.2.2.1 x
  rw [hM] at h0
  obtain ⟨q, h1, h2⟩ := h0
  have := getN_some_w ab mb q x g g' w (h.1.cell 1) h.1.lt h2.lt (by have := h2.cell 0; rw [Array.getElem?_append_left (by simp)] at this; simpa using this) (fun k => by rw [lookN h _ (wf64 (by omega) (by omega)), h1]; rfl)
  rw [if_neg hg] at this
  exact this


/-- Get of what is alive. -/
theorem getN_some (h : ArN 116 121 w ab mb pp M n) (x g : Nat) (v : Array Value) (hx : x < 9223372036854775808) (hM : M x = some (g, v)) :
    Calls Tryd.prog 61 #[.pointer (some ⟨ab, 0, none⟩), .agg #[.int .i64 (x : Int), .int .u64 (g : Int)]] w (GetYesN 121 g v w) := by
  obtain ⟨f, h⟩ := h
  have h0 := h.2.2.2.1 x
  rw [hM] at h0
  obtain ⟨q, h1, h2⟩ := h0
  have := getN_some_w ab mb q x g g w (h.1.cell 1) h.1.lt h2.lt (by have := h2.cell 0; rw [Array.getElem?_append_left (by simp)] at this; simpa using this) (fun k => by rw [lookN h _ (wf64 (by omega) (by omega)), h1]; rfl)
  rw [if_pos rfl] at this
  exact this.mono fun e w' ⟨he, ht⟩ => ⟨q, he, h2, ht⟩

theorem getN_nil (i : Int) (g : Int) (w : World) : Calls Tryd.prog 61 #[.pointer none, .agg #[.int .i64 i, .int .u64 g]] w fun e w' => e = .returned (.tuple #[.pointer none, .bool false]) ∧ Turn (fun _ => False) w w' := by
  go_enter Tryd.func61, Tryd.ntmps61
  go_wp2_with fail
  go_ret2
  exact ⟨rfl, (Turn.refl _ w).alloc _⟩

theorem liveN (h : ArN 116 121 w ab mb pp M n) : Calls Tryd.prog 53 #[.pointer (some ⟨ab, 0, none⟩)] w fun e w' => e = .returned (.int .i64 (n : Int)) ∧ w = w' := by
  obtain ⟨f, h⟩ := h
  have hl := fun ty => h.2.1.len Tryd.underlying114 ty
  have c1 := h.1.cell 1
  simp at c1
  clear h
  go_enter Tryd.func53, Tryd.ntmps53
  go_wp2_with fail
  go_ret
  exact ⟨rfl, rfl⟩

/-- Alloc, where s is the pool's least free slot. -/
theorem allocN_some {w00 : World} {pb gb fb s : Nat} {G : List Nat} {fr : Nat → Bool} (leaf : Bool) (AK : Option Addr) (nk ck : Nat) (AV : Option Addr) (nv cv : Nat) (AD : Option Addr) (nd cd : Nat) (high : ByteArray) (bnd : Bool) (sl ge : Int) (h00 : ArN 116 121 w00 ab mb (.pointer (some ⟨pb, 0, none⟩)) M n) (hP00 : Pool w00 pb gb fb G fr) (hT00 : Tab w00) (hs : fr s = true) (hl : ∀ y, y < s → fr y = false) (hM : M s = none) (hn : n < 1000000) :
    Calls Tryd.prog 31 #[.pointer (some ⟨ab, 0, none⟩), .agg #[.bool leaf, .slice AK nk ck, .slice AV nv cv, .slice AD nd cd, .string high, .bool bnd, .int .i64 sl, .int .u64 ge]] w00 fun e w' => e = .returned (.tuple #[.agg #[.int .i64 (s : Int), .int .u64 (G.getD s 0 : Nat)], .int .i64 0]) ∧
      Pool w' pb gb fb G (fun x => fr x && x != s) ∧ ArN 116 121 w' ab mb (.pointer (some ⟨pb, 0, none⟩)) (updMN M s (some (G.getD s 0, #[.bool leaf, .slice AK nk ck, .slice AV nv cv, .slice AD nd cd, .string high, .bool bnd, .int .i64 sl, .int .u64 ge]))) (n + 1) ∧ Turn (fun i => i = fb ∨ i = mb) w00 w' := by
  have tq : Turn (fun _ => False) w00 (w00.alloc (.cells #[.bool leaf, .slice AK nk ck, .slice AV nv cv, .slice AD nd cd, .string high, .bool bnd, .int .i64 sl, .int .u64 ge] 79)) := (Turn.refl _ w00).alloc _
  have hBx := At.new w00 (.cells #[.bool leaf, .slice AK nk ck, .slice AV nv cv, .slice AD nd cd, .string high, .bool bnd, .int .i64 sl, .int .u64 ge] 79)
  have h := h00.same tq
  have hP := hP00.turn tq (fun h => h) (fun h => h) (fun h => h)
  have hT := hT00.turn tq (fun h => h) hT00.pos
  have hsz : (w00.alloc (.cells #[.bool leaf, .slice AK nk ck, .slice AV nv cv, .slice AD nd cd, .string high, .bool bnd, .int .i64 sl, .int .u64 ge] 79)).heap.size = w00.heap.size + 1 := by simp
  have lb00 : mb < w00.heap.size := by obtain ⟨f, hf⟩ := h00; exact hf.2.1.lt
  have lf00 := hP00.lt
  have c00 : w00.cell? ⟨ab, 0, none⟩ = some (.pointer (some ⟨pb, 0, none⟩)) := by obtain ⟨f, hf⟩ := h00; simpa using hf.1.cell 0
  have l00 : ab < w00.heap.size := by obtain ⟨f, hf⟩ := h00; exact hf.1.lt
  clear h00 hP00 hT00
  obtain ⟨w, hw⟩ : ∃ w, w = w00.alloc (.cells #[.bool leaf, .slice AK nk ck, .slice AV nv cv, .slice AD nd cd, .string high, .bool bnd, .int .i64 sl, .int .u64 ge] 79) := ⟨_, rfl⟩
  obtain ⟨Bx, hbx⟩ : ∃ Bx, Bx = w00.heap.size := ⟨_, rfl⟩
  rw [← hw, ← hbx] at hsz hBx
  rw [← hw] at tq h hP hT
  have TQ := Lib.hid tq
  clear tq
  obtain ⟨f, h⟩ := h
  have hsG : s < 4096 := by
    obtain ⟨F, _, _, _, _, _, _, _, _, h2, _, hlt⟩ := hP
    have := hlt s hs
    omega
  have t0 : Turn (fun _ => False) w (w.alloc (.cells #[.int .i64 0, .int .u64 0] 77)) := (Turn.refl _ w).alloc _
  have hP0 := hP.turn t0 (fun h => h) (fun h => h) (fun h => h)
  have TK := Lib.hid (take_some hP0 (hT.turn t0 (fun h => h) hT.pos) hs hl)
  have h0 := h.same t0
  have hfb : ∃ c, At (w.alloc (.cells #[.int .i64 0, .int .u64 0] 77)) fb (.cells c 68 (0, 0)) := by
    obtain ⟨F, _, _, hf, _⟩ := hP0
    exact ⟨_, hf⟩
  obtain ⟨cf, hfb⟩ := hfb
  have nab : ¬ ab = fb := h0.1.ne hfb (by intro e; injection e with _ e; cases e)
  have nmb : ¬ mb = fb := h0.2.1.ne hfb
  have nB : ¬ w.heap.size = fb := (At.new w (.cells #[.int .i64 0, .int .u64 0] 77)).ne hfb (by intro e; injection e with _ e; cases e)
  have npl : ∀ q c, At (w.alloc (.cells #[.int .i64 0, .int .u64 0] 77)) q (.cells c 121 (0, 0)) → ¬ q = fb := fun q c hq => hq.ne hfb (by intro e; injection e with _ e; cases e)
  have hB0 := At.new w (.cells #[.int .i64 0, .int .u64 0] 77)
  have nBx : ¬ Bx = fb := (hBx.turn t0 (fun h => h)).ne hfb (by intro e; injection e with _ e; cases e)
  have HBX := Lib.hid (hBx.turn t0 (fun h => h))
  have HX := Lib.hid (And.intro h0 (And.intro hP (And.intro npl (And.intro hB0 (And.intro h hT)))))
  have c0 := h.1.cell 0
  simp at c0
  have l0 := h.1.lt
  clear h0 hP hP0 hT npl hB0 h hfb hBx
  generalize G.getD s 0 = g at *
  go_enter Tryd.func31, Tryd.ntmps31
  go_wp2_with fail
  rw [← hw, ← hbx, ← hsz]
  have HSZ := Lib.hid (And.intro hw (And.intro hbx hsz))
  clear hw hbx hsz c00 l00
  refine TK.out.mono ?_
  rintro e w1 ⟨rfl, hp1, ht1⟩
  obtain ⟨h0, hP, npl, hB0, h, hT⟩ := HX.out
  have h1 := h0.turn ht1 nab nmb npl
  have hX1 := HBX.out.turn ht1 nBx
  obtain ⟨x1, x2, x3, x4, x5, x6, x7, x8⟩ := at8 hX1
  have lX1 := hX1.lt
  clear hX1
  have hB1 := hB0.turn ht1 nB
  have lB := hB1.lt
  have la := h1.1.lt
  have c1 := h1.1.cell 1
  simp at c1
  have t2 : Turn (fun _ => False) w1 (((w1.alloc (.cells #[.int .i64 (s : Int), .int .u64 (g : Int)] 77)).alloc (.cells #[.int .u64 (g : Int), .bool leaf, .slice AK nk ck, .slice AV nv cv, .slice AD nd cd, .string high, .bool bnd, .int .i64 sl, .int .u64 ge] 121)).drew) := (((Turn.refl _ w1).alloc _).alloc _).drew
  obtain ⟨w2, hrun, hI2, ht2⟩ := (h1.2.1.turn t2 (fun h => h)).store (v := .pointer (some ⟨w1.heap.size + 1, 0, none⟩)) law3 Tryd.underlying3 Tryd.underlying114 hn (wf64 (i := (s : Int)) (by omega) (by omega))
  have hH : At (((w1.alloc (.cells #[.int .i64 (s : Int), .int .u64 (g : Int)] 77)).alloc (.cells #[.int .u64 (g : Int), .bool leaf, .slice AK nk ck, .slice AV nv cv, .slice AD nd cd, .string high, .bool bnd, .int .i64 sl, .int .u64 ge] 121)).drew) w1.heap.size (.cells #[.int .i64 (s : Int), .int .u64 (g : Int)] 77 (0, 0)) :=
    (At.new w1 _).turn (((Turn.refl (fun _ => False) _).alloc _).drew) (fun h => h)
  have hQ : At (((w1.alloc (.cells #[.int .i64 (s : Int), .int .u64 (g : Int)] 77)).alloc (.cells #[.int .u64 (g : Int), .bool leaf, .slice AK nk ck, .slice AV nv cv, .slice AD nd cd, .string high, .bool bnd, .int .i64 sl, .int .u64 ge] 121)).drew) (w1.heap.size + 1) (.cells #[.int .u64 (g : Int), .bool leaf, .slice AK nk ck, .slice AV nv cv, .slice AD nd cd, .string high, .bool bnd, .int .i64 sl, .int .u64 ge] 121 (0, 0)) := by
    have := At.new (w1.alloc (.cells #[.int .i64 (s : Int), .int .u64 (g : Int)] 77)) (.cells #[.int .u64 (g : Int), .bool leaf, .slice AK nk ck, .slice AV nv cv, .slice AD nd cd, .string high, .bool bnd, .int .i64 sl, .int .u64 ge] 121)
    have e : (w1.alloc (.cells #[.int .i64 (s : Int), .int .u64 (g : Int)] 77)).heap.size = w1.heap.size + 1 := by simp
    rw [e] at this
    exact this.turn ((Turn.refl (fun _ => False) _).drew) (fun h => h)
  have hW := h1.same t2
  have hmq : ∀ q c t', At (((w1.alloc (.cells #[.int .i64 (s : Int), .int .u64 (g : Int)] 77)).alloc (.cells #[.int .u64 (g : Int), .bool leaf, .slice AK nk ck, .slice AV nv cv, .slice AD nd cd, .string high, .bool bnd, .int .i64 sl, .int .u64 ge] 121)).drew) q (.cells c t' (0, 0)) → ¬ q = mb := fun q c t' hq e => hW.2.1.ne hq e.symm
  have hH2 := hH.turn ht2 (hmq _ _ _ hH)
  have hBW := hB1.turn t2 (fun h => h)
  have hB2 := hBW.turn ht2 (hmq _ _ _ hBW)
  have r0 := hH2.cell 0
  have r1 := hH2.cell 1
  have z0 := hB2.cell 0
  have z1 := hB2.cell 1
  have y0 := hB2.thawed 0
  have y1 := hB2.thawed 1
  have lw2 := hH2.lt
  have HE := Lib.hid (And.intro hp1 (And.intro ht1 (And.intro h1 (And.intro t2 (And.intro hQ (And.intro hI2 (And.intro ht2 hB2)))))))
  clear h0 hP npl hB0 h hT h1 hB1 t2 hI2 ht2 hH hQ hW hmq hH2 hBW hB2 hp1 ht1
  simp at r0 r1 z0 z1
  go_wp2_with fail
  go_region
  go_wp2_with fail
  refine bodyPost_ret (v := .tuple #[.agg #[.int .i64 (s : Int), .int .u64 (g : Int)], .int .i64 0]) (by simp [results, Tryd.results31, go_sem, z0, z1]) rfl ⟨rfl, ?_⟩
  obtain ⟨hp1, ht1, h1, t2, hQ, hI2, ht2, hB2⟩ := HE.out
  obtain ⟨h0, hP, npl, hB0, h, hT⟩ := HX.out
  have h2 := h1.stored (v := #[.bool leaf, .slice AK nk ck, .slice AV nv cv, .slice AD nd cd, .string high, .bool bnd, .int .i64 sl, .int .u64 ge]) t2 (by first | exact hQ | simpa using hQ) (by omega) hM hI2 ht2
  have tE : Turn (· = w.heap.size) w2 ((w2.setCell ⟨w.heap.size, 0, none⟩ (.int .i64 (s : Int))).setCell ⟨w.heap.size, 1, none⟩ (.int .u64 (g : Int))) := ((Turn.refl (· = w.heap.size) w2).setCell (p := ⟨w.heap.size, 0, none⟩) (Or.inl rfl) _).setCell (p := ⟨w.heap.size, 1, none⟩) (Or.inl rfl) _
  have lp := hP.lt
  have lt1 := ht1.size
  have hpm : ∀ i c t', At w1 i (.cells c t' (0, 0)) → ¬ i = mb := fun i c t' hi e => h1.2.1.ne hi e.symm
  have hpw2 : Pool w2 pb gb fb G (fun x => fr x && x != s) := by
    have ⟨F, q1, q2, q3, _⟩ := hp1
    exact (hp1.turn t2 (fun h => h) (fun h => h) (fun h => h)).turn ht2 (hpm _ _ _ q1) (hpm _ _ _ q2) (hpm _ _ _ q3)
  have lmb := h.2.1.lt
  obtain ⟨hw, hbx, hsz⟩ := HSZ.out
  refine ⟨hpw2.turn tE (by omega) (by omega) (by omega), h2.turn tE (by omega) (by omega) ?_, ?_⟩
  · intro q c hq e
    exact hB2.ne hq (by intro e; injection e with _ e; cases e) e.symm
  · have u1 : Turn (fun i => i = fb ∨ i = mb) w w1 := ((Turn.refl (fun i => i = fb ∨ i = mb) w).then t0 (fun i _ hi => hi.elim)).then ht1 (fun i _ hi => Or.inl hi)
    have u2 : Turn (fun i => i = fb ∨ i = mb) w w2 := (u1.then t2 (fun i _ hi => hi.elim)).then ht2 (fun i _ hi => Or.inr hi)
    exact ((TQ.out.mono (fun _ _ h => h.elim)).trans (u2.then tE (fun i hi e => by omega)))

/-- Alloc, where no slot is free. -/
theorem allocN_full {w00 : World} {pb gb fb : Nat} {G : List Nat} {fr : Nat → Bool} (leaf : Bool) (AK : Option Addr) (nk ck : Nat) (AV : Option Addr) (nv cv : Nat) (AD : Option Addr) (nd cd : Nat) (high : ByteArray) (bnd : Bool) (sl ge : Int) (h00 : ArN 116 121 w00 ab mb (.pointer (some ⟨pb, 0, none⟩)) M n) (hP00 : Pool w00 pb gb fb G fr) (hl : ∀ y, fr y = false) :
    Calls Tryd.prog 31 #[.pointer (some ⟨ab, 0, none⟩), .agg #[.bool leaf, .slice AK nk ck, .slice AV nv cv, .slice AD nd cd, .string high, .bool bnd, .int .i64 sl, .int .u64 ge]] w00 fun e w' => e = .returned (.tuple #[.agg #[.int .i64 0, .int .u64 0], .int .i64 5]) ∧ Turn (fun _ => False) w00 w' := by
  have tq : Turn (fun _ => False) w00 (w00.alloc (.cells #[.bool leaf, .slice AK nk ck, .slice AV nv cv, .slice AD nd cd, .string high, .bool bnd, .int .i64 sl, .int .u64 ge] 79)) := (Turn.refl _ w00).alloc _
  have h := h00.same tq
  have hP := hP00.turn tq (fun h => h) (fun h => h) (fun h => h)
  have hsz : (w00.alloc (.cells #[.bool leaf, .slice AK nk ck, .slice AV nv cv, .slice AD nd cd, .string high, .bool bnd, .int .i64 sl, .int .u64 ge] 79)).heap.size = w00.heap.size + 1 := by simp
  have c00 : w00.cell? ⟨ab, 0, none⟩ = some (.pointer (some ⟨pb, 0, none⟩)) := by obtain ⟨f, hf⟩ := h00; simpa using hf.1.cell 0
  have l00 : ab < w00.heap.size := by obtain ⟨f, hf⟩ := h00; exact hf.1.lt
  clear h00 hP00
  obtain ⟨w, hw⟩ : ∃ w, w = w00.alloc (.cells #[.bool leaf, .slice AK nk ck, .slice AV nv cv, .slice AD nd cd, .string high, .bool bnd, .int .i64 sl, .int .u64 ge] 79) := ⟨_, rfl⟩
  obtain ⟨Bx, hbx⟩ : ∃ Bx, Bx = w00.heap.size := ⟨_, rfl⟩
  rw [← hw, ← hbx] at hsz
  rw [← hw] at tq h hP
  have TQ := Lib.hid tq
  clear tq
  obtain ⟨f, h⟩ := h
  have t0 : Turn (fun _ => False) w (w.alloc (.cells #[.int .i64 0, .int .u64 0] 77)) := (Turn.refl _ w).alloc _
  have TK := Lib.hid (take_none (hP.turn t0 (fun h => h) (fun h => h) (fun h => h)) hl)
  have hB0 := At.new w (.cells #[.int .i64 0, .int .u64 0] 77)
  have HX := Lib.hid hB0
  have HT := Lib.hid t0
  have c0 := h.1.cell 0
  simp at c0
  have l0 := h.1.lt
  clear h hP hB0 t0
  go_enter Tryd.func31, Tryd.ntmps31
  go_wp2_with fail
  rw [← hw, ← hbx, ← hsz]
  have HSZ := Lib.hid (And.intro hw (And.intro hbx hsz))
  clear hw hbx hsz c00 l00
  refine TK.out.mono ?_
  rintro e w1 ⟨rfl, ht1⟩
  have hB1 := HX.out.turn ht1 (fun h => h)
  have z0 := hB1.cell 0
  have z1 := hB1.cell 1
  have y0 := hB1.thawed 0
  have y1 := hB1.thawed 1
  have lB := hB1.lt
  have HE := Lib.hid (HT.out.trans ht1)
  have HB := Lib.hid hB1
  clear ht1 hB1
  simp at z0 z1
  go_wp2_with fail
  have hW : At (((w1.setCell ⟨w.heap.size, 0, none⟩ (.int .i64 0)).setCell ⟨w.heap.size, 1, none⟩ (.int .u64 0)).alloc (.cells #[.int .i64 0, .int .u64 0] 77)) w.heap.size (.cells #[.int .i64 0, .int .u64 0] 77 (0, 0)) :=
    (((HB.out.set 0 (.int .i64 0)).set 1 (.int .u64 0)).turn ((Turn.refl (fun _ => False) _).alloc _) (fun h => h) : _)
  have r0 := hW.cell 0
  have r1 := hW.cell 1
  simp at r0 r1
  exact bodyPost_ret (v := .tuple #[.agg #[.int .i64 0, .int .u64 0], .int .i64 5]) (by simp [results, Tryd.results31, go_sem, r0, r1]) rfl ⟨rfl, TQ.out.trans (((HE.out.setCell (p := ⟨w.heap.size, 0, none⟩) (Or.inr (Nat.le_refl _)) _).setCell (p := ⟨w.heap.size, 1, none⟩) (Or.inr (Nat.le_refl _)) _).alloc _)⟩

end
end Go.Proofs.YtfplnobnmgbgoaaDoor
