/-
  The law's awake, over what is asked of the program.
  What came in: texts within reach, rows of keys, rows of handles, a node.
  keys.Compare, strings.Clone; what is read of a node: Covers, Full, Find, behind.
  Right, piece by piece; takes.
  Builtins whose run is known; splices.
-/
import Derived.Test.YtfplnobnmgbgoaaDoorJ3
import Derived.ProofKit
import Derived.Deep.Slices
import Derived.Deep.Fields
import Derived.ChangeSame
import Derived.SizedLaws
import Derived.Below
import Derived.WalkKit
import Derived.Lib.Hide
import Derived.Test.YtfplnobnmgbgoaaDoorJ2
import Derived.Laws.CopyOwn
import Derived.Lib.AppendZerosOnto
import Derived.Lib.Overlaps
import Derived.Laws.AppendOwn
import Derived.Laws.OwnMore
namespace Go.Proofs.YtfplnobnmgbgoaaDoor
open Go.RowKit Go.Lib
set_option linter.unusedVariables false
set_option maxRecDepth 20000
set_option maxRecDepth 20000
set_option maxRecDepth 20000
set_option linter.unusedSimpArgs false

theorem leafR_L : LeafR ndL ⟨#[99]⟩ := ⟨⟨rk_L, fun _ => rfl, fun h => by (cases h), fun _ => ⟨rfl, rfl⟩, fun h => by (cases h)⟩, rfl, fun h => by (cases h)⟩
theorem right_L2 : NdRight ndL2 := ⟨rk_L2, fun _ => rfl, fun h => by (cases h), fun _ => ⟨rfl, rfl⟩, fun h => by (cases h)⟩
theorem fit_L (x : UInt8) : Fit ⟨#[x]⟩ := by unfold Fit; show (1 : Nat) ≤ _; omega
theorem put_L {m : Nd} {old : ByteArray} {had : Bool} (h : PutR ndL ⟨#[99]⟩ ⟨#[57]⟩ m old had) : m = ndL2 ∧ had = false := by
  obtain ⟨h1, _, h3⟩ := h.1 leafR_L
  rw [putL_L] at h1
  rw [getL_L] at h3
  exact ⟨h1, h3⟩
theorem in_L {w : World} {AK AV AD : Option Addr} {ck cv cd : Nat} {Z : Nat} (h : Own Z w ndL.keys ndL.vals ndL.kids AK ck AV cv AD cd) : In w ndL AK AV AD :=
  ⟨row_of_own h.k, row_of_own h.v, row_of_own h.d, fun k hk => by
    simp only [ndL, List.mem_cons, List.not_mem_nil, or_false] at hk
    rcases hk with rfl | rfl <;> exact fit_L _, fun k hk => by
    simp only [ndL, List.mem_cons, List.not_mem_nil, or_false] at hk
    rcases hk with rfl | rfl <;> exact fit_L _, by unfold Fit; show (0 : Nat) ≤ _; omega, by decide, by decide, by decide⟩
theorem in_L2 {w : World} {AK AV AD : Option Addr} {Z : Nat} (h : Got Z w ndL2 AK AV AD) : In w ndL2 AK AV AD :=
  ⟨h.k, h.v, h.d, fun k hk => by
    simp only [ndL2, List.mem_cons, List.not_mem_nil, or_false] at hk
    rcases hk with rfl | rfl | rfl <;> exact fit_L _, fun k hk => by
    simp only [ndL2, List.mem_cons, List.not_mem_nil, or_false] at hk
    rcases hk with rfl | rfl | rfl <;> exact fit_L _, by unfold Fit; show (0 : Nat) ≤ _; omega, by decide, by decide, by decide⟩
end Go.Proofs.YtfplnobnmgbgoaaDoor
namespace Go.Proofs.YtfplnobnmgbgoaaDoor
open Go.RowKit Go.ChangeShapes Go.WideShapes Go.Deep Go.Lib
set_option linter.unusedVariables false
set_option maxRecDepth 20000
set_option maxRecDepth 20000
set_option maxRecDepth 20000
set_option linter.unusedSimpArgs false

section
variable {H : Type} {P : Program}
def Sz (P : Program) (t : TypeId) (d : DataW H) : Prop := ∀ n ∈ d.weights P t, n ≤ reachBytes
theorem weightsAll_mem {e : TypeId} {n : Nat} : ∀ {ds : List (DataW H)} {d : DataW H}, d ∈ ds → n ∈ d.weights P e → n ∈ DataW.weightsAll P e ds
  | x :: r, d, hd, hn => by
    rw [DataW.weightsAll]
    rcases List.mem_cons.1 hd with rfl | hd
    · exact List.mem_append.2 (.inl hn)
    · exact List.mem_append.2 (.inr (weightsAll_mem hd hn))
theorem Sz.elem {t e : TypeId} (ht : P.underlying t = some (.slice e)) {elems spare : List (DataW H)} (h : Sz P t (.slice elems spare)) {d : DataW H} (hd : d ∈ elems) : Sz P e d := fun n hn =>
  h n (by simp only [DataW.weights, ht, List.mem_cons, List.mem_append]; exact .inr (.inl (weightsAll_mem hd hn)))
theorem Sz.part {t : TypeId} {fs : Array Field} (ht : P.underlying t = some (.struct fs)) {xs : List (DataW H)} (h : Sz P t (.agg xs)) {i : Nat} {f : Field} {x : DataW H} (hf : fs[i]? = some f) (hx : xs[i]? = some x) : Sz P f.type x := fun n hn =>
  h n (by
    simp only [DataW.weights, ht]
    exact DataW.weights_mem_each (j := i) (by simp [hf]) hx n hn)
theorem Sz.text {t : TypeId} {s : ByteArray} (h : Sz P t (.lit (.string s.data.toList) : DataW H)) : Fit s := by
  have h1 := h s.data.toList.length (by simp [DataW.weights])
  have h2 := reachBytes_lt
  have h3 : s.data.toList.length = s.size := Array.length_toList
  unfold Fit
  omega
end

theorem spot_none {w : World} {x : Addr} {v : Value} (h : w.cell? x = some v) : x.spot = none ∧ x.block < w.heap.size := by
  unfold World.cell? at h
  constructor
  · cases hs : x.spot with
    | none => rfl
    | some n => rw [hs] at h; split at h <;> simp at h
  · rcases Nat.lt_or_ge x.block w.heap.size with h1 | h1
    · exact h1
    · rw [Array.getElem?_eq_none h1] at h; cases h
theorem cells3 : Tryd.prog.cellsOf 3 = 1 := by kernel_rfl
theorem cells4 : Tryd.prog.cellsOf 4 = 1 := by kernel_rfl
theorem cells9 : Tryd.prog.cellsOf 9 = 1 := by kernel_rfl
theorem cells23 : Tryd.prog.cellsOf 74 = 1 := by kernel_rfl
theorem cells24 : Tryd.prog.cellsOf 75 = 1 := by kernel_rfl
theorem cells25 : Tryd.prog.cellsOf 68 = 1 := by kernel_rfl
theorem cells27 : Tryd.prog.cellsOf 77 = 2 := by kernel_rfl
section
variable {H : Type} {enc : TypeId × Value → H} {W : World}
/-- The elements of a slice that came in. -/
theorem open_row {t e : TypeId} {c : Nat} (ht : Tryd.prog.underlying t = some (.slice e)) (hce : Tryd.prog.cellsOf e = c) (h0 : 0 < c) {fuel : Nat} {A : Option Addr} {len cap : Nat} {x : DataW H × List MemPlace}
    (h : DataW.trod enc Tryd.prog W 0 (fun _ => true) true fuel t [.slice A len cap] = some x) :
    len ≤ cap ∧ len ≤ maxLen ∧ ∀ i, i < len → ∃ (cs : List Value) (n : Nat) (D : DataW H × List MemPlace), cs.length = c ∧ DataW.trod enc Tryd.prog W 0 (fun _ => true) true n e cs = some D ∧ (Sz Tryd.prog t x.1 → Sz Tryd.prog e D.1) ∧
      ∃ b o, A = some ⟨b, o, none⟩ ∧ b < W.heap.size ∧ ∀ j u, cs[j]? = some u → W.cell? ⟨b, o + i * c + j, none⟩ = some u := by
  rcases open_slice ht h with ⟨hcs, _⟩ | ⟨a, l, cp, m, k, D, Pl, hcs, _, hl, hm, hmm, hx, hi⟩
  · injection hcs with hcs _
    injection hcs with e1 e2 e3
    subst e1 e2 e3
    exact ⟨Nat.le_refl _, Nat.zero_le _, fun j hj => by omega⟩
  · injection hcs with hcs _
    injection hcs with e1 e2 e3
    subst e1 e2 e3
    refine ⟨hl, Nat.le_trans hl hm, fun i hlt => ?_⟩
    have hmc : m = cap := by rw [hmm]; exact if_pos rfl
    obtain ⟨cs, hc, htr⟩ := hi i (by omega)
    rw [hce] at hc
    obtain ⟨_, hlen, hat⟩ := World.cells?_some hc
    refine ⟨cs, k, (D i, Pl i), hlen, htr, fun hs => ?_, ?_⟩
    · subst hx
      exact Sz.elem ht hs (List.mem_map.2 ⟨i, List.mem_range.2 hlt, rfl⟩)
    · have hz0 : ∀ q : Addr, q.add 0 = q := fun q => by simp [Addr.add]
      obtain ⟨lb, lo, sp⟩ := a
      have hsp : sp = none ∧ lb < W.heap.size := by
        obtain ⟨cs0, hc0, _⟩ := hi 0 (by omega)
        rw [hce] at hc0
        obtain ⟨_, hl0, hat0⟩ := World.cells?_some hc0
        have h00 := hat0 0 (by omega)
        rw [hz0, Nat.zero_mul, hz0] at h00
        match cs0, hl0 with
        | u0 :: _, _ =>
          simp only [List.getElem?_cons_zero] at h00
          exact spot_none h00
        | [], hl0 => simp at hl0; omega
      obtain ⟨rfl, hb⟩ := hsp
      have hadd : ∀ o q, (⟨lb, o, none⟩ : Addr).add q = ⟨lb, o + q, none⟩ := fun o q => by
        unfold Addr.add
        split
        · subst q; rfl
        · rfl
      refine ⟨lb, lo, rfl, hb, fun j u hu => ?_⟩
      have hj : j < c := by rw [← hlen]; exact (List.getElem?_eq_some_iff.1 hu).1
      have := hat j hj
      rw [hadd, hadd] at this
      rw [this]
      exact hu

theorem open_nil {t e : TypeId} (ht : Tryd.prog.underlying t = some (.slice e)) {fuel : Nat} {len cap : Nat} {x : DataW H × List MemPlace}
    (h : DataW.trod enc Tryd.prog W 0 (fun _ => true) true fuel t [.slice none len cap] = some x) : cap = 0 := by
  rcases open_slice ht h with ⟨hcs, _⟩ | ⟨a, l, cp, m, k, D, Pl, hcs, _⟩
  · injection hcs with hcs _
    injection hcs with e1 e2 e3
  · injection hcs with hcs _
    injection hcs with e1 e2 e3
    cases e1
end
theorem row_of_parts {α : Type} (f : α → List Value) (c : Nat) (h0 : 0 < c) (hf : ∀ x, (f x).length = c) {W : World} {A : Option Addr} {l : List α}
    (h : ∀ i x, l[i]? = some x → ∃ b o, A = some ⟨b, o, none⟩ ∧ b < W.heap.size ∧ ∀ j u, (f x)[j]? = some u → W.cell? ⟨b, o + i * c + j, none⟩ = some u) : Row W A (l.flatMap f) := by
  intro q u hq
  have hlen := flat_length f c hf l
  have hql : q < l.length * c := by rw [← hlen]; exact (List.getElem?_eq_some_iff.1 hq).1
  have hi : q / c < l.length := by rw [Nat.div_lt_iff_lt_mul h0]; exact hql
  have hm : q % c < c := Nat.mod_lt _ h0
  obtain ⟨x, hx⟩ : ∃ x, l[q / c]? = some x := ⟨l[q / c], List.getElem?_eq_getElem hi⟩
  have e : q / c * c + q % c = q := by rw [Nat.mul_comm]; exact Nat.div_add_mod q c
  have hx2 := flat_at f c hf l (q / c) (q % c) x hx hm
  rw [e] at hx2
  obtain ⟨b, o, hA, hb, hc⟩ := h _ x hx
  refine ⟨b, o, hA, hb, ?_⟩
  have := hc (q % c) u (by rw [← hx2]; exact hq)
  rwa [Nat.add_assoc, e] at this

theorem list_of {α : Type} (p : Nat → α → Prop) (n : Nat) (h : ∀ i, i < n → ∃ x, p i x) : ∃ l : List α, l.length = n ∧ ∀ i x, l[i]? = some x → p i x := by
  induction n with
  | zero => exact ⟨[], rfl, fun i x hx => by simp at hx⟩
  | succ n ih =>
    obtain ⟨l, hl, hp⟩ := ih fun i hi => h i (by omega)
    obtain ⟨x, hx⟩ := h n (by omega)
    refine ⟨l ++ [x], by simp [hl], fun i y hy => ?_⟩
    by_cases hi : i < l.length
    · rw [List.getElem?_append_left hi] at hy; exact hp i y hy
    · rw [List.getElem?_append_right (by omega)] at hy
      have : i - l.length = 0 := by
        rcases Nat.eq_zero_or_pos (i - l.length) with h0 | h0
        · exact h0
        · rw [List.getElem?_eq_none (by simp; omega)] at hy; cases hy
      rw [this] at hy
      simp at hy
      subst hy
      obtain rfl : i = n := by omega
      exact hx

section
variable {H : Type} {enc : TypeId × Value → H} {W : World}
theorem decode_str {n : Nat} {cs : List Value} {D : DataW H × List MemPlace} (hl : cs.length = 1) (h : DataW.trod enc Tryd.prog W 0 (fun _ => true) true n 9 cs = some D) : ∃ x : ByteArray, cs = [.string x] ∧ (Sz Tryd.prog 9 D.1 → Fit x) := by
  obtain ⟨k, e0, d0, _⟩ := DataW.trod_string Tryd.underlying9 h
  subst e0
  refine ⟨k, rfl, fun hs => ?_⟩
  rw [d0] at hs
  exact hs.text
theorem kcs_flat : ∀ K : List ByteArray, K.flatMap (fun x : ByteArray => [Value.string x]) = kcs K
  | [] => rfl
  | a :: l => by rw [List.flatMap_cons, kcs_flat l]; rfl
theorem decode_hn {n : Nat} {cs : List Value} {D : DataW H × List MemPlace} (hl : cs.length = 2) (h : DataW.trod enc Tryd.prog W 0 (fun _ => true) true n 77 cs = some D) : ∃ x : Hn, cs = x.cs := by
  obtain ⟨xs, n1, _, hx, _, hxl, hf⟩ := DataW.trod_struct Tryd.underlying77 h
  match cs, hl with
  | [v0, v1], _ =>
    match xs, hxl with
    | [y0, y1], _ =>
      have q0 : DataW.trod enc Tryd.prog W 0 (fun _ => true) true n1 3 (([v0, v1].drop 0).take (Tryd.prog.cellsOf 3)) = some y0 := hf 0 _ rfl
      have q1 : DataW.trod enc Tryd.prog W 0 (fun _ => true) true n1 68 (([v0, v1].drop 1).take (Tryd.prog.cellsOf 68)) = some y1 := hf 1 _ rfl
      rw [cells3] at q0
      rw [cells25] at q1
      obtain ⟨a, e0, _⟩ := DataW.trod_int Tryd.underlying3 q0
      obtain ⟨b, e1, _⟩ := DataW.trod_int Tryd.underlying68 q1
      simp at e0 e1
      subst e0 e1
      exact ⟨⟨a, b⟩, rfl⟩
theorem decode_slice {t e : TypeId} (ht : Tryd.prog.underlying t = some (.slice e)) {n : Nat} {v : Value} {D : DataW H × List MemPlace} (h : DataW.trod enc Tryd.prog W 0 (fun _ => true) true n t [v] = some D) : ∃ A len cap, v = .slice A len cap := by
  rcases open_slice ht h with ⟨hcs, _⟩ | ⟨a, l, c, _, _, _, _, hcs, _⟩
  · simp at hcs; exact ⟨_, _, _, hcs⟩
  · simp at hcs; exact ⟨_, _, _, hcs⟩
theorem keys_of {fuel : Nat} {A : Option Addr} {len cap : Nat} {x : DataW H × List MemPlace} (h : DataW.trod enc Tryd.prog W 0 (fun _ => true) true fuel 74 [.slice A len cap] = some x) (hs : Sz Tryd.prog 74 x.1) : ∃ K : List ByteArray, K.length = len ∧ len ≤ maxLen ∧ Row W A (kcs K) ∧ ∀ k ∈ K, Fit k := by
  obtain ⟨_, hm, hi⟩ := open_row Tryd.underlying74 cells9 (by decide) h
  obtain ⟨K, hwl, hwp⟩ := list_of (fun i (x : ByteArray) => Fit x ∧ ∃ b o, A = some ⟨b, o, none⟩ ∧ b < W.heap.size ∧ ∀ j u, [Value.string x][j]? = some u → W.cell? ⟨b, o + i * 1 + j, none⟩ = some u) len (fun i hlt => by
    obtain ⟨cs, n, D, hcl, htr, hsz, hcell⟩ := hi i hlt
    obtain ⟨x, rfl, hx⟩ := decode_str hcl htr
    exact ⟨x, hx (hsz hs), hcell⟩)
  have hr := row_of_parts (fun x : ByteArray => [Value.string x]) 1 (by decide) (fun _ => rfl) (fun i x hx => (hwp i x hx).2)
  have e := kcs_flat K
  exact ⟨K, hwl, hm, e ▸ hr, fun x hx => by
    obtain ⟨j, hj⟩ := List.mem_iff_getElem?.1 hx
    exact (hwp j x hj).1⟩
theorem kids_of {fuel : Nat} {A : Option Addr} {len cap : Nat} {x : DataW H × List MemPlace} (h : DataW.trod enc Tryd.prog W 0 (fun _ => true) true fuel 75 [.slice A len cap] = some x) : ∃ D : List Hn, D.length = len ∧ len ≤ maxLen ∧ Row W A (hcs D) := by
  obtain ⟨_, hm, hi⟩ := open_row Tryd.underlying75 cells27 (by decide) h
  obtain ⟨D, hwl, hwp⟩ := list_of (fun i (x : Hn) => ∃ b o, A = some ⟨b, o, none⟩ ∧ b < W.heap.size ∧ ∀ j u, x.cs[j]? = some u → W.cell? ⟨b, o + i * 2 + j, none⟩ = some u) len (fun i hlt => by
    obtain ⟨cs, n, D, hcl, htr, hsz, hcell⟩ := hi i hlt
    obtain ⟨x, rfl⟩ := decode_hn hcl htr
    exact ⟨x, hcell⟩)
  exact ⟨D, hwl, hm, row_of_parts Hn.cs 2 (by decide) (fun _ => rfl) (fun i x hx => hwp i x hx)⟩
/-- A node that came in: whatever its rows' lengths. -/
structure InN (W : World) (n : Nd) (AK AV AD : Option Addr) : Prop where
  k : Row W AK (kcs n.keys)
  v : Row W AV (kcs n.vals)
  d : Row W AD (hcs n.kids)
  fk : ∀ k ∈ n.keys, Fit k
  fv : ∀ k ∈ n.vals, Fit k
  fh : Fit n.high
  lk : n.keys.length ≤ maxLen
  lv : n.vals.length ≤ maxLen
  ld : n.kids.length ≤ maxLen
set_option maxHeartbeats 1000000 in
theorem inN_of {fuel : Nat} {x : DataW H × List MemPlace} {cs : List Value} (hl : cs.length = 8) (h : DataW.trod enc Tryd.prog W 0 (fun _ => true) true fuel 79 cs = some x) (hs : Sz Tryd.prog 79 x.1) : ∃ n AK ck AV cv AD cd, cs = [.bool n.leaf, .slice AK n.keys.length ck, .slice AV n.vals.length cv, .slice AD n.kids.length cd, .string n.high, .bool n.bnd, .int .i64 n.nx.slot, .int .u64 n.nx.gen] ∧ InN W n AK AV AD := by
  obtain ⟨xs, n1, _, hx, _, hxl, hf⟩ := DataW.trod_struct Tryd.underlying79 h
  match cs, hl with
  | [v0, v1, v2, v3, v4, v5, v6, v7], _ =>
    match xs, hxl with
    | [y0, y1, y2, y3, y4, y5, y6], _ =>
      have q0 : DataW.trod enc Tryd.prog W 0 (fun _ => true) true n1 4 (([v0, v1, v2, v3, v4, v5, v6, v7].drop 0).take (Tryd.prog.cellsOf 4)) = some y0 := hf 0 _ rfl
      have q1 : DataW.trod enc Tryd.prog W 0 (fun _ => true) true n1 74 (([v0, v1, v2, v3, v4, v5, v6, v7].drop 1).take (Tryd.prog.cellsOf 74)) = some y1 := hf 1 _ rfl
      have q2 : DataW.trod enc Tryd.prog W 0 (fun _ => true) true n1 74 (([v0, v1, v2, v3, v4, v5, v6, v7].drop 2).take (Tryd.prog.cellsOf 74)) = some y2 := hf 2 _ rfl
      have q3 : DataW.trod enc Tryd.prog W 0 (fun _ => true) true n1 75 (([v0, v1, v2, v3, v4, v5, v6, v7].drop 3).take (Tryd.prog.cellsOf 75)) = some y3 := hf 3 _ rfl
      have q4 : DataW.trod enc Tryd.prog W 0 (fun _ => true) true n1 9 (([v0, v1, v2, v3, v4, v5, v6, v7].drop 4).take (Tryd.prog.cellsOf 9)) = some y4 := hf 4 _ rfl
      have q5 : DataW.trod enc Tryd.prog W 0 (fun _ => true) true n1 4 (([v0, v1, v2, v3, v4, v5, v6, v7].drop 5).take (Tryd.prog.cellsOf 4)) = some y5 := hf 5 _ rfl
      have q6 : DataW.trod enc Tryd.prog W 0 (fun _ => true) true n1 77 (([v0, v1, v2, v3, v4, v5, v6, v7].drop 6).take (Tryd.prog.cellsOf 77)) = some y6 := hf 6 _ rfl
      rw [cells4] at q0 q5
      rw [cells23] at q1 q2
      rw [cells24] at q3
      rw [cells9] at q4
      rw [cells27] at q6
      obtain ⟨leaf, e0, _⟩ := DataW.trod_bool Tryd.underlying4 q0
      obtain ⟨AK, lk, ck, e1⟩ := decode_slice Tryd.underlying74 (v := v1) q1
      obtain ⟨AV, lv, cv, e2⟩ := decode_slice Tryd.underlying74 (v := v2) q2
      obtain ⟨AD, ld, cd, e3⟩ := decode_slice Tryd.underlying75 (v := v3) q3
      obtain ⟨hi, e4, hf4⟩ := decode_str rfl q4
      obtain ⟨bnd, e5, _⟩ := DataW.trod_bool Tryd.underlying4 q5
      obtain ⟨⟨sl, ge⟩, e6⟩ := decode_hn rfl q6
      simp [Hn.cs] at e0 e4 e5 e6
      obtain ⟨e6, e7⟩ := e6
      subst e0 e1 e2 e3 e4 e5 e6 e7
      subst hx
      obtain ⟨K, rfl, m1, r1, f1⟩ := keys_of q1 (Sz.part Tryd.underlying79 hs (i := 1) rfl rfl)
      obtain ⟨V, rfl, m2, r2, f2⟩ := keys_of q2 (Sz.part Tryd.underlying79 hs (i := 2) rfl rfl)
      obtain ⟨D, rfl, m3, r3⟩ := kids_of q3
      exact ⟨⟨leaf, K, V, D, hi, bnd, ⟨sl, ge⟩⟩, AK, ck, AV, cv, AD, cd, rfl, r1, r2, r3, f1, f2, hf4 (Sz.part Tryd.underlying79 hs (i := 4) rfl rfl), m1, m2, m3⟩
end
end Go.Proofs.YtfplnobnmgbgoaaDoor
namespace Go.Proofs.YtfplnobnmgbgoaaDoor
open Go.RowKit Go.Lib
set_option linter.unusedVariables false
set_option maxRecDepth 20000
set_option maxRecDepth 20000
set_option linter.unusedSimpArgs false

theorem at8 {w : World} {g : Nat} {v0 v1 v2 v3 v4 v5 v6 v7 : Value} {t : TypeId} {f : Nat × Nat} (h : At w g (.cells #[v0, v1, v2, v3, v4, v5, v6, v7] t f)) :
    w.cell? ⟨g, 0, none⟩ = some v0 ∧ w.cell? ⟨g, 1, none⟩ = some v1 ∧ w.cell? ⟨g, 2, none⟩ = some v2 ∧ w.cell? ⟨g, 3, none⟩ = some v3 ∧ w.cell? ⟨g, 4, none⟩ = some v4 ∧ w.cell? ⟨g, 5, none⟩ = some v5 ∧ w.cell? ⟨g, 6, none⟩ = some v6 ∧ w.cell? ⟨g, 7, none⟩ = some v7 :=
  ⟨h.cell 0, h.cell 1, h.cell 2, h.cell 3, h.cell 4, h.cell 5, h.cell 6, h.cell 7⟩
/-- strings.Clone -/
theorem clone_any (a : ByteArray) (h : Fit a) (w : World) : Calls Tryd.prog 36 #[.string a] w fun e w' => e = .returned (.string a) ∧ Turn No w w' := by
  have h' : a.size ≤ 281474976710656 := Nat.le_trans h (by decide)
  go_enter Tryd.func36, Tryd.ntmps36
  go_wp2_with (go_at_call 60; refine (Tryd.stringslite_Clone _ _ h').mono ?_; rintro e w' ⟨rfl, hb⟩)
  go_ret
  exact ⟨rfl, Turn.of_below hb⟩
/-- keys.Compare -/
theorem cmp_any (a b : ByteArray) (w : World) : Calls Tryd.prog 59 #[.string a, .string b] w fun e w' => e = .returned (.int .i64 (kcmp a b)) ∧ w' = w := by
  go_enter Tryd.func59, Tryd.ntmps59
  go_wp2_with (go_at_call 79; refine (Tryd.strings_Compare _ _ _).mono ?_; rintro e w' ⟨rfl, rfl⟩)
  go_ret
  exact ⟨rfl, rfl⟩
theorem kcmp_neg {a b : ByteArray} (h : kl a b) : kcmp a b = -1 := by
  have := kcmp_range a b
  unfold kl at h
  omega
theorem kcmp_eq (a : ByteArray) : kcmp a a = 0 := kcmp_zero.2 rfl
theorem kcmp_pos {a b : ByteArray} (h : kl b a) : kcmp a b = 1 := by rw [kcmp_anti, kcmp_neg h]; rfl
set_option maxHeartbeats 2000000 in
theorem coversP (leaf : Bool) (K V : List ByteArray) (D : List Hn) (high : ByteArray) (bnd : Bool) (sl ge : Int) (AK AV AD : Option Addr) (ck cv cd : Nat) (key : ByteArray) (w : World) :
    Calls Tryd.prog 57 #[.agg #[.bool leaf, .slice AK K.length ck, .slice AV V.length cv, .slice AD D.length cd, .string high, .bool bnd, .int .i64 sl, .int .u64 ge], .string key] w fun e w' => BRes (bnd = true → kl key high) w e w' := by
  have HB := Lib.hid (And.intro ((Turn.refl No w).alloc (.cells #[.bool leaf, .slice AK K.length ck, .slice AV V.length cv, .slice AD D.length cd, .string high, .bool bnd, .int .i64 sl, .int .u64 ge] 79)) (At.new w (.cells #[.bool leaf, .slice AK K.length ck, .slice AV V.length cv, .slice AD D.length cd, .string high, .bool bnd, .int .i64 sl, .int .u64 ge] 79)))
  obtain ⟨z, hz⟩ : ∃ z, kcmp key high = z := ⟨_, rfl⟩
  have CL := Lib.hid fun (W : World) => cmp_any key high W
  rw [hz] at CL
  have HZ := Lib.hid hz
  clear hz
  go_enter Tryd.func57, Tryd.ntmps57
  go_upto_region 1 with fail
  generalize w.alloc (.cells #[.bool leaf, .slice AK K.length ck, .slice AV V.length cv, .slice AD D.length cd, .string high, .bool bnd, .int .i64 sl, .int .u64 ge] 79) = w1 at HB ⊢
  generalize w.heap.size = g at HB ⊢
  have e4 := HB.out.2.cell 4
  have e5 := HB.out.2.cell 5
  simp at e4 e5
  cases bnd with
  | false =>
    go_wp2_with fail
    go_ret
    exact BRes.of true rfl ⟨fun _ h => by (cases h), fun _ => rfl⟩ HB.out.1
  | true =>
    go_wp2_with (go_at_call 59; (with_reducible refine (CL.out _).mono ?_); rintro e w2 ⟨rfl, rfl⟩)
    go_ret
    exact BRes.of (decide (z < 0)) rfl (by
      rw [decide_eq_true_iff, ← HZ.out]
      first | exact ⟨fun h _ => h, fun h => h rfl⟩ | exact Iff.rfl) HB.out.1
set_option maxHeartbeats 2000000 in
theorem fullP (leaf : Bool) (K V : List ByteArray) (D : List Hn) (high : ByteArray) (bnd : Bool) (sl ge : Int) (AK AV AD : Option Addr) (ck cv cd : Nat) (w : World) (hn : K.length ≤ 100000) :
    Calls Tryd.prog 70 #[.agg #[.bool leaf, .slice AK K.length ck, .slice AV V.length cv, .slice AD D.length cd, .string high, .bool bnd, .int .i64 sl, .int .u64 ge]] w fun e w' => BRes (4 < K.length) w e w' := by
  have HB := Lib.hid (And.intro ((Turn.refl No w).alloc (.cells #[.bool leaf, .slice AK K.length ck, .slice AV V.length cv, .slice AD D.length cd, .string high, .bool bnd, .int .i64 sl, .int .u64 ge] 79)) (At.new w (.cells #[.bool leaf, .slice AK K.length ck, .slice AV V.length cv, .slice AD D.length cd, .string high, .bool bnd, .int .i64 sl, .int .u64 ge] 79)))
  go_enter Tryd.func70, Tryd.ntmps70
  go_upto_region 1 with fail
  generalize w.alloc (.cells #[.bool leaf, .slice AK K.length ck, .slice AV V.length cv, .slice AD D.length cd, .string high, .bool bnd, .int .i64 sl, .int .u64 ge] 79) = w1 at HB ⊢
  generalize w.heap.size = g at HB ⊢
  have e1 := HB.out.2.cell 1
  simp at e1
  by_cases hk : 4 < K.length
  · have q : (4 : Int) < (K.length : Int) := by omega
    go_wp2_with fail
    go_ret
    exact BRes.of true rfl ⟨fun _ => by first | trivial | exact HK.out, fun _ => rfl⟩ HB.out.1
  · have q : ¬ (4 : Int) < (K.length : Int) := by omega
    have HK := Lib.hid hk
    clear hk
    go_wp2_with fail
    go_ret
    exact BRes.of false rfl ⟨fun h => by (cases h), fun h => by first | exact absurd h HK.out | exact h.elim⟩ HB.out.1
/-- What Find has seen behind i keys. -/
def Fd (w0 wr : World) (K : List ByteArray) (key : ByteArray) (i : Nat) (x y : Value) : Prop := Turn No w0 wr ∧ x = .int .i64 (plc (K.take i) key : Int) ∧ y = .bool (inK (K.take i) key)
set_option maxHeartbeats 4000000 in
theorem findP (leaf : Bool) (K V : List ByteArray) (D : List Hn) (high : ByteArray) (bnd : Bool) (sl ge : Int) (AK AV AD : Option Addr) (ck cv cd : Nat) (key : ByteArray) (w : World) (hK : Row w AK (kcs K)) (hn : K.length ≤ 100000) :
    Calls Tryd.prog 35 #[.agg #[.bool leaf, .slice AK K.length ck, .slice AV V.length cv, .slice AD D.length cd, .string high, .bool bnd, .int .i64 sl, .int .u64 ge], .string key] w fun e w' => e = .returned (.tuple #[.int .i64 (plc K key : Int), .bool (inK K key)]) ∧ Turn No w w' := by
  have HB := Lib.hid (And.intro ((Turn.refl No w).alloc (.cells #[.bool leaf, .slice AK K.length ck, .slice AV V.length cv, .slice AD D.length cd, .string high, .bool bnd, .int .i64 sl, .int .u64 ge] 79)) (At.new w (.cells #[.bool leaf, .slice AK K.length ck, .slice AV V.length cv, .slice AD D.length cd, .string high, .bool bnd, .int .i64 sl, .int .u64 ge] 79)))
  have HR := Lib.hid (hK.no HB.out.1)
  have CL := Lib.hid fun (a : ByteArray) (W : World) => cmp_any a key W
  clear hK
  go_enter Tryd.func35, Tryd.ntmps35
  go_upto_region 1 with fail
  generalize w.alloc (.cells #[.bool leaf, .slice AK K.length ck, .slice AV V.length cv, .slice AD D.length cd, .string high, .bool bnd, .int .i64 sl, .int .u64 ge] 79) = w1 at HB HR ⊢
  generalize w.heap.size = g at HB ⊢
  have e1 := HB.out.2.cell 1
  simp at e1
  go_wp2_with fail
  go_loopw [11, 4, 5] (fun a x y wr => ∃ i : Nat, i ≤ K.length ∧ a = .int .i64 (i : Int) ∧ x = .int .i64 (plc (K.take i) key : Int) ∧ y = .bool (inK (K.take i) key) ∧ Hid (Turn No w1 wr)) (fun a _ _ _ => K.length - (RowKit.intOf a).toNat)
  case atStart => exact ⟨0, Nat.zero_le _, rfl, rfl, rfl, Lib.hid (Turn.refl _ _)⟩
  case round =>
    obtain ⟨i, hi, rfl, rfl, rfl, HP⟩ := hrel
    by_cases hlt : i < K.length
    · obtain ⟨k, hk⟩ : ∃ t, K[i]? = some t := ⟨K[i], List.getElem?_eq_getElem hlt⟩
      obtain ⟨b, o, hB, hc⟩ := kcs_hold (HR.out.no HP.out) hk
      have x0 := hc wr (Turn.refl _ _)
      have HPS := Lib.hid (plc_snoc hk key)
      have HIS := Lib.hid (inK_snoc hk key)
      have HPL : Hid (plc (K.take i) key ≤ 100000) := Lib.hid (by have := plc_le (K.take i) key; rw [List.length_take] at this; omega)
      have CK := Lib.hid (CL.out k)
      subst hB
      clear hk hc
      have hq1 : (0 : Int) ≤ (i : Int) := by omega
      have hq2 : (i : Int) < (K.length : Int) := by omega
      obtain ⟨P, hP⟩ : ∃ x, plc (K.take i) key = x := ⟨_, rfl⟩
      obtain ⟨Q, hQ⟩ : ∃ x, inK (K.take i) key = x := ⟨_, rfl⟩
      rw [hP] at HPS HPL
      rw [hQ] at HIS
      rw [hP, hQ]
      clear hP hQ
      have hw : IntKind.i64.wrap ((P : Int) + 1) = (P : Int) + 1 := IntWalk.i64_in _ ⟨by have := HPL.out; omega, by have := HPL.out; omega⟩
      rcases kl_tri k key with h1 | h1 | h1
      · have HE : Hid (plc (K.take (i + 1)) key = P + 1 ∧ inK (K.take (i + 1)) key = Q) := Lib.hid ⟨by rw [HPS.out, if_pos h1], by rw [HIS.out, decide_eq_false (kl_ne h1), Bool.or_false]⟩
        rw [kcmp_neg h1] at CK
        clear h1
        go_wp2_with (go_at_call 59; (with_reducible refine (CK.out _).mono ?_); rintro e w2 ⟨rfl, rfl⟩)
        exact ⟨⟨i + 1, by omega, by go_num, by rw [HE.out.1]; go_num, by rw [HE.out.2], HP⟩, by simp [RowKit.intOf]; omega⟩
      · have HE : Hid (plc (K.take (i + 1)) key = P ∧ inK (K.take (i + 1)) key = true) := Lib.hid ⟨by rw [HPS.out, if_neg (h1 ▸ kl_irrefl _)]; rfl, by rw [HIS.out, decide_eq_true h1, Bool.or_true]⟩
        subst h1
        rw [kcmp_eq] at CK
        go_wp2_with (go_at_call 59; (with_reducible refine (CK.out _).mono ?_); rintro e w2 ⟨rfl, rfl⟩)
        exact ⟨⟨i + 1, by omega, by go_num, by rw [HE.out.1], by rw [HE.out.2], HP⟩, by simp [RowKit.intOf]; omega⟩
      · have HE : Hid (plc (K.take (i + 1)) key = P ∧ inK (K.take (i + 1)) key = Q) := Lib.hid ⟨by rw [HPS.out, if_neg (kl_asymm h1)]; rfl, by rw [HIS.out, decide_eq_false (fun e => kl_ne h1 e.symm), Bool.or_false]⟩
        rw [kcmp_pos h1] at CK
        clear h1
        go_wp2_with (go_at_call 59; (with_reducible refine (CK.out _).mono ?_); rintro e w2 ⟨rfl, rfl⟩)
        exact ⟨⟨i + 1, by omega, by go_num, by rw [HE.out.1], by rw [HE.out.2], HP⟩, by simp [RowKit.intOf]; omega⟩
    · obtain rfl : i = K.length := by omega
      have HT := Lib.hid (List.take_length (l := K))
      go_wp2_with fail
      go_ret2
      exact ⟨by rw [HT.out]; rfl, HB.out.1.trans HP.out⟩
set_option maxHeartbeats 2000000 in
theorem behindP (leaf : Bool) (K V : List ByteArray) (D : List Hn) (high : ByteArray) (bnd : Bool) (sl ge : Int) (AK AV AD : Option Addr) (ck cv cd : Nat) (key : ByteArray) (w : World) (hK : Row w AK (kcs K)) (hn : K.length ≤ 100000) :
    Calls Tryd.prog 83 #[.agg #[.bool leaf, .slice AK K.length ck, .slice AV V.length cv, .slice AD D.length cd, .string high, .bool bnd, .int .i64 sl, .int .u64 ge], .string key] w fun e w' => e = .returned (.int .i64 ((plc K key + if inK K key = true then 1 else 0 : Nat) : Int)) ∧ Turn No w w' := by
  have HB := Lib.hid (And.intro ((Turn.refl No w).alloc (.cells #[.bool leaf, .slice AK K.length ck, .slice AV V.length cv, .slice AD D.length cd, .string high, .bool bnd, .int .i64 sl, .int .u64 ge] 79)) (At.new w (.cells #[.bool leaf, .slice AK K.length ck, .slice AV V.length cv, .slice AD D.length cd, .string high, .bool bnd, .int .i64 sl, .int .u64 ge] 79)))
  have CF := Lib.hid (findP leaf K V D high bnd sl ge AK AV AD ck cv cd key _ (hK.no HB.out.1) hn)
  have HPL := plc_le K key
  obtain ⟨P, hP⟩ : ∃ x, plc K key = x := ⟨_, rfl⟩
  obtain ⟨Q, hQ⟩ : ∃ x, inK K key = x := ⟨_, rfl⟩
  rw [hP, hQ] at CF
  rw [hP, hQ]
  rw [hP] at HPL
  clear hK hP hQ
  go_enter Tryd.func83, Tryd.ntmps83
  go_upto_region 1 with fail
  generalize w.alloc (.cells #[.bool leaf, .slice AK K.length ck, .slice AV V.length cv, .slice AD D.length cd, .string high, .bool bnd, .int .i64 sl, .int .u64 ge] 79) = w1 at HB CF ⊢
  generalize w.heap.size = g at HB ⊢
  obtain ⟨c0, c1, c2, c3, c4, c5, c6, c7⟩ := at8 HB.out.2
  have hw : IntKind.i64.wrap ((P : Int) + 1) = (P : Int) + 1 := IntWalk.i64_in _ ⟨by omega, by omega⟩
  cases Q with
  | true =>
    go_wp2_with (go_at_call 35; (with_reducible refine CF.out.mono ?_); rintro e w2 ⟨rfl, ht⟩; have H2 := Lib.hid ht; clear ht)
    go_ret
    exact ⟨by go_num, HB.out.1.trans H2.out⟩
  | false =>
    go_wp2_with (go_at_call 35; (with_reducible refine CF.out.mono ?_); rintro e w2 ⟨rfl, ht⟩; have H2 := Lib.hid ht; clear ht)
    go_ret
    exact ⟨rfl, HB.out.1.trans H2.out⟩
end Go.Proofs.YtfplnobnmgbgoaaDoor
namespace Go.Proofs.YtfplnobnmgbgoaaDoor
open Go.RowKit Go.Lib
set_option linter.unusedVariables false
set_option maxRecDepth 20000
set_option maxRecDepth 20000
set_option linter.unusedSimpArgs false

theorem cmpT (a b : ByteArray) (w : World) : Calls Tryd.prog 59 #[.string a, .string b] w fun e w' => e = .returned (.int .i64 (kcmp a b)) ∧ Turn No w w' := (cmp_any a b w).mono fun e w' h => ⟨h.1, h.2 ▸ Turn.refl _ _⟩
set_option maxHeartbeats 4000000 in
theorem risesP (leaf : Bool) (K V : List ByteArray) (D : List Hn) (high : ByteArray) (bnd : Bool) (sl ge : Int) (AK AV AD : Option Addr) (ck cv cd : Nat) (w : World) (hK : Row w AK (kcs K)) (hn : K.length ≤ 100000) :
    Calls Tryd.prog 92 #[.agg #[.bool leaf, .slice AK K.length ck, .slice AV V.length cv, .slice AD D.length cd, .string high, .bool bnd, .int .i64 sl, .int .u64 ge]] w fun e w' => BRes (Rk K) w e w' := by
  have HB := Lib.hid (And.intro ((Turn.refl No w).alloc (.cells #[.bool leaf, .slice AK K.length ck, .slice AV V.length cv, .slice AD D.length cd, .string high, .bool bnd, .int .i64 sl, .int .u64 ge] 79)) (At.new w (.cells #[.bool leaf, .slice AK K.length ck, .slice AV V.length cv, .slice AD D.length cd, .string high, .bool bnd, .int .i64 sl, .int .u64 ge] 79)))
  have HL := Lib.hid (hK.no HB.out.1)
  clear hK
  go_enter Tryd.func92, Tryd.ntmps92
  go_upto_region 1 with fail
  generalize w.alloc (.cells #[.bool leaf, .slice AK K.length ck, .slice AV V.length cv, .slice AD D.length cd, .string high, .bool bnd, .int .i64 sl, .int .u64 ge] 79) = w1 at HB HL ⊢
  generalize w.heap.size = g at HB ⊢
  have HCC : Hid (∀ W, Turn No w1 W → W.cell? ⟨g, 1, none⟩ = some (.slice AK K.length ck)) := Lib.hid fun W t => (HB.out.2.no t).cell 1
  go_wp2_with fail
  go_loopw [3] (fun x wr => ∃ j : Nat, 1 ≤ j ∧ (j ≤ K.length ∨ j = 1) ∧ x = .int .i64 (j : Int) ∧ Hid (Turn No w1 wr ∧ Rk (K.take j))) (fun x _ => K.length + 1 - (RowKit.intOf x).toNat)
  case atStart => exact ⟨1, Nat.le_refl _, .inr rfl, rfl, Lib.hid ⟨Turn.refl _ _, by cases K <;> simp [Rk]⟩⟩
  case round =>
    obtain ⟨j, hj1, hi, rfl, HP⟩ := hrel
    have e1 := HCC.out wr HP.out.1
    by_cases hlt : j < K.length
    · obtain ⟨x, hx⟩ : ∃ t, K[j - 1]? = some t := ⟨K[j - 1]'(by omega), List.getElem?_eq_getElem (by omega)⟩
      obtain ⟨y, hy⟩ : ∃ t, K[j]? = some t := ⟨K[j], List.getElem?_eq_getElem hlt⟩
      obtain ⟨b, o, hB, hc⟩ := kcs_hold (HL.out.no HP.out.1) hx
      obtain ⟨b2, o2, hB2, hc2⟩ := kcs_hold (HL.out.no HP.out.1) hy
      rw [hB] at hB2
      injection hB2 with hB2
      injection hB2 with e1 e2
      subst e1 e2
      have HRK : Hid (Rk (K.take (j + 1)) ↔ kl x y) := Lib.hid (by
        have h1 := HP.out.2
        have e : j - 1 + 1 = j := by omega
        rw [← e] at h1 hy ⊢
        exact rk_last h1 hx hy)
      have HNR : Hid (Rk K → Rk (K.take (j + 1))) := Lib.hid fun h => rk_take h _
      obtain ⟨z, hz⟩ : ∃ z, kcmp x y = z := ⟨_, rfl⟩
      have CL := Lib.hid fun (W : World) => cmpT x y W
      rw [hz] at CL
      have HZ := Lib.hid hz
      clear hz
      have hS1 : Hid (∀ W, Turn No wr W → W.cell? ⟨b, o + (j - 1), none⟩ = some (.string x) ∧ W.cell? ⟨b, o + j, none⟩ = some (.string y) ∧ W.cell? ⟨g, 1, none⟩ = some (.slice AK K.length ck)) := Lib.hid fun W t => ⟨hc W t, hc2 W t, HCC.out W (HP.out.1.trans t)⟩
      have TD : Hid (Turn No wr wr.drew) := Lib.hid (Turn.refl No wr).drew
      subst hB
      have hS0 := hS1.out _ TD.out
      clear hx hy hc hc2
      have hq1 : (0 : Int) ≤ (j : Int) - 1 := by omega
      have hq2 : (j : Int) - 1 < (K.length : Int) := by omega
      have hq3 : (j : Int) < (K.length : Int) := by omega
      have hq4 : (0 : Int) ≤ (j : Int) := by omega
      have hq5 : ((j : Int) - 1).toNat = j - 1 := by omega
      have hq6 : IntKind.i64.wrap ((j : Int) - 1) = (j : Int) - 1 := IntWalk.i64_in _ ⟨by omega, by omega⟩
      have hq7 : (1 : Int) ≤ (j : Int) := by omega
      have hq8 : (j : Int) < (K.length : Int) + 1 := by omega
      go_upto_region 4 with fail
      clear e1
      go_cut [23] from 11 to 23 (fun s wx => ∃ bb : Bool, s = .bool bb ∧ Hid ((bb = false ↔ kl x y) ∧ Turn No wr wx))
      case first =>
        go_region_held3 (fun W => W.cell? ⟨b, o + (j - 1), none⟩ = some (.string x) ∧ W.cell? ⟨b, o + j, none⟩ = some (.string y) ∧ W.cell? ⟨g, 1, none⟩ = some (.slice (some ⟨b, o, none⟩) K.length ck)) (first | (with_reducible exact hS0) | (with_reducible exact hS1.out _ HY.out)) (first | (go_at_call 59; (with_reducible refine (CL.out _).mono ?_); rintro e wy ⟨rfl, hy⟩; have HY := Lib.hid (TD.out.trans hy); clear hy))
        go_wp2_with fail
        go_meet
        exact ⟨decide (0 ≤ z), rfl, Lib.hid ⟨by unfold kl; rw [HZ.out, decide_eq_false_iff_not]; omega, HY.out⟩⟩
      case rest =>
        obtain ⟨bb, rfl, HY⟩ := hcut
        generalize wc = wy at HY ⊢
        clear hS0 hS1 CL TD hq1 hq2 hq5 hq6 hq7 hq8
        cases bb with
        | false =>
          have HX : Hid (Rk (K.take (j + 1))) := Lib.hid (HRK.out.2 (by first | exact HY.out.1.1 rfl | exact HY.out.1.1 trivial))
          go_wp2_with fail
          exact ⟨⟨j + 1, by omega, .inl (by omega), by go_num, Lib.hid ⟨HP.out.1.trans HY.out.2, HX.out⟩⟩, by simp [RowKit.intOf]; omega⟩
        | true =>
          have HX : Hid (¬ Rk K) := Lib.hid fun h => by have := HY.out.1.2 (HRK.out.1 (HNR.out h)); cases this
          go_wp2_with fail
          go_ret
          exact BRes.of false rfl ⟨fun h => by (cases h), fun h => absurd h HX.out⟩ ((HB.out.1.trans HP.out.1).trans HY.out.2)
    · have HX : Hid (Rk K) := Lib.hid (by have h := HP.out.2; rwa [List.take_of_length_le (by omega)] at h)
      have hq3 : ¬ (j : Int) < (K.length : Int) := by omega
      go_wp2_with fail
      go_ret
      exact BRes.of true rfl ⟨fun _ => HX.out, fun _ => rfl⟩ (HB.out.1.trans HP.out.1)
def FillP (leaf : Bool) (nk nv nd : Nat) : Prop := (leaf = true → nv = nk ∧ nd = 0) ∧ (leaf = false → nv = 0 ∧ nd = nk + 1)
set_option maxHeartbeats 4000000 in
theorem filledP (leaf : Bool) (K V : List ByteArray) (D : List Hn) (high : ByteArray) (bnd : Bool) (sl ge : Int) (AK AV AD : Option Addr) (ck cv cd : Nat) (w : World) (hn : K.length ≤ 100000) :
    Calls Tryd.prog 93 #[.agg #[.bool leaf, .slice AK K.length ck, .slice AV V.length cv, .slice AD D.length cd, .string high, .bool bnd, .int .i64 sl, .int .u64 ge]] w fun e w' => BRes (FillP leaf K.length V.length D.length) w e w' := by
  have HB := Lib.hid (And.intro ((Turn.refl No w).alloc (.cells #[.bool leaf, .slice AK K.length ck, .slice AV V.length cv, .slice AD D.length cd, .string high, .bool bnd, .int .i64 sl, .int .u64 ge] 79)) (At.new w (.cells #[.bool leaf, .slice AK K.length ck, .slice AV V.length cv, .slice AD D.length cd, .string high, .bool bnd, .int .i64 sl, .int .u64 ge] 79)))
  obtain ⟨nk, hk⟩ : ∃ x, K.length = x := ⟨_, rfl⟩
  obtain ⟨nv, hv⟩ : ∃ x, V.length = x := ⟨_, rfl⟩
  obtain ⟨nd, hd⟩ : ∃ x, D.length = x := ⟨_, rfl⟩
  rw [hk, hv, hd] at HB
  rw [hk] at hn
  rw [hk, hv, hd]
  clear hk hv hd
  have hw : IntKind.i64.wrap ((nk : Int) + 1) = (nk : Int) + 1 := IntWalk.i64_in _ ⟨by omega, by omega⟩
  go_enter Tryd.func93, Tryd.ntmps93
  go_upto_region 1 with fail
  generalize w.alloc (.cells #[.bool leaf, .slice AK nk ck, .slice AV nv cv, .slice AD nd cd, .string high, .bool bnd, .int .i64 sl, .int .u64 ge] 79) = w1 at HB ⊢
  generalize w.heap.size = g at HB ⊢
  have e0 := HB.out.2.cell 0
  have e1 := HB.out.2.cell 1
  have e2 := HB.out.2.cell 2
  have e3 := HB.out.2.cell 3
  simp at e0 e1 e2 e3
  have TW := Lib.hid HB.out.1
  cases leaf with
  | true =>
    by_cases h1 : nv = nk
    · subst h1
      by_cases h2 : nd = 0
      · subst h2
        go_wp2_with fail
        go_ret
        exact BRes.of true rfl ⟨fun _ => ⟨fun _ => ⟨rfl, rfl⟩, fun h => by (cases h)⟩, fun _ => rfl⟩ TW.out
      · have HF : Hid (¬ FillP true nv nv nd) := Lib.hid fun h => h2 (h.1 rfl).2
        have q2 : ((nd : Int) == 0) = false := by simp; omega
        go_wp2_with fail
        go_ret
        exact BRes.of false rfl ⟨fun h => by (cases h), fun h => absurd h HF.out⟩ TW.out
    · have HF : Hid (¬ FillP true nk nv nd) := Lib.hid fun h => h1 (h.1 rfl).1
      have q2 : ((nv : Int) == (nk : Int)) = false := by simp; omega
      go_wp2_with fail
      go_ret
      exact BRes.of false rfl ⟨fun h => by (cases h), fun h => absurd h HF.out⟩ TW.out
  | false =>
    by_cases h1 : nv = 0
    · subst h1
      by_cases h2 : nd = nk + 1
      · subst h2
        have q2 : (((nk + 1 : Nat) : Int) == (nk : Int) + 1) = true := by simp
        go_wp2_with fail
        go_ret
        exact BRes.of true rfl ⟨fun _ => ⟨fun h => by (cases h), fun _ => ⟨rfl, rfl⟩⟩, fun _ => rfl⟩ TW.out
      · have HF : Hid (¬ FillP false nk 0 nd) := Lib.hid fun h => h2 (h.2 rfl).2
        have q2 : ((nd : Int) == (nk : Int) + 1) = false := by simp; omega
        go_wp2_with fail
        go_ret
        exact BRes.of false rfl ⟨fun h => by (cases h), fun h => absurd h HF.out⟩ TW.out
    · have HF : Hid (¬ FillP false nk nv nd) := Lib.hid fun h => h1 (h.2 rfl).1
      have q2 : ((nv : Int) == 0) = false := by simp; omega
      go_wp2_with fail
      go_ret
      exact BRes.of false rfl ⟨fun h => by (cases h), fun h => absurd h HF.out⟩ TW.out
/-- isWithin's own function: is a key not covered? -/
theorem within1P (leaf : Bool) (K V : List ByteArray) (D : List Hn) (high : ByteArray) (bnd : Bool) (sl ge : Int) (AK AV AD : Option Addr) (ck cv cd : Nat) (key : ByteArray) (g : Nat) (w : World) (h : At w g (.cells #[.bool leaf, .slice AK K.length ck, .slice AV V.length cv, .slice AD D.length cd, .string high, .bool bnd, .int .i64 sl, .int .u64 ge] 79 (0, 0))) :
    Calls Tryd.prog 104 #[.string key, .pointer (some ⟨g, 0, none⟩)] w fun e w' => BRes (¬ (bnd = true → kl key high)) w e w' := by
  have HA := Lib.hid h
  have CC := Lib.hid (coversP leaf K V D high bnd sl ge AK AV AD ck cv cd key w)
  clear h
  go_enter Tryd.func104, Tryd.ntmps104
  obtain ⟨c0, c1, c2, c3, c4, c5, c6, c7⟩ := at8 HA.out
  go_wp2_with (go_at_call 57; (with_reducible refine CC.out.mono ?_); rintro e w2 ⟨bb, rfl, hb, ht⟩; have H2 := Lib.hid (And.intro hb ht); clear hb ht)
  go_ret
  refine BRes.of (!bb) rfl ?_ H2.out.2
  rw [← H2.out.1]
  cases bb <;> simp
set_option maxHeartbeats 4000000 in
theorem indexP (leaf : Bool) (K V : List ByteArray) (D : List Hn) (high : ByteArray) (bnd : Bool) (sl ge : Int) (AK AV AD : Option Addr) (ck cv cd : Nat) (g : Nat) (w : World) (h : At w g (.cells #[.bool leaf, .slice AK K.length ck, .slice AV V.length cv, .slice AD D.length cd, .string high, .bool bnd, .int .i64 sl, .int .u64 ge] 79 (0, 0))) (hK : Row w AK (kcs K)) (hn : K.length ≤ 100000) :
    Calls Tryd.prog 95 #[.slice AK K.length ck, .func (.func 104) #[] #[.pointer (some ⟨g, 0, none⟩)]] w fun e w' => ∃ i : Int, e = .returned (.int .i64 i) ∧ (i = -1 ∨ 0 ≤ i) ∧ (i = -1 ↔ ∀ k ∈ K, bnd = true → kl k high) ∧ Turn No w w' := by
  have HA := Lib.hid (And.intro h hK)
  clear h hK
  go_enter Tryd.func95, Tryd.ntmps95
  go_wp2_with fail
  go_loopw [8] (fun i wr => ∃ kk : Nat, kk ≤ K.length ∧ i = .int .i64 (kk : Int) ∧ Hid (Turn No w wr ∧ ∀ k ∈ K.take kk, bnd = true → kl k high)) (fun i _ => K.length - (RowKit.intOf i).toNat)
  case atStart => exact ⟨0, Nat.zero_le _, rfl, Lib.hid ⟨Turn.refl _ _, by simp⟩⟩
  case round =>
    obtain ⟨kk, hm, rfl, HP⟩ := hrel
    by_cases hlt : kk < K.length
    · obtain ⟨k, hk⟩ : ∃ p, K[kk]? = some p := ⟨K[kk], List.getElem?_eq_getElem hlt⟩
      obtain ⟨b, o, hB, hc⟩ := kcs_hold (HA.out.2.no HP.out.1) hk
      have x0 := hc wr (Turn.refl _ _)
      have CC := Lib.hid (within1P leaf K V D high bnd sl ge AK AV AD ck cv cd k g wr (HA.out.1.no HP.out.1))
      have HM := Lib.hid (List.mem_of_getElem? hk)
      have HS := Lib.hid (all_snoc (Q := fun k => bnd = true → kl k high) hk)
      subst hB
      clear hk hc
      have hq1 : (0 : Int) ≤ (kk : Int) := by omega
      have hq2 : (kk : Int) < (K.length : Int) := by omega
      go_wp2_with (go_at_call 104; (with_reducible refine CC.out.mono ?_); rintro e w2 ⟨(_ | _), rfl, hb, ht⟩ <;> have H2 := Lib.hid (And.intro hb ht) <;> clear hb ht)
      · exact ⟨⟨kk + 1, by omega, by go_num, Lib.hid ⟨HP.out.1.trans H2.out.2, HS.out.2 ⟨HP.out.2, Decidable.not_not.1 fun h => by have := H2.out.1.2 h; cases this⟩⟩⟩, by simp [RowKit.intOf]; omega⟩
      · go_ret
        exact ⟨kk, rfl, .inr (by omega), ⟨fun h => by omega, fun h => absurd (h k HM.out) (by first | exact H2.out.1.1 rfl | exact H2.out.1.1 trivial)⟩, HP.out.1.trans H2.out.2⟩
    · obtain rfl : kk = K.length := by omega
      have HT := HP.out.2
      rw [List.take_length] at HT
      have HT := Lib.hid HT
      go_wp2_with fail
      go_ret
      exact ⟨-1, rfl, .inl rfl, ⟨fun _ => HT.out, fun _ => rfl⟩, HP.out.1⟩
set_option maxHeartbeats 4000000 in
theorem containsP (leaf : Bool) (K V : List ByteArray) (D : List Hn) (high : ByteArray) (bnd : Bool) (sl ge : Int) (AK AV AD : Option Addr) (ck cv cd : Nat) (g : Nat) (w : World) (h : At w g (.cells #[.bool leaf, .slice AK K.length ck, .slice AV V.length cv, .slice AD D.length cd, .string high, .bool bnd, .int .i64 sl, .int .u64 ge] 79 (0, 0))) (hK : Row w AK (kcs K)) (hn : K.length ≤ 100000) :
    Calls Tryd.prog 81 #[.slice AK K.length ck, .func (.func 104) #[] #[.pointer (some ⟨g, 0, none⟩)]] w fun e w' => BRes (¬ ∀ k ∈ K, bnd = true → kl k high) w e w' := by
  have CI := Lib.hid (indexP leaf K V D high bnd sl ge AK AV AD ck cv cd g w h hK hn)
  clear h hK
  go_enter Tryd.func81, Tryd.ntmps81
  go_wp2_with (go_at_call 95; (with_reducible refine CI.out.mono ?_); rintro e w2 ⟨i, rfl, h1, h2, ht⟩; have H2 := Lib.hid (And.intro h1 (And.intro h2 ht)); clear h1 h2 ht)
  go_ret
  refine BRes.of (decide (0 ≤ i)) rfl ?_ H2.out.2.2
  rw [← H2.out.2.1, decide_eq_true_iff]
  have := H2.out.1
  omega
def WinP (K : List ByteArray) (high : ByteArray) (bnd : Bool) : Prop := (bnd = false → high = ⟨#[]⟩) ∧ (bnd = true → ∀ k ∈ K, kl k high)
set_option maxHeartbeats 4000000 in
theorem withinP (leaf : Bool) (K V : List ByteArray) (D : List Hn) (high : ByteArray) (bnd : Bool) (sl ge : Int) (AK AV AD : Option Addr) (ck cv cd : Nat) (w : World) (hK : Row w AK (kcs K)) (hn : K.length ≤ 100000) :
    Calls Tryd.prog 94 #[.agg #[.bool leaf, .slice AK K.length ck, .slice AV V.length cv, .slice AD D.length cd, .string high, .bool bnd, .int .i64 sl, .int .u64 ge]] w fun e w' => BRes (WinP K high bnd) w e w' := by
  have HB := Lib.hid (And.intro ((Turn.refl No w).alloc (.cells #[.bool leaf, .slice AK K.length ck, .slice AV V.length cv, .slice AD D.length cd, .string high, .bool bnd, .int .i64 sl, .int .u64 ge] 79)) (At.new w (.cells #[.bool leaf, .slice AK K.length ck, .slice AV V.length cv, .slice AD D.length cd, .string high, .bool bnd, .int .i64 sl, .int .u64 ge] 79)))
  have CC := Lib.hid (containsP leaf K V D high bnd sl ge AK AV AD ck cv cd _ _ HB.out.2 (hK.no HB.out.1) hn)
  clear hK
  go_enter Tryd.func94, Tryd.ntmps94
  go_upto_region 1 with fail
  generalize w.alloc (.cells #[.bool leaf, .slice AK K.length ck, .slice AV V.length cv, .slice AD D.length cd, .string high, .bool bnd, .int .i64 sl, .int .u64 ge] 79) = w1 at HB CC ⊢
  generalize w.heap.size = g at HB CC ⊢
  have e1 := HB.out.2.cell 1
  have e4 := HB.out.2.cell 4
  have e5 := HB.out.2.cell 5
  simp at e1 e4 e5
  have TW := Lib.hid HB.out.1
  cases bnd with
  | false =>
    have qe := emp_dec high
    go_wp2_with fail
    go_ret
    refine BRes.of (decide (high = ⟨#[]⟩)) (by first | rfl | (rw [← emp_dec]; rfl) | (rw [← bytes_beq]; rfl)) ?_ TW.out
    rw [decide_eq_true_iff]
    exact ⟨fun h => ⟨fun _ => h, fun h => by (cases h)⟩, fun h => h.1 rfl⟩
  | true =>
    go_wp2_with (go_at_call 81; (with_reducible refine CC.out.mono ?_); rintro e w2 ⟨bb, rfl, hb, ht⟩; have H2 := Lib.hid (And.intro hb ht); clear hb ht)
    go_ret
    refine BRes.of (!bb) rfl ?_ (TW.out.trans H2.out.2)
    have h := H2.out.1
    unfold WinP
    cases bb with
    | true => exact ⟨fun h => by (cases h), fun h2 => absurd (fun k hk hb => h2.2 rfl k hk) (h.1 rfl)⟩
    | false => exact ⟨fun _ => ⟨fun h => by (cases h), fun _ k hk => Decidable.by_contra fun hn => by have := h.2 (fun h3 => hn (by first | exact h3 k hk rfl | exact h3 k hk trivial)); cases this⟩, fun _ => rfl⟩
theorem rightP_of {leaf : Bool} {K : List ByteArray} {nv nd : Nat} {high : ByteArray} {bnd : Bool} : RightP leaf K nv nd high bnd ↔ Rk K ∧ FillP leaf K.length nv nd ∧ WinP K high bnd :=
  ⟨fun ⟨a, b, c, d, e⟩ => ⟨a, ⟨d, e⟩, b, c⟩, fun ⟨a, ⟨d, e⟩, b, c⟩ => ⟨a, b, c, d, e⟩⟩
set_option maxHeartbeats 4000000 in
theorem rightQ (leaf : Bool) (K V : List ByteArray) (D : List Hn) (high : ByteArray) (bnd : Bool) (sl ge : Int) (AK AV AD : Option Addr) (ck cv cd : Nat) (w : World) (hK : Row w AK (kcs K)) (hn : K.length ≤ 100000) :
    Calls Tryd.prog 80 #[.agg #[.bool leaf, .slice AK K.length ck, .slice AV V.length cv, .slice AD D.length cd, .string high, .bool bnd, .int .i64 sl, .int .u64 ge]] w fun e w' => BRes (RightP leaf K V.length D.length high bnd) w e w' := by
  have HB := Lib.hid (And.intro ((Turn.refl No w).alloc (.cells #[.bool leaf, .slice AK K.length ck, .slice AV V.length cv, .slice AD D.length cd, .string high, .bool bnd, .int .i64 sl, .int .u64 ge] 79)) (At.new w (.cells #[.bool leaf, .slice AK K.length ck, .slice AV V.length cv, .slice AD D.length cd, .string high, .bool bnd, .int .i64 sl, .int .u64 ge] 79)))
  have HR := Lib.hid (hK.no HB.out.1)
  clear hK
  go_enter Tryd.func80, Tryd.ntmps80
  go_upto_region 1 with fail
  generalize w.alloc (.cells #[.bool leaf, .slice AK K.length ck, .slice AV V.length cv, .slice AD D.length cd, .string high, .bool bnd, .int .i64 sl, .int .u64 ge] 79) = w1 at HB HR ⊢
  generalize w.heap.size = g at HB ⊢
  have CI := Lib.hid fun (W : World) (t : Turn No w1 W) => risesP leaf K V D high bnd sl ge AK AV AD ck cv cd W (HR.out.no t) hn
  have CF := Lib.hid fun (W : World) (t : Turn No w1 W) => filledP leaf K V D high bnd sl ge AK AV AD ck cv cd W hn
  have CW := Lib.hid fun (W : World) (t : Turn No w1 W) => withinP leaf K V D high bnd sl ge AK AV AD ck cv cd W (HR.out.no t) hn
  obtain ⟨c0, c1, c2, c3, c4, c5, c6, c7⟩ := at8 HB.out.2
  have HQ := Lib.hid (rightP_of (leaf := leaf) (K := K) (nv := V.length) (nd := D.length) (high := high) (bnd := bnd))
  have TW := Lib.hid HB.out.1
  go_wp2_with (first | (go_at_call 92; (with_reducible refine (CI.out _ (Turn.refl _ _)).mono ?_); rintro e w2 ⟨(_ | _), rfl, hb, ht⟩ <;> have H2 := Lib.hid (And.intro hb ht) <;> clear hb ht c0 c1 c2 c3 c4 c5 c6 c7 <;> obtain ⟨c0, c1, c2, c3, c4, c5, c6, c7⟩ := at8 (HB.out.2.no H2.out.2)) | (go_at_call 93; (with_reducible refine (CF.out _ H2.out.2).mono ?_); rintro e w3 ⟨(_ | _), rfl, hb, ht⟩ <;> have H3 := Lib.hid (And.intro hb (H2.out.2.trans ht)) <;> clear hb ht c0 c1 c2 c3 c4 c5 c6 c7 <;> obtain ⟨c0, c1, c2, c3, c4, c5, c6, c7⟩ := at8 (HB.out.2.no H3.out.2)) | (go_at_call 94; (with_reducible refine (CW.out _ H3.out.2).mono ?_); rintro e w4 ⟨(_ | _), rfl, hb, ht⟩ <;> have H4 := Lib.hid (And.intro hb (H3.out.2.trans ht)) <;> clear hb ht c0 c1 c2 c3 c4 c5 c6 c7))
  · go_ret
    exact BRes.of false rfl ⟨fun h => by (cases h), fun h => by have := H2.out.1.2 (HQ.out.1 h).1; cases this⟩ (TW.out.trans H2.out.2)
  · go_ret
    exact BRes.of false rfl ⟨fun h => by (cases h), fun h => by have := H3.out.1.2 (HQ.out.1 h).2.1; cases this⟩ (TW.out.trans H3.out.2)
  · go_ret
    exact BRes.of false rfl ⟨fun h => by (cases h), fun h => by have := H4.out.1.2 (HQ.out.1 h).2.2; cases this⟩ (TW.out.trans H4.out.2)
  · go_ret
    exact BRes.of true rfl ⟨fun _ => HQ.out.2 ⟨by first | exact H2.out.1.1 rfl | exact H2.out.1.1 trivial, by first | exact H3.out.1.1 rfl | exact H3.out.1.1 trivial, by first | exact H4.out.1.1 rfl | exact H4.out.1.1 trivial⟩, fun _ => rfl⟩ (TW.out.trans H4.out.2)
set_option maxHeartbeats 4000000 in
theorem takesP (leaf : Bool) (K V : List ByteArray) (D : List Hn) (high : ByteArray) (bnd : Bool) (sl ge : Int) (AK AV AD : Option Addr) (ck cv cd : Nat) (key : ByteArray) (w : World) (hK : Row w AK (kcs K)) (hn : K.length ≤ 100000) :
    Calls Tryd.prog 67 #[.agg #[.bool leaf, .slice AK K.length ck, .slice AV V.length cv, .slice AD D.length cd, .string high, .bool bnd, .int .i64 sl, .int .u64 ge], .string key] w fun e w' => BRes (RightP leaf K V.length D.length high bnd ∧ (bnd = true → kl key high)) w e w' := by
  have HB := Lib.hid (And.intro ((Turn.refl No w).alloc (.cells #[.bool leaf, .slice AK K.length ck, .slice AV V.length cv, .slice AD D.length cd, .string high, .bool bnd, .int .i64 sl, .int .u64 ge] 79)) (At.new w (.cells #[.bool leaf, .slice AK K.length ck, .slice AV V.length cv, .slice AD D.length cd, .string high, .bool bnd, .int .i64 sl, .int .u64 ge] 79)))
  have HR := Lib.hid (hK.no HB.out.1)
  clear hK
  go_enter Tryd.func67, Tryd.ntmps67
  go_upto_region 1 with fail
  generalize w.alloc (.cells #[.bool leaf, .slice AK K.length ck, .slice AV V.length cv, .slice AD D.length cd, .string high, .bool bnd, .int .i64 sl, .int .u64 ge] 79) = w1 at HB HR ⊢
  generalize w.heap.size = g at HB ⊢
  have CI := Lib.hid (rightQ leaf K V D high bnd sl ge AK AV AD ck cv cd w1 HR.out hn)
  have CF := Lib.hid fun (W : World) => coversP leaf K V D high bnd sl ge AK AV AD ck cv cd key W
  obtain ⟨c0, c1, c2, c3, c4, c5, c6, c7⟩ := at8 HB.out.2
  have TW := Lib.hid HB.out.1
  go_wp2_with (first | (go_at_call 80; (with_reducible refine CI.out.mono ?_); rintro e w2 ⟨(_ | _), rfl, hb, ht⟩ <;> have H2 := Lib.hid (And.intro hb ht) <;> clear hb ht c0 c1 c2 c3 c4 c5 c6 c7 <;> obtain ⟨c0, c1, c2, c3, c4, c5, c6, c7⟩ := at8 (HB.out.2.no H2.out.2)) | (go_at_call 57; (with_reducible refine (CF.out _).mono ?_); rintro e w3 ⟨(_ | _), rfl, hb, ht⟩ <;> have H3 := Lib.hid (And.intro hb (H2.out.2.trans ht)) <;> clear hb ht c0 c1 c2 c3 c4 c5 c6 c7))
  · go_ret
    exact BRes.of false rfl ⟨fun h => by (cases h), fun h => by have := H2.out.1.2 h.1; cases this⟩ (TW.out.trans H2.out.2)
  · go_ret
    exact BRes.of false rfl ⟨fun h => by (cases h), fun h => by have := H3.out.1.2 h.2; cases this⟩ (TW.out.trans H3.out.2)
  · go_ret
    exact BRes.of true rfl ⟨fun _ => ⟨by first | exact H2.out.1.1 rfl | exact H2.out.1.1 trivial, by first | exact H3.out.1.1 rfl | exact H3.out.1.1 trivial⟩, fun _ => rfl⟩ (TW.out.trans H3.out.2)
end Go.Proofs.YtfplnobnmgbgoaaDoor
namespace Go.Proofs.YtfplnobnmgbgoaaDoor
open Go.RowKit Go.Lib
set_option linter.unusedVariables false
set_option maxRecDepth 20000
set_option maxRecDepth 20000
set_option linter.unusedSimpArgs false

/-- A builtin's call whose run is known; a structure, so that it is matched by its words alone. -/
structure BRun2 (b : Builtin) (ts : Array TypeId) (ty : TypeId) (vs vx r : Value) (w w' : World) : Prop where
  out : ∀ cs, (builtin b ts ty cs #[vs, vx]).run Tryd.prog w = .ok (.value r) w'
structure BRun1 (b : Builtin) (ts : Array TypeId) (ty : TypeId) (vs r : Value) (w w' : World) : Prop where
  out : ∀ cs, (builtin b ts ty cs #[vs]).run Tryd.prog w = .ok (.value r) w'
theorem step_brun2 {w w' : World} {ops : Array Oper} {o : Oper} {a : Act} {K : Act → World → Prop} {Q : Exit → Act → World → Prop} {E : Prop} (hgd : o.guard = none) (s x : Operand) (b : Builtin) (ts : Array TypeId)
    (ho : o.op = .call { callee := .builtin b, args := #[s, x], argTypes := ts }) (vs vx r : Value) (hs : a.eval s = vs) (hx : a.eval x = vx) (hrun : BRun2 b ts o.type vs vx r w w')
    (h : K (a.put o.dst r) w') : if Region.wanted o (yielded ops a.tmps) = true then Oper.wp Tryd.prog o a w K Q else E := by
  have hw : Region.wanted o (yielded ops a.tmps) = true := by simp [Region.wanted, hgd]
  rw [if_pos hw]
  unfold Oper.wp execOp
  simp only [ho, resolve, invoke, Sem.run_bind, Sem.run_pure, Result.andThen_ok, List.map_toArray, List.map_cons, List.map_nil, hs, hx, hrun.out]
  exact h
theorem wpList_brun2 {w w' : World} {ops : Array Oper} {rest : List Oper} {o : Oper} {a : Act} {Q : Exit → Act → World → Prop} (hgd : o.guard = none) (s x : Operand) (b : Builtin) (ts : Array TypeId)
    (ho : o.op = .call { callee := .builtin b, args := #[s, x], argTypes := ts }) (vs vx r : Value) (hs : a.eval s = vs) (hx : a.eval x = vx) (hrun : BRun2 b ts o.type vs vx r w w')
    (h : wpList Tryd.prog ops Q rest (a.put o.dst r) w') : wpList Tryd.prog ops Q (o :: rest) a w :=
  wpList_plain hgd fun K hK => by
    unfold Oper.wp execOp
    simp only [ho, resolve, invoke, Sem.run_bind, Sem.run_pure, Result.andThen_ok, List.map_toArray, List.map_cons, List.map_nil, hs, hx, hrun.out]
    exact hK _ _ h
theorem wpList_brun1 {w w' : World} {ops : Array Oper} {rest : List Oper} {o : Oper} {a : Act} {Q : Exit → Act → World → Prop} (hgd : o.guard = none) (s : Operand) (b : Builtin) (ts : Array TypeId)
    (ho : o.op = .call { callee := .builtin b, args := #[s], argTypes := ts }) (vs r : Value) (hs : a.eval s = vs) (hrun : BRun1 b ts o.type vs r w w')
    (h : wpList Tryd.prog ops Q rest (a.put o.dst r) w') : wpList Tryd.prog ops Q (o :: rest) a w :=
  wpList_plain hgd fun K hK => by
    unfold Oper.wp execOp
    simp only [ho, resolve, invoke, Sem.run_bind, Sem.run_pure, Result.andThen_ok, List.map_toArray, List.map_cons, List.map_nil, hs, hrun.out]
    exact hK _ _ h

theorem turn_setRow (w : World) (g : Nat) (cs : Array Value) : Turn (fun k => k = g) w (w.setRow g cs) :=
  ⟨rfl, rfl, rfl, by simp, fun k _ hk => setRow_other w g k cs hk⟩
theorem add_lit0 (b o j : Nat) : (⟨b, o, none⟩ : Addr).add j = ⟨b, o + j, none⟩ := by
  unfold Addr.add
  split
  · rename_i h; subst h; rfl
  · rfl

theorem splice_head {L M : List Value} {a b k : Nat} {cs : List Value} (hL : L.take a = M) (hb : b = a + cs.length) (hl : a + cs.length ≤ L.length) : (splice L a cs).take b = M ++ cs := by
  unfold splice
  have hm : M.length = a := by rw [← hL, List.length_take]; omega
  rw [hL, ← List.append_assoc, List.take_left']
  simp [hm, hb]
theorem splice_keep {L M : List Value} {a off : Nat} {cs : List Value} (hL : L.take a = M) (ha : a ≤ off) (hl : off ≤ L.length) : (splice L off cs).take a = M := by
  unfold splice
  rw [List.take_append_of_le_length (by rw [List.length_take]; omega), List.take_take, Nat.min_eq_left ha, hL]

theorem and3 {a b c : Prop} (ha : a) (hb : b) (hc : c) : a ∧ b ∧ c := ⟨ha, hb, hc⟩
theorem At.shape {w : World} {g : Nat} {c : Array Value} {t : TypeId} {f : Nat × Nat} (h : At w g (.cells c t f)) : w.shape? g = some (t, c.size) := by
  unfold At at h
  simp [World.shape?, h]
end Go.Proofs.YtfplnobnmgbgoaaDoor
