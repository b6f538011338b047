/-
  What came in: texts within reach, rows of keys, rows of handles, a node.
-/
import Derived.Test.YtengbkopihiiaaaWNq
import Derived.ProofKit
import Derived.Deep.Slices
import Derived.Deep.Fields
import Derived.ChangeSame
import Derived.SizedLaws
import Derived.Below
import Derived.WalkKit
import Derived.Lib.Hide
namespace Go.Proofs.Ytengbkopihiiaaa
open Go.RowKit Go.ChangeShapes Go.WideShapes Go.Deep Go.Lib
set_option linter.unusedVariables false
set_option maxRecDepth 20000
set_option maxRecDepth 20000
set_option linter.unusedSimpArgs false

section
variable {H : Type} {P : Program}
def Sz (P : Program) (t : TypeId) (d : DataW H) : Prop := ∀ n ∈ d.weights P t, n ≤ reachBytes
theorem weightsAll_mem {e : TypeId} {n : Nat} : ∀ {ds : List (DataW H)} {d : DataW H}, d ∈ ds → n ∈ d.weights P e → n ∈ DataW.weightsAll P e ds
  | x :: r, d, hd, hn => by
    rw [DataW.weightsAll]
    rcases List.mem_cons.1 hd with rfl | hd
    · exact List.mem_append.2 (.inl hn)
    · exact List.mem_append.2 (.inr (weightsAll_mem hd hn))
theorem Sz.elem {t e : TypeId} (ht : P.underlying t = some (.slice e)) {elems spare : List (DataW H)} (h : Sz P t (.slice elems spare)) {d : DataW H} (hd : d ∈ elems) : Sz P e d := fun n hn =>
  h n (by simp only [DataW.weights, ht, List.mem_cons, List.mem_append]; exact .inr (.inl (weightsAll_mem hd hn)))
theorem Sz.part {t : TypeId} {fs : Array Field} (ht : P.underlying t = some (.struct fs)) {xs : List (DataW H)} (h : Sz P t (.agg xs)) {i : Nat} {f : Field} {x : DataW H} (hf : fs[i]? = some f) (hx : xs[i]? = some x) : Sz P f.type x := fun n hn =>
  h n (by
    simp only [DataW.weights, ht]
    exact DataW.weights_mem_each (j := i) (by simp [hf]) hx n hn)
theorem Sz.text {t : TypeId} {s : ByteArray} (h : Sz P t (.lit (.string s.data.toList) : DataW H)) : Fit s := by
  have h1 := h s.data.toList.length (by simp [DataW.weights])
  have h2 := reachBytes_lt
  have h3 : s.data.toList.length = s.size := Array.length_toList
  unfold Fit
  omega
end

theorem spot_none {w : World} {x : Addr} {v : Value} (h : w.cell? x = some v) : x.spot = none ∧ x.block < w.heap.size := by
  unfold World.cell? at h
  constructor
  · cases hs : x.spot with
    | none => rfl
    | some n => rw [hs] at h; split at h <;> simp at h
  · rcases Nat.lt_or_ge x.block w.heap.size with h1 | h1
    · exact h1
    · rw [Array.getElem?_eq_none h1] at h; cases h
theorem cells3 : Try.prog.cellsOf 3 = 1 := by kernel_rfl
theorem cells4 : Try.prog.cellsOf 4 = 1 := by kernel_rfl
theorem cells9 : Try.prog.cellsOf 9 = 1 := by kernel_rfl
theorem cells23 : Try.prog.cellsOf 23 = 1 := by kernel_rfl
theorem cells24 : Try.prog.cellsOf 24 = 1 := by kernel_rfl
theorem cells25 : Try.prog.cellsOf 25 = 1 := by kernel_rfl
theorem cells27 : Try.prog.cellsOf 27 = 2 := by kernel_rfl
section
variable {H : Type} {enc : TypeId × Value → H} {W : World}
/-- The elements of a slice that came in. -/
theorem open_row {t e : TypeId} {c : Nat} (ht : Try.prog.underlying t = some (.slice e)) (hce : Try.prog.cellsOf e = c) (h0 : 0 < c) {fuel : Nat} {A : Option Addr} {len cap : Nat} {x : DataW H × List MemPlace}
    (h : DataW.trod enc Try.prog W 0 (fun _ => true) true fuel t [.slice A len cap] = some x) :
    len ≤ cap ∧ len ≤ maxLen ∧ ∀ i, i < len → ∃ (cs : List Value) (n : Nat) (D : DataW H × List MemPlace), cs.length = c ∧ DataW.trod enc Try.prog W 0 (fun _ => true) true n e cs = some D ∧ (Sz Try.prog t x.1 → Sz Try.prog e D.1) ∧
      ∃ b o, A = some ⟨b, o, none⟩ ∧ b < W.heap.size ∧ ∀ j u, cs[j]? = some u → W.cell? ⟨b, o + i * c + j, none⟩ = some u := by
  rcases open_slice ht h with ⟨hcs, _⟩ | ⟨a, l, cp, m, k, D, Pl, hcs, _, hl, hm, hmm, hx, hi⟩
  · injection hcs with hcs _
    injection hcs with e1 e2 e3
    subst e1 e2 e3
    exact ⟨Nat.le_refl _, Nat.zero_le _, fun j hj => by omega⟩
  · injection hcs with hcs _
    injection hcs with e1 e2 e3
    subst e1 e2 e3
    refine ⟨hl, Nat.le_trans hl hm, fun i hlt => ?_⟩
    have hmc : m = cap := by rw [hmm]; exact if_pos rfl
    obtain ⟨cs, hc, htr⟩ := hi i (by omega)
    rw [hce] at hc
    obtain ⟨_, hlen, hat⟩ := World.cells?_some hc
    refine ⟨cs, k, (D i, Pl i), hlen, htr, fun hs => ?_, ?_⟩
    · subst hx
      exact Sz.elem ht hs (List.mem_map.2 ⟨i, List.mem_range.2 hlt, rfl⟩)
    · have hz0 : ∀ q : Addr, q.add 0 = q := fun q => by simp [Addr.add]
      obtain ⟨lb, lo, sp⟩ := a
      have hsp : sp = none ∧ lb < W.heap.size := by
        obtain ⟨cs0, hc0, _⟩ := hi 0 (by omega)
        rw [hce] at hc0
        obtain ⟨_, hl0, hat0⟩ := World.cells?_some hc0
        have h00 := hat0 0 (by omega)
        rw [hz0, Nat.zero_mul, hz0] at h00
        match cs0, hl0 with
        | u0 :: _, _ =>
          simp only [List.getElem?_cons_zero] at h00
          exact spot_none h00
        | [], hl0 => simp at hl0; omega
      obtain ⟨rfl, hb⟩ := hsp
      have hadd : ∀ o q, (⟨lb, o, none⟩ : Addr).add q = ⟨lb, o + q, none⟩ := fun o q => by
        unfold Addr.add
        split
        · subst q; rfl
        · rfl
      refine ⟨lb, lo, rfl, hb, fun j u hu => ?_⟩
      have hj : j < c := by rw [← hlen]; exact (List.getElem?_eq_some_iff.1 hu).1
      have := hat j hj
      rw [hadd, hadd] at this
      rw [this]
      exact hu

theorem open_nil {t e : TypeId} (ht : Try.prog.underlying t = some (.slice e)) {fuel : Nat} {len cap : Nat} {x : DataW H × List MemPlace}
    (h : DataW.trod enc Try.prog W 0 (fun _ => true) true fuel t [.slice none len cap] = some x) : cap = 0 := by
  rcases open_slice ht h with ⟨hcs, _⟩ | ⟨a, l, cp, m, k, D, Pl, hcs, _⟩
  · injection hcs with hcs _
    injection hcs with e1 e2 e3
  · injection hcs with hcs _
    injection hcs with e1 e2 e3
    cases e1
end
theorem row_of_parts {α : Type} (f : α → List Value) (c : Nat) (h0 : 0 < c) (hf : ∀ x, (f x).length = c) {W : World} {A : Option Addr} {l : List α}
    (h : ∀ i x, l[i]? = some x → ∃ b o, A = some ⟨b, o, none⟩ ∧ b < W.heap.size ∧ ∀ j u, (f x)[j]? = some u → W.cell? ⟨b, o + i * c + j, none⟩ = some u) : Row W A (l.flatMap f) := by
  intro q u hq
  have hlen := flat_length f c hf l
  have hql : q < l.length * c := by rw [← hlen]; exact (List.getElem?_eq_some_iff.1 hq).1
  have hi : q / c < l.length := by rw [Nat.div_lt_iff_lt_mul h0]; exact hql
  have hm : q % c < c := Nat.mod_lt _ h0
  obtain ⟨x, hx⟩ : ∃ x, l[q / c]? = some x := ⟨l[q / c], List.getElem?_eq_getElem hi⟩
  have e : q / c * c + q % c = q := by rw [Nat.mul_comm]; exact Nat.div_add_mod q c
  have hx2 := flat_at f c hf l (q / c) (q % c) x hx hm
  rw [e] at hx2
  obtain ⟨b, o, hA, hb, hc⟩ := h _ x hx
  refine ⟨b, o, hA, hb, ?_⟩
  have := hc (q % c) u (by rw [← hx2]; exact hq)
  rwa [Nat.add_assoc, e] at this

theorem list_of {α : Type} (p : Nat → α → Prop) (n : Nat) (h : ∀ i, i < n → ∃ x, p i x) : ∃ l : List α, l.length = n ∧ ∀ i x, l[i]? = some x → p i x := by
  induction n with
  | zero => exact ⟨[], rfl, fun i x hx => by simp at hx⟩
  | succ n ih =>
    obtain ⟨l, hl, hp⟩ := ih fun i hi => h i (by omega)
    obtain ⟨x, hx⟩ := h n (by omega)
    refine ⟨l ++ [x], by simp [hl], fun i y hy => ?_⟩
    by_cases hi : i < l.length
    · rw [List.getElem?_append_left hi] at hy; exact hp i y hy
    · rw [List.getElem?_append_right (by omega)] at hy
      have : i - l.length = 0 := by
        rcases Nat.eq_zero_or_pos (i - l.length) with h0 | h0
        · exact h0
        · rw [List.getElem?_eq_none (by simp; omega)] at hy; cases hy
      rw [this] at hy
      simp at hy
      subst hy
      obtain rfl : i = n := by omega
      exact hx

section
variable {H : Type} {enc : TypeId × Value → H} {W : World}
theorem decode_str {n : Nat} {cs : List Value} {D : DataW H × List MemPlace} (hl : cs.length = 1) (h : DataW.trod enc Try.prog W 0 (fun _ => true) true n 9 cs = some D) : ∃ x : ByteArray, cs = [.string x] ∧ (Sz Try.prog 9 D.1 → Fit x) := by
  obtain ⟨k, e0, d0, _⟩ := DataW.trod_string Try.underlying9 h
  subst e0
  refine ⟨k, rfl, fun hs => ?_⟩
  rw [d0] at hs
  exact hs.text
theorem kcs_flat : ∀ K : List ByteArray, K.flatMap (fun x : ByteArray => [Value.string x]) = kcs K
  | [] => rfl
  | a :: l => by rw [List.flatMap_cons, kcs_flat l]; rfl
theorem decode_hn {n : Nat} {cs : List Value} {D : DataW H × List MemPlace} (hl : cs.length = 2) (h : DataW.trod enc Try.prog W 0 (fun _ => true) true n 27 cs = some D) : ∃ x : Hn, cs = x.cs := by
  obtain ⟨xs, n1, _, hx, _, hxl, hf⟩ := DataW.trod_struct Try.underlying27 h
  match cs, hl with
  | [v0, v1], _ =>
    match xs, hxl with
    | [y0, y1], _ =>
      have q0 : DataW.trod enc Try.prog W 0 (fun _ => true) true n1 3 (([v0, v1].drop 0).take (Try.prog.cellsOf 3)) = some y0 := hf 0 _ rfl
      have q1 : DataW.trod enc Try.prog W 0 (fun _ => true) true n1 25 (([v0, v1].drop 1).take (Try.prog.cellsOf 25)) = some y1 := hf 1 _ rfl
      rw [cells3] at q0
      rw [cells25] at q1
      obtain ⟨a, e0, _⟩ := DataW.trod_int Try.underlying3 q0
      obtain ⟨b, e1, _⟩ := DataW.trod_int Try.underlying25 q1
      simp at e0 e1
      subst e0 e1
      exact ⟨⟨a, b⟩, rfl⟩
theorem decode_slice {t e : TypeId} (ht : Try.prog.underlying t = some (.slice e)) {n : Nat} {v : Value} {D : DataW H × List MemPlace} (h : DataW.trod enc Try.prog W 0 (fun _ => true) true n t [v] = some D) : ∃ A len cap, v = .slice A len cap := by
  rcases open_slice ht h with ⟨hcs, _⟩ | ⟨a, l, c, _, _, _, _, hcs, _⟩
  · simp at hcs; exact ⟨_, _, _, hcs⟩
  · simp at hcs; exact ⟨_, _, _, hcs⟩
theorem keys_of {fuel : Nat} {A : Option Addr} {len cap : Nat} {x : DataW H × List MemPlace} (h : DataW.trod enc Try.prog W 0 (fun _ => true) true fuel 23 [.slice A len cap] = some x) (hs : Sz Try.prog 23 x.1) : ∃ K : List ByteArray, K.length = len ∧ len ≤ maxLen ∧ Row W A (kcs K) ∧ ∀ k ∈ K, Fit k := by
  obtain ⟨_, hm, hi⟩ := open_row Try.underlying23 cells9 (by decide) h
  obtain ⟨K, hwl, hwp⟩ := list_of (fun i (x : ByteArray) => Fit x ∧ ∃ b o, A = some ⟨b, o, none⟩ ∧ b < W.heap.size ∧ ∀ j u, [Value.string x][j]? = some u → W.cell? ⟨b, o + i * 1 + j, none⟩ = some u) len (fun i hlt => by
    obtain ⟨cs, n, D, hcl, htr, hsz, hcell⟩ := hi i hlt
    obtain ⟨x, rfl, hx⟩ := decode_str hcl htr
    exact ⟨x, hx (hsz hs), hcell⟩)
  have hr := row_of_parts (fun x : ByteArray => [Value.string x]) 1 (by decide) (fun _ => rfl) (fun i x hx => (hwp i x hx).2)
  have e := kcs_flat K
  exact ⟨K, hwl, hm, e ▸ hr, fun x hx => by
    obtain ⟨j, hj⟩ := List.mem_iff_getElem?.1 hx
    exact (hwp j x hj).1⟩
theorem kids_of {fuel : Nat} {A : Option Addr} {len cap : Nat} {x : DataW H × List MemPlace} (h : DataW.trod enc Try.prog W 0 (fun _ => true) true fuel 24 [.slice A len cap] = some x) : ∃ D : List Hn, D.length = len ∧ len ≤ maxLen ∧ Row W A (hcs D) := by
  obtain ⟨_, hm, hi⟩ := open_row Try.underlying24 cells27 (by decide) h
  obtain ⟨D, hwl, hwp⟩ := list_of (fun i (x : Hn) => ∃ b o, A = some ⟨b, o, none⟩ ∧ b < W.heap.size ∧ ∀ j u, x.cs[j]? = some u → W.cell? ⟨b, o + i * 2 + j, none⟩ = some u) len (fun i hlt => by
    obtain ⟨cs, n, D, hcl, htr, hsz, hcell⟩ := hi i hlt
    obtain ⟨x, rfl⟩ := decode_hn hcl htr
    exact ⟨x, hcell⟩)
  exact ⟨D, hwl, hm, row_of_parts Hn.cs 2 (by decide) (fun _ => rfl) (fun i x hx => hwp i x hx)⟩
/-- A node that came in: whatever its rows' lengths. -/
structure InN (W : World) (n : Nd) (AK AV AD : Option Addr) : Prop where
  k : Row W AK (kcs n.keys)
  v : Row W AV (kcs n.vals)
  d : Row W AD (hcs n.kids)
  fk : ∀ k ∈ n.keys, Fit k
  fv : ∀ k ∈ n.vals, Fit k
  fh : Fit n.high
  lk : n.keys.length ≤ maxLen
  lv : n.vals.length ≤ maxLen
  ld : n.kids.length ≤ maxLen
set_option maxHeartbeats 1000000 in
theorem inN_of {fuel : Nat} {x : DataW H × List MemPlace} {cs : List Value} (hl : cs.length = 8) (h : DataW.trod enc Try.prog W 0 (fun _ => true) true fuel 29 cs = some x) (hs : Sz Try.prog 29 x.1) : ∃ n AK ck AV cv AD cd, cs = [.bool n.leaf, .slice AK n.keys.length ck, .slice AV n.vals.length cv, .slice AD n.kids.length cd, .string n.high, .bool n.bnd, .int .i64 n.nx.slot, .int .u64 n.nx.gen] ∧ InN W n AK AV AD := by
  obtain ⟨xs, n1, _, hx, _, hxl, hf⟩ := DataW.trod_struct Try.underlying29 h
  match cs, hl with
  | [v0, v1, v2, v3, v4, v5, v6, v7], _ =>
    match xs, hxl with
    | [y0, y1, y2, y3, y4, y5, y6], _ =>
      have q0 : DataW.trod enc Try.prog W 0 (fun _ => true) true n1 4 (([v0, v1, v2, v3, v4, v5, v6, v7].drop 0).take (Try.prog.cellsOf 4)) = some y0 := hf 0 _ rfl
      have q1 : DataW.trod enc Try.prog W 0 (fun _ => true) true n1 23 (([v0, v1, v2, v3, v4, v5, v6, v7].drop 1).take (Try.prog.cellsOf 23)) = some y1 := hf 1 _ rfl
      have q2 : DataW.trod enc Try.prog W 0 (fun _ => true) true n1 23 (([v0, v1, v2, v3, v4, v5, v6, v7].drop 2).take (Try.prog.cellsOf 23)) = some y2 := hf 2 _ rfl
      have q3 : DataW.trod enc Try.prog W 0 (fun _ => true) true n1 24 (([v0, v1, v2, v3, v4, v5, v6, v7].drop 3).take (Try.prog.cellsOf 24)) = some y3 := hf 3 _ rfl
      have q4 : DataW.trod enc Try.prog W 0 (fun _ => true) true n1 9 (([v0, v1, v2, v3, v4, v5, v6, v7].drop 4).take (Try.prog.cellsOf 9)) = some y4 := hf 4 _ rfl
      have q5 : DataW.trod enc Try.prog W 0 (fun _ => true) true n1 4 (([v0, v1, v2, v3, v4, v5, v6, v7].drop 5).take (Try.prog.cellsOf 4)) = some y5 := hf 5 _ rfl
      have q6 : DataW.trod enc Try.prog W 0 (fun _ => true) true n1 27 (([v0, v1, v2, v3, v4, v5, v6, v7].drop 6).take (Try.prog.cellsOf 27)) = some y6 := hf 6 _ rfl
      rw [cells4] at q0 q5
      rw [cells23] at q1 q2
      rw [cells24] at q3
      rw [cells9] at q4
      rw [cells27] at q6
      obtain ⟨leaf, e0, _⟩ := DataW.trod_bool Try.underlying4 q0
      obtain ⟨AK, lk, ck, e1⟩ := decode_slice Try.underlying23 (v := v1) q1
      obtain ⟨AV, lv, cv, e2⟩ := decode_slice Try.underlying23 (v := v2) q2
      obtain ⟨AD, ld, cd, e3⟩ := decode_slice Try.underlying24 (v := v3) q3
      obtain ⟨hi, e4, hf4⟩ := decode_str rfl q4
      obtain ⟨bnd, e5, _⟩ := DataW.trod_bool Try.underlying4 q5
      obtain ⟨⟨sl, ge⟩, e6⟩ := decode_hn rfl q6
      simp [Hn.cs] at e0 e4 e5 e6
      obtain ⟨e6, e7⟩ := e6
      subst e0 e1 e2 e3 e4 e5 e6 e7
      subst hx
      obtain ⟨K, rfl, m1, r1, f1⟩ := keys_of q1 (Sz.part Try.underlying29 hs (i := 1) rfl rfl)
      obtain ⟨V, rfl, m2, r2, f2⟩ := keys_of q2 (Sz.part Try.underlying29 hs (i := 2) rfl rfl)
      obtain ⟨D, rfl, m3, r3⟩ := kids_of q3
      exact ⟨⟨leaf, K, V, D, hi, bnd, ⟨sl, ge⟩⟩, AK, ck, AV, cv, AD, cd, rfl, r1, r2, r3, f1, f2, hf4 (Sz.part Try.underlying29 hs (i := 4) rfl rfl), m1, m2, m3⟩
end
end Go.Proofs.Ytengbkopihiiaaa
