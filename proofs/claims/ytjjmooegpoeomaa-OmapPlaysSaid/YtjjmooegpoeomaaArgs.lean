/-
  What came in: rows of pairs, of writes, of operations, an operation; each text within reach.
-/
import Derived.Test.YtjjmooegpoeomaaWGrt
import Derived.ProofKit
import Derived.Deep.Slices
import Derived.Deep.Fields
import Derived.ChangeSame
import Derived.SizedLaws
namespace Go.Proofs.Ytjjmooegpoeomaa
open Go.RowKit Go.ChangeShapes Go.WideShapes Go.Deep Go.Lib
set_option linter.unusedVariables false
set_option linter.unusedSimpArgs false

section
variable {H : Type} {P : Program}
def Sz (P : Program) (t : TypeId) (d : DataW H) : Prop := ∀ n ∈ d.weights P t, n ≤ reachBytes
theorem weightsAll_mem {e : TypeId} {n : Nat} : ∀ {ds : List (DataW H)} {d : DataW H}, d ∈ ds → n ∈ d.weights P e → n ∈ DataW.weightsAll P e ds
  | x :: r, d, hd, hn => by
    rw [DataW.weightsAll]
    rcases List.mem_cons.1 hd with rfl | hd
    · exact List.mem_append.2 (.inl hn)
    · exact List.mem_append.2 (.inr (weightsAll_mem hd hn))
theorem Sz.elem {t e : TypeId} (ht : P.underlying t = some (.slice e)) {elems spare : List (DataW H)} (h : Sz P t (.slice elems spare)) {d : DataW H} (hd : d ∈ elems) : Sz P e d := fun n hn =>
  h n (by simp only [DataW.weights, ht, List.mem_cons, List.mem_append]; exact .inr (.inl (weightsAll_mem hd hn)))
theorem Sz.part {t : TypeId} {fs : Array Field} (ht : P.underlying t = some (.struct fs)) {xs : List (DataW H)} (h : Sz P t (.agg xs)) {i : Nat} {f : Field} {x : DataW H} (hf : fs[i]? = some f) (hx : xs[i]? = some x) : Sz P f.type x := fun n hn =>
  h n (by
    simp only [DataW.weights, ht]
    exact DataW.weights_mem_each (j := i) (by simp [hf]) hx n hn)
theorem Sz.text {t : TypeId} {s : ByteArray} (h : Sz P t (.lit (.string s.data.toList) : DataW H)) : Fit s := by
  have h1 := h s.data.toList.length (by simp [DataW.weights])
  have h2 := reachBytes_lt
  have h3 : s.data.toList.length = s.size := Array.length_toList
  unfold Fit
  omega
end

theorem spot_none {w : World} {x : Addr} {v : Value} (h : w.cell? x = some v) : x.spot = none ∧ x.block < w.heap.size := by
  unfold World.cell? at h
  constructor
  · cases hs : x.spot with
    | none => rfl
    | some n => rw [hs] at h; split at h <;> simp at h
  · rcases Nat.lt_or_ge x.block w.heap.size with h1 | h1
    · exact h1
    · rw [Array.getElem?_eq_none h1] at h; cases h
theorem cells50 : Try.prog.cellsOf 50 = 2 := by kernel_rfl
theorem cells39 : Try.prog.cellsOf 39 = 7 := by kernel_rfl
theorem cells46 : Try.prog.cellsOf 46 = 3 := by kernel_rfl
theorem cells3 : Try.prog.cellsOf 3 = 1 := by kernel_rfl
theorem cells4 : Try.prog.cellsOf 4 = 1 := by kernel_rfl
theorem cells5 : Try.prog.cellsOf 5 = 1 := by kernel_rfl
theorem cells9 : Try.prog.cellsOf 9 = 1 := by kernel_rfl
theorem cells37 : Try.prog.cellsOf 37 = 1 := by kernel_rfl

section
variable {H : Type} {enc : TypeId × Value → H} {W : World}
/-- The elements of a slice that came in. -/
theorem open_row {t e : TypeId} {c : Nat} (ht : Try.prog.underlying t = some (.slice e)) (hce : Try.prog.cellsOf e = c) (h0 : 0 < c) {fuel : Nat} {A : Option Addr} {len cap : Nat} {x : DataW H × List MemPlace}
    (h : DataW.trod enc Try.prog W 0 (fun _ => true) true fuel t [.slice A len cap] = some x) :
    len ≤ cap ∧ len ≤ maxLen ∧ ∀ i, i < len → ∃ (cs : List Value) (n : Nat) (D : DataW H × List MemPlace), cs.length = c ∧ DataW.trod enc Try.prog W 0 (fun _ => true) true n e cs = some D ∧ (Sz Try.prog t x.1 → Sz Try.prog e D.1) ∧
      ∃ b o, A = some ⟨b, o, none⟩ ∧ b < W.heap.size ∧ ∀ j u, cs[j]? = some u → W.cell? ⟨b, o + i * c + j, none⟩ = some u := by
  rcases open_slice ht h with ⟨hcs, _⟩ | ⟨a, l, cp, m, k, D, Pl, hcs, _, hl, hm, hmm, hx, hi⟩
  · injection hcs with hcs _
    injection hcs with e1 e2 e3
    subst e1 e2 e3
    exact ⟨Nat.le_refl _, Nat.zero_le _, fun j hj => by omega⟩
  · injection hcs with hcs _
    injection hcs with e1 e2 e3
    subst e1 e2 e3
    refine ⟨hl, Nat.le_trans hl hm, fun i hlt => ?_⟩
    have hmc : m = cap := by rw [hmm]; exact if_pos rfl
    obtain ⟨cs, hc, htr⟩ := hi i (by omega)
    rw [hce] at hc
    obtain ⟨_, hlen, hat⟩ := World.cells?_some hc
    refine ⟨cs, k, (D i, Pl i), hlen, htr, fun hs => ?_, ?_⟩
    · subst hx
      exact Sz.elem ht hs (List.mem_map.2 ⟨i, List.mem_range.2 hlt, rfl⟩)
    · have hz0 : ∀ q : Addr, q.add 0 = q := fun q => by simp [Addr.add]
      obtain ⟨lb, lo, sp⟩ := a
      have hsp : sp = none ∧ lb < W.heap.size := by
        obtain ⟨cs0, hc0, _⟩ := hi 0 (by omega)
        rw [hce] at hc0
        obtain ⟨_, hl0, hat0⟩ := World.cells?_some hc0
        have h00 := hat0 0 (by omega)
        rw [hz0, Nat.zero_mul, hz0] at h00
        match cs0, hl0 with
        | u0 :: _, _ =>
          simp only [List.getElem?_cons_zero] at h00
          exact spot_none h00
        | [], hl0 => simp at hl0; omega
      obtain ⟨rfl, hb⟩ := hsp
      have hadd : ∀ o q, (⟨lb, o, none⟩ : Addr).add q = ⟨lb, o + q, none⟩ := fun o q => by
        unfold Addr.add
        split
        · subst q; rfl
        · rfl
      refine ⟨lb, lo, rfl, hb, fun j u hu => ?_⟩
      have hj : j < c := by rw [← hlen]; exact (List.getElem?_eq_some_iff.1 hu).1
      have := hat j hj
      rw [hadd, hadd] at this
      rw [this]
      exact hu

theorem open_nil {t e : TypeId} (ht : Try.prog.underlying t = some (.slice e)) {fuel : Nat} {len cap : Nat} {x : DataW H × List MemPlace}
    (h : DataW.trod enc Try.prog W 0 (fun _ => true) true fuel t [.slice none len cap] = some x) : cap = 0 := by
  rcases open_slice ht h with ⟨hcs, _⟩ | ⟨a, l, cp, m, k, D, Pl, hcs, _⟩
  · injection hcs with hcs _
    injection hcs with e1 e2 e3
  · injection hcs with hcs _
    injection hcs with e1 e2 e3
    cases e1
def Wr.fit (x : Wr) : Prop := Fit x.k ∧ Fit x.v
def Pr.fit (x : Pr) : Prop := Fit x.k ∧ Fit x.v
theorem decode_wr {n : Nat} {cs : List Value} {D : DataW H × List MemPlace} (hl : cs.length = 3) (h : DataW.trod enc Try.prog W 0 (fun _ => true) true n 46 cs = some D) : ∃ x : Wr, cs = x.cs ∧ (Sz Try.prog 46 D.1 → x.fit) := by
  obtain ⟨xs, n1, _, hx, _, hxl, hf⟩ := DataW.trod_struct Try.underlying46 h
  match cs, hl with
  | [v0, v1, v2], _ =>
    match xs, hxl with
    | [y0, y1, y2], _ =>
      have q0 : DataW.trod enc Try.prog W 0 (fun _ => true) true n1 9 (([v0, v1, v2].drop 0).take (Try.prog.cellsOf 9)) = some y0 := hf 0 _ rfl
      have q1 : DataW.trod enc Try.prog W 0 (fun _ => true) true n1 9 (([v0, v1, v2].drop 1).take (Try.prog.cellsOf 9)) = some y1 := hf 1 _ rfl
      have q2 : DataW.trod enc Try.prog W 0 (fun _ => true) true n1 4 (([v0, v1, v2].drop 2).take (Try.prog.cellsOf 4)) = some y2 := hf 2 _ rfl
      rw [cells9] at q0 q1
      rw [cells4] at q2
      obtain ⟨k, e0, d0, _⟩ := DataW.trod_string Try.underlying9 q0
      obtain ⟨v, e1, d1, _⟩ := DataW.trod_string Try.underlying9 q1
      obtain ⟨g, e2, _⟩ := DataW.trod_bool Try.underlying4 q2
      simp at e0 e1 e2
      subst e0 e1 e2
      refine ⟨⟨k, v, g⟩, rfl, fun hs => ?_⟩
      subst hx d0 d1
      exact ⟨(Sz.part Try.underlying46 hs (i := 0) rfl rfl).text, (Sz.part Try.underlying46 hs (i := 1) rfl rfl).text⟩
theorem decode_pr {n : Nat} {cs : List Value} {D : DataW H × List MemPlace} (hl : cs.length = 2) (h : DataW.trod enc Try.prog W 0 (fun _ => true) true n 50 cs = some D) : ∃ x : Pr, cs = x.cs ∧ (Sz Try.prog 50 D.1 → x.fit) := by
  obtain ⟨xs, n1, _, hx, _, hxl, hf⟩ := DataW.trod_struct Try.underlying50 h
  match cs, hl with
  | [v0, v1], _ =>
    match xs, hxl with
    | [y0, y1], _ =>
      have q0 : DataW.trod enc Try.prog W 0 (fun _ => true) true n1 9 (([v0, v1].drop 0).take (Try.prog.cellsOf 9)) = some y0 := hf 0 _ rfl
      have q1 : DataW.trod enc Try.prog W 0 (fun _ => true) true n1 9 (([v0, v1].drop 1).take (Try.prog.cellsOf 9)) = some y1 := hf 1 _ rfl
      rw [cells9] at q0 q1
      obtain ⟨k, e0, d0, _⟩ := DataW.trod_string Try.underlying9 q0
      obtain ⟨v, e1, d1, _⟩ := DataW.trod_string Try.underlying9 q1
      simp at e0 e1
      subst e0 e1
      refine ⟨⟨k, v⟩, rfl, fun hs => ?_⟩
      subst hx d0 d1
      exact ⟨(Sz.part Try.underlying50 hs (i := 0) rfl rfl).text, (Sz.part Try.underlying50 hs (i := 1) rfl rfl).text⟩
/-- What is known of the fields of an operation that came in. -/
structure OpIn (enc : TypeId × Value → H) (W : World) (x : Opx) (D : DataW H) : Prop where
  fit : Sz Try.prog 39 D → Fit x.k ∧ Fit x.v ∧ Fit x.o
  row : ∃ m y, DataW.trod enc Try.prog W 0 (fun _ => true) true m 37 [.slice x.A x.len x.cap] = some y ∧ (Sz Try.prog 39 D → Sz Try.prog 37 y.1)
set_option maxHeartbeats 1000000 in
theorem decode_op {n : Nat} {cs : List Value} {D : DataW H × List MemPlace} (hl : cs.length = 7) (h : DataW.trod enc Try.prog W 0 (fun _ => true) true n 39 cs = some D) : ∃ x : Opx, cs = x.cs ∧ OpIn enc W x D.1 := by
  obtain ⟨xo, n2, _, hxo, _, hxol, hfo⟩ := DataW.trod_struct Try.underlying39 h
  match cs, hl with
  | [v2, v3, v4, v5, v6, v7, v8], _ =>
    match xo, hxol with
    | [o0, o1, o2, o3, o4, o5, o6], _ =>
      have p0 : DataW.trod enc Try.prog W 0 (fun _ => true) true n2 5 (([v2, v3, v4, v5, v6, v7, v8].drop 0).take (Try.prog.cellsOf 5)) = some o0 := hfo 0 _ rfl
      have p1 : DataW.trod enc Try.prog W 0 (fun _ => true) true n2 9 (([v2, v3, v4, v5, v6, v7, v8].drop 1).take (Try.prog.cellsOf 9)) = some o1 := hfo 1 _ rfl
      have p2 : DataW.trod enc Try.prog W 0 (fun _ => true) true n2 9 (([v2, v3, v4, v5, v6, v7, v8].drop 2).take (Try.prog.cellsOf 9)) = some o2 := hfo 2 _ rfl
      have p3 : DataW.trod enc Try.prog W 0 (fun _ => true) true n2 9 (([v2, v3, v4, v5, v6, v7, v8].drop 3).take (Try.prog.cellsOf 9)) = some o3 := hfo 3 _ rfl
      have p4 : DataW.trod enc Try.prog W 0 (fun _ => true) true n2 4 (([v2, v3, v4, v5, v6, v7, v8].drop 4).take (Try.prog.cellsOf 4)) = some o4 := hfo 4 _ rfl
      have p5 : DataW.trod enc Try.prog W 0 (fun _ => true) true n2 4 (([v2, v3, v4, v5, v6, v7, v8].drop 5).take (Try.prog.cellsOf 4)) = some o5 := hfo 5 _ rfl
      have p6 : DataW.trod enc Try.prog W 0 (fun _ => true) true n2 37 (([v2, v3, v4, v5, v6, v7, v8].drop 6).take (Try.prog.cellsOf 37)) = some o6 := hfo 6 _ rfl
      rw [cells5] at p0
      rw [cells9] at p1 p2 p3
      rw [cells4] at p4 p5
      rw [cells37] at p6
      obtain ⟨ok, f0, _⟩ := DataW.trod_int Try.underlying5 p0
      obtain ⟨k, f1, g1, _⟩ := DataW.trod_string Try.underlying9 p1
      obtain ⟨v, f2, g2, _⟩ := DataW.trod_string Try.underlying9 p2
      obtain ⟨o, f3, g3, _⟩ := DataW.trod_string Try.underlying9 p3
      obtain ⟨had, f4, _⟩ := DataW.trod_bool Try.underlying4 p4
      obtain ⟨aft, f5, _⟩ := DataW.trod_bool Try.underlying4 p5
      have fs : ∃ A len cap, v8 = .slice A len cap := by
        rcases open_slice Try.underlying37 p6 with ⟨hcs, _⟩ | ⟨a, l, c, _, _, _, _, hcs, _⟩
        · simp at hcs; exact ⟨_, _, _, hcs⟩
        · simp at hcs; exact ⟨_, _, _, hcs⟩
      obtain ⟨A, len, cap, rfl⟩ := fs
      simp at f0 f1 f2 f3 f4 f5
      subst f0 f1 f2 f3 f4 f5
      refine ⟨⟨ok, k, v, o, had, aft, A, len, cap⟩, rfl, fun hs => ?_, _, _, p6, fun hs => ?_⟩
      · subst hxo
        subst g1 g2 g3
        exact ⟨(Sz.part Try.underlying39 hs (i := 1) rfl rfl).text, (Sz.part Try.underlying39 hs (i := 2) rfl rfl).text, (Sz.part Try.underlying39 hs (i := 3) rfl rfl).text⟩
      · subst hxo
        exact Sz.part Try.underlying39 hs (i := 6) rfl rfl
end

theorem row_of_parts {α : Type} (f : α → List Value) (c : Nat) (h0 : 0 < c) (hf : ∀ x, (f x).length = c) {W : World} {A : Option Addr} {l : List α}
    (h : ∀ i x, l[i]? = some x → ∃ b o, A = some ⟨b, o, none⟩ ∧ b < W.heap.size ∧ ∀ j u, (f x)[j]? = some u → W.cell? ⟨b, o + i * c + j, none⟩ = some u) : Row W A (l.flatMap f) := by
  intro q u hq
  have hlen := flat_length f c hf l
  have hql : q < l.length * c := by rw [← hlen]; exact (List.getElem?_eq_some_iff.1 hq).1
  have hi : q / c < l.length := by rw [Nat.div_lt_iff_lt_mul h0]; exact hql
  have hm : q % c < c := Nat.mod_lt _ h0
  obtain ⟨x, hx⟩ : ∃ x, l[q / c]? = some x := ⟨l[q / c], List.getElem?_eq_getElem hi⟩
  have e : q / c * c + q % c = q := by rw [Nat.mul_comm]; exact Nat.div_add_mod q c
  have hx2 := flat_at f c hf l (q / c) (q % c) x hx hm
  rw [e] at hx2
  obtain ⟨b, o, hA, hb, hc⟩ := h _ x hx
  refine ⟨b, o, hA, hb, ?_⟩
  have := hc (q % c) u (by rw [← hx2]; exact hq)
  rwa [Nat.add_assoc, e] at this

theorem list_of {α : Type} (p : Nat → α → Prop) (n : Nat) (h : ∀ i, i < n → ∃ x, p i x) : ∃ l : List α, l.length = n ∧ ∀ i x, l[i]? = some x → p i x := by
  induction n with
  | zero => exact ⟨[], rfl, fun i x hx => by simp at hx⟩
  | succ n ih =>
    obtain ⟨l, hl, hp⟩ := ih fun i hi => h i (by omega)
    obtain ⟨x, hx⟩ := h n (by omega)
    refine ⟨l ++ [x], by simp [hl], fun i y hy => ?_⟩
    by_cases hi : i < l.length
    · rw [List.getElem?_append_left hi] at hy; exact hp i y hy
    · rw [List.getElem?_append_right (by omega)] at hy
      have : i - l.length = 0 := by
        rcases Nat.eq_zero_or_pos (i - l.length) with h0 | h0
        · exact h0
        · rw [List.getElem?_eq_none (by simp; omega)] at hy; cases hy
      rw [this] at hy
      simp at hy
      subst hy
      obtain rfl : i = n := by omega
      exact hx


def ocs (l : List Opx) : List Value := l.flatMap Opx.cs
/-- A row of writes that came in. -/
structure InW (W : World) (A : Option Addr) (len cap : Nat) (ws : List Wr) : Prop where
  hlen : ws.length = len
  hmax : len ≤ maxLen
  row : Row W A (wcs ws)
  fit : ∀ x ∈ ws, Fit x.k ∧ Fit x.v
/-- A row of pairs that came in. -/
structure InP (W : World) (A : Option Addr) (len cap : Nat) (l : List Pr) : Prop where
  hlen : l.length = len
  hmax : len ≤ maxLen
  row : Row W A (pcs l)
  fit : ∀ x ∈ l, Fit x.k ∧ Fit x.v
  nil : A = none → cap = 0
/-- An operation that came in. -/
structure InO (W : World) (x : Opx) (ws : List Wr) : Prop where
  row : InW W x.A x.len x.cap ws
  fit : Fit x.k ∧ Fit x.v ∧ Fit x.o
/-- A row of operations that came in. -/
structure InOs (W : World) (A : Option Addr) (len cap : Nat) (l : List Opx) (ps : List (List Wr)) : Prop where
  hlen : l.length = len
  hmax : len ≤ maxLen
  row : Row W A (ocs l)
  plen : ps.length = l.length
  get : ∀ (j : Nat) (x : Opx) (ws : List Wr), l[j]? = some x → ps[j]? = some ws → InO W x ws
section
variable {H : Type} {enc : TypeId × Value → H} {W : World} {fuel : Nat} {A : Option Addr} {len cap : Nat} {x : DataW H × List MemPlace}
theorem inW_of (h : DataW.trod enc Try.prog W 0 (fun _ => true) true fuel 37 [.slice A len cap] = some x) (hs : Sz Try.prog 37 x.1) : ∃ ws, InW W A len cap ws := by
  obtain ⟨_, hm, hi⟩ := open_row Try.underlying37 cells46 (by decide) h
  obtain ⟨ws, hwl, hwp⟩ := list_of (fun i (x : Wr) => x.fit ∧ ∃ b o, A = some ⟨b, o, none⟩ ∧ b < W.heap.size ∧ ∀ j u, x.cs[j]? = some u → W.cell? ⟨b, o + i * 3 + j, none⟩ = some u) len (fun i hlt => by
    obtain ⟨cs, n, D, hcl, htr, hsz, hcell⟩ := hi i hlt
    obtain ⟨x, rfl, hx⟩ := decode_wr hcl htr
    exact ⟨x, hx (hsz hs), hcell⟩)
  exact ⟨ws, hwl, hm, row_of_parts Wr.cs 3 (by decide) (fun _ => rfl) (fun i x hx => (hwp i x hx).2), fun x hx => by
    obtain ⟨j, hj⟩ := List.mem_iff_getElem?.1 hx
    exact (hwp j x hj).1⟩
theorem inP_of (h : DataW.trod enc Try.prog W 0 (fun _ => true) true fuel 22 [.slice A len cap] = some x) (hs : Sz Try.prog 22 x.1) : ∃ l, InP W A len cap l := by
  obtain ⟨_, hm, hi⟩ := open_row Try.underlying22 cells50 (by decide) h
  obtain ⟨ws, hwl, hwp⟩ := list_of (fun i (x : Pr) => x.fit ∧ ∃ b o, A = some ⟨b, o, none⟩ ∧ b < W.heap.size ∧ ∀ j u, x.cs[j]? = some u → W.cell? ⟨b, o + i * 2 + j, none⟩ = some u) len (fun i hlt => by
    obtain ⟨cs, n, D, hcl, htr, hsz, hcell⟩ := hi i hlt
    obtain ⟨x, rfl, hx⟩ := decode_pr hcl htr
    exact ⟨x, hx (hsz hs), hcell⟩)
  exact ⟨ws, hwl, hm, row_of_parts Pr.cs 2 (by decide) (fun _ => rfl) (fun i x hx => (hwp i x hx).2), fun x hx => (by
    obtain ⟨j, hj⟩ := List.mem_iff_getElem?.1 hx
    exact (hwp j x hj).1), fun hA => by subst hA; exact open_nil Try.underlying22 h⟩
theorem inO_of {cs : List Value} (hl : cs.length = 7) (h : DataW.trod enc Try.prog W 0 (fun _ => true) true fuel 39 cs = some x) (hs : Sz Try.prog 39 x.1) : ∃ o ws, cs = o.cs ∧ InO W o ws := by
  obtain ⟨o, rfl, hin⟩ := decode_op hl h
  obtain ⟨m, y, hy, hys⟩ := hin.row
  obtain ⟨ws, hw⟩ := inW_of hy (hys hs)
  exact ⟨o, ws, rfl, hw, hin.fit hs⟩
theorem inOs_of (h : DataW.trod enc Try.prog W 0 (fun _ => true) true fuel 23 [.slice A len cap] = some x) (hs : Sz Try.prog 23 x.1) : ∃ l ps, InOs W A len cap l ps := by
  obtain ⟨hc, hm, hi⟩ := open_row Try.underlying23 cells39 (by decide) h
  obtain ⟨lp, hlp, hp⟩ := list_of (fun i (q : Opx × List Wr) => InO W q.1 q.2 ∧
      ∃ b o, A = some ⟨b, o, none⟩ ∧ b < W.heap.size ∧ ∀ j u, q.1.cs[j]? = some u → W.cell? ⟨b, o + i * 7 + j, none⟩ = some u) len (fun i hlt => by
    obtain ⟨cs, n, D, hcl, htr, hsz, hcell⟩ := hi i hlt
    obtain ⟨e, ws, rfl, hin⟩ := inO_of hcl htr (hsz hs)
    exact ⟨(e, ws), hin, hcell⟩)
  have hget : ∀ (j : Nat) (e : Opx), (lp.map (fun q : Opx × List Wr => q.1))[j]? = some e → ∃ q : Opx × List Wr, lp[j]? = some q ∧ q.1 = e := fun j e he => by
    simp only [List.getElem?_map, Option.map_eq_some_iff] at he
    exact he
  refine ⟨lp.map (fun q : Opx × List Wr => q.1), lp.map (fun q : Opx × List Wr => q.2), by simp [hlp], hm, row_of_parts Opx.cs 7 (by decide) (fun _ => rfl) (fun i e he => ?_), by simp, fun j e ws he hw => ?_⟩
  · obtain ⟨q, hq, rfl⟩ := hget i e he
    exact (hp i q hq).2
  · obtain ⟨q, hq, rfl⟩ := hget j e he
    simp only [List.getElem?_map, hq, Option.map_some, Option.some.injEq] at hw
    subst hw
    exact (hp j q hq).1
theorem inS_of {s : ByteArray} (h : DataW.trod enc Try.prog W 0 (fun _ => true) true fuel 9 [.string s] = some x) (hs : Sz Try.prog 9 x.1) : Fit s := by
  obtain ⟨k, e0, d0, _⟩ := DataW.trod_string Try.underlying9 h
  simp at e0
  subst e0
  obtain ⟨d, p⟩ := x
  injection d0 with d0 _
  subst d0
  exact hs.text
end
theorem ends_true {w w' : World} {e : Ending} (h : e = .returned (.bool true) ∧ Turn No w w') : e = .returned (.bool true) ∧ Below w.heap.size w w' := ⟨h.1, h.2.below (Nat.le_refl _) fun _ _ h => h⟩
end Go.Proofs.Ytjjmooegpoeomaa
