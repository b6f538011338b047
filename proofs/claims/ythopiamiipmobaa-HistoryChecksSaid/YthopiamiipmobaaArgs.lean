/-
  A row of events that came in: its cells, the rows of its events' writes, and that each text is within reach.
-/
import Derived.Test.YthopiamiipmobaaStB
import Derived.ProofKit
import Derived.Deep.Slices
import Derived.Deep.Fields
import Derived.ChangeSame
import Derived.SizedLaws
namespace Go.Proofs.Ythopiamiipmobaa
open Go.RowKit Go.ChangeShapes Go.WideShapes Go.Deep Go.Lib
set_option linter.unusedVariables false
set_option linter.unusedSimpArgs false

section
variable {H : Type} {P : Program}
def Sz (P : Program) (t : TypeId) (d : DataW H) : Prop := ∀ n ∈ d.weights P t, n ≤ reachBytes
theorem weightsAll_mem {e : TypeId} {n : Nat} : ∀ {ds : List (DataW H)} {d : DataW H}, d ∈ ds → n ∈ d.weights P e → n ∈ DataW.weightsAll P e ds
  | x :: r, d, hd, hn => by
    rw [DataW.weightsAll]
    rcases List.mem_cons.1 hd with rfl | hd
    · exact List.mem_append.2 (.inl hn)
    · exact List.mem_append.2 (.inr (weightsAll_mem hd hn))
theorem Sz.elem {t e : TypeId} (ht : P.underlying t = some (.slice e)) {elems spare : List (DataW H)} (h : Sz P t (.slice elems spare)) {d : DataW H} (hd : d ∈ elems) : Sz P e d := fun n hn =>
  h n (by simp only [DataW.weights, ht, List.mem_cons, List.mem_append]; exact .inr (.inl (weightsAll_mem hd hn)))
theorem Sz.part {t : TypeId} {fs : Array Field} (ht : P.underlying t = some (.struct fs)) {xs : List (DataW H)} (h : Sz P t (.agg xs)) {i : Nat} {f : Field} {x : DataW H} (hf : fs[i]? = some f) (hx : xs[i]? = some x) : Sz P f.type x := fun n hn =>
  h n (by
    simp only [DataW.weights, ht]
    exact DataW.weights_mem_each (j := i) (by simp [hf]) hx n hn)
theorem Sz.text {t : TypeId} {s : ByteArray} (h : Sz P t (.lit (.string s.data.toList) : DataW H)) : Fit s := by
  have h1 := h s.data.toList.length (by simp [DataW.weights])
  have h2 := reachBytes_lt
  have h3 : s.data.toList.length = s.size := Array.length_toList
  unfold Fit
  omega
end

theorem spot_none {w : World} {x : Addr} {v : Value} (h : w.cell? x = some v) : x.spot = none ∧ x.block < w.heap.size := by
  unfold World.cell? at h
  constructor
  · cases hs : x.spot with
    | none => rfl
    | some n => rw [hs] at h; split at h <;> simp at h
  · rcases Nat.lt_or_ge x.block w.heap.size with h1 | h1
    · exact h1
    · rw [Array.getElem?_eq_none h1] at h; cases h
theorem cells34 : Try.prog.cellsOf 34 = 13 := by kernel_rfl
theorem cells53 : Try.prog.cellsOf 53 = 3 := by kernel_rfl
theorem cells29 : Try.prog.cellsOf 29 = 7 := by kernel_rfl
theorem cells32 : Try.prog.cellsOf 32 = 4 := by kernel_rfl
theorem cells3 : Try.prog.cellsOf 3 = 1 := by kernel_rfl
theorem cells4 : Try.prog.cellsOf 4 = 1 := by kernel_rfl
theorem cells5 : Try.prog.cellsOf 5 = 1 := by kernel_rfl
theorem cells9 : Try.prog.cellsOf 9 = 1 := by kernel_rfl
theorem cells27 : Try.prog.cellsOf 27 = 1 := by kernel_rfl
theorem cells30 : Try.prog.cellsOf 30 = 1 := by kernel_rfl

section
variable {H : Type} {enc : TypeId × Value → H} {W : World}
/-- The elements of a slice that came in. -/
theorem open_row {t e : TypeId} {c : Nat} (ht : Try.prog.underlying t = some (.slice e)) (hce : Try.prog.cellsOf e = c) (h0 : 0 < c) {fuel : Nat} {A : Option Addr} {len cap : Nat} {x : DataW H × List MemPlace}
    (h : DataW.trod enc Try.prog W 0 (fun _ => true) true fuel t [.slice A len cap] = some x) :
    len ≤ cap ∧ len ≤ maxLen ∧ ∀ i, i < len → ∃ (cs : List Value) (n : Nat) (D : DataW H × List MemPlace), cs.length = c ∧ DataW.trod enc Try.prog W 0 (fun _ => true) true n e cs = some D ∧ (Sz Try.prog t x.1 → Sz Try.prog e D.1) ∧
      ∃ b o, A = some ⟨b, o, none⟩ ∧ b < W.heap.size ∧ ∀ j u, cs[j]? = some u → W.cell? ⟨b, o + i * c + j, none⟩ = some u := by
  rcases open_slice ht h with ⟨hcs, _⟩ | ⟨a, l, cp, m, k, D, Pl, hcs, _, hl, hm, hmm, hx, hi⟩
  · injection hcs with hcs _
    injection hcs with e1 e2 e3
    subst e1 e2 e3
    exact ⟨Nat.le_refl _, Nat.zero_le _, fun j hj => by omega⟩
  · injection hcs with hcs _
    injection hcs with e1 e2 e3
    subst e1 e2 e3
    refine ⟨hl, Nat.le_trans hl hm, fun i hlt => ?_⟩
    have hmc : m = cap := by rw [hmm]; exact if_pos rfl
    obtain ⟨cs, hc, htr⟩ := hi i (by omega)
    rw [hce] at hc
    obtain ⟨_, hlen, hat⟩ := World.cells?_some hc
    refine ⟨cs, k, (D i, Pl i), hlen, htr, fun hs => ?_, ?_⟩
    · subst hx
      exact Sz.elem ht hs (List.mem_map.2 ⟨i, List.mem_range.2 hlt, rfl⟩)
    · have hz0 : ∀ q : Addr, q.add 0 = q := fun q => by simp [Addr.add]
      obtain ⟨lb, lo, sp⟩ := a
      have hsp : sp = none ∧ lb < W.heap.size := by
        obtain ⟨cs0, hc0, _⟩ := hi 0 (by omega)
        rw [hce] at hc0
        obtain ⟨_, hl0, hat0⟩ := World.cells?_some hc0
        have h00 := hat0 0 (by omega)
        rw [hz0, Nat.zero_mul, hz0] at h00
        match cs0, hl0 with
        | u0 :: _, _ =>
          simp only [List.getElem?_cons_zero] at h00
          exact spot_none h00
        | [], hl0 => simp at hl0; omega
      obtain ⟨rfl, hb⟩ := hsp
      have hadd : ∀ o q, (⟨lb, o, none⟩ : Addr).add q = ⟨lb, o + q, none⟩ := fun o q => by
        unfold Addr.add
        split
        · subst q; rfl
        · rfl
      refine ⟨lb, lo, rfl, hb, fun j u hu => ?_⟩
      have hj : j < c := by rw [← hlen]; exact (List.getElem?_eq_some_iff.1 hu).1
      have := hat j hj
      rw [hadd, hadd] at this
      rw [this]
      exact hu

theorem decode_wr {n : Nat} {cs : List Value} {D : DataW H × List MemPlace} (hl : cs.length = 3) (h : DataW.trod enc Try.prog W 0 (fun _ => true) true n 53 cs = some D) : ∃ x : Wr, cs = x.cs ∧ (Sz Try.prog 53 D.1 → x.fit) := by
  obtain ⟨xs, n1, _, hx, _, hxl, hf⟩ := DataW.trod_struct Try.underlying53 h
  match cs, hl with
  | [v0, v1, v2], _ =>
    match xs, hxl with
    | [y0, y1, y2], _ =>
      have q0 : DataW.trod enc Try.prog W 0 (fun _ => true) true n1 9 (([v0, v1, v2].drop 0).take (Try.prog.cellsOf 9)) = some y0 := hf 0 _ rfl
      have q1 : DataW.trod enc Try.prog W 0 (fun _ => true) true n1 9 (([v0, v1, v2].drop 1).take (Try.prog.cellsOf 9)) = some y1 := hf 1 _ rfl
      have q2 : DataW.trod enc Try.prog W 0 (fun _ => true) true n1 4 (([v0, v1, v2].drop 2).take (Try.prog.cellsOf 4)) = some y2 := hf 2 _ rfl

      rw [cells9] at q0 q1
      rw [cells4] at q2
      obtain ⟨k, e0, d0, _⟩ := DataW.trod_string Try.underlying9 q0
      obtain ⟨v, e1, d1, _⟩ := DataW.trod_string Try.underlying9 q1
      obtain ⟨g, e2, _⟩ := DataW.trod_bool Try.underlying4 q2
      simp at e0 e1 e2
      subst e0 e1 e2
      refine ⟨⟨k, v, g⟩, rfl, fun hs => ?_⟩
      subst hx d0 d1
      exact ⟨(Sz.part Try.underlying53 hs (i := 0) rfl rfl).text, (Sz.part Try.underlying53 hs (i := 1) rfl rfl).text⟩
/-- What is known of the fields of an event that came in. -/
structure EvIn (enc : TypeId × Value → H) (W : World) (n : Nat) (e : Ev) (D : DataW H) : Prop where
  id : In64 e.id
  fit : Sz Try.prog 34 D → Fit e.op.k ∧ Fit e.op.v ∧ Fit e.op.o ∧ Fit e.an.k ∧ Fit e.an.v
  row : ∃ m y, DataW.trod enc Try.prog W 0 (fun _ => true) true m 27 [.slice e.op.A e.op.len e.op.cap] = some y ∧ (Sz Try.prog 34 D → Sz Try.prog 27 y.1)
theorem in64_of {i : Int} (h : (Lit.int .i64 i).wf = true) : In64 i := by
  have h' : IntKind.i64.min ≤ i ∧ i ≤ IntKind.i64.max := by simpa [Lit.wf] using h
  have e1 : IntKind.i64.min = -9223372036854775808 := by decide
  have e2 : IntKind.i64.max = 9223372036854775807 := by decide
  exact ⟨by omega, by omega⟩
set_option maxHeartbeats 1000000 in
theorem decode_ev {n : Nat} {cs : List Value} {D : DataW H × List MemPlace} (hl : cs.length = 13) (h : DataW.trod enc Try.prog W 0 (fun _ => true) true n 34 cs = some D) : ∃ e : Ev, cs = e.cs ∧ EvIn enc W n e D.1 := by
  obtain ⟨xs, n1, _, hx, _, hxl, hf⟩ := DataW.trod_struct Try.underlying34 h
  match cs, hl with
  | [v0, v1, v2, v3, v4, v5, v6, v7, v8, v9, v10, v11, v12], _ =>
    match xs, hxl with
    | [y0, y1, y2, y3], _ =>
      have q0 : DataW.trod enc Try.prog W 0 (fun _ => true) true n1 5 (([v0, v1, v2, v3, v4, v5, v6, v7, v8, v9, v10, v11, v12].drop 0).take (Try.prog.cellsOf 5)) = some y0 := hf 0 _ rfl
      have q1 : DataW.trod enc Try.prog W 0 (fun _ => true) true n1 3 (([v0, v1, v2, v3, v4, v5, v6, v7, v8, v9, v10, v11, v12].drop 1).take (Try.prog.cellsOf 3)) = some y1 := hf 1 _ rfl
      have q2 : DataW.trod enc Try.prog W 0 (fun _ => true) true n1 29 (([v0, v1, v2, v3, v4, v5, v6, v7, v8, v9, v10, v11, v12].drop 2).take (Try.prog.cellsOf 29)) = some y2 := hf 2 _ rfl
      have q3 : DataW.trod enc Try.prog W 0 (fun _ => true) true n1 32 (([v0, v1, v2, v3, v4, v5, v6, v7, v8, v9, v10, v11, v12].drop 9).take (Try.prog.cellsOf 32)) = some y3 := hf 3 _ rfl
      rw [cells5] at q0
      rw [cells3] at q1
      rw [cells29] at q2
      rw [cells32] at q3
      obtain ⟨kind, e0, d0, _⟩ := DataW.trod_int Try.underlying5 q0
      obtain ⟨id, e1, d1, wid⟩ := DataW.trod_int Try.underlying3 q1
      obtain ⟨xo, n2, _, hxo, _, hxol, hfo⟩ := DataW.trod_struct Try.underlying29 q2
      obtain ⟨xa, n3, _, hxa, _, hxal, hfa⟩ := DataW.trod_struct Try.underlying32 q3
      match xo, hxol with
      | [o0, o1, o2, o3, o4, o5, o6], _ =>
        match xa, hxal with
        | [a0, a1, a2, a3], _ =>
          have p0 : DataW.trod enc Try.prog W 0 (fun _ => true) true n2 5 (([v2, v3, v4, v5, v6, v7, v8].drop 0).take (Try.prog.cellsOf 5)) = some o0 := hfo 0 _ rfl
          have p1 : DataW.trod enc Try.prog W 0 (fun _ => true) true n2 9 (([v2, v3, v4, v5, v6, v7, v8].drop 1).take (Try.prog.cellsOf 9)) = some o1 := hfo 1 _ rfl
          have p2 : DataW.trod enc Try.prog W 0 (fun _ => true) true n2 9 (([v2, v3, v4, v5, v6, v7, v8].drop 2).take (Try.prog.cellsOf 9)) = some o2 := hfo 2 _ rfl
          have p3 : DataW.trod enc Try.prog W 0 (fun _ => true) true n2 9 (([v2, v3, v4, v5, v6, v7, v8].drop 3).take (Try.prog.cellsOf 9)) = some o3 := hfo 3 _ rfl
          have p4 : DataW.trod enc Try.prog W 0 (fun _ => true) true n2 4 (([v2, v3, v4, v5, v6, v7, v8].drop 4).take (Try.prog.cellsOf 4)) = some o4 := hfo 4 _ rfl
          have p5 : DataW.trod enc Try.prog W 0 (fun _ => true) true n2 4 (([v2, v3, v4, v5, v6, v7, v8].drop 5).take (Try.prog.cellsOf 4)) = some o5 := hfo 5 _ rfl
          have p6 : DataW.trod enc Try.prog W 0 (fun _ => true) true n2 27 (([v2, v3, v4, v5, v6, v7, v8].drop 6).take (Try.prog.cellsOf 27)) = some o6 := hfo 6 _ rfl
          have r0 : DataW.trod enc Try.prog W 0 (fun _ => true) true n3 30 (([v9, v10, v11, v12].drop 0).take (Try.prog.cellsOf 30)) = some a0 := hfa 0 _ rfl
          have r1 : DataW.trod enc Try.prog W 0 (fun _ => true) true n3 4 (([v9, v10, v11, v12].drop 1).take (Try.prog.cellsOf 4)) = some a1 := hfa 1 _ rfl
          have r2 : DataW.trod enc Try.prog W 0 (fun _ => true) true n3 9 (([v9, v10, v11, v12].drop 2).take (Try.prog.cellsOf 9)) = some a2 := hfa 2 _ rfl
          have r3 : DataW.trod enc Try.prog W 0 (fun _ => true) true n3 9 (([v9, v10, v11, v12].drop 3).take (Try.prog.cellsOf 9)) = some a3 := hfa 3 _ rfl
          rw [cells5] at p0
          rw [cells9] at p1 p2 p3 r2 r3
          rw [cells4] at p4 p5 r1
          rw [cells27] at p6
          rw [cells30] at r0
          obtain ⟨ok, f0, _⟩ := DataW.trod_int Try.underlying5 p0
          obtain ⟨k, f1, g1, _⟩ := DataW.trod_string Try.underlying9 p1
          obtain ⟨v, f2, g2, _⟩ := DataW.trod_string Try.underlying9 p2
          obtain ⟨o, f3, g3, _⟩ := DataW.trod_string Try.underlying9 p3
          obtain ⟨had, f4, _⟩ := DataW.trod_bool Try.underlying4 p4
          obtain ⟨aft, f5, _⟩ := DataW.trod_bool Try.underlying4 p5
          obtain ⟨code, f6, _⟩ := DataW.trod_int Try.underlying30 r0
          obtain ⟨found, f7, _⟩ := DataW.trod_bool Try.underlying4 r1
          obtain ⟨ak, f8, g8, _⟩ := DataW.trod_string Try.underlying9 r2
          obtain ⟨av, f9, g9, _⟩ := DataW.trod_string Try.underlying9 r3
          have fs : ∃ A len cap, v8 = .slice A len cap := by
            rcases open_slice Try.underlying27 p6 with ⟨hcs, _⟩ | ⟨a, l, c, _, _, _, _, hcs, _⟩
            · simp at hcs; exact ⟨_, _, _, hcs⟩
            · simp at hcs; exact ⟨_, _, _, hcs⟩
          obtain ⟨A, len, cap, rfl⟩ := fs
          simp at e0 e1 f0 f1 f2 f3 f4 f5 f6 f7 f8 f9
          subst e0 e1 f0 f1 f2 f3 f4 f5 f6 f7 f8 f9
          refine ⟨⟨kind, id, ⟨ok, k, v, o, had, aft, A, len, cap⟩, ⟨code, found, ak, av⟩⟩, rfl, in64_of wid, fun hs => ?_, _, _, p6, fun hs => ?_⟩
          · subst hx
            have so := Sz.part Try.underlying34 hs (i := 2) rfl rfl
            have sa := Sz.part Try.underlying34 hs (i := 3) rfl rfl
            subst hxo hxa
            subst g1 g2 g3 g8 g9
            exact ⟨(Sz.part Try.underlying29 so (i := 1) rfl rfl).text, (Sz.part Try.underlying29 so (i := 2) rfl rfl).text, (Sz.part Try.underlying29 so (i := 3) rfl rfl).text, (Sz.part Try.underlying32 sa (i := 2) rfl rfl).text, (Sz.part Try.underlying32 sa (i := 3) rfl rfl).text⟩
          · subst hx
            have so := Sz.part Try.underlying34 hs (i := 2) rfl rfl
            subst hxo
            exact Sz.part Try.underlying29 so (i := 6) rfl rfl
end

theorem row_of_parts {α : Type} (f : α → List Value) (c : Nat) (h0 : 0 < c) (hf : ∀ x, (f x).length = c) {W : World} {A : Option Addr} {l : List α}
    (h : ∀ i x, l[i]? = some x → ∃ b o, A = some ⟨b, o, none⟩ ∧ b < W.heap.size ∧ ∀ j u, (f x)[j]? = some u → W.cell? ⟨b, o + i * c + j, none⟩ = some u) : Row W A (l.flatMap f) := by
  intro q u hq
  have hlen := flat_length f c hf l
  have hql : q < l.length * c := by rw [← hlen]; exact (List.getElem?_eq_some_iff.1 hq).1
  have hi : q / c < l.length := by rw [Nat.div_lt_iff_lt_mul h0]; exact hql
  have hm : q % c < c := Nat.mod_lt _ h0
  obtain ⟨x, hx⟩ : ∃ x, l[q / c]? = some x := ⟨l[q / c], List.getElem?_eq_getElem hi⟩
  have e : q / c * c + q % c = q := by rw [Nat.mul_comm]; exact Nat.div_add_mod q c
  have hx2 := flat_at f c hf l (q / c) (q % c) x hx hm
  rw [e] at hx2
  obtain ⟨b, o, hA, hb, hc⟩ := h _ x hx
  refine ⟨b, o, hA, hb, ?_⟩
  have := hc (q % c) u (by rw [← hx2]; exact hq)
  rwa [Nat.add_assoc, e] at this

/-- A row of events that came in: l, and the writes ps of its events. -/
structure Inp (W : World) (A : Option Addr) (len cap : Nat) (l : List Ev) (ps : List (List Wr)) : Prop where
  hlen : l.length = len
  hcap : len ≤ cap
  hmax : len ≤ maxLen
  row : Row W A (ecs l)
  ids : ∀ e ∈ l, In64 e.id
  plen : ps.length = l.length
  get : ∀ (j : Nat) (e : Ev) (ws : List Wr), l[j]? = some e → ps[j]? = some ws → Row W e.op.A (wcs ws) ∧ (e.op.len ≤ 100000 → e.fit ws)
  wlen : ∀ e ∈ l, e.op.len ≤ maxLen

theorem list_of {α : Type} (p : Nat → α → Prop) (n : Nat) (h : ∀ i, i < n → ∃ x, p i x) : ∃ l : List α, l.length = n ∧ ∀ i x, l[i]? = some x → p i x := by
  induction n with
  | zero => exact ⟨[], rfl, fun i x hx => by simp at hx⟩
  | succ n ih =>
    obtain ⟨l, hl, hp⟩ := ih fun i hi => h i (by omega)
    obtain ⟨x, hx⟩ := h n (by omega)
    refine ⟨l ++ [x], by simp [hl], fun i y hy => ?_⟩
    by_cases hi : i < l.length
    · rw [List.getElem?_append_left hi] at hy; exact hp i y hy
    · rw [List.getElem?_append_right (by omega)] at hy
      have : i - l.length = 0 := by
        rcases Nat.eq_zero_or_pos (i - l.length) with h0 | h0
        · exact h0
        · rw [List.getElem?_eq_none (by simp; omega)] at hy; cases hy
      rw [this] at hy
      simp at hy
      subst hy
      obtain rfl : i = n := by omega
      exact hx

theorem inp_of_trod {H : Type} {enc : TypeId × Value → H} {W : World} {fuel : Nat} {A : Option Addr} {len cap : Nat} {x : DataW H × List MemPlace}
    (h : DataW.trod enc Try.prog W 0 (fun _ => true) true fuel 22 [.slice A len cap] = some x) (hs : Sz Try.prog 22 x.1) : ∃ l ps, Inp W A len cap l ps := by
  obtain ⟨hc, hm, hi⟩ := open_row Try.underlying22 cells34 (by decide) h
  obtain ⟨lp, hlp, hp⟩ := list_of (fun i (q : Ev × List Wr) => In64 q.1.id ∧ q.1.op.len ≤ maxLen ∧ Row W q.1.op.A (wcs q.2) ∧ (q.1.op.len ≤ 100000 → q.1.fit q.2) ∧
      ∃ b o, A = some ⟨b, o, none⟩ ∧ b < W.heap.size ∧ ∀ j u, q.1.cs[j]? = some u → W.cell? ⟨b, o + i * 13 + j, none⟩ = some u) len (fun i hlt => by
    obtain ⟨cs, n, D, hcl, htr, hsz, hcell⟩ := hi i hlt
    obtain ⟨e, rfl, hin⟩ := decode_ev hcl htr
    have hfit := hin.fit (hsz hs)
    obtain ⟨m, y, hy, hys⟩ := hin.row
    obtain ⟨_, hwm, hw⟩ := open_row Try.underlying27 cells53 (by decide) hy
    obtain ⟨ws, hwl, hwp⟩ := list_of (fun i (x : Wr) => x.fit ∧ ∃ b o, e.op.A = some ⟨b, o, none⟩ ∧ b < W.heap.size ∧ ∀ j u, x.cs[j]? = some u → W.cell? ⟨b, o + i * 3 + j, none⟩ = some u) e.op.len (fun i hlt => by
      obtain ⟨cs, n, D, hcl, htr, hsz2, hcell⟩ := hw i hlt
      obtain ⟨x, rfl, hx⟩ := decode_wr hcl htr
      exact ⟨x, hx (hsz2 (hys (hsz hs))), hcell⟩)
    refine ⟨(e, ws), hin.id, hwm, row_of_parts Wr.cs 3 (by decide) (fun _ => rfl) (fun i x hx => (hwp i x hx).2), fun hfew => ?_, hcell⟩
    exact ⟨hin.id, hfit.1, hfit.2.1, hfit.2.2.1, hfit.2.2.2.1, hfit.2.2.2.2, fun x hx => by
      obtain ⟨j, hj⟩ := List.mem_iff_getElem?.1 hx
      exact (hwp j x hj).1, hwl, hfew⟩)
  have hget : ∀ (j : Nat) (e : Ev), (lp.map (fun q : Ev × List Wr => q.1))[j]? = some e → ∃ q : Ev × List Wr, lp[j]? = some q ∧ q.1 = e := fun j e he => by
    simp only [List.getElem?_map, Option.map_eq_some_iff] at he
    exact he
  refine ⟨lp.map (fun q : Ev × List Wr => q.1), lp.map (fun q : Ev × List Wr => q.2), by simp [hlp], hc, hm, row_of_parts Ev.cs 13 (by decide) (fun _ => rfl) (fun i e he => ?_), fun e he => ?_, by simp, fun j e ws he hw => ?_, fun e he => ?_⟩
  · obtain ⟨q, hq, rfl⟩ := hget i e he
    exact (hp i q hq).2.2.2.2
  · obtain ⟨q, hq, rfl⟩ := List.mem_map.1 he
    obtain ⟨j, hj⟩ := List.mem_iff_getElem?.1 hq
    exact (hp j q hj).1
  · obtain ⟨q, hq, rfl⟩ := hget j e he
    simp only [List.getElem?_map, hq, Option.map_some, Option.some.injEq] at hw
    subst hw
    exact ⟨(hp j q hq).2.2.1, (hp j q hq).2.2.2.1⟩
  · obtain ⟨q, hq, rfl⟩ := List.mem_map.1 he
    obtain ⟨j, hj⟩ := List.mem_iff_getElem?.1 hq
    exact (hp j q hj).2.1
theorem Inp.rws {W : World} {A : Option Addr} {len cap : Nat} {l : List Ev} {ps : List (List Wr)} (h : Inp W A len cap l ps) (hf : ∀ e ∈ l, e.op.len ≤ 100000) : Rws W l ps :=
  ⟨h.plen, fun j e ws he hw => ⟨(h.get j e ws he hw).1, (h.get j e ws he hw).2 (hf e (List.mem_of_getElem? he))⟩⟩
end Go.Proofs.Ythopiamiipmobaa
