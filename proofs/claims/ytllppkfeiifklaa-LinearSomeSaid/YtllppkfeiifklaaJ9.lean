/-
  GreatOp: what it lets by is small.
  What came in: rows of pairs, of writes, of operations, an operation; each text within reach.
  Words on memory: worlds that part in some blocks alone; a block known whole; a map from int known as a partial function.
  Events as plain data: what their cells hold; rows that are read.
  What is known of an Id, as plain data; right rows.
-/
import Derived.Test.YtllppkfeiifklaaJ8
import Derived.ProofKit
import Derived.Deep.Slices
import Derived.Deep.Fields
import Derived.ChangeSame
import Derived.SizedLaws
import Derived.Test.YtllppkfeiifklaaJ1
import Derived.Below
import Derived.Maps.Own
import Derived.Maps.OwnSet
import Derived.Laws.Rows
import Derived.Deep.Draws
import Derived.WalkKit
import Derived.Lib.Hide
import Derived.Test.YtllppkfeiifklaaJ2
import Derived.Laws.AppendOwn
namespace Go.Proofs.Ytllppkfeiifklaa
open Go.RowKit Go.Lib
set_option linter.unusedVariables false
set_option maxRecDepth 20000
set_option linter.unusedSimpArgs false

structure Few (k v o : ByteArray) (ws : List Wr) : Prop where
  k : k.size ≤ 500
  v : v.size ≤ 500
  o : o.size ≤ 500
  n : ws.length ≤ 40
  w : ∀ x ∈ ws, x.k.size ≤ 500 ∧ x.v.size ≤ 500
theorem few_snoc {ws : List Wr} {j : Nat} {x : Wr} (hj : ws[j]? = some x) (h : ∀ y ∈ ws.take j, y.k.size ≤ 500 ∧ y.v.size ≤ 500) (hx : x.k.size ≤ 500 ∧ x.v.size ≤ 500) : ∀ y ∈ ws.take (j + 1), y.k.size ≤ 500 ∧ y.v.size ≤ 500 := by
  intro y hy
  rw [List.take_add_one, hj] at hy
  rcases List.mem_append.1 hy with h1 | h1
  · exact h y h1
  · simp at h1
    subst h1
    exact hx
/-- The answer: true, or false and all is few. -/
def Grt (P : Prop) (e : Ending) : Prop := ∃ b, e = .returned (.bool b) ∧ (b = false → P)
theorem Grt.yes {P : Prop} : Grt P (.returned (.bool true)) := ⟨true, rfl, fun h => by cases h⟩
theorem Grt.no {P : Prop} (h : P) : Grt P (.returned (.bool false)) := ⟨false, rfl, fun _ => h⟩
set_option maxHeartbeats 2000000 in
theorem greatop_any (kind : Int) (k v o : ByteArray) (had aft : Bool) (A : Option Addr) (cap : Nat) (ws : List Wr) (w : World) (h : Row w A (wcs ws)) (hk : Fit k) (hv : Fit v) (ho : Fit o) (hf : ∀ x ∈ ws, Fit x.k ∧ Fit x.v) (hn : ws.length ≤ maxLen) :
    Calls Try.prog 26 #[.agg #[.int .u8 kind, .string k, .string v, .string o, .bool had, .bool aft, .slice A ws.length cap]] w fun e w' => Grt (Few k v o ws) e ∧ Turn No w w' := by
  have HT : Hid (Turn No w (w.alloc (.cells #[.int .u8 kind, .string k, .string v, .string o, .bool had, .bool aft, .slice A ws.length cap] 34))) := Lib.hid ((Turn.refl _ _).alloc _)
  have HA : Hid (At (w.alloc (.cells #[.int .u8 kind, .string k, .string v, .string o, .bool had, .bool aft, .slice A ws.length cap] 34)) w.heap.size (.cells #[.int .u8 kind, .string k, .string v, .string o, .bool had, .bool aft, .slice A ws.length cap] 34 (0, 0))) := Lib.hid (At.new _ _)
  have HR := Lib.hid (And.intro h hf)
  unfold Fit at hk hv ho
  unfold maxLen at hn
  clear h hf
  go_enter Try.func26, Try.ntmps26
  go_upto_region 1 with fail
  generalize w.alloc (.cells #[.int .u8 kind, .string k, .string v, .string o, .bool had, .bool aft, .slice A ws.length cap] 34) = w1 at HT HA ⊢
  generalize w.heap.size = g at HA ⊢
  have y1 := HA.out.cell 1
  have y2 := HA.out.cell 2
  have y3 := HA.out.cell 3
  have y6 := HA.out.cell 6
  simp at y1 y2 y3 y6
  by_cases b1 : 500 < k.size
  · have b1' : (500 : Int) < (k.size : Int) := by omega
    clear b1
    go_wp2_with fail
    go_ret
    exact ⟨Grt.yes, HT.out⟩
  · have b1' : ¬ (500 : Int) < (k.size : Int) := by omega
    by_cases b2 : 500 < v.size
    · have b2' : (500 : Int) < (v.size : Int) := by omega
      clear b1 b2
      go_wp2_with fail
      go_ret
      exact ⟨Grt.yes, HT.out⟩
    · have b2' : ¬ (500 : Int) < (v.size : Int) := by omega
      by_cases b3 : 500 < o.size
      · have b3' : (500 : Int) < (o.size : Int) := by omega
        clear b1 b2 b3
        go_wp2_with fail
        go_ret
        exact ⟨Grt.yes, HT.out⟩
      · have b3' : ¬ (500 : Int) < (o.size : Int) := by omega
        by_cases b4 : 40 < ws.length
        · have b4' : (40 : Int) < (ws.length : Int) := by omega
          clear b1 b2 b3 b4
          go_wp2_with fail
          go_ret
          exact ⟨Grt.yes, HT.out⟩
        · have b4' : ¬ (40 : Int) < (ws.length : Int) := by omega
          have HB : Hid (k.size ≤ 500 ∧ v.size ≤ 500 ∧ o.size ≤ 500 ∧ ws.length ≤ 40) := Lib.hid ⟨by omega, by omega, by omega, by omega⟩
          clear b1 b2 b3 b4
          go_wp2_with fail
          go_loopw [3] (fun i wr => ∃ kk : Nat, kk ≤ ws.length ∧ i = .int .i64 (kk : Int) ∧ wr = w1 ∧ Hid (∀ y ∈ ws.take kk, y.k.size ≤ 500 ∧ y.v.size ≤ 500)) (fun i _ => ws.length - (RowKit.intOf i).toNat)
          case atStart => exact ⟨0, Nat.zero_le _, rfl, rfl, Lib.hid (by simp)⟩
          case round =>
            obtain ⟨kk, hm, rfl, rfl, HP⟩ := hrel
            by_cases hlt : kk < ws.length
            · obtain ⟨x, hx⟩ : ∃ x, ws[kk]? = some x := ⟨ws[kk], List.getElem?_eq_getElem hlt⟩
              obtain ⟨b, off, hA, hb, x0, x1, x2⟩ := (HR.out.1.turn HT.out fun _ _ _ h => h).wr hx
              have hfx := HR.out.2 x (List.mem_of_getElem? hx)
              have HX := Lib.hid (few_snoc hx HP.out)
              obtain ⟨xk, xv, xg⟩ := x
              unfold Fit at hfx
              obtain ⟨q1, q2⟩ := hfx
              simp only at x0 x1 x2 q1 q2
              subst hA
              clear hb hx HP HR HA
              by_cases c1 : 500 < xk.size
              · have c1' : (500 : Int) < (xk.size : Int) := by omega
                clear c1
                go_wp2_with fail
                go_ret
                exact ⟨Grt.yes, HT.out⟩
              · have c1' : ¬ (500 : Int) < (xk.size : Int) := by omega
                by_cases c2 : 500 < xv.size
                · have c2' : (500 : Int) < (xv.size : Int) := by omega
                  clear c1 c2
                  go_wp2_with fail
                  go_ret
                  exact ⟨Grt.yes, HT.out⟩
                · have c2' : ¬ (500 : Int) < (xv.size : Int) := by omega
                  have HN := Lib.hid (HX.out ⟨by show xk.size ≤ 500; omega, by show xv.size ≤ 500; omega⟩)
                  clear c1 c2 HX
                  go_wp2_with fail
                  exact ⟨⟨kk + 1, by omega, by go_num, trivial, HN⟩, by simp [RowKit.intOf]; omega⟩
            · obtain rfl : kk = ws.length := by omega
              have h0 := HP.out
              rw [List.take_length] at h0
              have H0 := Lib.hid h0
              clear h0
              go_wp2_with fail
              go_ret
              exact ⟨Grt.no ⟨HB.out.1, HB.out.2.1, HB.out.2.2.1, HB.out.2.2.2, H0.out⟩, HT.out⟩
end Go.Proofs.Ytllppkfeiifklaa
namespace Go.Proofs.Ytllppkfeiifklaa
open Go.RowKit Go.ChangeShapes Go.WideShapes Go.Deep Go.Lib
set_option linter.unusedVariables false
set_option maxRecDepth 20000
set_option linter.unusedSimpArgs false

section
variable {H : Type} {P : Program}
def Sz (P : Program) (t : TypeId) (d : DataW H) : Prop := ∀ n ∈ d.weights P t, n ≤ reachBytes
theorem weightsAll_mem {e : TypeId} {n : Nat} : ∀ {ds : List (DataW H)} {d : DataW H}, d ∈ ds → n ∈ d.weights P e → n ∈ DataW.weightsAll P e ds
  | x :: r, d, hd, hn => by
    rw [DataW.weightsAll]
    rcases List.mem_cons.1 hd with rfl | hd
    · exact List.mem_append.2 (.inl hn)
    · exact List.mem_append.2 (.inr (weightsAll_mem hd hn))
theorem Sz.elem {t e : TypeId} (ht : P.underlying t = some (.slice e)) {elems spare : List (DataW H)} (h : Sz P t (.slice elems spare)) {d : DataW H} (hd : d ∈ elems) : Sz P e d := fun n hn =>
  h n (by simp only [DataW.weights, ht, List.mem_cons, List.mem_append]; exact .inr (.inl (weightsAll_mem hd hn)))
theorem Sz.part {t : TypeId} {fs : Array Field} (ht : P.underlying t = some (.struct fs)) {xs : List (DataW H)} (h : Sz P t (.agg xs)) {i : Nat} {f : Field} {x : DataW H} (hf : fs[i]? = some f) (hx : xs[i]? = some x) : Sz P f.type x := fun n hn =>
  h n (by
    simp only [DataW.weights, ht]
    exact DataW.weights_mem_each (j := i) (by simp [hf]) hx n hn)
theorem Sz.text {t : TypeId} {s : ByteArray} (h : Sz P t (.lit (.string s.data.toList) : DataW H)) : Fit s := by
  have h1 := h s.data.toList.length (by simp [DataW.weights])
  have h2 := reachBytes_lt
  have h3 : s.data.toList.length = s.size := Array.length_toList
  unfold Fit
  omega
end

theorem spot_none {w : World} {x : Addr} {v : Value} (h : w.cell? x = some v) : x.spot = none ∧ x.block < w.heap.size := by
  unfold World.cell? at h
  constructor
  · cases hs : x.spot with
    | none => rfl
    | some n => rw [hs] at h; split at h <;> simp at h
  · rcases Nat.lt_or_ge x.block w.heap.size with h1 | h1
    · exact h1
    · rw [Array.getElem?_eq_none h1] at h; cases h
theorem cells50 : Try.prog.cellsOf 47 = 2 := by kernel_rfl
theorem cells39 : Try.prog.cellsOf 34 = 7 := by kernel_rfl
theorem cells46 : Try.prog.cellsOf 68 = 3 := by kernel_rfl
theorem cells3 : Try.prog.cellsOf 3 = 1 := by kernel_rfl
theorem cells4 : Try.prog.cellsOf 4 = 1 := by kernel_rfl
theorem cells5 : Try.prog.cellsOf 5 = 1 := by kernel_rfl
theorem cells9 : Try.prog.cellsOf 9 = 1 := by kernel_rfl
theorem cells37 : Try.prog.cellsOf 32 = 1 := by kernel_rfl

section
variable {H : Type} {enc : TypeId × Value → H} {W : World}
/-- The elements of a slice that came in. -/
theorem open_row {t e : TypeId} {c : Nat} (ht : Try.prog.underlying t = some (.slice e)) (hce : Try.prog.cellsOf e = c) (h0 : 0 < c) {fuel : Nat} {A : Option Addr} {len cap : Nat} {x : DataW H × List MemPlace}
    (h : DataW.trod enc Try.prog W 0 (fun _ => true) true fuel t [.slice A len cap] = some x) :
    len ≤ cap ∧ len ≤ maxLen ∧ ∀ i, i < len → ∃ (cs : List Value) (n : Nat) (D : DataW H × List MemPlace), cs.length = c ∧ DataW.trod enc Try.prog W 0 (fun _ => true) true n e cs = some D ∧ (Sz Try.prog t x.1 → Sz Try.prog e D.1) ∧
      ∃ b o, A = some ⟨b, o, none⟩ ∧ b < W.heap.size ∧ ∀ j u, cs[j]? = some u → W.cell? ⟨b, o + i * c + j, none⟩ = some u := by
  rcases open_slice ht h with ⟨hcs, _⟩ | ⟨a, l, cp, m, k, D, Pl, hcs, _, hl, hm, hmm, hx, hi⟩
  · injection hcs with hcs _
    injection hcs with e1 e2 e3
    subst e1 e2 e3
    exact ⟨Nat.le_refl _, Nat.zero_le _, fun j hj => by omega⟩
  · injection hcs with hcs _
    injection hcs with e1 e2 e3
    subst e1 e2 e3
    refine ⟨hl, Nat.le_trans hl hm, fun i hlt => ?_⟩
    have hmc : m = cap := by rw [hmm]; exact if_pos rfl
    obtain ⟨cs, hc, htr⟩ := hi i (by omega)
    rw [hce] at hc
    obtain ⟨_, hlen, hat⟩ := World.cells?_some hc
    refine ⟨cs, k, (D i, Pl i), hlen, htr, fun hs => ?_, ?_⟩
    · subst hx
      exact Sz.elem ht hs (List.mem_map.2 ⟨i, List.mem_range.2 hlt, rfl⟩)
    · have hz0 : ∀ q : Addr, q.add 0 = q := fun q => by simp [Addr.add]
      obtain ⟨lb, lo, sp⟩ := a
      have hsp : sp = none ∧ lb < W.heap.size := by
        obtain ⟨cs0, hc0, _⟩ := hi 0 (by omega)
        rw [hce] at hc0
        obtain ⟨_, hl0, hat0⟩ := World.cells?_some hc0
        have h00 := hat0 0 (by omega)
        rw [hz0, Nat.zero_mul, hz0] at h00
        match cs0, hl0 with
        | u0 :: _, _ =>
          simp only [List.getElem?_cons_zero] at h00
          exact spot_none h00
        | [], hl0 => simp at hl0; omega
      obtain ⟨rfl, hb⟩ := hsp
      have hadd : ∀ o q, (⟨lb, o, none⟩ : Addr).add q = ⟨lb, o + q, none⟩ := fun o q => by
        unfold Addr.add
        split
        · subst q; rfl
        · rfl
      refine ⟨lb, lo, rfl, hb, fun j u hu => ?_⟩
      have hj : j < c := by rw [← hlen]; exact (List.getElem?_eq_some_iff.1 hu).1
      have := hat j hj
      rw [hadd, hadd] at this
      rw [this]
      exact hu

theorem open_nil {t e : TypeId} (ht : Try.prog.underlying t = some (.slice e)) {fuel : Nat} {len cap : Nat} {x : DataW H × List MemPlace}
    (h : DataW.trod enc Try.prog W 0 (fun _ => true) true fuel t [.slice none len cap] = some x) : cap = 0 := by
  rcases open_slice ht h with ⟨hcs, _⟩ | ⟨a, l, cp, m, k, D, Pl, hcs, _⟩
  · injection hcs with hcs _
    injection hcs with e1 e2 e3
  · injection hcs with hcs _
    injection hcs with e1 e2 e3
    cases e1
def Wr.fit (x : Wr) : Prop := Fit x.k ∧ Fit x.v
def Pr.fit (x : Pr) : Prop := Fit x.k ∧ Fit x.v
theorem decode_wr {n : Nat} {cs : List Value} {D : DataW H × List MemPlace} (hl : cs.length = 3) (h : DataW.trod enc Try.prog W 0 (fun _ => true) true n 68 cs = some D) : ∃ x : Wr, cs = x.cs ∧ (Sz Try.prog 68 D.1 → x.fit) := by
  obtain ⟨xs, n1, _, hx, _, hxl, hf⟩ := DataW.trod_struct Try.underlying68 h
  match cs, hl with
  | [v0, v1, v2], _ =>
    match xs, hxl with
    | [y0, y1, y2], _ =>
      have q0 : DataW.trod enc Try.prog W 0 (fun _ => true) true n1 9 (([v0, v1, v2].drop 0).take (Try.prog.cellsOf 9)) = some y0 := hf 0 _ rfl
      have q1 : DataW.trod enc Try.prog W 0 (fun _ => true) true n1 9 (([v0, v1, v2].drop 1).take (Try.prog.cellsOf 9)) = some y1 := hf 1 _ rfl
      have q2 : DataW.trod enc Try.prog W 0 (fun _ => true) true n1 4 (([v0, v1, v2].drop 2).take (Try.prog.cellsOf 4)) = some y2 := hf 2 _ rfl
      rw [cells9] at q0 q1
      rw [cells4] at q2
      obtain ⟨k, e0, d0, _⟩ := DataW.trod_string Try.underlying9 q0
      obtain ⟨v, e1, d1, _⟩ := DataW.trod_string Try.underlying9 q1
      obtain ⟨g, e2, _⟩ := DataW.trod_bool Try.underlying4 q2
      simp at e0 e1 e2
      subst e0 e1 e2
      refine ⟨⟨k, v, g⟩, rfl, fun hs => ?_⟩
      subst hx d0 d1
      exact ⟨(Sz.part Try.underlying68 hs (i := 0) rfl rfl).text, (Sz.part Try.underlying68 hs (i := 1) rfl rfl).text⟩
theorem decode_pr {n : Nat} {cs : List Value} {D : DataW H × List MemPlace} (hl : cs.length = 2) (h : DataW.trod enc Try.prog W 0 (fun _ => true) true n 47 cs = some D) : ∃ x : Pr, cs = x.cs ∧ (Sz Try.prog 47 D.1 → x.fit) := by
  obtain ⟨xs, n1, _, hx, _, hxl, hf⟩ := DataW.trod_struct Try.underlying47 h
  match cs, hl with
  | [v0, v1], _ =>
    match xs, hxl with
    | [y0, y1], _ =>
      have q0 : DataW.trod enc Try.prog W 0 (fun _ => true) true n1 9 (([v0, v1].drop 0).take (Try.prog.cellsOf 9)) = some y0 := hf 0 _ rfl
      have q1 : DataW.trod enc Try.prog W 0 (fun _ => true) true n1 9 (([v0, v1].drop 1).take (Try.prog.cellsOf 9)) = some y1 := hf 1 _ rfl
      rw [cells9] at q0 q1
      obtain ⟨k, e0, d0, _⟩ := DataW.trod_string Try.underlying9 q0
      obtain ⟨v, e1, d1, _⟩ := DataW.trod_string Try.underlying9 q1
      simp at e0 e1
      subst e0 e1
      refine ⟨⟨k, v⟩, rfl, fun hs => ?_⟩
      subst hx d0 d1
      exact ⟨(Sz.part Try.underlying47 hs (i := 0) rfl rfl).text, (Sz.part Try.underlying47 hs (i := 1) rfl rfl).text⟩
/-- What is known of the fields of an operation that came in. -/
structure OpIn (enc : TypeId × Value → H) (W : World) (x : Opx) (D : DataW H) : Prop where
  fit : Sz Try.prog 34 D → Fit x.k ∧ Fit x.v ∧ Fit x.o
  row : ∃ m y, DataW.trod enc Try.prog W 0 (fun _ => true) true m 32 [.slice x.A x.len x.cap] = some y ∧ (Sz Try.prog 34 D → Sz Try.prog 32 y.1)
set_option maxHeartbeats 1000000 in
theorem decode_op {n : Nat} {cs : List Value} {D : DataW H × List MemPlace} (hl : cs.length = 7) (h : DataW.trod enc Try.prog W 0 (fun _ => true) true n 34 cs = some D) : ∃ x : Opx, cs = x.cs ∧ OpIn enc W x D.1 := by
  obtain ⟨xo, n2, _, hxo, _, hxol, hfo⟩ := DataW.trod_struct Try.underlying34 h
  match cs, hl with
  | [v2, v3, v4, v5, v6, v7, v8], _ =>
    match xo, hxol with
    | [o0, o1, o2, o3, o4, o5, o6], _ =>
      have p0 : DataW.trod enc Try.prog W 0 (fun _ => true) true n2 5 (([v2, v3, v4, v5, v6, v7, v8].drop 0).take (Try.prog.cellsOf 5)) = some o0 := hfo 0 _ rfl
      have p1 : DataW.trod enc Try.prog W 0 (fun _ => true) true n2 9 (([v2, v3, v4, v5, v6, v7, v8].drop 1).take (Try.prog.cellsOf 9)) = some o1 := hfo 1 _ rfl
      have p2 : DataW.trod enc Try.prog W 0 (fun _ => true) true n2 9 (([v2, v3, v4, v5, v6, v7, v8].drop 2).take (Try.prog.cellsOf 9)) = some o2 := hfo 2 _ rfl
      have p3 : DataW.trod enc Try.prog W 0 (fun _ => true) true n2 9 (([v2, v3, v4, v5, v6, v7, v8].drop 3).take (Try.prog.cellsOf 9)) = some o3 := hfo 3 _ rfl
      have p4 : DataW.trod enc Try.prog W 0 (fun _ => true) true n2 4 (([v2, v3, v4, v5, v6, v7, v8].drop 4).take (Try.prog.cellsOf 4)) = some o4 := hfo 4 _ rfl
      have p5 : DataW.trod enc Try.prog W 0 (fun _ => true) true n2 4 (([v2, v3, v4, v5, v6, v7, v8].drop 5).take (Try.prog.cellsOf 4)) = some o5 := hfo 5 _ rfl
      have p6 : DataW.trod enc Try.prog W 0 (fun _ => true) true n2 32 (([v2, v3, v4, v5, v6, v7, v8].drop 6).take (Try.prog.cellsOf 32)) = some o6 := hfo 6 _ rfl
      rw [cells5] at p0
      rw [cells9] at p1 p2 p3
      rw [cells4] at p4 p5
      rw [cells37] at p6
      obtain ⟨ok, f0, _⟩ := DataW.trod_int Try.underlying5 p0
      obtain ⟨k, f1, g1, _⟩ := DataW.trod_string Try.underlying9 p1
      obtain ⟨v, f2, g2, _⟩ := DataW.trod_string Try.underlying9 p2
      obtain ⟨o, f3, g3, _⟩ := DataW.trod_string Try.underlying9 p3
      obtain ⟨had, f4, _⟩ := DataW.trod_bool Try.underlying4 p4
      obtain ⟨aft, f5, _⟩ := DataW.trod_bool Try.underlying4 p5
      have fs : ∃ A len cap, v8 = .slice A len cap := by
        rcases open_slice Try.underlying32 p6 with ⟨hcs, _⟩ | ⟨a, l, c, _, _, _, _, hcs, _⟩
        · simp at hcs; exact ⟨_, _, _, hcs⟩
        · simp at hcs; exact ⟨_, _, _, hcs⟩
      obtain ⟨A, len, cap, rfl⟩ := fs
      simp at f0 f1 f2 f3 f4 f5
      subst f0 f1 f2 f3 f4 f5
      refine ⟨⟨ok, k, v, o, had, aft, A, len, cap⟩, rfl, fun hs => ?_, _, _, p6, fun hs => ?_⟩
      · subst hxo
        subst g1 g2 g3
        exact ⟨(Sz.part Try.underlying34 hs (i := 1) rfl rfl).text, (Sz.part Try.underlying34 hs (i := 2) rfl rfl).text, (Sz.part Try.underlying34 hs (i := 3) rfl rfl).text⟩
      · subst hxo
        exact Sz.part Try.underlying34 hs (i := 6) rfl rfl
end

theorem row_of_parts {α : Type} (f : α → List Value) (c : Nat) (h0 : 0 < c) (hf : ∀ x, (f x).length = c) {W : World} {A : Option Addr} {l : List α}
    (h : ∀ i x, l[i]? = some x → ∃ b o, A = some ⟨b, o, none⟩ ∧ b < W.heap.size ∧ ∀ j u, (f x)[j]? = some u → W.cell? ⟨b, o + i * c + j, none⟩ = some u) : Row W A (l.flatMap f) := by
  intro q u hq
  have hlen := flat_length f c hf l
  have hql : q < l.length * c := by rw [← hlen]; exact (List.getElem?_eq_some_iff.1 hq).1
  have hi : q / c < l.length := by rw [Nat.div_lt_iff_lt_mul h0]; exact hql
  have hm : q % c < c := Nat.mod_lt _ h0
  obtain ⟨x, hx⟩ : ∃ x, l[q / c]? = some x := ⟨l[q / c], List.getElem?_eq_getElem hi⟩
  have e : q / c * c + q % c = q := by rw [Nat.mul_comm]; exact Nat.div_add_mod q c
  have hx2 := flat_at f c hf l (q / c) (q % c) x hx hm
  rw [e] at hx2
  obtain ⟨b, o, hA, hb, hc⟩ := h _ x hx
  refine ⟨b, o, hA, hb, ?_⟩
  have := hc (q % c) u (by rw [← hx2]; exact hq)
  rwa [Nat.add_assoc, e] at this

theorem list_of {α : Type} (p : Nat → α → Prop) (n : Nat) (h : ∀ i, i < n → ∃ x, p i x) : ∃ l : List α, l.length = n ∧ ∀ i x, l[i]? = some x → p i x := by
  induction n with
  | zero => exact ⟨[], rfl, fun i x hx => by simp at hx⟩
  | succ n ih =>
    obtain ⟨l, hl, hp⟩ := ih fun i hi => h i (by omega)
    obtain ⟨x, hx⟩ := h n (by omega)
    refine ⟨l ++ [x], by simp [hl], fun i y hy => ?_⟩
    by_cases hi : i < l.length
    · rw [List.getElem?_append_left hi] at hy; exact hp i y hy
    · rw [List.getElem?_append_right (by omega)] at hy
      have : i - l.length = 0 := by
        rcases Nat.eq_zero_or_pos (i - l.length) with h0 | h0
        · exact h0
        · rw [List.getElem?_eq_none (by simp; omega)] at hy; cases hy
      rw [this] at hy
      simp at hy
      subst hy
      obtain rfl : i = n := by omega
      exact hx


def ocs (l : List Opx) : List Value := l.flatMap Opx.cs
/-- A row of writes that came in. -/
structure InW (W : World) (A : Option Addr) (len cap : Nat) (ws : List Wr) : Prop where
  hlen : ws.length = len
  hmax : len ≤ maxLen
  row : Row W A (wcs ws)
  fit : ∀ x ∈ ws, Fit x.k ∧ Fit x.v
/-- A row of pairs that came in. -/
structure InP (W : World) (A : Option Addr) (len cap : Nat) (l : List Pr) : Prop where
  hlen : l.length = len
  hmax : len ≤ maxLen
  row : Row W A (pcs l)
  fit : ∀ x ∈ l, Fit x.k ∧ Fit x.v
  nil : A = none → cap = 0
/-- An operation that came in. -/
structure InO (W : World) (x : Opx) (ws : List Wr) : Prop where
  row : InW W x.A x.len x.cap ws
  fit : Fit x.k ∧ Fit x.v ∧ Fit x.o
/-- A row of operations that came in. -/
structure InOs (W : World) (A : Option Addr) (len cap : Nat) (l : List Opx) (ps : List (List Wr)) : Prop where
  hlen : l.length = len
  hmax : len ≤ maxLen
  row : Row W A (ocs l)
  plen : ps.length = l.length
  get : ∀ (j : Nat) (x : Opx) (ws : List Wr), l[j]? = some x → ps[j]? = some ws → InO W x ws
section
variable {H : Type} {enc : TypeId × Value → H} {W : World} {fuel : Nat} {A : Option Addr} {len cap : Nat} {x : DataW H × List MemPlace}
theorem inW_of (h : DataW.trod enc Try.prog W 0 (fun _ => true) true fuel 32 [.slice A len cap] = some x) (hs : Sz Try.prog 32 x.1) : ∃ ws, InW W A len cap ws := by
  obtain ⟨_, hm, hi⟩ := open_row Try.underlying32 cells46 (by decide) h
  obtain ⟨ws, hwl, hwp⟩ := list_of (fun i (x : Wr) => x.fit ∧ ∃ b o, A = some ⟨b, o, none⟩ ∧ b < W.heap.size ∧ ∀ j u, x.cs[j]? = some u → W.cell? ⟨b, o + i * 3 + j, none⟩ = some u) len (fun i hlt => by
    obtain ⟨cs, n, D, hcl, htr, hsz, hcell⟩ := hi i hlt
    obtain ⟨x, rfl, hx⟩ := decode_wr hcl htr
    exact ⟨x, hx (hsz hs), hcell⟩)
  exact ⟨ws, hwl, hm, row_of_parts Wr.cs 3 (by decide) (fun _ => rfl) (fun i x hx => (hwp i x hx).2), fun x hx => by
    obtain ⟨j, hj⟩ := List.mem_iff_getElem?.1 hx
    exact (hwp j x hj).1⟩
theorem inP_of (h : DataW.trod enc Try.prog W 0 (fun _ => true) true fuel 22 [.slice A len cap] = some x) (hs : Sz Try.prog 22 x.1) : ∃ l, InP W A len cap l := by
  obtain ⟨_, hm, hi⟩ := open_row Try.underlying22 cells50 (by decide) h
  obtain ⟨ws, hwl, hwp⟩ := list_of (fun i (x : Pr) => x.fit ∧ ∃ b o, A = some ⟨b, o, none⟩ ∧ b < W.heap.size ∧ ∀ j u, x.cs[j]? = some u → W.cell? ⟨b, o + i * 2 + j, none⟩ = some u) len (fun i hlt => by
    obtain ⟨cs, n, D, hcl, htr, hsz, hcell⟩ := hi i hlt
    obtain ⟨x, rfl, hx⟩ := decode_pr hcl htr
    exact ⟨x, hx (hsz hs), hcell⟩)
  exact ⟨ws, hwl, hm, row_of_parts Pr.cs 2 (by decide) (fun _ => rfl) (fun i x hx => (hwp i x hx).2), fun x hx => (by
    obtain ⟨j, hj⟩ := List.mem_iff_getElem?.1 hx
    exact (hwp j x hj).1), fun hA => by subst hA; exact open_nil Try.underlying22 h⟩
theorem inO_of {cs : List Value} (hl : cs.length = 7) (h : DataW.trod enc Try.prog W 0 (fun _ => true) true fuel 34 cs = some x) (hs : Sz Try.prog 34 x.1) : ∃ o ws, cs = o.cs ∧ InO W o ws := by
  obtain ⟨o, rfl, hin⟩ := decode_op hl h
  obtain ⟨m, y, hy, hys⟩ := hin.row
  obtain ⟨ws, hw⟩ := inW_of hy (hys hs)
  exact ⟨o, ws, rfl, hw, hin.fit hs⟩
theorem inOs_of (h : DataW.trod enc Try.prog W 0 (fun _ => true) true fuel 29 [.slice A len cap] = some x) (hs : Sz Try.prog 29 x.1) : ∃ l ps, InOs W A len cap l ps := by
  obtain ⟨hc, hm, hi⟩ := open_row Try.underlying29 cells39 (by decide) h
  obtain ⟨lp, hlp, hp⟩ := list_of (fun i (q : Opx × List Wr) => InO W q.1 q.2 ∧
      ∃ b o, A = some ⟨b, o, none⟩ ∧ b < W.heap.size ∧ ∀ j u, q.1.cs[j]? = some u → W.cell? ⟨b, o + i * 7 + j, none⟩ = some u) len (fun i hlt => by
    obtain ⟨cs, n, D, hcl, htr, hsz, hcell⟩ := hi i hlt
    obtain ⟨e, ws, rfl, hin⟩ := inO_of hcl htr (hsz hs)
    exact ⟨(e, ws), hin, hcell⟩)
  have hget : ∀ (j : Nat) (e : Opx), (lp.map (fun q : Opx × List Wr => q.1))[j]? = some e → ∃ q : Opx × List Wr, lp[j]? = some q ∧ q.1 = e := fun j e he => by
    simp only [List.getElem?_map, Option.map_eq_some_iff] at he
    exact he
  refine ⟨lp.map (fun q : Opx × List Wr => q.1), lp.map (fun q : Opx × List Wr => q.2), by simp [hlp], hm, row_of_parts Opx.cs 7 (by decide) (fun _ => rfl) (fun i e he => ?_), by simp, fun j e ws he hw => ?_⟩
  · obtain ⟨q, hq, rfl⟩ := hget i e he
    exact (hp i q hq).2
  · obtain ⟨q, hq, rfl⟩ := hget j e he
    simp only [List.getElem?_map, hq, Option.map_some, Option.some.injEq] at hw
    subst hw
    exact (hp j q hq).1
theorem inS_of {s : ByteArray} (h : DataW.trod enc Try.prog W 0 (fun _ => true) true fuel 9 [.string s] = some x) (hs : Sz Try.prog 9 x.1) : Fit s := by
  obtain ⟨k, e0, d0, _⟩ := DataW.trod_string Try.underlying9 h
  simp at e0
  subst e0
  obtain ⟨d, p⟩ := x
  injection d0 with d0 _
  subst d0
  exact hs.text
end
theorem ends_true {w w' : World} {e : Ending} (h : e = .returned (.bool true) ∧ Turn No w w') : e = .returned (.bool true) ∧ Below w.heap.size w w' := ⟨h.1, h.2.below (Nat.le_refl _) fun _ _ h => h⟩
end Go.Proofs.Ytllppkfeiifklaa
namespace Go.Proofs.Ytllppkfeiifklaa
open Go.RowKit Go.Maps Go.Lib
set_option linter.unusedVariables false
set_option maxRecDepth 20000

section
variable {w w' : World} {g : Nat} {o : Obj} {c : Array Value} {t : TypeId} {f : Nat × Nat}
end

/-! a map from int as a partial function -/
def hold (v : Value) : Option (DataW Value × List MemPlace) := some (.held v, [])
def IMap (P : Program) (k : TypeId) (w : World) (b : Nat) (f : Int → Option Value) (n : Nat) : Prop :=
  ∃ D : DataW Value, w.ownsMap P k hold b n D ∧ Maps.size D = n ∧ (∀ i, Maps.has D (.int .i64 i) = (f i).isSome) ∧ ∀ i v, f i = some v → ∀ z, D.atKey (.int .i64 i) z = .held v

section
variable {P : Program} {k t e : TypeId} {w w' : World} {b n : Nat} {f : Int → Option Value} {i : Int}

theorem wf64 {i : Int} (h1 : -9223372036854775808 ≤ i) (h2 : i ≤ 9223372036854775807) : (Lit.int .i64 i).wf = true := by
  exact WalkArith.wf_i64 ⟨h1, h2⟩

theorem IMap.made (P : Program) (k : TypeId) (w : World) : IMap P k (w.alloc (.map #[] 0)) w.heap.size (fun _ => none) 0 :=
  ⟨_, World.ownsMap_made w P k hold, rfl, fun _ => rfl, fun _ _ h => by cases h⟩

theorem IMap.congr {g : Int → Option Value} (hg : ∀ i, f i = g i) (h : IMap P k w b f n) : IMap P k w b g n := by
  rwa [show f = g from funext hg] at h
theorem IMap.obj (h : IMap P k w b f n) : ∃ es clock, At w b (.map es clock) := by
  obtain ⟨D, ⟨es, clock, hb, _⟩, _⟩ := h
  exact ⟨es, clock, hb⟩
theorem IMap.lt (h : IMap P k w b f n) : b < w.heap.size := by
  obtain ⟨es, clock, hb⟩ := h.obj
  exact hb.lt
theorem IMap.ne {g : Nat} {c : Array Value} {t : TypeId} {fz : Nat × Nat} (h : IMap P k w b f n) (h' : At w g (.cells c t fz)) : b ≠ g := by
  obtain ⟨es, clock, hb⟩ := h.obj
  exact hb.ne h' (by intro e; cases e)

theorem IMap.turn {X : Nat → Prop} (h : IMap P k w b f n) (k' : Turn X w w') (hb : ¬ X b) : IMap P k w' b f n := by
  obtain ⟨D, ⟨es, clock, hh, F, hs, hD⟩, r⟩ := h
  exact ⟨D, ⟨es, clock, At.turn (w := w) (w' := w') hh k' hb, F, hs, hD⟩, r⟩

theorem IMap.look (h : IMap P k w b f n) (K : Keyed P k) (hk : P.underlying k = some (.int .i64)) (ht : P.underlying t = some (.map k e)) {z : Value} (hz : (zeroValue e).run P w = .ok z w) (hw : (Lit.int .i64 i).wf = true) :
    (Instr.lookup t (.map (some b)) (.int .i64 i) true).run P w = .ok (.tuple #[(f i).getD z, .bool (f i).isSome]) w := by
  obtain ⟨D, ho, _, hh, ha⟩ := h
  obtain ⟨v, ps, hrun, hv⟩ := ho.look_ok K ht hz (zd := .held z) (zp := []) rfl (keyOf_int_mk hk hw)
  rw [hrun, hh i]
  have hv' : DataW.held v = D.atKey (.int .i64 i) (.held z) := by
    simp only [hold, Option.some.injEq, Prod.mk.injEq] at hv
    exact hv.1
  cases hf : f i with
  | none =>
    rw [Maps.atKey_of_not_has (by rw [hh i, hf]; rfl)] at hv'
    injection hv' with hv'
    subst hv'
    rfl
  | some u =>
    rw [ha i u hf] at hv'
    injection hv' with hv'
    subst hv'
    rfl

theorem IMap.look1 (h : IMap P k w b f n) (K : Keyed P k) (hk : P.underlying k = some (.int .i64)) (ht : P.underlying t = some (.map k e)) {z : Value} (hz : (zeroValue e).run P w = .ok z w) (hw : (Lit.int .i64 i).wf = true) :
    (Instr.lookup t (.map (some b)) (.int .i64 i) false).run P w = .ok ((f i).getD z) w := by
  obtain ⟨D, ho, _, hh, ha⟩ := h
  obtain ⟨v, ps, hrun, hv⟩ := ho.lookup K ht hz (zd := .held z) (zp := []) rfl (keyOf_int_mk hk hw)
  rw [hrun]
  have hv' : DataW.held v = D.atKey (.int .i64 i) (.held z) := by
    simp only [hold, Option.some.injEq, Prod.mk.injEq] at hv
    exact hv.1
  cases hf : f i with
  | none =>
    rw [Maps.atKey_of_not_has (by rw [hh i, hf]; rfl)] at hv'
    injection hv' with hv'
    subst hv'
    rfl
  | some u =>
    rw [ha i u hf] at hv'
    injection hv' with hv'
    subst hv'
    rfl

def put (f : Int → Option Value) (i : Int) (v : Value) : Int → Option Value := fun j => if j = i then some v else f j
def del (f : Int → Option Value) (i : Int) : Int → Option Value := fun j => if j = i then none else f j

theorem lit_ne {i j : Int} (h : j ≠ i) : (Lit.int .i64 j) ≠ Lit.int .i64 i := fun e => h (by injection e)
theorem isKey (i : Int) : WideAt.IsKeyLit (Lit.int .i64 i) := trivial

theorem IMap.store (h : IMap P k w b f n) (K : Keyed P k) (hk : P.underlying k = some (.int .i64)) (ht : P.underlying t = some (.map k e)) (hn : n < 1000000) (hw : (Lit.int .i64 i).wf = true) (v : Value) :
    ∃ w', (Instr.mapUpdate t (.map (some b)) (.int .i64 i) v).run P w = .ok () w' ∧ IMap P k w' b (put f i v) (if (f i).isSome then n else n + 1) ∧ Turn (· = b) w w' := by
  obtain ⟨D, ho, hs, hh, ha⟩ := h
  obtain ⟨w', hrun, ho', ht'⟩ := ho.store K ht (by unfold maxLen; omega) (keyOf_int_mk hk hw) (val := v) (d := .held v) (ps := []) rfl
  have htd := ho.tidy K
  have hsz : Maps.size (D.put (.int .i64 i) (.held v)) = if (f i).isSome then n else n + 1 := by rw [Maps.size_put htd, hh i, hs]
  refine ⟨w', hrun, ⟨_, ?_, hsz, ?_, ?_⟩, (Turn.refl _ _).grown ht'.grown (fun j hj => Or.inl (by injection hj with hj; exact hj.symm))⟩
  · obtain ⟨es, clock, hb, F, _, hD⟩ := ho'
    refine ⟨es, clock, hb, F, ?_, hD⟩
    have e1 : Maps.size (D.put (.int .i64 i) (.held v)) = es.size := by rw [hD]; simp [Maps.size, length_sorted]
    rw [← hsz, e1]
    exact Nat.le_refl _
  · intro j
    by_cases hj : j = i
    · subst hj
      rw [Maps.has_put_same htd.isMap (isKey _)]
      simp [put]
    · rw [Maps.has_put_other (lit_ne hj), hh j]
      simp [put, hj]
  · intro j u hu z
    by_cases hj : j = i
    · subst hj
      rw [Maps.atKey_put_same htd.isMap (isKey _)]
      simp [put] at hu
      rw [hu]
    · rw [Maps.atKey_put_other (lit_ne hj)]
      exact ha j u (by simpa [put, hj] using hu) z

theorem IMap.drop (h : IMap P k w b f n) (K : Keyed P k) (hk : P.underlying k = some (.int .i64)) (ht : P.underlying t = some (.map k e)) (hw : (Lit.int .i64 i).wf = true) (ty : TypeId) :
    ∃ w', (Builtin.delete_ #[t, k] ty #[.map (some b), .int .i64 i]).run P w = .ok (.tuple #[]) w' ∧ IMap P k w' b (del f i) (if (f i).isSome then n - 1 else n) ∧ Turn (· = b) w w' := by
  obtain ⟨D, ho, hs, hh, ha⟩ := h
  obtain ⟨w', hrun, ho', ht'⟩ := ho.drop K ht (keyOf_int_mk hk hw) ty
  have htd := ho.tidy K
  have hsz : Maps.size (D.del (.int .i64 i)) = if (f i).isSome then n - 1 else n := by
    have h1 := Maps.size_del (k := .int .i64 i) htd
    rw [hh i, hs] at h1
    cases hf : (f i).isSome <;> simp [hf] at h1 ⊢ <;> omega
  refine ⟨w', hrun, ⟨_, ?_, hsz, ?_, ?_⟩, (Turn.refl _ _).grown ht'.grown (fun j hj => Or.inl (by injection hj with hj; exact hj.symm))⟩
  · obtain ⟨es, clock, hb, F, _, hD⟩ := ho'
    refine ⟨es, clock, hb, F, ?_, hD⟩
    have e1 : Maps.size (D.del (.int .i64 i)) = es.size := by rw [hD]; simp [Maps.size, length_sorted]
    rw [← hsz, e1]
    exact Nat.le_refl _
  · intro j
    by_cases hj : j = i
    · subst hj
      rw [Maps.has_del_same]
      simp [del]
    · rw [Maps.has_del_other (lit_ne hj), hh j]
      simp [del, hj]
  · intro j u hu z
    by_cases hj : j = i
    · subst hj
      simp [del] at hu
    · rw [Maps.atKey_del_other (lit_ne hj)]
      exact ha j u (by simpa [del, hj] using hu) z

theorem IMap.len (h : IMap P k w b f n) (ht : P.underlying t = some (.map k e)) (ty : TypeId) : (Builtin.len_ #[t] ty #[.map (some b)]).run P w = .ok (.int .i64 n) w := by
  obtain ⟨D, ho, hs, _⟩ := h
  rw [ho.len ht ty, hs]
end

end Go.Proofs.Ytllppkfeiifklaa
namespace Go.Proofs.Ytllppkfeiifklaa
open Go.RowKit Go.Lib
set_option linter.unusedVariables false
set_option maxRecDepth 20000

structure Ev where
  (kind id : Int)
  op : Opx
  an : Ans
def Ev.cs (e : Ev) : List Value := .int .u8 e.kind :: .int .i64 e.id :: (e.op.cs ++ e.an.cs)
def ecs (l : List Ev) : List Value := l.flatMap Ev.cs

theorem ecs_length (l : List Ev) : (ecs l).length = l.length * 13 := flat_length _ 13 (fun _ => rfl) l
theorem ecs_at {l : List Ev} {j : Nat} {x : Ev} (h : l[j]? = some x) (i : Nat) (hi : i < 13) : (ecs l)[j * 13 + i]? = x.cs[i]? := flat_at _ 13 (fun _ => rfl) l j i x h hi
theorem ecs_append (l m : List Ev) : ecs (l ++ m) = ecs l ++ ecs m := List.flatMap_append ..

end Go.Proofs.Ytllppkfeiifklaa
namespace Go.Proofs.Ytllppkfeiifklaa
open Go.RowKit Go.Lib
set_option linter.unusedVariables false
set_option maxRecDepth 20000

instance : DecidableEq Ans := fun a b => decidable_of_iff (a.code = b.code ∧ a.found = b.found ∧ a.k = b.k ∧ a.v = b.v) (by cases a; cases b; simp)
def ans00 : Ans := ⟨0, false, ⟨#[]⟩, ⟨#[]⟩⟩
structure Kn where
  last : Int
  an : Ans
def kn0 : Kn := ⟨0, ans00⟩
def Kn.valH (k : Kn) : Value := .agg #[.int .u8 k.last, .int .i64 k.an.code, .bool k.an.found, .string k.an.k, .string k.an.v]
def upd (m : Int → Kn) (e : Ev) : Int → Kn := fun i => if i = e.id then ⟨e.kind, e.an⟩ else m i
def kn (l : List Ev) : Int → Kn := l.foldl upd fun _ => kn0
theorem kn_nil (i : Int) : kn [] i = kn0 := rfl
theorem kn_snoc (l : List Ev) (e : Ev) : kn (l ++ [e]) = upd (kn l) e := by unfold kn; rw [List.foldl_append]; rfl

/-- Is an operation none? -/
def zeroB (kind : Int) (k v o : ByteArray) (had aft : Bool) (len : Nat) : Bool :=
  kind == 0 && (k.toList.isEmpty && (v.toList.isEmpty && (o.toList.isEmpty && (!had && (!aft && ((len : Int) == 0))))))
def Opx.zero (o : Opx) : Bool := zeroB o.kind o.k o.v o.o o.had o.aft o.len

/-- May an event stand behind a right row of which k is known of its Id? -/
def fitsK (k : Kn) (e : Ev) : Bool :=
  if e.id < 1 then false else if e.kind ≠ k.last + 1 then false else
  if e.kind = 1 then decide (e.an = ans00) else if e.kind = 2 then e.op.zero else if e.kind = 3 then e.op.zero && decide (e.an = k.an) else false
def fits (l : List Ev) (e : Ev) : Bool := fitsK (kn l e.id) e
/-- Each event fits behind those ahead of it. -/
inductive Right : List Ev → Prop
  | nil : Right []
  | snoc {l : List Ev} {e : Ev} : Right l → fits l e = true → Right (l ++ [e])
theorem fits_kind {l : List Ev} {e : Ev} (h : fits l e = true) : 1 ≤ e.id ∧ e.kind = (kn l e.id).last + 1 ∧ 1 ≤ e.kind ∧ e.kind ≤ 3 := by
  unfold fits fitsK at h
  split at h
  · cases h
  split at h
  · cases h
  rename_i h1 h2
  have h3 : e.kind = (kn l e.id).last + 1 := by
    by_cases h : e.kind = (kn l e.id).last + 1
    · exact h
    · exact absurd h h2
  refine ⟨by omega, h3, ?_⟩
  split at h
  · omega
  split at h
  · omega
  split at h
  · omega
  · cases h
theorem Right.last {l : List Ev} (h : Right l) : ∀ i, 0 ≤ (kn l i).last ∧ (kn l i).last ≤ 3 := by
  induction h with
  | nil => intro i; exact ⟨Int.le_refl 0, by show (0 : Int) ≤ 3; decide⟩
  | snoc hl hf ih =>
    intro i
    rw [kn_snoc]
    unfold upd
    split
    · obtain ⟨_, _, h1, h2⟩ := fits_kind hf
      exact ⟨by show (0 : Int) ≤ Ev.kind _; omega, h2⟩
    · exact ih i
/-- What stands in the map. -/
def kmap (l : List Ev) (i : Int) : Option Value := if (kn l i).last = 0 then none else some (kn l i).valH
theorem kmap_snoc {l : List Ev} {e : Ev} (h : fits l e = true) (i : Int) : kmap (l ++ [e]) i = if i = e.id then some (Kn.valH ⟨e.kind, e.an⟩) else kmap l i := by
  unfold kmap
  rw [kn_snoc]
  unfold upd
  split
  · obtain ⟨_, _, h1, h2⟩ := fits_kind h
    rw [if_neg (by show ¬ e.kind = 0; omega)]
  · rfl
theorem Right.known {l : List Ev} (h : Right l) : ∀ i, (kn l i).last = 0 → kn l i = kn0 := by
  induction h with
  | nil => intro i _; rfl
  | snoc hl hf ih =>
    intro i h0
    rw [kn_snoc] at h0 ⊢
    unfold upd at h0 ⊢
    split
    · rename_i hi
      rw [if_pos hi] at h0
      obtain ⟨_, _, h1, h2⟩ := fits_kind hf
      replace h0 : Ev.kind _ = 0 := h0
      omega
    · rename_i hi
      rw [if_neg hi] at h0
      exact ih i h0
theorem kmap_getD {l : List Ev} (h : Right l) (i : Int) : (kmap l i).getD kn0.valH = (kn l i).valH := by
  unfold kmap
  split
  · rename_i h0
    rw [h.known i h0]
    rfl
  · rfl
end Go.Proofs.Ytllppkfeiifklaa
