/-
  A row of events that came in: its cells, the rows of its events' writes, and that each text is within reach.
  wakes: an operation from its beginning to its end.
  What the witness of a right row comes to, as plain data.
  The document's Do: operations of kind 1.
-/
import Derived.Test.YtllppkfeiifklaaJ9
import Derived.Test.YtllppkfeiifklaaJ21
import Derived.ProofKit
import Derived.Deep.Slices
import Derived.Deep.Fields
import Derived.ChangeSame
import Derived.SizedLaws
import Derived.Test.YtllppkfeiifklaaJ16
import Derived.Test.YtllppkfeiifklaaJ18
namespace Go.Proofs.Ytllppkfeiifklaa
open Go.RowKit Go.ChangeShapes Go.WideShapes Go.Deep Go.Lib
set_option linter.unusedVariables false
set_option maxRecDepth 20000
set_option linter.unusedSimpArgs false

section
variable {H : Type} {P : Program}
end

theorem cells34 : Try.prog.cellsOf 40 = 13 := by kernel_rfl
theorem cells53 : Try.prog.cellsOf 68 = 3 := by kernel_rfl
theorem cells29 : Try.prog.cellsOf 34 = 7 := by kernel_rfl
theorem cells32 : Try.prog.cellsOf 38 = 4 := by kernel_rfl
theorem cells27 : Try.prog.cellsOf 32 = 1 := by kernel_rfl
theorem cells30 : Try.prog.cellsOf 26 = 1 := by kernel_rfl

section
variable {H : Type} {enc : TypeId × Value → H} {W : World}
/-- What is known of the fields of an event that came in. -/
structure EvIn (enc : TypeId × Value → H) (W : World) (n : Nat) (e : Ev) (D : DataW H) : Prop where
  id : In64 e.id
  fit : Sz Try.prog 40 D → Fit e.op.k ∧ Fit e.op.v ∧ Fit e.op.o ∧ Fit e.an.k ∧ Fit e.an.v
  row : ∃ m y, DataW.trod enc Try.prog W 0 (fun _ => true) true m 32 [.slice e.op.A e.op.len e.op.cap] = some y ∧ (Sz Try.prog 40 D → Sz Try.prog 32 y.1)
theorem in64_of {i : Int} (h : (Lit.int .i64 i).wf = true) : In64 i := by
  have h' : IntKind.i64.min ≤ i ∧ i ≤ IntKind.i64.max := by simpa [Lit.wf] using h
  have e1 : IntKind.i64.min = -9223372036854775808 := by decide
  have e2 : IntKind.i64.max = 9223372036854775807 := by decide
  exact ⟨by omega, by omega⟩
set_option maxHeartbeats 1000000 in
theorem decode_ev {n : Nat} {cs : List Value} {D : DataW H × List MemPlace} (hl : cs.length = 13) (h : DataW.trod enc Try.prog W 0 (fun _ => true) true n 40 cs = some D) : ∃ e : Ev, cs = e.cs ∧ EvIn enc W n e D.1 := by
  obtain ⟨xs, n1, _, hx, _, hxl, hf⟩ := DataW.trod_struct Try.underlying40 h
  match cs, hl with
  | [v0, v1, v2, v3, v4, v5, v6, v7, v8, v9, v10, v11, v12], _ =>
    match xs, hxl with
    | [y0, y1, y2, y3], _ =>
      have q0 : DataW.trod enc Try.prog W 0 (fun _ => true) true n1 5 (([v0, v1, v2, v3, v4, v5, v6, v7, v8, v9, v10, v11, v12].drop 0).take (Try.prog.cellsOf 5)) = some y0 := hf 0 _ rfl
      have q1 : DataW.trod enc Try.prog W 0 (fun _ => true) true n1 3 (([v0, v1, v2, v3, v4, v5, v6, v7, v8, v9, v10, v11, v12].drop 1).take (Try.prog.cellsOf 3)) = some y1 := hf 1 _ rfl
      have q2 : DataW.trod enc Try.prog W 0 (fun _ => true) true n1 34 (([v0, v1, v2, v3, v4, v5, v6, v7, v8, v9, v10, v11, v12].drop 2).take (Try.prog.cellsOf 34)) = some y2 := hf 2 _ rfl
      have q3 : DataW.trod enc Try.prog W 0 (fun _ => true) true n1 38 (([v0, v1, v2, v3, v4, v5, v6, v7, v8, v9, v10, v11, v12].drop 9).take (Try.prog.cellsOf 38)) = some y3 := hf 3 _ rfl
      rw [cells5] at q0
      rw [cells3] at q1
      rw [cells29] at q2
      rw [cells32] at q3
      obtain ⟨kind, e0, d0, _⟩ := DataW.trod_int Try.underlying5 q0
      obtain ⟨id, e1, d1, wid⟩ := DataW.trod_int Try.underlying3 q1
      obtain ⟨xo, n2, _, hxo, _, hxol, hfo⟩ := DataW.trod_struct Try.underlying34 q2
      obtain ⟨xa, n3, _, hxa, _, hxal, hfa⟩ := DataW.trod_struct Try.underlying38 q3
      match xo, hxol with
      | [o0, o1, o2, o3, o4, o5, o6], _ =>
        match xa, hxal with
        | [a0, a1, a2, a3], _ =>
          have p0 : DataW.trod enc Try.prog W 0 (fun _ => true) true n2 5 (([v2, v3, v4, v5, v6, v7, v8].drop 0).take (Try.prog.cellsOf 5)) = some o0 := hfo 0 _ rfl
          have p1 : DataW.trod enc Try.prog W 0 (fun _ => true) true n2 9 (([v2, v3, v4, v5, v6, v7, v8].drop 1).take (Try.prog.cellsOf 9)) = some o1 := hfo 1 _ rfl
          have p2 : DataW.trod enc Try.prog W 0 (fun _ => true) true n2 9 (([v2, v3, v4, v5, v6, v7, v8].drop 2).take (Try.prog.cellsOf 9)) = some o2 := hfo 2 _ rfl
          have p3 : DataW.trod enc Try.prog W 0 (fun _ => true) true n2 9 (([v2, v3, v4, v5, v6, v7, v8].drop 3).take (Try.prog.cellsOf 9)) = some o3 := hfo 3 _ rfl
          have p4 : DataW.trod enc Try.prog W 0 (fun _ => true) true n2 4 (([v2, v3, v4, v5, v6, v7, v8].drop 4).take (Try.prog.cellsOf 4)) = some o4 := hfo 4 _ rfl
          have p5 : DataW.trod enc Try.prog W 0 (fun _ => true) true n2 4 (([v2, v3, v4, v5, v6, v7, v8].drop 5).take (Try.prog.cellsOf 4)) = some o5 := hfo 5 _ rfl
          have p6 : DataW.trod enc Try.prog W 0 (fun _ => true) true n2 32 (([v2, v3, v4, v5, v6, v7, v8].drop 6).take (Try.prog.cellsOf 32)) = some o6 := hfo 6 _ rfl
          have r0 : DataW.trod enc Try.prog W 0 (fun _ => true) true n3 26 (([v9, v10, v11, v12].drop 0).take (Try.prog.cellsOf 26)) = some a0 := hfa 0 _ rfl
          have r1 : DataW.trod enc Try.prog W 0 (fun _ => true) true n3 4 (([v9, v10, v11, v12].drop 1).take (Try.prog.cellsOf 4)) = some a1 := hfa 1 _ rfl
          have r2 : DataW.trod enc Try.prog W 0 (fun _ => true) true n3 9 (([v9, v10, v11, v12].drop 2).take (Try.prog.cellsOf 9)) = some a2 := hfa 2 _ rfl
          have r3 : DataW.trod enc Try.prog W 0 (fun _ => true) true n3 9 (([v9, v10, v11, v12].drop 3).take (Try.prog.cellsOf 9)) = some a3 := hfa 3 _ rfl
          rw [cells5] at p0
          rw [cells9] at p1 p2 p3 r2 r3
          rw [cells4] at p4 p5 r1
          rw [cells27] at p6
          rw [cells30] at r0
          obtain ⟨ok, f0, _⟩ := DataW.trod_int Try.underlying5 p0
          obtain ⟨k, f1, g1, _⟩ := DataW.trod_string Try.underlying9 p1
          obtain ⟨v, f2, g2, _⟩ := DataW.trod_string Try.underlying9 p2
          obtain ⟨o, f3, g3, _⟩ := DataW.trod_string Try.underlying9 p3
          obtain ⟨had, f4, _⟩ := DataW.trod_bool Try.underlying4 p4
          obtain ⟨aft, f5, _⟩ := DataW.trod_bool Try.underlying4 p5
          obtain ⟨code, f6, _⟩ := DataW.trod_int Try.underlying26 r0
          obtain ⟨found, f7, _⟩ := DataW.trod_bool Try.underlying4 r1
          obtain ⟨ak, f8, g8, _⟩ := DataW.trod_string Try.underlying9 r2
          obtain ⟨av, f9, g9, _⟩ := DataW.trod_string Try.underlying9 r3
          have fs : ∃ A len cap, v8 = .slice A len cap := by
            rcases open_slice Try.underlying32 p6 with ⟨hcs, _⟩ | ⟨a, l, c, _, _, _, _, hcs, _⟩
            · simp at hcs; exact ⟨_, _, _, hcs⟩
            · simp at hcs; exact ⟨_, _, _, hcs⟩
          obtain ⟨A, len, cap, rfl⟩ := fs
          simp at e0 e1 f0 f1 f2 f3 f4 f5 f6 f7 f8 f9
          subst e0 e1 f0 f1 f2 f3 f4 f5 f6 f7 f8 f9
          refine ⟨⟨kind, id, ⟨ok, k, v, o, had, aft, A, len, cap⟩, ⟨code, found, ak, av⟩⟩, rfl, in64_of wid, fun hs => ?_, _, _, p6, fun hs => ?_⟩
          · subst hx
            have so := Sz.part Try.underlying40 hs (i := 2) rfl rfl
            have sa := Sz.part Try.underlying40 hs (i := 3) rfl rfl
            subst hxo hxa
            subst g1 g2 g3 g8 g9
            exact ⟨(Sz.part Try.underlying34 so (i := 1) rfl rfl).text, (Sz.part Try.underlying34 so (i := 2) rfl rfl).text, (Sz.part Try.underlying34 so (i := 3) rfl rfl).text, (Sz.part Try.underlying38 sa (i := 2) rfl rfl).text, (Sz.part Try.underlying38 sa (i := 3) rfl rfl).text⟩
          · subst hx
            have so := Sz.part Try.underlying40 hs (i := 2) rfl rfl
            subst hxo
            exact Sz.part Try.underlying34 so (i := 6) rfl rfl
end

/-- A row of events that came in: l, and the writes ps of its events. -/
structure Inp (W : World) (A : Option Addr) (len cap : Nat) (l : List Ev) (ps : List (List Wr)) : Prop where
  hlen : l.length = len
  hcap : len ≤ cap
  hmax : len ≤ maxLen
  row : Row W A (ecs l)
  ids : ∀ e ∈ l, In64 e.id
  plen : ps.length = l.length
  get : ∀ (j : Nat) (e : Ev) (ws : List Wr), l[j]? = some e → ps[j]? = some ws → Row W e.op.A (wcs ws) ∧ (e.op.len ≤ 100000 → e.fit ws)
  wlen : ∀ e ∈ l, e.op.len ≤ maxLen

theorem inp_of_trod {H : Type} {enc : TypeId × Value → H} {W : World} {fuel : Nat} {A : Option Addr} {len cap : Nat} {x : DataW H × List MemPlace}
    (h : DataW.trod enc Try.prog W 0 (fun _ => true) true fuel 23 [.slice A len cap] = some x) (hs : Sz Try.prog 23 x.1) : ∃ l ps, Inp W A len cap l ps := by
  obtain ⟨hc, hm, hi⟩ := open_row Try.underlying23 cells34 (by decide) h
  obtain ⟨lp, hlp, hp⟩ := list_of (fun i (q : Ev × List Wr) => In64 q.1.id ∧ q.1.op.len ≤ maxLen ∧ Row W q.1.op.A (wcs q.2) ∧ (q.1.op.len ≤ 100000 → q.1.fit q.2) ∧
      ∃ b o, A = some ⟨b, o, none⟩ ∧ b < W.heap.size ∧ ∀ j u, q.1.cs[j]? = some u → W.cell? ⟨b, o + i * 13 + j, none⟩ = some u) len (fun i hlt => by
    obtain ⟨cs, n, D, hcl, htr, hsz, hcell⟩ := hi i hlt
    obtain ⟨e, rfl, hin⟩ := decode_ev hcl htr
    have hfit := hin.fit (hsz hs)
    obtain ⟨m, y, hy, hys⟩ := hin.row
    obtain ⟨_, hwm, hw⟩ := open_row Try.underlying32 cells53 (by decide) hy
    obtain ⟨ws, hwl, hwp⟩ := list_of (fun i (x : Wr) => x.fit ∧ ∃ b o, e.op.A = some ⟨b, o, none⟩ ∧ b < W.heap.size ∧ ∀ j u, x.cs[j]? = some u → W.cell? ⟨b, o + i * 3 + j, none⟩ = some u) e.op.len (fun i hlt => by
      obtain ⟨cs, n, D, hcl, htr, hsz2, hcell⟩ := hw i hlt
      obtain ⟨x, rfl, hx⟩ := decode_wr hcl htr
      exact ⟨x, hx (hsz2 (hys (hsz hs))), hcell⟩)
    refine ⟨(e, ws), hin.id, hwm, row_of_parts Wr.cs 3 (by decide) (fun _ => rfl) (fun i x hx => (hwp i x hx).2), fun hfew => ?_, hcell⟩
    exact ⟨hin.id, hfit.1, hfit.2.1, hfit.2.2.1, hfit.2.2.2.1, hfit.2.2.2.2, fun x hx => by
      obtain ⟨j, hj⟩ := List.mem_iff_getElem?.1 hx
      exact (hwp j x hj).1, hwl, hfew⟩)
  have hget : ∀ (j : Nat) (e : Ev), (lp.map (fun q : Ev × List Wr => q.1))[j]? = some e → ∃ q : Ev × List Wr, lp[j]? = some q ∧ q.1 = e := fun j e he => by
    simp only [List.getElem?_map, Option.map_eq_some_iff] at he
    exact he
  refine ⟨lp.map (fun q : Ev × List Wr => q.1), lp.map (fun q : Ev × List Wr => q.2), by simp [hlp], hc, hm, row_of_parts Ev.cs 13 (by decide) (fun _ => rfl) (fun i e he => ?_), fun e he => ?_, by simp, fun j e ws he hw => ?_, fun e he => ?_⟩
  · obtain ⟨q, hq, rfl⟩ := hget i e he
    exact (hp i q hq).2.2.2.2
  · obtain ⟨q, hq, rfl⟩ := List.mem_map.1 he
    obtain ⟨j, hj⟩ := List.mem_iff_getElem?.1 hq
    exact (hp j q hj).1
  · obtain ⟨q, hq, rfl⟩ := hget j e he
    simp only [List.getElem?_map, hq, Option.map_some, Option.some.injEq] at hw
    subst hw
    exact ⟨(hp j q hq).2.2.1, (hp j q hq).2.2.2.1⟩
  · obtain ⟨q, hq, rfl⟩ := List.mem_map.1 he
    obtain ⟨j, hj⟩ := List.mem_iff_getElem?.1 hq
    exact (hp j q hj).2.1
theorem Inp.rws {W : World} {A : Option Addr} {len cap : Nat} {l : List Ev} {ps : List (List Wr)} (h : Inp W A len cap l ps) (hf : ∀ e ∈ l, e.op.len ≤ 100000) : Rws W l ps :=
  ⟨h.plen, fun j e ws he hw => ⟨(h.get j e ws he hw).1, (h.get j e ws he hw).2 (hf e (List.mem_of_getElem? he))⟩⟩
end Go.Proofs.Ytllppkfeiifklaa
namespace Go.Proofs.Ytllppkfeiifklaa
open Go.RowKit Go.Lib
set_option linter.unusedVariables false
set_option maxRecDepth 20000
set_option linter.unusedSimpArgs false

/-- All blocks from Z on. -/
def Up (Z : Nat) (i : Nat) : Prop := Z ≤ i
theorem Turn.up {Z : Nat} {w a b : World} (h : Turn No w a) (t : Turn (Up Z) a b) (hz : w.heap.size ≤ Z) : Turn No w b := h.then t fun i hi hu => by unfold Up at hu; omega
theorem up_refl (Z : Nat) : ∀ i, Up Z i → Up Z i := fun _ h => h
section
variable {w w' : World} {Z hb : Nat} {L : List Ev} {ps : List (List Wr)} {e : Ev} {ws : List Wr} {r : Ending}
end
theorem fits_of_pl (l : List Ev) (e : Ev) : fits l e = fits (pl l) e.pure := by rw [fits_pure, fits_pl]
theorem right_snoc_inv {l : List Ev} {e : Ev} (h : Right (l ++ [e])) : Right l ∧ fits l e = true := by
  generalize hq : l ++ [e] = q at h
  cases h with
  | nil => simp at hq
  | snoc hl hf =>
    obtain ⟨rfl, h2⟩ := List.append_inj' hq rfl
    cases h2
    exact ⟨hl, hf⟩
theorem right_of_pl : ∀ (n : Nat) (l : List Ev), l.length = n → Right (pl l) → Right l
  | 0, l, hn, _ => by rw [List.eq_nil_of_length_eq_zero hn]; exact .nil
  | n + 1, l, hn, h => by
    obtain ⟨q, e, rfl⟩ : ∃ q e, l = q ++ [e] := ⟨l.dropLast, l.getLast (by intro e; simp [e] at hn), (List.dropLast_concat_getLast _).symm⟩
    rw [pl_snoc] at h
    obtain ⟨h1, h2⟩ := right_snoc_inv h
    exact .snoc (right_of_pl n q (by simpa using hn) h1) (by rw [fits_of_pl]; exact h2)
theorem Right.take {l : List Ev} (h : Right l) : ∀ n, Right (l.take n) := by
  induction h with
  | nil => intro n; simpa using Right.nil
  | @snoc l e hl hf ih =>
    intro n
    by_cases hn : n ≤ l.length
    · rw [List.take_append_of_le_length hn]; exact ih n
    · rw [List.take_of_length_le (by simp; omega)]; exact .snoc hl hf
theorem Right.at_ {l : List Ev} (h : Right l) {n : Nat} {e : Ev} (he : l[n]? = some e) : fits (l.take n) e = true := by
  have := h.take (n + 1)
  rw [List.take_add_one, he] at this
  exact (right_snoc_inv this).2
theorem Right.not_bad {l : List Ev} (h : Right l) (n : Nat) : ¬ Bad l n := fun ⟨_, e, he, hf⟩ => by rw [h.at_ he] at hf; cases hf
theorem Checked.of_right {l : List Ev} {a c : Int} (h : Right l) (k : Checked l a c) : a = -1 ∧ c = 0 := by
  rcases k with ⟨_, a, b⟩ | ⟨n, hb, _⟩
  · exact ⟨a, b⟩
  · exact absurd hb (h.not_bad n)
theorem Evs.ids {w : World} {Z : Nat} {l : List Ev} {ps : List (List Wr)} {A : Option Addr} {c : Nat} (h : Evs w Z l ps A c) : ∀ e ∈ l, In64 e.id := fun e he => by
  obtain ⟨j, hj⟩ := List.mem_iff_getElem?.1 he
  obtain ⟨ws, _, _, hf⟩ := h.wss.get hj
  exact hf.id
theorem pl_cells {l L : List Ev} (h : pl l = L) {j : Nat} {e : Ev} (he : L[j]? = some e) : ∃ A c, l[j]? = some (e.on A c) := by
  subst h
  simp only [pl, List.getElem?_map, Option.map_eq_some_iff] at he
  obtain ⟨e', he', rfl⟩ := he
  exact ⟨e'.op.A, e'.op.cap, he'⟩

def kB : ByteArray := ⟨#[107]⟩
def opk : Opx := ⟨1, ⟨#[107]⟩, ⟨#[]⟩, ⟨#[]⟩, false, false, none, 0, 0⟩
def anf : Ans := ⟨0, true, ⟨#[]⟩, ⟨#[]⟩⟩
def we1 : Ev := ⟨1, 1, opk, ans00⟩
def we2 : Ev := ⟨2, 1, op00, anf⟩
def we3 : Ev := ⟨3, 1, op00, anf⟩
theorem opk_fit : opk.fit [] := ⟨by unfold Fit opk; decide, fit0, fit0, (by simp), rfl, by decide⟩
theorem anf_fit : anf.fit := ⟨fit0, fit0⟩
theorem zero00 : op00.zero = true := by simp [Opx.zero, op00, zeroB]
theorem kn1 : kn [we1] 1 = ⟨1, ans00⟩ := rfl
theorem kn2 : kn [we1, we2] 1 = ⟨2, anf⟩ := rfl
theorem fit_1 : fits [] we1 = true := by simp [fits, fitsK, we1, kn, kn0]
theorem fit_no : fits [we1] ⟨3, 1, op00, ans00⟩ = false := by simp [fits, fitsK, kn1]
theorem fit_2 : fits [we1] we2 = true := by
  have h : (⟨2, 1, op00, anf⟩ : Ev) = we2 := rfl
  unfold fits
  rw [show we2.id = 1 from rfl, kn1]
  simp [fitsK, we2, zero00]
theorem fit_3 : fits [we1, we2] we3 = true := by
  unfold fits
  rw [show we3.id = 1 from rfl, kn2]
  simp [fitsK, we3, zero00]
theorem wright : Right [we1, we2, we3] := .snoc (l := [we1, we2]) (.snoc (l := [we1]) (.snoc (l := []) .nil fit_1) fit_2) fit_3
theorem in1 : In64 1 := ⟨by decide, by decide⟩
end Go.Proofs.Ytllppkfeiifklaa
namespace Go.Proofs.Ytllppkfeiifklaa
open Go.RowKit Go.Lib
set_option linter.unusedVariables false
set_option maxRecDepth 20000
set_option maxRecDepth 20000
set_option linter.unusedSimpArgs false

def idleA (a : Ans) : Bool := (decide (a.code = 5) || decide (a.code = 6)) && !a.found && decide (a.k = ⟨#[]⟩) && decide (a.v = ⟨#[]⟩)
def actB (e : Ev) : Bool := decide (e.kind = 2) && !idleA e.an
def opD (M : List Pr) (o : Opx) (ws : List Wr) : List Pr := doM M o.kind o.k o.v o.o o.had o.aft ws
def opA (M : List Pr) (o : Opx) (ws : List Wr) : Ans := doA M o.kind o.k o.v o.o o.had o.aft ws
def lnS (l : List Ev) (ps : List (List Wr)) (M : List Pr) (e : Ev) : List Pr := if actB e = true then opD M (stO l e.id) (stW l ps e.id) else M
/-- The map behind the first n events. -/
def lnM (l : List Ev) (ps : List (List Wr)) (M : List Pr) (n : Nat) : List Pr := (l.take n).foldl (lnS l ps) M
def lnOk (l : List Ev) (ps : List (List Wr)) (M : List Pr) (e : Ev) : Bool := !actB e || decide (opA M (stO l e.id) (stW l ps e.id) = e.an)
theorem lnM_zero (l : List Ev) (ps : List (List Wr)) (M : List Pr) : lnM l ps M 0 = M := rfl
theorem lnM_snoc {l : List Ev} {ps : List (List Wr)} {M : List Pr} {j : Nat} {e : Ev} (h : l[j]? = some e) : lnM l ps M (j + 1) = lnS l ps (lnM l ps M j) e := by
  unfold lnM
  rw [List.take_add_one, List.foldl_append, h]
  rfl
theorem lnM_skip {l : List Ev} {ps : List (List Wr)} {M : List Pr} {j : Nat} {e : Ev} (h : l[j]? = some e) (ha : actB e = false) : lnM l ps M (j + 1) = lnM l ps M j := by
  rw [lnM_snoc h]; unfold lnS; rw [ha]; rfl
theorem lnM_act {l : List Ev} {ps : List (List Wr)} {M : List Pr} {j : Nat} {e : Ev} (h : l[j]? = some e) (ha : actB e = true) : lnM l ps M (j + 1) = opD (lnM l ps M j) (stO l e.id) (stW l ps e.id) := by
  rw [lnM_snoc h]; unfold lnS; rw [if_pos ha]
/-- The first n events are as the map says. -/
def Upto (l : List Ev) (ps : List (List Wr)) (M : List Pr) (n : Nat) : Prop := ∀ j e, j < n → l[j]? = some e → lnOk l ps (lnM l ps M j) e = true
theorem Upto.zero (l : List Ev) (ps : List (List Wr)) (M : List Pr) : Upto l ps M 0 := fun j e h => by omega
theorem Upto.snoc {l : List Ev} {ps : List (List Wr)} {M : List Pr} {n : Nat} (h : Upto l ps M n) {e : Ev} (he : l[n]? = some e) (ho : lnOk l ps (lnM l ps M n) e = true) : Upto l ps M (n + 1) := fun j x hj hx => by
  by_cases hn : j < n
  · exact h j x hn hx
  · obtain rfl : j = n := by omega
    rw [he] at hx
    injection hx with hx
    subst hx
    exact ho
theorem lnOk_skip {l : List Ev} {ps : List (List Wr)} {M : List Pr} {e : Ev} (ha : actB e = false) : lnOk l ps M e = true := by unfold lnOk; rw [ha]; rfl
theorem lnOk_act {l : List Ev} {ps : List (List Wr)} {M : List Pr} {e : Ev} (ha : actB e = true) : lnOk l ps M e = decide (opA M (stO l e.id) (stW l ps e.id) = e.an) := by unfold lnOk; rw [ha]; rfl
/-- Where the witness of a right row is wrong, if anywhere. -/
def Lin (l : List Ev) (ps : List (List Wr)) (M : List Pr) (at_ code : Int) : Prop :=
  (at_ = -1 ∧ code = 0 ∧ Upto l ps M l.length) ∨ ∃ (n : Nat) (e : Ev), at_ = n ∧ code = 32 ∧ l[n]? = some e ∧ Upto l ps M n ∧ lnOk l ps (lnM l ps M n) e = false
theorem Lin.uniq {l : List Ev} {ps : List (List Wr)} {M : List Pr} {a c a2 c2 : Int} (h : Lin l ps M a c) (k : Lin l ps M a2 c2) : a = a2 ∧ c = c2 := by
  rcases h with ⟨rfl, rfl, hu⟩ | ⟨n, e, rfl, rfl, he, hu, hb⟩
  · rcases k with ⟨rfl, rfl, _⟩ | ⟨m, e2, rfl, rfl, he2, _, hb2⟩
    · exact ⟨rfl, rfl⟩
    · have := hu m e2 (List.getElem?_eq_some_iff.1 he2).1 he2
      rw [hb2] at this; cases this
  · rcases k with ⟨rfl, rfl, hu2⟩ | ⟨m, e2, rfl, rfl, he2, hu2, hb2⟩
    · have := hu2 n e (List.getElem?_eq_some_iff.1 he).1 he
      rw [hb] at this; cases this
    · rcases Nat.lt_trichotomy n m with h | h | h
      · have := hu2 n e h he
        rw [hb] at this; cases this
      · subst h; exact ⟨rfl, rfl⟩
      · have := hu m e2 h he2
        rw [hb2] at this; cases this
/-- Check's answer: history's, or where the witness is wrong. -/
def LinC (l : List Ev) (ps : List (List Wr)) (M : List Pr) (at_ code : Int) : Prop := (Checked l at_ code ∧ code ≠ 0) ∨ (Right l ∧ Lin l ps M at_ code)
theorem Checked.uniq2 {l : List Ev} {a c a2 c2 : Int} (h : Checked l a c) (k : Checked l a2 c2) : a2 = a ∧ c2 = c := by
  rcases h with ⟨hr, rfl, rfl⟩ | ⟨n, hb, rfl, rfl⟩
  · exact k.of_right hr
  · rcases k with ⟨hr, _⟩ | ⟨m, hm, rfl, rfl⟩
    · exact absurd hb (hr.not_bad n)
    · obtain ⟨r1, e1, h1, f1⟩ := hb
      obtain ⟨r2, e2, h2, f2⟩ := hm
      have key : ∀ {p q : Nat} {e : Ev}, p < q → Right (l.take q) → l[p]? = some e → fits (l.take p) e = false → False := fun {p q e} hpq hr he hf => by
        have h3 : (l.take q)[p]? = some e := by rw [List.getElem?_take, if_pos hpq]; exact he
        have h4 := hr.at_ h3
        rw [List.take_take, Nat.min_eq_left (Nat.le_of_lt hpq)] at h4
        rw [h4] at hf; cases hf
      rcases Nat.lt_trichotomy n m with h | h | h
      · exact (key h r2 h1 f1).elim
      · subst h; exact ⟨rfl, rfl⟩
      · exact (key h r1 h2 f2).elim
theorem LinC.uniq {l : List Ev} {ps : List (List Wr)} {M : List Pr} {a c a2 c2 : Int} (h : LinC l ps M a c) (k : LinC l ps M a2 c2) : a = a2 ∧ c = c2 := by
  rcases h with ⟨h1, h2⟩ | ⟨hr, h1⟩
  · rcases k with ⟨k1, k2⟩ | ⟨kr, k1⟩
    · have := h1.uniq2 k1; exact ⟨this.1.symm, this.2.symm⟩
    · exact absurd (h1.of_right kr).2 h2
  · rcases k with ⟨k1, k2⟩ | ⟨kr, k1⟩
    · exact absurd (k1.of_right hr).2 k2
    · exact h1.uniq k1
/-- Each event's operation and answer are small. -/
structure FewE (l : List Ev) (ps : List (List Wr)) : Prop where
  len : l.length ≤ 200
  op : ∀ (j : Nat) (e : Ev) (ws : List Wr), l[j]? = some e → ps[j]? = some ws → Few e.op.k e.op.v e.op.o ws
theorem few_00 : Few op00.k op00.v op00.o [] := ⟨by decide, by decide, by decide, by decide, by simp⟩
theorem FewE.st {l : List Ev} {ps : List (List Wr)} (h : FewE l ps) (hl : ps.length = l.length) (id : Int) : Few (stO l id).k (stO l id).v (stO l id).o (stW l ps id) := by
  unfold stO stW
  cases hf : firstAt 1 id l with
  | none => exact few_00
  | some n =>
    obtain ⟨hn, e, he, _⟩ := firstAt_get hf
    have hw : ps[n]? = some (ps[n]'(by omega)) := List.getElem?_eq_getElem _
    have := h.op n e _ he hw
    show Few ((l[n]?.map (·.op.pure)).getD op00).k ((l[n]?.map (·.op.pure)).getD op00).v ((l[n]?.map (·.op.pure)).getD op00).o ((ps[n]?).getD [])
    rw [he, hw]
    exact this
theorem opD_len (M : List Pr) (o : Opx) {ws : List Wr} (h : ws.length ≤ 40) : (opD M o ws).length ≤ M.length + 41 := by
  have := doM_length M o.kind o.k o.v o.o o.had o.aft ws
  unfold opD
  omega
theorem lnM_len {l : List Ev} {ps : List (List Wr)} (h : FewE l ps) (hl : ps.length = l.length) (M : List Pr) : ∀ n, n ≤ l.length → (lnM l ps M n).length ≤ M.length + 41 * n
  | 0, _ => by rw [lnM_zero]; omega
  | n + 1, hn => by
    have ih := lnM_len h hl M n (by omega)
    obtain ⟨e, he⟩ : ∃ e, l[n]? = some e := ⟨l[n], List.getElem?_eq_getElem (by omega)⟩
    rw [lnM_snoc he]
    unfold lnS
    split
    · have := opD_len (lnM l ps M n) (stO l e.id) (h.st hl e.id).n
      omega
    · omega
theorem asc_lnM {l : List Ev} {ps : List (List Wr)} {M : List Pr} (h : Asc M) (n : Nat) : Asc (lnM l ps M n) := by
  unfold lnM
  have : ∀ (t : List Ev) (M : List Pr), Asc M → Asc (t.foldl (lnS l ps) M) := by
    intro t
    induction t with
    | nil => intro M h; exact h
    | cons e t ih =>
      intro M h
      rw [List.foldl_cons]
      refine ih _ ?_
      unfold lnS
      split
      · exact asc_doM h _ _ _ _ _ _ _
      · exact h
  exact this _ M h
end Go.Proofs.Ytllppkfeiifklaa
namespace Go.Proofs.Ytllppkfeiifklaa
open Go.RowKit Go.Lib
set_option linter.unusedVariables false
set_option maxRecDepth 20000
set_option linter.unusedSimpArgs false

set_option maxRecDepth 100000 in
set_option maxHeartbeats 16000000 in
theorem rdo_1 (R M : List Pr) (A : Option Addr) (cap : Nat) (kind : Int) (k v o : ByteArray) (had aft : Bool) (A3 : Option Addr) (cap3 : Nat) (ws : List Wr) (w : World) {Z : Nat} (hZ : Z ≤ w.heap.size) (hR : w.ownsRow Z 47 2 (.slice A R.length cap) R.length (pcs R)) (hl : R.length + ws.length ≤ 40000)
    (hfit : ∀ p ∈ R, Fit p.k ∧ Fit p.v) (hs : Sim R M) (ha : Asc M) (hrow : Row w A3 (wcs ws)) (hf : Fit k ∧ Fit v ∧ Fit o) (hfw : ∀ x ∈ ws, Fit x.k ∧ Fit x.v) (hq : kind = 1) :
    Calls Try.prog 36 #[.agg #[.slice A R.length cap], .agg #[.int .u8 kind, .string k, .string v, .string o, .bool had, .bool aft, .slice A3 ws.length cap3]] w (RDo Z w (.slice A R.length cap) (doR R kind k v o had aft ws) (doA M kind k v o had aft ws)) := by
  obtain ⟨DA, hDA⟩ : ∃ a, doA M kind k v o had aft ws = a := ⟨_, rfl⟩
  obtain ⟨DR, hDR⟩ : ∃ a, doR R kind k v o had aft ws = a := ⟨_, rfl⟩
  have HLD := Lib.hid (And.intro hDR hDA)
  rw [hDA, hDR]
  clear hDA hDR
  have HS : Hid (Dr Z w ((((w.alloc (.cells #[.slice A R.length cap] 60)).alloc (.cells #[.int .u8 kind, .string k, .string v, .string o, .bool had, .bool aft, .slice A3 ws.length cap3] 34)).alloc (.cells #[.slice none 0 0] 60)).alloc (.cells #[.int .i64 0, .bool false, .string ⟨#[]⟩, .string ⟨#[]⟩] 38)) w.heap.size (w.heap.size + 1) (w.heap.size + 2) (w.heap.size + 3) #[.int .u8 kind, .string k, .string v, .string o, .bool had, .bool aft, .slice A3 ws.length cap3] (.slice A R.length cap) R R.length A cap) := Lib.hid (by
    have t1 : Turn No w (w.alloc (.cells #[.slice A R.length cap] 60)) := (Turn.refl _ _).alloc _
    have t2 : Turn No (w.alloc (.cells #[.slice A R.length cap] 60)) ((w.alloc (.cells #[.slice A R.length cap] 60)).alloc (.cells #[.int .u8 kind, .string k, .string v, .string o, .bool had, .bool aft, .slice A3 ws.length cap3] 34)) := (Turn.refl _ _).alloc _
    have t3 : Turn No ((w.alloc (.cells #[.slice A R.length cap] 60)).alloc (.cells #[.int .u8 kind, .string k, .string v, .string o, .bool had, .bool aft, .slice A3 ws.length cap3] 34)) (((w.alloc (.cells #[.slice A R.length cap] 60)).alloc (.cells #[.int .u8 kind, .string k, .string v, .string o, .bool had, .bool aft, .slice A3 ws.length cap3] 34)).alloc (.cells #[.slice none 0 0] 60)) := (Turn.refl _ _).alloc _
    have t4 : Turn No (((w.alloc (.cells #[.slice A R.length cap] 60)).alloc (.cells #[.int .u8 kind, .string k, .string v, .string o, .bool had, .bool aft, .slice A3 ws.length cap3] 34)).alloc (.cells #[.slice none 0 0] 60)) ((((w.alloc (.cells #[.slice A R.length cap] 60)).alloc (.cells #[.int .u8 kind, .string k, .string v, .string o, .bool had, .bool aft, .slice A3 ws.length cap3] 34)).alloc (.cells #[.slice none 0 0] 60)).alloc (.cells #[.int .i64 0, .bool false, .string ⟨#[]⟩, .string ⟨#[]⟩] 38)) := (Turn.refl _ _).alloc _
    refine ⟨((t1.trans t2).trans t3).trans t4, (((At.new _ _).no t2).no t3).no t4, ((At.new2 _ _ _).no t3).no t4, ?_, ?_, own_grown hR (((t1.trans t2).trans t3).trans t4) (fun _ _ h => h), fun k hk => Or.inl hk, by omega, by omega, by omega, by omega, rfl, hZ⟩
    · exact (by simpa using At.new ((w.alloc (.cells #[.slice A R.length cap] 60)).alloc (.cells #[.int .u8 kind, .string k, .string v, .string o, .bool had, .bool aft, .slice A3 ws.length cap3] 34)) (.cells #[.slice none 0 0] 60) : At (((w.alloc (.cells #[.slice A R.length cap] 60)).alloc (.cells #[.int .u8 kind, .string k, .string v, .string o, .bool had, .bool aft, .slice A3 ws.length cap3] 34)).alloc (.cells #[.slice none 0 0] 60)) (w.heap.size + 2) (.cells #[.slice none 0 0] 60 (0, 0))).no t4
    · simpa using At.new (((w.alloc (.cells #[.slice A R.length cap] 60)).alloc (.cells #[.int .u8 kind, .string k, .string v, .string o, .bool had, .bool aft, .slice A3 ws.length cap3] 34)).alloc (.cells #[.slice none 0 0] 60)) (.cells #[.int .i64 0, .bool false, .string ⟨#[]⟩, .string ⟨#[]⟩] 38))
  have CR := Lib.hid fun (W : World) (t : Turn No w W) => rrefused_any kind k v o had aft A3 cap3 ws W (hrow.no t) hf.1 hf.2.1 hf.2.2 hfw (by omega)
  have CG := Lib.hid fun (W : World) (t : Turn No w W) => rget_any R A cap k W ((row_of_own hR).no t) (by omega)
  rw [hs.get] at CG
  have HIN := Lib.hid (And.intro hR (And.intro hl (And.intro hfit (And.intro hs (And.intro ha (And.intro hrow (And.intro hf hfw)))))))
  have hwn : ws.length ≤ 40000 := by omega
  clear hZ hR hl hfit hs ha hrow hf hfw
  have HQ := Lib.hid hq
  clear hq
  obtain ⟨ev, hev⟩ : ∃ e, refO kind k v o had ws = e := ⟨_, rfl⟩
  rw [hev] at CR
  go_enter Try.func36, Try.ntmps36
  go_upto_region 1 with fail
  generalize ((((w.alloc (.cells #[.slice A R.length cap] 60)).alloc (.cells #[.int .u8 kind, .string k, .string v, .string o, .bool had, .bool aft, .slice A3 ws.length cap3] 34)).alloc (.cells #[.slice none 0 0] 60)).alloc (.cells #[.int .i64 0, .bool false, .string ⟨#[]⟩, .string ⟨#[]⟩] 38)) = w1 at HS ⊢
  obtain ⟨g2, hg2⟩ : ∃ g, w.heap.size = g := ⟨_, rfl⟩
  rw [hg2] at HS ⊢
  clear hg2
  obtain ⟨g3, hg3⟩ : ∃ g, g2 + 1 = g := ⟨_, rfl⟩
  obtain ⟨g4, hg4⟩ : ∃ g, g2 + 2 = g := ⟨_, rfl⟩
  obtain ⟨g5, hg5⟩ : ∃ g, g2 + 3 = g := ⟨_, rfl⟩
  rw [hg3, hg4, hg5] at HS
  (try rw [hg3]); (try rw [hg4]); (try rw [hg5]); (try rw [show g2 + 1 + 1 = g4 from hg4]); (try rw [show g2 + 1 + 1 + 1 = g5 from hg5]); (try rw [show g3 + 1 = g4 by omega]); (try rw [show g4 + 1 = g5 by omega]); (try rw [show g3 + 1 + 1 = g5 by omega])
  clear hg3 hg4 hg5
  have y0 := HS.out.bo.cell 0
  have y1 := HS.out.bo.cell 1
  have y2 := HS.out.bo.cell 2
  have y3 := HS.out.bo.cell 3
  have y4 := HS.out.bo.cell 4
  have y5 := HS.out.bo.cell 5
  have y6 := HS.out.bo.cell 6
  have z0 := HS.out.bm.cell 0
  have zf := HS.out.bm.thawed 0
  have q0 := HS.out.r4.cell 0
  have qf := HS.out.r4.thawed 0
  have d0 := HS.out.r5.cell 0
  have f0 := HS.out.r5.thawed 0
  have d1 := HS.out.r5.cell 1
  have f1 := HS.out.r5.thawed 1
  have d2 := HS.out.r5.cell 2
  have f2 := HS.out.r5.thawed 2
  have d3 := HS.out.r5.cell 3
  have f3 := HS.out.r5.thawed 3
  simp at y0 y1 y2 y3 y4 y5 y6 z0 q0 d0 d1 d2 d3

  go_upto_region 2 with (go_at_call 75; refine (CR.out _ HS.out.tu).mono ?_; rintro e w3 ⟨rfl, ht⟩; have H3 := Lib.hid (HS.out.no ht); clear ht)
  clear CR HS y0 y1 y2 y3 y4 y5 y6 z0 zf q0 qf d0 d1 d2 d3 f0 f1 f2 f3
  by_cases he : ev = 0
  · have HE : Hid (refO kind k v o had ws = 0) := Lib.hid (hev.trans he)
    subst he
    clear hev
    have y0 := H3.out.bo.cell 0
    have y1 := H3.out.bo.cell 1
    have y2 := H3.out.bo.cell 2
    have y3 := H3.out.bo.cell 3
    have y4 := H3.out.bo.cell 4
    have y5 := H3.out.bo.cell 5
    have y6 := H3.out.bo.cell 6
    have z0 := H3.out.bm.cell 0
    have zf := H3.out.bm.thawed 0
    have q0 := H3.out.r4.cell 0
    have qf := H3.out.r4.thawed 0
    have d0 := H3.out.r5.cell 0
    have f0 := H3.out.r5.thawed 0
    have d1 := H3.out.r5.cell 1
    have f1 := H3.out.r5.thawed 1
    have d2 := H3.out.r5.cell 2
    have f2 := H3.out.r5.thawed 2
    have d3 := H3.out.r5.cell 3
    have f3 := H3.out.r5.thawed 3
    simp at y0 y1 y2 y3 y4 y5 y6 z0 q0 d0 d1 d2 d3

    have CGA := Lib.hid (CG.out w3 H3.out.tu)
    obtain ⟨fo, hfo⟩ : ∃ b, (getL M k).isSome = b := ⟨_, rfl⟩
    obtain ⟨vo, hvo⟩ : ∃ b, (getL M k).getD ⟨#[]⟩ = b := ⟨_, rfl⟩
    rw [hfo, hvo] at CGA
    have HGA : Hid (gans (getL M k) = ⟨0, fo, ⟨#[]⟩, vo⟩ ∧ (getL M k).isSome = fo ∧ (getL M k).getD ⟨#[]⟩ = vo) := Lib.hid ⟨by unfold gans; rw [hfo, hvo], hfo, hvo⟩
    clear hfo hvo CG
    go_upto_region 6 with (go_at_call 76; refine CGA.out.mono ?_; rintro e w4 ⟨rfl, ht⟩; have H4 := Lib.hid (H3.out.no ht); clear ht)
    have tn : Turn No w4 (w4.alloc (.cells #[.int .i64 0, .bool fo, .string ⟨#[]⟩, .string vo] 38)) := (Turn.refl _ _).alloc _
    have HV : Hid (Dr Z w (w4.alloc (.cells #[.int .i64 0, .bool fo, .string ⟨#[]⟩, .string vo] 38)) g2 g3 g4 g5 #[.int .u8 kind, .string k, .string v, .string o, .bool had, .bool aft, .slice A3 ws.length cap3] (.slice A R.length cap) R R.length A cap ∧ At (w4.alloc (.cells #[.int .i64 0, .bool fo, .string ⟨#[]⟩, .string vo] 38)) w4.heap.size (.cells #[.int .i64 0, .bool fo, .string ⟨#[]⟩, .string vo] 38 (0, 0)) ∧ g5 < w4.heap.size) := Lib.hid ⟨H4.out.no tn, At.new _ _, H4.out.r5.lt⟩
    clear H3 H4 CGA tn y0 y1 y2 y3 y4 y5 y6 z0 zf q0 qf d0 d1 d2 d3 f0 f1 f2 f3
    generalize w4.alloc (.cells #[.int .i64 0, .bool fo, .string ⟨#[]⟩, .string vo] 38) = w5 at HV ⊢
    generalize w4.heap.size = g9 at HV ⊢
    have HS := Lib.hid HV.out.1
    have H9 := Lib.hid HV.out.2.1
    have m92 : ¬ g9 = g2 := by have a1 := HV.out.2.2; have a2 := HS.out.l3; have a3 := HS.out.l4; have a4 := HS.out.l5; omega
    have m94 : ¬ g9 = g4 := by have a1 := HV.out.2.2; have a2 := HS.out.l3; have a3 := HS.out.l4; have a4 := HS.out.l5; omega
    have m49 : ¬ g4 = g9 := by omega
    have m29 : ¬ g2 = g9 := by omega
    have m45 : ¬ g4 = g5 := by have a4 := HS.out.l5; omega
    have m54 : ¬ g5 = g4 := by omega
    have m24 : ¬ g2 = g4 := by have a2 := HS.out.l3; have a3 := HS.out.l4; omega
    have m42 : ¬ g4 = g2 := by omega
    have m25 : ¬ g2 = g5 := by have a2 := HS.out.l3; have a3 := HS.out.l4; have a4 := HS.out.l5; omega
    have m52 : ¬ g5 = g2 := by omega
    have m95 : ¬ g9 = g5 := by have a1 := HV.out.2.2; omega
    have m59 : ¬ g5 = g9 := by omega
    have m39 : ¬ g3 = g9 := by have a1 := HV.out.2.2; have a3 := HS.out.l4; have a4 := HS.out.l5; omega
    have m34 : ¬ g3 = g4 := by have a3 := HS.out.l4; omega
    have m35 : ¬ g3 = g5 := by have a3 := HS.out.l4; have a4 := HS.out.l5; omega
    have m32 : ¬ g3 = g2 := by have a2 := HS.out.l3; omega
    have HG59 := Lib.hid (Nat.le_of_lt HV.out.2.2)
    clear HV
    have q1 := HQ.out
    subst q1
    have y0 := HS.out.bo.cell 0
    have y1 := HS.out.bo.cell 1
    have y2 := HS.out.bo.cell 2
    have y3 := HS.out.bo.cell 3
    have y4 := HS.out.bo.cell 4
    have y5 := HS.out.bo.cell 5
    have y6 := HS.out.bo.cell 6
    have z0 := HS.out.bm.cell 0
    have zf := HS.out.bm.thawed 0
    have q0 := HS.out.r4.cell 0
    have qf := HS.out.r4.thawed 0
    have d0 := HS.out.r5.cell 0
    have f0 := HS.out.r5.thawed 0
    have d1 := HS.out.r5.cell 1
    have f1 := HS.out.r5.thawed 1
    have d2 := HS.out.r5.cell 2
    have f2 := HS.out.r5.thawed 2
    have d3 := HS.out.r5.cell 3
    have f3 := HS.out.r5.thawed 3
    simp at y0 y1 y2 y3 y4 y5 y6 z0 q0 d0 d1 d2 d3
    have e0 := H9.out.cell 0
    have e1 := H9.out.cell 1
    have e2 := H9.out.cell 2
    have e3 := H9.out.cell 3
    have h0 := H9.out.thawed 0
    have h1 := H9.out.thawed 1
    have h2 := H9.out.thawed 2
    have h3 := H9.out.thawed 3
    simp at e0 e1 e2 e3
    have HD := Lib.hid (HS.out.no ((Turn.refl No w5).drew))
    go_wp2_with fail
    go_region
    all_goals go_wp2_with fail
    all_goals (try simp only [Exit.inBlock, Exit.then])
    all_goals first
      | (refine bodyPost_ret (results_cells2 rfl _ _ g4 g5 60 38 _ _ (0, 0) (0, 0) _ _ (by rfl) (by rfl) (HD.out.finA (HD.out.row) (HD.out.old) (rfl) ⟨0, fo, ⟨#[]⟩, vo⟩).a4 (HD.out.finA (HD.out.row) (HD.out.old) (rfl) ⟨0, fo, ⟨#[]⟩, vo⟩).a5 Try.underlying60 (by kernel_rfl) Try.underlying38 (by kernel_rfl)) rfl ?_; exact (HD.out.finA (HD.out.row) (HD.out.old) (rfl) ⟨0, fo, ⟨#[]⟩, vo⟩).rdo (by rw [← HLD.out.1]; simp [doR, HE.out]) (by rw [← HLD.out.2]; simp [doA, HE.out, HGA.out.1]))
      | (refine bodyPost_ret (results_cells2 rfl _ _ g4 g5 60 38 _ _ (0, 0) (0, 0) _ _ (by rfl) (by rfl) (HD.out.finB (HD.out.row) (HD.out.old) (rfl) ⟨0, fo, ⟨#[]⟩, vo⟩).a4 (HD.out.finB (HD.out.row) (HD.out.old) (rfl) ⟨0, fo, ⟨#[]⟩, vo⟩).a5 Try.underlying60 (by kernel_rfl) Try.underlying38 (by kernel_rfl)) rfl ?_; exact (HD.out.finB (HD.out.row) (HD.out.old) (rfl) ⟨0, fo, ⟨#[]⟩, vo⟩).rdo (by rw [← HLD.out.1]; simp [doR, HE.out]) (by rw [← HLD.out.2]; simp [doA, HE.out, HGA.out.1]))
  · have HE : Hid (refO kind k v o had ws = ev ∧ ev ≠ 0) := Lib.hid ⟨hev, he⟩
    have hq : (ev == 0) = false := by simpa using he
    have m45 : ¬ g4 = g5 := by have a4 := H3.out.l5; omega
    have m54 : ¬ g5 = g4 := by omega
    have hq2 : (ev != 0) = true := by simpa using he
    have y0 := H3.out.bo.cell 0
    have y1 := H3.out.bo.cell 1
    have y2 := H3.out.bo.cell 2
    have y3 := H3.out.bo.cell 3
    have y4 := H3.out.bo.cell 4
    have y5 := H3.out.bo.cell 5
    have y6 := H3.out.bo.cell 6
    have z0 := H3.out.bm.cell 0
    have zf := H3.out.bm.thawed 0
    have q0 := H3.out.r4.cell 0
    have qf := H3.out.r4.thawed 0
    have d0 := H3.out.r5.cell 0
    have f0 := H3.out.r5.thawed 0
    have d1 := H3.out.r5.cell 1
    have f1 := H3.out.r5.thawed 1
    have d2 := H3.out.r5.cell 2
    have f2 := H3.out.r5.thawed 2
    have d3 := H3.out.r5.cell 3
    have f3 := H3.out.r5.thawed 3
    simp at y0 y1 y2 y3 y4 y5 y6 z0 q0 d0 d1 d2 d3

    go_wp2_with fail
    all_goals (try simp only [Exit.inBlock, Exit.then])
    all_goals first
      | (refine bodyPost_ret (results_cells2 rfl _ _ g4 g5 60 38 _ _ (0, 0) (0, 0) _ _ (by rfl) (by rfl) (H3.out.finA (H3.out.row) (H3.out.old) (rfl) ⟨ev, false, ⟨#[]⟩, ⟨#[]⟩⟩).a4 (H3.out.finA (H3.out.row) (H3.out.old) (rfl) ⟨ev, false, ⟨#[]⟩, ⟨#[]⟩⟩).a5 Try.underlying60 (by kernel_rfl) Try.underlying38 (by kernel_rfl)) rfl ?_; exact (H3.out.finA (H3.out.row) (H3.out.old) (rfl) ⟨ev, false, ⟨#[]⟩, ⟨#[]⟩⟩).rdo (by rw [← HLD.out.1, doR.eq_1, if_neg (by rw [HE.out.1]; exact HE.out.2)]) (by rw [← HLD.out.2, doA.eq_1, if_neg (by rw [HE.out.1]; exact HE.out.2), HE.out.1]))
      | (refine bodyPost_ret (results_cells2 rfl _ _ g4 g5 60 38 _ _ (0, 0) (0, 0) _ _ (by rfl) (by rfl) (H3.out.finB (H3.out.row) (H3.out.old) (rfl) ⟨ev, false, ⟨#[]⟩, ⟨#[]⟩⟩).a4 (H3.out.finB (H3.out.row) (H3.out.old) (rfl) ⟨ev, false, ⟨#[]⟩, ⟨#[]⟩⟩).a5 Try.underlying60 (by kernel_rfl) Try.underlying38 (by kernel_rfl)) rfl ?_; exact (H3.out.finB (H3.out.row) (H3.out.old) (rfl) ⟨ev, false, ⟨#[]⟩, ⟨#[]⟩⟩).rdo (by rw [← HLD.out.1, doR.eq_1, if_neg (by rw [HE.out.1]; exact HE.out.2)]) (by rw [← HLD.out.2, doA.eq_1, if_neg (by rw [HE.out.1]; exact HE.out.2), HE.out.1]))
end Go.Proofs.Ytllppkfeiifklaa
