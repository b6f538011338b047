/-
  linear's cloneOp.
  linear.Witness: what is asked, in the marks' row.
  wakes: both small rows.
-/
import Derived.Test.YtllppkfeiifklaaJ19
import Derived.Test.YtllppkfeiifklaaJ32
import Derived.Test.YtllppkfeiifklaaJ36
import Derived.Test.YtllppkfeiifklaaJ38
namespace Go.Proofs.Ytllppkfeiifklaa
open Go.RowKit Go.Lib
set_option linter.unusedVariables false
set_option maxRecDepth 20000
set_option linter.unusedSimpArgs false

set_option maxHeartbeats 2000000 in
theorem clol_any (kind : Int) (k v o : ByteArray) (had aft : Bool) (A : Option Addr) (len cap : Nat) (ws : List Wr) (hk : Fit k) (hv : Fit v) (hof : Fit o) (hws : ∀ x ∈ ws, x.fit) (hl : ws.length = len) (hlen : len ≤ 100000) (w : World) (hR : Row w A (wcs ws)) :
    Calls Try.prog 37 #[.agg #[.int .u8 kind, .string k, .string v, .string o, .bool had, .bool aft, .slice A len cap]] w fun e w' =>
      ∃ B c, e = .returned (.agg #[.int .u8 kind, .string k, .string v, .string o, .bool had, .bool aft, .slice B len c]) ∧ Turn No w w' ∧ w'.ownsRow w.heap.size 68 3 (.slice B len c) len (wcs ws) := by
  have HB := Lib.hid (Bx.start w (opc kind k v o had aft A len cap) op0 34)
  have HR := Lib.hid hR
  have HW := Lib.hid hws
  have HL := Lib.hid hl
  clear hR hws hl
  go_enter Try.func37, Try.ntmps37
  go_upto_region 1 with (fail)
  change Hid (Bx w ((w.alloc (.cells #[.int .u8 kind, .string k, .string v, .string o, .bool had, .bool aft, .slice A len cap] 34)).alloc (.cells #[.int .u8 0, .string ⟨#[]⟩, .string ⟨#[]⟩, .string ⟨#[]⟩, .bool false, .bool false, .slice none 0 0] 34)) w.heap.size (opc kind k v o had aft A len cap) op0 34) at HB
  have hgz : w.heap.size = w.heap.size := rfl
  generalize (w.alloc (.cells #[.int .u8 kind, .string k, .string v, .string o, .bool had, .bool aft, .slice A len cap] 34)).alloc (.cells #[.int .u8 0, .string ⟨#[]⟩, .string ⟨#[]⟩, .string ⟨#[]⟩, .bool false, .bool false, .slice none 0 0] 34) = w1 at HB ⊢
  obtain ⟨g, hg⟩ : ∃ g, w.heap.size = g := ⟨_, rfl⟩
  rw [hg] at HB ⊢
  clear hgz
  have HG := Lib.hid hg
  clear hg
  have hS0 : w1.drew.cell? ⟨g, 1, none⟩ = some (.string k) ∧ w1.drew.cell? ⟨g, 2, none⟩ = some (.string v) ∧ w1.drew.cell? ⟨g, 3, none⟩ = some (.string o) := HB.out.texts
  have hS1 : Hid (∀ w2, Turn No w1 w2 → w2.cell? ⟨g, 1, none⟩ = some (.string k) ∧ w2.cell? ⟨g, 2, none⟩ = some (.string v) ∧ w2.cell? ⟨g, 3, none⟩ = some (.string o)) := Lib.hid fun w2 t => (HB.out.turn t).texts
  have C1 : Hid (∀ W, Turn No w1 W → Calls Try.prog 79 #[.string k] W fun e w' => e = .returned (.string k) ∧ Turn No w1 w') := Lib.hid fun W t => (clone_turnH k hk W t).mono fun e w' h => ⟨h.1, h.2.2⟩
  have C2 : Hid (∀ W, Turn No w1 W → Calls Try.prog 79 #[.string v] W fun e w' => e = .returned (.string v) ∧ Turn No w1 w') := Lib.hid fun W t => (clone_turnH v hv W t).mono fun e w' h => ⟨h.1, h.2.2⟩
  have C3 : Hid (∀ W, Turn No w1 W → Calls Try.prog 79 #[.string o] W fun e w' => e = .returned (.string o) ∧ Turn No w1 w') := Lib.hid fun W t => (clone_turnH o hof W t).mono fun e w' h => ⟨h.1, h.2.2⟩
  have hT1 : Hid (∀ w2, Turn No w1 w2 → (w2.setCell ⟨g, 1, none⟩ (.string k)).cell? ⟨g, 1, none⟩ = some (.string k) ∧ (w2.setCell ⟨g, 1, none⟩ (.string k)).cell? ⟨g, 2, none⟩ = some (.string v) ∧ (w2.setCell ⟨g, 1, none⟩ (.string k)).cell? ⟨g, 3, none⟩ = some (.string o)) := Lib.hid fun w2 t => (HB.out.turn t).s1.texts
  have hT2 : Hid (∀ w2, Turn No w1 w2 → ((w2.setCell ⟨g, 1, none⟩ (.string k)).setCell ⟨g, 2, none⟩ (.string v)).cell? ⟨g, 1, none⟩ = some (.string k) ∧ ((w2.setCell ⟨g, 1, none⟩ (.string k)).setCell ⟨g, 2, none⟩ (.string v)).cell? ⟨g, 2, none⟩ = some (.string v) ∧ ((w2.setCell ⟨g, 1, none⟩ (.string k)).setCell ⟨g, 2, none⟩ (.string v)).cell? ⟨g, 3, none⟩ = some (.string o)) := Lib.hid fun w2 t => (HB.out.turn t).s1.s2.texts
  have hT3 : Hid (∀ w2, Turn No w1 w2 → (((w2.setCell ⟨g, 1, none⟩ (.string k)).setCell ⟨g, 2, none⟩ (.string v)).setCell ⟨g, 3, none⟩ (.string o)).cell? ⟨g, 1, none⟩ = some (.string k) ∧ (((w2.setCell ⟨g, 1, none⟩ (.string k)).setCell ⟨g, 2, none⟩ (.string v)).setCell ⟨g, 3, none⟩ (.string o)).cell? ⟨g, 2, none⟩ = some (.string v) ∧ (((w2.setCell ⟨g, 1, none⟩ (.string k)).setCell ⟨g, 2, none⟩ (.string v)).setCell ⟨g, 3, none⟩ (.string o)).cell? ⟨g, 3, none⟩ = some (.string o)) := Lib.hid fun w2 t => (HB.out.turn t).s1.s2.s3.texts
  go_region_held3 (fun W => W.cell? ⟨g, 1, none⟩ = some (.string k) ∧ W.cell? ⟨g, 2, none⟩ = some (.string v) ∧ W.cell? ⟨g, 3, none⟩ = some (.string o)) (first | (with_reducible exact hS0) | (with_reducible exact hT1.out _ hu.out) | (with_reducible exact hT2.out _ hu.out) | (with_reducible exact hT3.out _ hu.out) | (with_reducible exact hS1.out _ hu.out) | (with_reducible exact hS1.out _ hz.out) | (with_reducible exact hS1.out _ hy.out)) (first | (go_at_call 79; (with_reducible refine (C1.out _ (Turn.refl _ _).drew).mono ?_); rintro e wy ⟨rfl, hy⟩; replace hy := Lib.hid hy) | (go_at_call 79; (with_reducible refine (C3.out _ hz.out).mono ?_); rintro e wu ⟨rfl, hu⟩; replace hu := Lib.hid hu; have zf1 := (HB.out.b.no hu.out).thawed 1; have zf2 := (HB.out.b.no hu.out).thawed 2; have zf3 := (HB.out.b.no hu.out).thawed 3) | (go_at_call 79; (with_reducible refine (C2.out _ hy.out).mono ?_); rintro e wz ⟨rfl, hz⟩; replace hz := Lib.hid hz))
  have HC := Lib.hid (HB.out.turn hu.out).s1.s2.s3
  clear hS1 hT1 hT2 hT3 C1 C2 C3 HB hz hu hy zf1 zf2 zf3
  generalize ((wu.setCell ⟨g, 1, none⟩ (.string k)).setCell ⟨g, 2, none⟩ (.string v)).setCell ⟨g, 3, none⟩ (.string o) = w3 at HC ⊢
  obtain ⟨B, c, w4, HA, d6, z6, HL5⟩ := clop_app HC.out HR.out HL.out hlen
  have e6 : w3.cell? ⟨g, 6, none⟩ = some (.slice A len cap) := by simpa [opc] using HC.out.b.cell 6
  replace HL5 := Lib.hid HL5
  clear HC hS0
  go_upto_region 3 with (at_builtin; refine wpList_append_run rfl _ _ 32 rfl _ _ _ rfl rfl HA ?_)
  generalize w4.setCell ⟨g, 6, none⟩ (.slice B len c) = w5 at HL5 ⊢
  clear HA d6 z6 e6
  have e6 : w5.cell? ⟨g, 6, none⟩ = some (.slice B len c) := by simpa [opc] using HL5.out.bx.b.cell 6
  go_wp2_with fail
  clear e6
  go_loopw [24] (fun i wr => ∃ m : Nat, m ≤ len ∧ i = .int .i64 (m : Int) ∧ Hid (Lp w wr g (opc kind k v o had aft B len c) B len c (wcs ws))) (fun i _ => len - (RowKit.intOf i).toNat)
  case atStart => exact ⟨0, Nat.zero_le _, rfl, HL5⟩
  case round =>
    obtain ⟨m, hm, rfl, HP⟩ := hrel
    clear HL5
    by_cases hlt : m < len
    · obtain ⟨x, hx⟩ : ∃ x, ws[m]? = some x := ⟨ws[m]'(by have := HL.out; omega), List.getElem?_eq_getElem _⟩
      have hfx := HW.out x (List.mem_of_getElem? hx)
      obtain ⟨rb, cur, rfl, hrb, hat, hcur⟩ := HP.out.blk (by omega)
      have x0 : wr.cell? ⟨rb, m * 3, none⟩ = some (.string x.k) := by rw [hat.cell]; exact hcur _ _ (wcs_at hx 0 (by omega))
      have x1 : wr.cell? ⟨rb, m * 3 + 1, none⟩ = some (.string x.v) := by rw [hat.cell]; exact hcur _ _ (wcs_at hx 1 (by omega))
      have x2 : wr.cell? ⟨rb, m * 3 + 2, none⟩ = some (.bool x.gone) := by rw [hat.cell]; exact hcur _ _ (wcs_at hx 2 (by omega))
      have hk0 := Lib.hid (wcs_at hx 0 (by omega))
      have hk1 := Lib.hid (wcs_at hx 1 (by omega))
      have HQ : Hid (Lq w (wr.alloc (.cells #[.string x.k, .string x.v, .bool x.gone] 68)) g rb wr.heap.size (opc kind k v o had aft (some ⟨rb, 0, none⟩) len c) len c (wcs ws) x) :=
        Lib.hid ⟨HP.out.turn ((Turn.refl _ _).alloc _), At.new _ _, by have := hat.lt; omega, rfl⟩
      have hpos : 0 < len := by omega
      clear hrb hat hcur
      go_upto_region 6 with (fail)
      clear x0 x1 x2 HP
      generalize wr.alloc (.cells #[.string x.k, .string x.v, .bool x.gone] 68) = w6 at HQ ⊢
      generalize wr.heap.size = qb at HQ ⊢
      have hS0 : w6.drew.cell? ⟨g, 6, none⟩ = some (.slice (some ⟨rb, 0, none⟩) len c) ∧ w6.drew.cell? ⟨qb, 0, none⟩ = some (.string x.k) ∧ w6.drew.cell? ⟨qb, 1, none⟩ = some (.string x.v) := HQ.out.S
      have hS1 : Hid (∀ w2, Turn No w6 w2 → w2.cell? ⟨g, 6, none⟩ = some (.slice (some ⟨rb, 0, none⟩) len c) ∧ w2.cell? ⟨qb, 0, none⟩ = some (.string x.k) ∧ w2.cell? ⟨qb, 1, none⟩ = some (.string x.v)) := Lib.hid fun w2 t => (HQ.out.turn t).S
      have hT1 : Hid (∀ w2, Turn No w6 w2 → (w2.setCell ⟨rb, m * 3, none⟩ (.string x.k)).cell? ⟨g, 6, none⟩ = some (.slice (some ⟨rb, 0, none⟩) len c) ∧ (w2.setCell ⟨rb, m * 3, none⟩ (.string x.k)).cell? ⟨qb, 0, none⟩ = some (.string x.k) ∧ (w2.setCell ⟨rb, m * 3, none⟩ (.string x.k)).cell? ⟨qb, 1, none⟩ = some (.string x.v)) := Lib.hid fun w2 t => ((HQ.out.turn t).same hpos _ _ hk0.out).S
      have hT2 : Hid (∀ w2, Turn No w6 w2 → ((w2.setCell ⟨rb, m * 3, none⟩ (.string x.k)).setCell ⟨rb, m * 3 + 1, none⟩ (.string x.v)).cell? ⟨g, 6, none⟩ = some (.slice (some ⟨rb, 0, none⟩) len c) ∧ ((w2.setCell ⟨rb, m * 3, none⟩ (.string x.k)).setCell ⟨rb, m * 3 + 1, none⟩ (.string x.v)).cell? ⟨qb, 0, none⟩ = some (.string x.k) ∧ ((w2.setCell ⟨rb, m * 3, none⟩ (.string x.k)).setCell ⟨rb, m * 3 + 1, none⟩ (.string x.v)).cell? ⟨qb, 1, none⟩ = some (.string x.v)) := Lib.hid fun w2 t => (((HQ.out.turn t).same hpos _ _ hk0.out).same hpos _ _ hk1.out).S
      have C1 : Hid (∀ W, Turn No w6 W → Calls Try.prog 79 #[.string x.k] W fun e w' => e = .returned (.string x.k) ∧ Turn No w6 w') := Lib.hid fun W t => (clone_turnH x.k hfx.1 W t).mono fun e w' h => ⟨h.1, h.2.2⟩
      have C2 : Hid (∀ W, Turn No w6 W → Calls Try.prog 79 #[.string x.v] W fun e w' => e = .returned (.string x.v) ∧ Turn No w6 w') := Lib.hid fun W t => (clone_turnH x.v hfx.2 W t).mono fun e w' h => ⟨h.1, h.2.2⟩
      have HF : Hid (∀ w2, Turn No w6 w2 → ∀ i, w2.frozen? ⟨rb, i, none⟩ = false) := Lib.hid fun w2 t i => (HQ.out.turn t).thawed hpos i
      have HX : Hid (∀ w2, Turn No w6 w2 → w2.cell? ⟨rb, m * 3, none⟩ = some (.string x.k) ∧ w2.cell? ⟨rb, m * 3 + 1, none⟩ = some (.string x.v)) := Lib.hid fun w2 t => by
        obtain ⟨rb', cur, hB, _, ha, hc⟩ := (HQ.out.turn t).lp.blk hpos
        obtain rfl : rb = rb' := by injection hB with e; injection e
        exact ⟨by rw [ha.cell]; exact hc _ _ hk0.out, by rw [ha.cell]; exact hc _ _ hk1.out⟩
      go_region_held3 (fun W => W.cell? ⟨g, 6, none⟩ = some (.slice (some ⟨rb, 0, none⟩) len c) ∧ W.cell? ⟨qb, 0, none⟩ = some (.string x.k) ∧ W.cell? ⟨qb, 1, none⟩ = some (.string x.v)) (first | (with_reducible exact hS0) | (with_reducible exact hT1.out _ hz.out) | (with_reducible exact hT2.out _ hz.out) | (with_reducible exact hS1.out _ hz.out) | (with_reducible exact hS1.out _ hy.out)) (first | (go_at_call 79; (with_reducible refine (C1.out _ (Turn.refl _ _).drew).mono ?_); rintro e wy ⟨rfl, hy⟩; replace hy := Lib.hid hy) | (go_at_call 79; (with_reducible refine (C2.out _ hy.out).mono ?_); rintro e wz ⟨rfl, hz⟩; replace hz := Lib.hid hz; have zf0 := HF.out _ hz.out (m * 3); have zf1 := HF.out _ hz.out (m * 3 + 1); have zc := HX.out _ hz.out; obtain ⟨zc0, zc1⟩ := zc))
      have HP := Lib.hid (((HQ.out.turn hz.out).same hpos _ _ hk0.out).same hpos _ _ hk1.out).lp
      generalize (wz.setCell ⟨rb, m * 3, none⟩ (.string x.k)).setCell ⟨rb, m * 3 + 1, none⟩ (.string x.v) = w7 at HP ⊢
      clear hS1 hT1 hT2 C1 C2 HF HX HQ hS0 hz hy zf0 zf1 zc0 zc1 hk0 hk1
      go_wp2_with fail
      exact ⟨⟨m + 1, by omega, by go_num, HP⟩, by simp [RowKit.intOf]; omega⟩
    · have hE : m = len := by omega
      subst hE
      have e0 := HP.out.bx.b.cell 0
      have e1 := HP.out.bx.b.cell 1
      have e2 := HP.out.bx.b.cell 2
      have e3 := HP.out.bx.b.cell 3
      have e4 := HP.out.bx.b.cell 4
      have e5 := HP.out.bx.b.cell 5
      have e6 := HP.out.bx.b.cell 6
      have r0 := HP.out.bx.r.cell 0
      have r1 := HP.out.bx.r.cell 1
      have r2 := HP.out.bx.r.cell 2
      have r3 := HP.out.bx.r.cell 3
      have r4 := HP.out.bx.r.cell 4
      have r5 := HP.out.bx.r.cell 5
      have r6 := HP.out.bx.r.cell 6
      have z0 := HP.out.bx.r.thawed 0
      have z1 := HP.out.bx.r.thawed 1
      have z2 := HP.out.bx.r.thawed 2
      have z3 := HP.out.bx.r.thawed 3
      have z4 := HP.out.bx.r.thawed 4
      have z5 := HP.out.bx.r.thawed 5
      have z6 := HP.out.bx.r.thawed 6
      simp [opc, op0] at e0 e1 e2 e3 e4 e5 e6 r0 r1 r2 r3 r4 r5 r6
      go_wp2_with fail
      clear e0 e1 e2 e3 e4 e5 e6 r0 r1 r2 r3 r4 r5 r6 z0 z1 z2 z3 z4 z5 z6
      (try simp only [Exit.inBlock, Exit.then])
      have HE := HP.out.bx.put7 (v0 := .int .u8 kind) (v1 := .string k) (v2 := .string v) (v3 := .string o) (v4 := .bool had) (v5 := .bool aft) (v6 := .slice B m c) rfl
      refine bodyPost_ret (results_cell_row rfl _ _ (g + 1) 34 _ (0, 0) _ (by rfl) HE.2.2 Try.underlying34 rfl (by kernel_rfl)) rfl ?_
      refine ⟨B, c, rfl, HE.1, own_grown HP.out.row HE.2.1 fun kk hk e => ?_⟩
      subst e
      rcases HP.out.row.2 with ⟨hv, _⟩ | ⟨rb, cp, cur, hv, _, hg, _⟩
      · injection hv with hA; subst hA; cases hk
      · injection hv with hA
        subst hA
        injection hk with hk
        subst hk
        have := HP.out.bx.r.eq hg
        injection this with _ e
        cases e

end Go.Proofs.Ytllppkfeiifklaa
namespace Go.Proofs.Ytllppkfeiifklaa
open Go.RowKit Go.Lib
set_option linter.unusedVariables false
set_option maxRecDepth 20000
set_option linter.unusedSimpArgs false

theorem infw34 : (Try.prog.info? 34).map (fun i => (i.zero, i.size, i.bytes)) = some (some (.agg #[.int .u8 0, .string ⟨#[]⟩, .string ⟨#[]⟩, .string ⟨#[]⟩, .bool false, .bool false, .slice none 0 0]), 7, 88) := by kernel_rfl
theorem ocs_append (L U : List Opx) : ocs (L ++ U) = ocs L ++ ocs U := List.flatMap_append ..
/-- A row of operations of one's own, each with its writes in a row of its own. -/
structure Os (w wr : World) (l : List Ev) (ps : List (List Wr)) (L : List Opx) (B : Option Addr) (c : Nat) : Prop where
  tu : Turn No w wr
  row : wr.ownsRow w.heap.size 34 7 (.slice B L.length c) L.length (ocs L)
  ops : ∀ (j : Nat) (x : Opx) (t : Tk), L[j]? = some x → (wit l)[j]? = some t → x.pure = stO l t.id ∧ x.len = (stW l ps t.id).length ∧ wr.ownsRow w.heap.size 68 3 (.slice x.A x.len x.cap) x.len (wcs (stW l ps t.id))
section
variable {w wr w2 : World} {l : List Ev} {ps : List (List Wr)} {L : List Opx} {B : Option Addr} {c : Nat}
theorem Os.no (h : Os w wr l ps L B c) (t : Turn No wr w2) : Os w w2 l ps L B c := ⟨h.tu.trans t, own_grown h.row t fun _ _ h => h, fun j x u hx hu => ⟨(h.ops j x u hx hu).1, (h.ops j x u hx hu).2.1, own_grown (h.ops j x u hx hu).2.2 t fun _ _ h => h⟩⟩
theorem Os.app (h : Os w wr l ps L B c) (hn : L.length ≤ 1000) (x : Opx) {t : Tk} (ht : (wit l)[L.length]? = some t) (hp : x.pure = stO l t.id) (hl : x.len = (stW l ps t.id).length) (hw : wr.ownsRow w.heap.size 68 3 (.slice x.A x.len x.cap) x.len (wcs (stW l ps t.id))) :
    ∃ B' c' w', AppRun 29 29 (.slice B L.length c) (.slice (some ⟨wr.heap.size, 0, none⟩) 1 1) (.slice B' (L.length + 1) c') (wr.alloc (.cells x.cs.toArray 34)) w' ∧ Os w w' l ps (L ++ [x]) B' c' ∧ Turn (fun i => (Value.slice B L.length c).ownBlock = some i) (wr.alloc (.cells x.cs.toArray 34)) w' := by
  have tn : Turn No wr (wr.alloc (.cells x.cs.toArray 34)) := (Turn.refl _ _).alloc _
  have h2 := h.no tn
  have hn2 := At.new wr (.cells x.cs.toArray 34)
  obtain ⟨B', c', w', q, ho, ht2, hB⟩ := app_gen Try.underlying29 infw34 rfl (by decide) (by decide) h2.row ⟨wr.heap.size, 0, none⟩ 1 1 x.cs rfl
    (fun j u hj => by rw [Addr.add_lit, Nat.zero_add, hn2.cell]; simpa using hj) (one_op x) (by omega) h2.tu.size 29
  have hX : ∀ {k : Nat} {v : Value} {n : Nat} {xs : List Value}, (wr.alloc (.cells x.cs.toArray 34)).ownsRow w.heap.size 68 3 v n xs → v.ownBlock = some k → ¬ (Value.slice B L.length c).ownBlock = some k := fun {k v n xs} hv hk e => by
    rw [own_ablk] at e
    obtain ⟨_, cur, hc⟩ := own_at h2.row e
    rcases hv.2 with ⟨hv0, _⟩ | ⟨g', c', cur', hv0, _, hg', _⟩
    · rw [hv0] at hk; cases hk
    · rw [hv0] at hk
      injection hk with hk
      subst hk
      have := hc.eq hg'
      injection this with _ e2 _
      exact absurd e2 (by decide)
  refine ⟨B', c', w', q, ⟨h2.tu.then ht2 (fun i hi hb => ?_), ?_, fun j y u hy hu => ?_⟩, ht2⟩
  · rw [own_ablk] at hb
    have := (own_at h2.row hb).1
    omega
  · rw [List.length_append, ocs_append]
    have e1 : ocs [x] = x.cs := by simp [ocs]
    rw [e1]
    exact ho
  · by_cases hj : j < L.length
    · rw [List.getElem?_append_left hj] at hy
      have := h2.ops j y u hy hu
      exact ⟨this.1, this.2.1, own_grown this.2.2 ht2 fun k hk => hX this.2.2 hk⟩
    · rw [List.getElem?_append_right (by omega)] at hy
      have hj2 : j - L.length = 0 := by
        have := (List.getElem?_eq_some_iff.1 hy).1
        simp at this
        omega
      rw [hj2] at hy
      injection hy with hy
      subst hy
      obtain rfl : j = L.length := by omega
      rw [ht] at hu
      injection hu with hu
      subst hu
      have hw2 := own_grown hw tn fun _ _ h => h
      exact ⟨hp, hl, own_grown hw2 ht2 fun k hk => hX hw2 hk⟩
end
set_option maxRecDepth 100000 in
set_option maxHeartbeats 16000000 in
theorem lwitness_any (l : List Ev) (ps : List (List Wr)) (B : Option Addr) (cap2 : Nat) (w : World) (hE : InE w B cap2 l ps) :
    Calls Try.prog 13 #[.slice B l.length cap2] w fun r w' => ∃ L B c, r = .returned (.slice B L.length c) ∧ Os w w' l ps L B c ∧ ((Right l ∧ L.length = (wit l).length) ∨ (¬ Right l ∧ L = [])) := by
  have hll : l.length ≤ 200 := hE.few.len
  have hwl : (wit l).length ≤ 200 := Nat.le_trans (witF_length l l.length) hll
  have C21 := Lib.hid (check_any l B cap2 w hE.row hE.ids (by omega))
  have HR := Lib.hid hE
  clear hE
  go_enter Try.func13, Try.ntmps13
  go_upto_if 14 with (go_at_call 21; refine C21.out.mono ?_; rintro e w1 ⟨at_, code, rfl, hc, ht⟩; have H1 := Lib.hid (And.intro hc ht); clear hc ht)
  clear C21
  by_cases hz : code = 0
  · subst hz
    have hrt : Right l := by
      rcases H1.out.1 with ⟨h, _⟩ | ⟨n, _, _, h⟩
      · exact h
      · cases h
    have HRT := Lib.hid hrt
    clear hrt
    have C29 := Lib.hid (wit_any l HRT.out B cap2 w1 (HR.out.row.no H1.out.2) HR.out.ids (by omega))
    go_upto_region 6 with (go_at_call 29; refine C29.out.mono ?_; rintro e w3 ⟨Bt, ct, rfl, ho, ht⟩; have H3 := Lib.hid (And.intro ho ht); clear ho ht)
    have HL0 : Hid (Os w w3 l ps [] none 0 ∧ w3.ownsRow w.heap.size 56 12 (.slice Bt (wit l).length ct) (wit l).length (tcs (wit l))) := Lib.hid ⟨⟨H1.out.2.trans H3.out.2, World.ownsRow_nil _ _ _ _, fun j x t hx => by simp at hx⟩, H3.out.1.mono H1.out.2.size⟩
    clear C29 H3 H1
    go_wp2_with fail
    go_loopw [5, 18] (fun s x wr => ∃ (i : Nat) (L : List Opx) (B : Option Addr) (c : Nat), i ≤ (wit l).length ∧ x = .int .i64 (i : Int) ∧ s = .slice B i c ∧ L.length = i ∧ Hid (Os w wr l ps L B c ∧ wr.ownsRow w.heap.size 56 12 (.slice Bt (wit l).length ct) (wit l).length (tcs (wit l)))) (fun _ x _ => (wit l).length - (RowKit.intOf x).toNat)
    case atStart => exact ⟨0, [], none, 0, Nat.zero_le _, rfl, rfl, rfl, HL0⟩
    case round =>
      obtain ⟨i, L, Bo, co, hi, rfl, rfl, hLl, HP⟩ := hrel
      clear HL0
      by_cases hlt : i < (wit l).length
      · obtain ⟨t, ht⟩ : ∃ t, (wit l)[i]? = some t := ⟨(wit l)[i], List.getElem?_eq_getElem hlt⟩
        have HT := Lib.hid ht
        obtain ⟨b, off, hA, hb, hx⟩ := (row_of_own HP.out.2).tk ht
        have tn : Turn No wr (wr.alloc (.cells t.cs.toArray 56)) := (Turn.refl _ _).alloc _
        have HN : Hid (Os w (wr.alloc (.cells t.cs.toArray 56)) l ps L Bo co ∧ (wr.alloc (.cells t.cs.toArray 56)).ownsRow w.heap.size 56 12 (.slice Bt (wit l).length ct) (wit l).length (tcs (wit l)) ∧ At (wr.alloc (.cells t.cs.toArray 56)) wr.heap.size (.cells t.cs.toArray 56 (0, 0))) := Lib.hid ⟨HP.out.1.no tn, own_grown HP.out.2 tn (fun _ _ h => h), At.new _ _⟩
        have hop := wit_op ht
        have hrow := stP_row HR.out.rws t.id
        have hfw := HR.out.few.st HR.out.rws.len t.id
        have hpu := stP_pure l t.id
        rw [← hop] at hrow hpu
        rw [← hpu] at hfw
        have hff := few_fit hfw
        have CL := Lib.hid fun (W : World) (tw : Turn No w W) => clol_any t.op.kind t.op.k t.op.v t.op.o t.op.had t.op.aft t.op.A t.op.len t.op.cap (stW l ps t.id) hff.1.1 hff.1.2.1 hff.1.2.2 hff.2 hrow.2.symm (by have := hfw.n; have := hrow.2; omega) W (hrow.1.no tw)
        have HPU := Lib.hid (And.intro hpu hrow.2)
        clear hop hrow hfw hpu hff
        obtain ⟨tat, tid, ⟨ok, k, v, o, had, aft, A0, len, cap0⟩, ⟨code, found, ak, av⟩⟩ := t
        have hr1 : wr.rangeAt b (off + i * 12) [.int .i64 tat, .int .u8 ok, .string k, .string v, .string o, .bool had, .bool aft, .slice A0 len cap0, .int .i64 code, .bool found, .string ak, .string av] := hx
        simp only [Tk.cs, Opx.cs, Ans.cs, List.cons_append, List.nil_append] at HN
        simp only at CL HPU
        subst hA
        clear hx tn HP hb ht
        go_upto_region 8 with (refine wpList_load_mid rfl 56 _ rfl b (off + i * 12) rfl [.int .i64 tat, .int .u8 ok, .string k, .string v, .string o, .bool had, .bool aft, .slice A0 len cap0, .int .i64 code, .bool found, .string ak, .string av] _ hr1 Try.underlying56 rfl info56 ?_)
        clear hr1
        generalize wr.alloc (.cells #[.int .i64 tat, .int .u8 ok, .string k, .string v, .string o, .bool had, .bool aft, .slice A0 len cap0, .int .i64 code, .bool found, .string ak, .string av] 56) = w6 at HN ⊢
        generalize wr.heap.size = g at HN ⊢
        have e1 := HN.out.2.2.cell 1
        have e2 := HN.out.2.2.cell 2
        have e3 := HN.out.2.2.cell 3
        have e4 := HN.out.2.2.cell 4
        have e5 := HN.out.2.2.cell 5
        have e6 := HN.out.2.2.cell 6
        have e7 := HN.out.2.2.cell 7
        simp at e1 e2 e3 e4 e5 e6 e7
        have CL6 := Lib.hid (CL.out w6 HN.out.1.tu)
        clear CL
        go_wp2_with (first | (go_at_call 37; refine CL6.out.mono ?_; rintro e w7 ⟨B7, c7, rfl, ht7, ho7⟩; have H7 := Lib.hid (And.intro (HN.out.1.no ht7) (And.intro (own_grown HN.out.2.1 ht7 (fun _ _ h => h)) (ho7.mono HN.out.1.tu.size))); clear ht7 ho7; obtain ⟨B9, c9, w9, q, hq, tq⟩ := H7.out.1.app (x := ⟨ok, k, v, o, had, aft, B7, len, c7⟩) (t := ⟨tat, tid, ⟨ok, k, v, o, had, aft, A0, len, cap0⟩, ⟨code, found, ak, av⟩⟩) (by omega) (by rw [hLl]; exact HT.out) HPU.out.1 HPU.out.2 H7.out.2.2; have HQ := Lib.hid (And.intro hq tq); clear hq tq; rw [hLl] at q; simp only [Opx.cs] at q) | (at_builtin; refine wpList_append_run rfl _ _ 29 rfl _ _ _ rfl rfl q ?_))
        have HQ2 : Hid (w9.ownsRow w.heap.size 56 12 (.slice (some ⟨b, off, none⟩) (wit l).length ct) (wit l).length (tcs (wit l))) := Lib.hid (by
          have h2 := own_grown H7.out.2.1 ((Turn.refl No w7).alloc (.cells (Opx.cs ⟨ok, k, v, o, had, aft, B7, len, c7⟩).toArray 34)) (fun _ _ h => h)
          refine own_grown h2 HQ.out.2 fun j hj e => ?_
          rw [own_ablk] at e hj
          obtain ⟨_, cur, hc⟩ := own_at (H7.out.1.no ((Turn.refl No w7).alloc (.cells (Opx.cs ⟨ok, k, v, o, had, aft, B7, len, c7⟩).toArray 34))).row e
          obtain ⟨_, cur2, hc2⟩ := own_at h2 hj
          have := hc.eq hc2
          injection this with _ e2 _
          exact absurd e2 (by decide))
        exact ⟨⟨i + 1, L ++ [⟨ok, k, v, o, had, aft, B7, len, c7⟩], B9, c9, by omega, by go_num, rfl, by simp [hLl], Lib.hid ⟨HQ.out.1, HQ2.out⟩⟩, by simp [RowKit.intOf]; omega⟩
      · obtain rfl : i = (wit l).length := by omega
        go_wp2_with fail
        go_ret
        exact ⟨L, Bo, co, by rw [hLl]; rfl, HP.out.1, .inl ⟨HRT.out, hLl⟩⟩
  · have hz1 : (code == 0) = false := by simpa using hz
    have hz2 : (code != 0) = true := by simpa using hz
    have HNR : Hid (¬ Right l) := Lib.hid fun hr => hz ((H1.out.1.of_right hr).2)
    clear hz
    go_wp2_with fail
    go_ret
    exact ⟨[], none, 0, rfl, ⟨H1.out.2, World.ownsRow_nil _ _ _ _, fun j x t hx => by simp at hx⟩, .inr ⟨HNR.out, rfl⟩⟩
end Go.Proofs.Ytllppkfeiifklaa
namespace Go.Proofs.Ytllppkfeiifklaa
open Go.RowKit Go.Lib
set_option linter.unusedVariables false
set_option maxRecDepth 20000
set_option linter.unusedSimpArgs false

theorem inp0 (w : World) : InP w none 0 0 [] := ⟨rfl, by decide, Row.nil _ _, fun x hx => (by simp at hx), fun _ => rfl⟩
theorem sm_some (b : Bool) : SomeP (smL b) smW [] := by
  refine ⟨sm_right b, by cases b <;> decide, ?_⟩
  rw [sm_surv, sm_near]
  cases b
  · exact sm_pr_f
  · exact sm_pr_t
section
variable {w : World} {g : Nat}
theorem chk_t (h : At w g (.cells (ecs (smL true)).toArray 40 (0, 0))) : Calls Try.prog 11 #[.slice none 0 0, .slice (some ⟨g, 0, none⟩) 6 6] w fun e w' => e = .returned (.tuple #[.int .i64 (-1), .int .i64 0]) ∧ Turn No w w' := by
  refine (lcheck_any [] none 0 (smL true) smW (some ⟨g, 0, none⟩) 6 w (inp0 w) (by decide) (small_in true h)).mono ?_
  rintro e w' ⟨⟨a, c, rfl, hl⟩, ht⟩
  obtain ⟨rfl, rfl⟩ := hl.uniq (.inr ⟨sm_right true, sm_lin_t⟩)
  exact ⟨rfl, ht⟩
theorem chk_f (h : At w g (.cells (ecs (smL false)).toArray 40 (0, 0))) : Calls Try.prog 11 #[.slice none 0 0, .slice (some ⟨g, 0, none⟩) 6 6] w fun e w' => e = .returned (.tuple #[.int .i64 3, .int .i64 32]) ∧ Turn No w w' := by
  refine (lcheck_any [] none 0 (smL false) smW (some ⟨g, 0, none⟩) 6 w (inp0 w) (by decide) (small_in false h)).mono ?_
  rintro e w' ⟨⟨a, c, rfl, hl⟩, ht⟩
  obtain ⟨rfl, rfl⟩ := hl.uniq (.inr ⟨sm_right false, sm_lin_f⟩)
  exact ⟨rfl, ht⟩
theorem som_b (b : Bool) (h : At w g (.cells (ecs (smL b)).toArray 40 (0, 0))) : Calls Try.prog 19 #[.slice none 0 0, .slice (some ⟨g, 0, none⟩) 6 6] w fun e w' => e = .returned (.bool true) ∧ Turn No w w' := by
  refine (some_any [] none 0 (smL b) smW (some ⟨g, 0, none⟩) 6 w (inp0 w) (by decide) (small_in b h)).mono ?_
  intro e w' hres
  obtain ⟨r, rfl, hi, ht⟩ := hres
  rw [hi.2 (sm_some b)]
  exact ⟨rfl, ht⟩
theorem aft_t (h : At w g (.cells (ecs (smL true)).toArray 40 (0, 0))) : Calls Try.prog 17 #[.slice none 0 0, .slice (some ⟨g, 0, none⟩) 6 6] w fun e w' => ∃ B c, e = .returned (.slice B 1 c) ∧ Turn No w w' := by
  refine (lafter_any [] none 0 (smL true) smW (some ⟨g, 0, none⟩) 6 w (inp0 w) (by decide) (small_in true h)).mono ?_
  rintro e w' ⟨X, B, c, rfl, _, ht, h⟩
  rcases h with ⟨_, rfl⟩ | ⟨h, _⟩
  · rw [sm_after]; exact ⟨B, c, rfl, ht⟩
  · exact absurd (sm_right true) h
theorem wit_t (h : At w g (.cells (ecs (smL true)).toArray 40 (0, 0))) : Calls Try.prog 13 #[.slice (some ⟨g, 0, none⟩) 6 6] w fun e w' => ∃ B c, e = .returned (.slice B 2 c) ∧ Turn No w w' := by
  refine (lwitness_any (smL true) smW (some ⟨g, 0, none⟩) 6 w (small_in true h)).mono ?_
  rintro e w' ⟨L, B, c, rfl, ho, h⟩
  rcases h with ⟨_, h⟩ | ⟨h, _⟩
  · rw [h, sm_wit]; exact ⟨B, c, rfl, ho.tu⟩
  · exact absurd (sm_right true) h
end
set_option maxHeartbeats 16000000 in
theorem wakes_any (w : World) : Calls Try.prog 10 #[] w fun e w' => e = .returned (.bool true) ∧ Turn No w w' := by
  have TT : Hid (Turn No w w) := Lib.hid (Turn.refl _ _)
  go_enter Try.func10, Try.ntmps10
  go_wp2_with (first
    | (go_at_call 27; (first | (with_reducible refine (small_any true _).mono ?_) | (with_reducible refine (small_any false _).mono ?_)); rintro e wa ⟨g, rfl, ha, ta⟩; have HA := Lib.hid ha; have TT := Lib.hid (TT.out.trans ta); clear ha ta)
    | (go_at_call 11; (first | (with_reducible refine (chk_t HA.out).mono ?_) | (with_reducible refine (chk_f HA.out).mono ?_)); rintro e wb ⟨rfl, tb⟩; have TT := Lib.hid (TT.out.trans tb); clear tb)
    | (go_at_call 19; (first | (with_reducible refine (som_b true HA.out).mono ?_) | (with_reducible refine (som_b false HA.out).mono ?_)); rintro e wc ⟨rfl, tc⟩; have TT := Lib.hid (TT.out.trans tc); clear tc)
    | (go_at_call 17; (with_reducible refine (aft_t HA.out).mono ?_); rintro e wd ⟨B, c, rfl, td⟩; have TT := Lib.hid (TT.out.trans td); clear td)
    | (go_at_call 13; (with_reducible refine (wit_t HA.out).mono ?_); rintro e we ⟨B, c, rfl, te⟩; have TT := Lib.hid (TT.out.trans te); clear te))
  go_ret
  exact ⟨rfl, TT.out⟩
end Go.Proofs.Ytllppkfeiifklaa
