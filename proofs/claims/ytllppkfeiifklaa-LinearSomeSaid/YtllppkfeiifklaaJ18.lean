/-
  The document's map: Without, With, Get, next, New, All, Refused; what is there in its Do.
-/
import Derived.Test.YtllppkfeiifklaaJ17
import Derived.Maps.AppendAt
import Derived.Laws.AppendOwnNone
import Derived.Deep.RegionLaw
import Derived.BigRegion
namespace Go.Proofs.Ytllppkfeiifklaa
open Go.RowKit Go.Lib
set_option linter.unusedVariables false
set_option maxRecDepth 20000
set_option linter.unusedSimpArgs false

/-- An append whose run is known; a structure, so that it is matched by its words alone. -/
structure AppRun (t ty : TypeId) (vs vx r : Value) (w w' : World) : Prop where
  out : (Builtin.append_ #[t, t] ty #[vs, vx]).run Try.prog w = .ok r w'
theorem step_append_run {w w' : World} {ops : Array Oper} {o : Oper} {a : Act} {K : Act → World → Prop} {Q : Exit → Act → World → Prop} {E : Prop} (hgd : o.guard = none) (s x : Operand) (t : TypeId)
    (ho : o.op = .call { callee := .builtin .append, args := #[s, x], argTypes := #[t, t] }) (vs vx r : Value) (hs : a.eval s = vs) (hx : a.eval x = vx) (hrun : AppRun t o.type vs vx r w w')
    (h : K (a.put o.dst r) w') : if Region.wanted o (yielded ops a.tmps) = true then Oper.wp Try.prog o a w K Q else E := by
  have hw : Region.wanted o (yielded ops a.tmps) = true := by simp [Region.wanted, hgd]
  rw [if_pos hw]
  unfold Oper.wp execOp
  simp only [ho, resolve, invoke, builtin, Sem.run_bind, Sem.run_pure, Result.andThen_ok, List.map_toArray, List.map_cons, List.map_nil, hs, hx, hrun.out]
  exact h
theorem wpList_append_run {w w' : World} {ops : Array Oper} {rest : List Oper} {o : Oper} {a : Act} {Q : Exit → Act → World → Prop} (hgd : o.guard = none) (s x : Operand) (t : TypeId)
    (ho : o.op = .call { callee := .builtin .append, args := #[s, x], argTypes := #[t, t] }) (vs vx r : Value) (hs : a.eval s = vs) (hx : a.eval x = vx) (hrun : AppRun t o.type vs vx r w w')
    (h : wpList Try.prog ops Q rest (a.put o.dst r) w') : wpList Try.prog ops Q (o :: rest) a w :=
  wpList_plain hgd fun K hK => by
    unfold Oper.wp execOp
    simp only [ho, resolve, invoke, builtin, Sem.run_bind, Sem.run_pure, Result.andThen_ok, List.map_toArray, List.map_cons, List.map_nil, hs, hx, hrun.out]
    exact hK _ _ h
theorem own_ne {w : World} {Z n : Nat} {v : Value} {xs : List Value} (h : w.ownsRow Z 47 2 v n xs) {g : Nat} {c : Array Value} {t : TypeId} {f : Nat × Nat} (hg : At w g (.cells c t f)) (ht : t ≠ 47) : v.ownBlock ≠ some g := by
  intro e
  rcases h.2 with ⟨hv, _⟩ | ⟨g', c', cur, hv, _, hg', _⟩
  · rw [hv] at e; cases e
  · rw [hv] at e
    injection e with e
    subst e
    have := hg.eq hg'
    injection this with _ e _
    exact ht e
/-- append(row, p): a pair behind a row of one's own. -/
theorem app_pair {w : World} {Z : Nat} {v : Value} {n : Nat} {l : List Pr} (h : w.ownsRow Z 47 2 v n (pcs l)) {vb : Nat} {p : Pr} (hp : At w vb (.cells #[.string p.k, .string p.v] 47 (0, 0))) (hn : n ≤ 100000) (hz : Z ≤ w.heap.size) (ty : TypeId) :
    ∃ B cap w', AppRun 22 ty v (.slice (some ⟨vb, 0, none⟩) 1 1) (.slice B (n + 1) cap) w w' ∧ w'.ownsRow Z 47 2 (.slice B (n + 1) cap) (n + 1) (pcs (l ++ [p])) ∧ Turn (fun i => v.ownBlock = some i) w w' := by
  obtain ⟨i0, hi, hz0, hz1, hz2⟩ := info_parts info50
  obtain ⟨v', w', hr, h2, h3, _, h5⟩ := run_append_own_at (P := Try.prog) w Z 22 ty 47 i0 _ 2 32 Try.underlying22 hi hz0 hz1 hz2 rfl (by decide) v n _ h ⟨vb, 0, none⟩ 1 1 p.cs rfl
    (fun j u hu => by rw [add_lit0, hp.cell, Nat.zero_add, show (#[Value.string p.k, Value.string p.v] : Array Value) = p.cs.toArray from rfl]; simpa using hu)
    (fun u hu => one_pcs [p] u (by simpa [pcs] using hu)) (by unfold maxLen; omega) (by omega) hz
  obtain ⟨B, cap, rfl⟩ := own_form h2
  refine ⟨B, cap, w', ⟨hr⟩, ?_, (Turn.refl _ w).grown h3 (fun k hk => Or.inl hk)⟩
  rw [pcs_append]
  simpa [pcs] using h2

/-- What is there in a Without. -/
structure Wo (w wr : World) (g2 g4 g5 : Nat) (A : Option Addr) (n cap : Nat) (out : List Pr) (m : Nat) (B : Option Addr) (c : Nat) : Prop where
  tu : Turn No w wr
  box : At wr g2 (.cells #[.slice A n cap] 60 (0, 0))
  res : At wr g4 (.cells #[.slice none 0 0] 60 (0, 0))
  cur : At wr g5 (.cells #[.slice B m c] 60 (0, 0))
  row : wr.ownsRow w.heap.size 47 2 (.slice B m c) m (pcs out)
  o4 : w.heap.size ≤ g4
  o5 : w.heap.size ≤ g5
  n2 : g2 ≠ g5
  n4 : g4 ≠ g5
  n24 : g2 ≠ g4
  hm : out.length = m
section
variable {w wr w2 : World} {g2 g4 g5 n cap m c : Nat} {A B : Option Addr} {out : List Pr}
theorem Wo.no (h : Wo w wr g2 g4 g5 A n cap out m B c) (t : Turn No wr w2) : Wo w w2 g2 g4 g5 A n cap out m B c :=
  ⟨h.tu.trans t, h.box.no t, h.res.no t, h.cur.no t, own_grown h.row t (fun _ _ h => h), h.o4, h.o5, h.n2, h.n4, h.n24, h.hm⟩
theorem Wo.app (h : Wo w wr g2 g4 g5 A n cap out m B c) {vb : Nat} {p : Pr} (hp : At wr vb (.cells #[.string p.k, .string p.v] 47 (0, 0))) (hn : m ≤ 100000) :
    ∃ B' c' w5, AppRun 22 22 (.slice B m c) (.slice (some ⟨vb, 0, none⟩) 1 1) (.slice B' (m + 1) c') wr w5 ∧ Wo w (w5.setCell ⟨g5, 0, none⟩ (.slice B' (m + 1) c')) g2 g4 g5 A n cap (out ++ [p]) (m + 1) B' c' ∧
      At w5 g5 (.cells #[.slice B m c] 60 (0, 0)) := by
  obtain ⟨B', c', w5, q, ho, ht⟩ := app_pair h.row hp hn h.tu.size 22
  have k2 := own_ne h.row h.box (by decide)
  have k4 := own_ne h.row h.res (by decide)
  have k5 := own_ne h.row h.cur (by decide)
  have hc5 : At w5 g5 _ := h.cur.turn ht k5
  refine ⟨B', c', w5, q, ?_, hc5⟩
  have t2 : Turn (fun i => i = g5) w5 (w5.setCell ⟨g5, 0, none⟩ (.slice B' (m + 1) c')) := Turn.set1 _ _ _ _
  have tn : Turn No w w5 := h.tu.then ht (fun i hi e => by have := (h.row.lt i e).1; omega)
  refine ⟨tn.then t2 (fun i hi e => by have := h.o5; omega), (h.box.turn ht k2).turn t2 h.n2, (h.res.turn ht k4).turn t2 h.n4, by simpa using hc5.set 0 (.slice B' (m + 1) c'), own_grown ho t2 (fun k hk e => ?_), h.o4, h.o5, h.n2, h.n4, h.n24, by rw [List.length_append, h.hm]; rfl⟩
  subst e
  exact own_ne ho hc5 (by decide) hk
end
theorem del_yes {l : List Pr} {j : Nat} {p : Pr} {key : ByteArray} (hj : l[j]? = some p) (h : p.k = key) : delL (l.take (j + 1)) key = delL (l.take j) key := by
  rw [List.take_add_one, hj]
  unfold delL
  simp [h]
theorem del_no {l : List Pr} {j : Nat} {p : Pr} {key : ByteArray} (hj : l[j]? = some p) (h : p.k ≠ key) : delL (l.take (j + 1)) key = delL (l.take j) key ++ [p] := by
  rw [List.take_add_one, hj]
  unfold delL
  simp [h]
theorem del_len (l : List Pr) (key : ByteArray) : (delL l key).length ≤ l.length := List.length_filter_le _ _

set_option maxHeartbeats 4000000 in
theorem without_any (l : List Pr) (A : Option Addr) (cap : Nat) (key : ByteArray) (w : World) (hR : Row w A (pcs l)) (hl : l.length ≤ 50000) :
    Calls Try.prog 77 #[.agg #[.slice A l.length cap], .string key] w fun e w' => ∃ B c, e = .returned (.agg #[.slice B (delL l key).length c]) ∧ w'.ownsRow w.heap.size 47 2 (.slice B (delL l key).length c) (delL l key).length (pcs (delL l key)) ∧ Turn No w w' := by
  have HS : Hid (Wo w (((w.alloc (.cells #[.slice A l.length cap] 60)).alloc (.cells #[.slice none 0 0] 60)).alloc (.cells #[.slice none 0 0] 60)) w.heap.size (w.heap.size + 1) (w.heap.size + 2) A l.length cap [] 0 none 0) := Lib.hid (by
    have t1 : Turn No w (w.alloc (.cells #[.slice A l.length cap] 60)) := (Turn.refl _ _).alloc _
    have t2 : Turn No (w.alloc (.cells #[.slice A l.length cap] 60)) ((w.alloc (.cells #[.slice A l.length cap] 60)).alloc (.cells #[.slice none 0 0] 60)) := (Turn.refl _ _).alloc _
    have t3 : Turn No ((w.alloc (.cells #[.slice A l.length cap] 60)).alloc (.cells #[.slice none 0 0] 60)) (((w.alloc (.cells #[.slice A l.length cap] 60)).alloc (.cells #[.slice none 0 0] 60)).alloc (.cells #[.slice none 0 0] 60)) := (Turn.refl _ _).alloc _
    refine ⟨(t1.trans t2).trans t3, ((At.new _ _).no t2).no t3, (At.new2 _ _ _).no t3, ?_, World.ownsRow_nil _ _ _ _, by omega, by omega, by omega, by omega, by omega, rfl⟩
    simpa using At.new ((w.alloc (.cells #[.slice A l.length cap] 60)).alloc (.cells #[.slice none 0 0] 60)) (.cells #[.slice none 0 0] 60))
  have HR := Lib.hid hR
  clear hR
  go_enter Try.func77, Try.ntmps77
  go_upto_region 2 with fail
  generalize ((w.alloc (.cells #[.slice A l.length cap] 60)).alloc (.cells #[.slice none 0 0] 60)).alloc (.cells #[.slice none 0 0] 60) = w1 at HS ⊢
  obtain ⟨g2, hg2⟩ : ∃ g, w.heap.size = g := ⟨_, rfl⟩
  have HG2 := Lib.hid hg2
  rw [hg2] at HS ⊢
  clear hg2
  obtain ⟨g4, hg4⟩ : ∃ g, g2 + 1 = g := ⟨_, rfl⟩
  obtain ⟨g5, hg5⟩ : ∃ g, g2 + 2 = g := ⟨_, rfl⟩
  rw [hg4, hg5] at HS
  (try rw [hg4]); (try rw [hg5]); (try rw [show g2 + 1 + 1 = g5 from hg5]); (try rw [show g4 + 1 = g5 by omega])
  clear hg4 hg5
  go_wp2_with fail
  go_loopw [6] (fun i wr => ∃ kk : Nat, kk ≤ l.length ∧ i = .int .i64 (kk : Int) ∧ Hid (∃ m B c, Wo w wr g2 g4 g5 A l.length cap (delL (l.take kk) key) m B c)) (fun i _ => l.length - (RowKit.intOf i).toNat)
  case atStart => exact ⟨0, Nat.zero_le _, rfl, Lib.hid ⟨0, none, 0, HS.out⟩⟩
  case round =>
    obtain ⟨kk, hk, rfl, HP⟩ := hrel
    clear HS
    obtain ⟨m, B, c, hwo⟩ := HP.out
    have HW := Lib.hid hwo
    clear hwo HP
    have b0 := HW.out.box.cell 0
    have c0 := HW.out.cur.cell 0
    have r0 := HW.out.res.cell 0
    have rf := HW.out.res.thawed 0
    simp at b0 c0 r0
    by_cases hlt : kk < l.length
    · obtain ⟨p, hp⟩ : ∃ p, l[kk]? = some p := ⟨l[kk], List.getElem?_eq_getElem hlt⟩
      obtain ⟨b, off, hA, hb, x0, x1⟩ := (HR.out.no HW.out.tu).pair hp
      have hm : m ≤ kk := by have h1 := HW.out.hm; have h2 := del_len (l.take kk) key; rw [List.length_take] at h2; omega
      have HX : Hid ((p.k = key → delL (l.take (kk + 1)) key = delL (l.take kk) key) ∧ (p.k ≠ key → delL (l.take (kk + 1)) key = delL (l.take kk) key ++ [p])) := Lib.hid ⟨del_yes hp, del_no hp⟩
      have qe := bytes_beq p.k key
      obtain ⟨pk, pv⟩ := p
      simp only at x0 x1 qe
      subst hA
      clear hb hp r0 rf
      by_cases he : pk = key
      · have HE := Lib.hid (HX.out.1 he)
        rw [decide_eq_true he] at qe
        have qn : (pk.toList != key.toList) = false := by rw [bne, qe]; rfl
        clear he HX
        go_wp2_with fail
        exact ⟨⟨kk + 1, by omega, by go_num, by rw [HE.out]; exact Lib.hid ⟨m, B, c, HW.out⟩⟩, by simp [RowKit.intOf]; omega⟩
      · have HE := Lib.hid (HX.out.2 he)
        rw [decide_eq_false he] at qe
        have qn : (pk.toList != key.toList) = true := by rw [bne, qe]; rfl
        have tn : Turn No wr (wr.alloc (.cells #[.string pk, .string pv] 47)).drew := ((Turn.refl _ _).alloc _).drew
        have hq0 : (0 : Int) ≤ (kk : Int) := by omega
        have hq1 : (kk : Int) < (l.length : Int) := by omega
        obtain ⟨B2, c2, w5, q, hw2, h5⟩ := (HW.out.no tn).app (p := ⟨pk, pv⟩) (vb := wr.heap.size) (At.new wr _) (by omega)
        have HN := Lib.hid hw2
        have y0 := h5.cell 0
        have yf := h5.thawed 0
        simp at y0
        have tn2 : Turn No wr (wr.alloc (.cells #[.string pk, .string pv] 47)) := (Turn.refl _ _).alloc _
        have b1 := (HW.out.box.no tn2).cell 0
        have c1 := (HW.out.cur.no tn2).cell 0
        simp at b1 c1
        clear he HX tn tn2 hw2 h5
        go_upto_region 6 with fail
        go_region_law ((refine step_append_run (by rfl) _ _ 22 (by rfl) _ _ _ (by rfl) (by rfl) q ?_))
        all_goals go_wp2_with fail
        all_goals exact ⟨⟨kk + 1, by omega, by go_num, by rw [HE.out]; exact Lib.hid ⟨m + 1, B2, c2, HN.out⟩⟩, by simp [RowKit.intOf]; omega⟩
    · obtain rfl : kk = l.length := by omega
      have hr := HW.out
      rw [List.take_length] at hr
      have HZ : Hid (Turn No w (wr.setCell ⟨g4, 0, none⟩ (.slice B m c)) ∧ At (wr.setCell ⟨g4, 0, none⟩ (.slice B m c)) g4 (.cells #[.slice B m c] 60 (0, 0)) ∧ (delL l key).length = m ∧ (wr.setCell ⟨g4, 0, none⟩ (.slice B m c)).ownsRow w.heap.size 47 2 (.slice B m c) m (pcs (delL l key))) := Lib.hid (by
        have t2 : Turn (fun i => i = g4) wr (wr.setCell ⟨g4, 0, none⟩ (.slice B m c)) := Turn.set1 _ _ _ _
        refine ⟨hr.tu.then t2 (fun i hi e => by have := hr.o4; omega), by simpa using hr.res.set 0 (.slice B m c), hr.hm, own_grown hr.row t2 (fun k hk e => ?_)⟩
        subst e
        exact own_ne hr.row hr.res (by decide) hk)
      clear hr HW
      go_wp2_with fail
      generalize wr.setCell ⟨g4, 0, none⟩ (.slice B m c) = w9 at HZ ⊢
      (try simp only [Exit.inBlock, Exit.then])
      refine bodyPost_ret (results_cell_row rfl _ _ g4 60 _ (0, 0) _ (by rfl) HZ.out.2.1 Try.underlying60 rfl (by kernel_rfl)) rfl ?_
      exact ⟨B, c, by rw [HZ.out.2.2.1], by rw [HZ.out.2.2.1]; exact HZ.out.2.2.2, HZ.out.1⟩

theorem with_len (l : List Pr) (k v : ByteArray) : (withL l k v).length = (delL l k).length + 1 := by unfold withL; rw [List.length_append]; rfl
set_option maxHeartbeats 4000000 in
theorem with_any (l : List Pr) (A : Option Addr) (cap : Nat) (key v : ByteArray) (w : World) (hR : Row w A (pcs l)) (hl : l.length ≤ 50000) :
    Calls Try.prog 72 #[.agg #[.slice A l.length cap], .string key, .string v] w fun e w' => ∃ B c, e = .returned (.agg #[.slice B (withL l key v).length c]) ∧ w'.ownsRow w.heap.size 47 2 (.slice B (withL l key v).length c) (withL l key v).length (pcs (withL l key v)) ∧ Turn No w w' := by
  have HS : Hid (Turn No w ((w.alloc (.cells #[.slice A l.length cap] 60)).alloc (.cells #[.slice none 0 0] 60)) ∧ At ((w.alloc (.cells #[.slice A l.length cap] 60)).alloc (.cells #[.slice none 0 0] 60)) w.heap.size (.cells #[.slice A l.length cap] 60 (0, 0)) ∧ At ((w.alloc (.cells #[.slice A l.length cap] 60)).alloc (.cells #[.slice none 0 0] 60)) (w.heap.size + 1) (.cells #[.slice none 0 0] 60 (0, 0))) := Lib.hid (by
    have t1 : Turn No w (w.alloc (.cells #[.slice A l.length cap] 60)) := (Turn.refl _ _).alloc _
    have t2 : Turn No (w.alloc (.cells #[.slice A l.length cap] 60)) ((w.alloc (.cells #[.slice A l.length cap] 60)).alloc (.cells #[.slice none 0 0] 60)) := (Turn.refl _ _).alloc _
    exact ⟨t1.trans t2, (At.new _ _).no t2, At.new2 _ _ _⟩)
  have CC := Lib.hid fun (W : World) (t : Turn No w W) => without_any l A cap key W (hR.no t) hl
  have HL := Lib.hid (Nat.le_trans (del_len l key) hl)
  clear hR
  go_enter Try.func72, Try.ntmps72
  go_upto_region 1 with fail
  generalize (w.alloc (.cells #[.slice A l.length cap] 60)).alloc (.cells #[.slice none 0 0] 60) = w1 at HS ⊢
  obtain ⟨g3, hg3⟩ : ∃ g, w.heap.size = g := ⟨_, rfl⟩
  have HG3 := Lib.hid hg3
  rw [hg3] at HS ⊢
  clear hg3
  obtain ⟨g6, hg6⟩ : ∃ g, g3 + 1 = g := ⟨_, rfl⟩
  have HG6 := Lib.hid hg6
  rw [hg6] at HS ⊢
  clear hg6
  have b0 := HS.out.2.1.cell 0
  simp at b0
  have CA := Lib.hid (CC.out w1 HS.out.1)
  clear CC
  go_upto_region 2 with (go_at_call 77; refine CA.out.mono ?_; rintro e w2 ⟨B, c, rfl, ho, ht⟩; have H2 := Lib.hid (And.intro ho ht); clear ho ht)
  have HW : Hid (Wo w (w2.alloc (.cells #[.slice B (delL l key).length c] 60)) g3 g6 w2.heap.size A l.length cap (delL l key) (delL l key).length B c) := Lib.hid (by
    have t2 : Turn No w2 (w2.alloc (.cells #[.slice B (delL l key).length c] 60)) := (Turn.refl _ _).alloc _
    have e3 := HG3.out
    have e6 := HG6.out
    have l1 := HS.out.2.2.lt
    have l2 := H2.out.2.size
    have ho : (w2.alloc (.cells #[.slice B (delL l key).length c] 60)).ownsRow w.heap.size 47 2 (.slice B (delL l key).length c) (delL l key).length (pcs (delL l key)) := (own_grown H2.out.1 t2 (fun _ _ h => h)).mono HS.out.1.size
    exact ⟨(HS.out.1.trans H2.out.2).trans t2, (HS.out.2.1.no H2.out.2).no t2, (HS.out.2.2.no H2.out.2).no t2, At.new _ _, ho, by omega, by omega, by omega, by omega, by omega, rfl⟩)
  clear CA H2 HS b0
  generalize w2.alloc (.cells #[.slice B (delL l key).length c] 60) = w3 at HW ⊢
  generalize w2.heap.size = g7 at HW ⊢
  obtain ⟨D, hD⟩ : ∃ D, delL l key = D := ⟨_, rfl⟩
  have HD := Lib.hid hD
  rw [hD] at HW HL ⊢
  clear hD
  have tn : Turn No w3 (w3.alloc (.cells #[.string key, .string v] 47)) := (Turn.refl _ _).alloc _
  obtain ⟨B2, c2, w5, q, hw2, h5⟩ := (HW.out.no tn).app (p := ⟨key, v⟩) (vb := w3.heap.size) (At.new w3 _) (by have := HL.out; omega)
  have HN := Lib.hid hw2
  have b0 := HW.out.cur.cell 0
  have y0 := h5.cell 0
  have yf := h5.thawed 0
  simp at y0 b0
  clear tn hw2 h5
  go_upto_region 3 with (at_builtin; refine wpList_append_run rfl _ _ 22 rfl _ _ _ rfl rfl q ?_)
  clear b0 y0 yf q HW
  generalize w5.setCell ⟨g7, 0, none⟩ (.slice B2 (D.length + 1) c2) = w6 at HN ⊢
  have b0 := HN.out.cur.cell 0
  have r0 := HN.out.res.cell 0
  have rf := HN.out.res.thawed 0
  simp at b0 r0
  have HZ : Hid (Turn No w (w6.setCell ⟨g6, 0, none⟩ (.slice B2 (D.length + 1) c2)) ∧ At (w6.setCell ⟨g6, 0, none⟩ (.slice B2 (D.length + 1) c2)) g6 (.cells #[.slice B2 (D.length + 1) c2] 60 (0, 0)) ∧ (w6.setCell ⟨g6, 0, none⟩ (.slice B2 (D.length + 1) c2)).ownsRow w.heap.size 47 2 (.slice B2 (D.length + 1) c2) (D.length + 1) (pcs (D ++ [⟨key, v⟩]))) := Lib.hid (by
    have hr := HN.out
    have t2 : Turn (fun i => i = g6) w6 (w6.setCell ⟨g6, 0, none⟩ (.slice B2 (D.length + 1) c2)) := Turn.set1 _ _ _ _
    refine ⟨hr.tu.then t2 (fun i hi e => by have := hr.o4; omega), by simpa using hr.res.set 0 (.slice B2 (D.length + 1) c2), own_grown hr.row t2 (fun k hk e => ?_)⟩
    subst e
    exact own_ne hr.row hr.res (by decide) hk)
  clear HN
  go_wp2_with fail
  generalize w6.setCell ⟨g6, 0, none⟩ (.slice B2 (D.length + 1) c2) = w9 at HZ ⊢
  (try simp only [Exit.inBlock, Exit.then])
  refine bodyPost_ret (results_cell_row rfl _ _ g6 60 _ (0, 0) _ (by rfl) HZ.out.2.1 Try.underlying60 rfl (by kernel_rfl)) rfl ?_
  have e1 : (withL l key v).length = D.length + 1 := by rw [with_len, HD.out]
  have e2 : withL l key v = D ++ [⟨key, v⟩] := by unfold withL; rw [HD.out]
  exact ⟨B2, c2, by rw [e1], by rw [e1, e2]; exact HZ.out.2.2, HZ.out.1⟩

set_option maxHeartbeats 2000000 in
theorem rget_any (l : List Pr) (A : Option Addr) (cap : Nat) (key : ByteArray) (w : World) (hR : Row w A (pcs l)) (hl : l.length ≤ 50000) :
    Calls Try.prog 76 #[.agg #[.slice A l.length cap], .string key] w fun e w' => e = .returned (.tuple #[.string ((getL l key).getD ⟨#[]⟩), .bool (getL l key).isSome]) ∧ Turn No w w' := by
  have HB : Hid (Turn No w (w.alloc (.cells #[.slice A l.length cap] 60)) ∧ At (w.alloc (.cells #[.slice A l.length cap] 60)) w.heap.size (.cells #[.slice A l.length cap] 60 (0, 0))) := Lib.hid ⟨(Turn.refl _ _).alloc _, At.new _ _⟩
  have HR := Lib.hid hR
  clear hR
  obtain ⟨r, hr⟩ : ∃ r, getL l key = r := ⟨_, rfl⟩
  have HN := Lib.hid hr
  rw [hr]
  clear hr
  go_enter Try.func76, Try.ntmps76
  go_upto_region 1 with fail
  generalize w.alloc (.cells #[.slice A l.length cap] 60) = w1 at HB ⊢
  generalize w.heap.size = g at HB ⊢
  have y0 := HB.out.2.cell 0
  simp at y0
  go_wp2_with fail
  go_loopw [6] (fun i wr => ∃ kk : Nat, kk ≤ l.length ∧ i = .int .i64 (kk : Int) ∧ wr = w1 ∧ Hid (getL (l.take kk) key = none)) (fun i _ => l.length - (RowKit.intOf i).toNat)
  case atStart => exact ⟨0, Nat.zero_le _, rfl, rfl, Lib.hid rfl⟩
  case round =>
    obtain ⟨kk, hm, rfl, rfl, HP⟩ := hrel
    by_cases hlt : kk < l.length
    · obtain ⟨x, hx⟩ : ∃ x, l[kk]? = some x := ⟨l[kk], List.getElem?_eq_getElem hlt⟩
      obtain ⟨b, off, hA, hb, x0, x1⟩ := (HR.out.no HB.out.1).pair hx
      have HX : Hid ((x.k ≠ key → getL (l.take (kk + 1)) key = none) ∧ (x.k = key → r = some x.v)) := Lib.hid ⟨fun e => by
          rw [List.take_add_one, hx, get_append, HP.out]
          simp [getL, e], fun e => by
          rw [← HN.out, ← List.take_append_drop kk l, get_append, HP.out, drop_cons hx]
          simp [getL, e]⟩
      obtain ⟨xk, xv⟩ := x
      simp only at x0 x1
      have qe := bytes_beq xk key
      subst hA
      clear hb hx HP
      by_cases he : xk = key
      · have hr := HX.out.2 he
        rw [decide_eq_true he] at qe
        subst hr
        clear he HX
        go_wp2_with fail
        go_ret2
        exact ⟨rfl, HB.out.1⟩
      · have HE := Lib.hid (HX.out.1 he)
        rw [decide_eq_false he] at qe
        clear he HX
        go_wp2_with fail
        exact ⟨⟨kk + 1, by omega, by go_num, trivial, HE⟩, by simp [RowKit.intOf]; omega⟩
    · obtain rfl : kk = l.length := by omega
      have hr : r = none := by
        have := HP.out
        rw [List.take_length] at this
        rw [← HN.out, this]
      subst hr
      go_wp2_with fail
      go_ret2
      exact ⟨rfl, HB.out.1⟩

/-- What is there in a next. -/
structure Nx (w wr : World) (g3 g6 g7 : Nat) (A : Option Addr) (n cap : Nat) (a : Ans) : Prop where
  tu : Turn No w wr
  box : At wr g3 (.cells #[.slice A n cap] 60 (0, 0))
  res : At wr g6 (.cells #[.int .i64 0, .bool false, .string ⟨#[]⟩, .string ⟨#[]⟩] 38 (0, 0))
  cur : At wr g7 (.cells #[.int .i64 a.code, .bool a.found, .string a.k, .string a.v] 38 (0, 0))
  o6 : w.heap.size ≤ g6
  o7 : w.heap.size ≤ g7
  n3 : g3 ≠ g7
  n6 : g6 ≠ g7
section
variable {w wr w2 : World} {g3 g6 g7 n cap : Nat} {A : Option Addr} {a : Ans}
theorem Nx.no (h : Nx w wr g3 g6 g7 A n cap a) (t : Turn No wr w2) : Nx w w2 g3 g6 g7 A n cap a :=
  ⟨h.tu.trans t, h.box.no t, h.res.no t, h.cur.no t, h.o6, h.o7, h.n3, h.n6⟩
theorem Nx.put (h : Nx w wr g3 g6 g7 A n cap a) (b : Ans) : Nx w ((((wr.setCell ⟨g7, 0, none⟩ (.int .i64 b.code)).setCell ⟨g7, 1, none⟩ (.bool b.found)).setCell ⟨g7, 2, none⟩ (.string b.k)).setCell ⟨g7, 3, none⟩ (.string b.v)) g3 g6 g7 A n cap b := by
  have t := turn4 wr g7 0 1 2 3 (.int .i64 b.code) (.bool b.found) (.string b.k) (.string b.v)
  refine ⟨h.tu.then t (fun i hi e => by have := h.o7; omega), h.box.turn t h.n3, h.res.turn t h.n6, ?_, h.o6, h.o7, h.n3, h.n6⟩
  simpa using (((h.cur.set 0 (.int .i64 b.code)).set 1 (.bool b.found)).set 2 (.string b.k)).set 3 (.string b.v)
theorem Nx.fin (h : Nx w wr g3 g6 g7 A n cap a) : Turn No w ((((wr.setCell ⟨g6, 0, none⟩ (.int .i64 a.code)).setCell ⟨g6, 1, none⟩ (.bool a.found)).setCell ⟨g6, 2, none⟩ (.string a.k)).setCell ⟨g6, 3, none⟩ (.string a.v)) ∧
    At ((((wr.setCell ⟨g6, 0, none⟩ (.int .i64 a.code)).setCell ⟨g6, 1, none⟩ (.bool a.found)).setCell ⟨g6, 2, none⟩ (.string a.k)).setCell ⟨g6, 3, none⟩ (.string a.v)) g6 (.cells #[.int .i64 a.code, .bool a.found, .string a.k, .string a.v] 38 (0, 0)) := by
  have t := turn4 wr g6 0 1 2 3 (.int .i64 a.code) (.bool a.found) (.string a.k) (.string a.v)
  refine ⟨h.tu.then t (fun i hi e => by have := h.o6; omega), ?_⟩
  simpa using (((h.res.set 0 (.int .i64 a.code)).set 1 (.bool a.found)).set 2 (.string a.k)).set 3 (.string a.v)
end
theorem best_step {l : List Pr} {kk : Nat} {p : Pr} (hp : l[kk]? = some p) {key : ByteArray} {aft : Bool} {a : Ans} (h : Best (l.take kk) key aft a) :
    (okB key aft p = false → Best (l.take (kk + 1)) key aft a) ∧ (okB key aft p = true → (a.found = false ∨ kl p.k a.k) → Best (l.take (kk + 1)) key aft ⟨0, true, p.k, p.v⟩) ∧ (a.found = true → ¬ kl p.k a.k → Best (l.take (kk + 1)) key aft a) := by
  rw [List.take_add_one, hp]
  exact ⟨fun e => h.skip e, fun e e2 => h.take e e2, fun e e2 => h.keep e e2⟩
theorem best_fit {l : List Pr} {key : ByteArray} {aft : Bool} {a : Ans} (h : Best l key aft a) (hf : ∀ p ∈ l, Fit p.k ∧ Fit p.v) : Fit a.k := by
  rcases h with ⟨e, h⟩ | ⟨q, hq, ho, e, h⟩
  · rw [e]; exact fitS _ (by decide)
  · rw [e]; exact (hf q hq).1
set_option maxRecDepth 100000 in
set_option maxHeartbeats 8000000 in
theorem rnext_best (l : List Pr) (A : Option Addr) (cap : Nat) (key : ByteArray) (aft : Bool) (w : World) (hR : Row w A (pcs l)) (hl : l.length ≤ 50000) (hf : ∀ p ∈ l, Fit p.k ∧ Fit p.v) (hkf : Fit key) :
    Calls Try.prog 78 #[.agg #[.slice A l.length cap], .string key, .bool aft] w fun e w' => (∃ a, e = .returned (.agg #[.int .i64 a.code, .bool a.found, .string a.k, .string a.v]) ∧ Best l key aft a) ∧ Turn No w w' := by
  have HS : Hid (Nx w (((w.alloc (.cells #[.slice A l.length cap] 60)).alloc (.cells #[.int .i64 0, .bool false, .string ⟨#[]⟩, .string ⟨#[]⟩] 38)).alloc (.cells #[.int .i64 0, .bool false, .string ⟨#[]⟩, .string ⟨#[]⟩] 38)) w.heap.size (w.heap.size + 1) (w.heap.size + 2) A l.length cap ⟨0, false, ⟨#[]⟩, ⟨#[]⟩⟩) := Lib.hid (by
    have t1 : Turn No w (w.alloc (.cells #[.slice A l.length cap] 60)) := (Turn.refl _ _).alloc _
    have t2 : Turn No (w.alloc (.cells #[.slice A l.length cap] 60)) ((w.alloc (.cells #[.slice A l.length cap] 60)).alloc (.cells #[.int .i64 0, .bool false, .string ⟨#[]⟩, .string ⟨#[]⟩] 38)) := (Turn.refl _ _).alloc _
    have t3 : Turn No ((w.alloc (.cells #[.slice A l.length cap] 60)).alloc (.cells #[.int .i64 0, .bool false, .string ⟨#[]⟩, .string ⟨#[]⟩] 38)) (((w.alloc (.cells #[.slice A l.length cap] 60)).alloc (.cells #[.int .i64 0, .bool false, .string ⟨#[]⟩, .string ⟨#[]⟩] 38)).alloc (.cells #[.int .i64 0, .bool false, .string ⟨#[]⟩, .string ⟨#[]⟩] 38)) := (Turn.refl _ _).alloc _
    refine ⟨(t1.trans t2).trans t3, ((At.new _ _).no t2).no t3, (At.new2 _ _ _).no t3, ?_, by omega, by omega, by omega, by omega⟩
    simpa using At.new ((w.alloc (.cells #[.slice A l.length cap] 60)).alloc (.cells #[.int .i64 0, .bool false, .string ⟨#[]⟩, .string ⟨#[]⟩] 38)) (.cells #[.int .i64 0, .bool false, .string ⟨#[]⟩, .string ⟨#[]⟩] 38))
  have HR := Lib.hid (And.intro hR (And.intro hf hkf))
  clear hR hf hkf
  go_enter Try.func78, Try.ntmps78
  go_upto_region 2 with fail
  generalize ((w.alloc (.cells #[.slice A l.length cap] 60)).alloc (.cells #[.int .i64 0, .bool false, .string ⟨#[]⟩, .string ⟨#[]⟩] 38)).alloc (.cells #[.int .i64 0, .bool false, .string ⟨#[]⟩, .string ⟨#[]⟩] 38) = w1 at HS ⊢
  obtain ⟨g3, hg3⟩ : ∃ g, w.heap.size = g := ⟨_, rfl⟩
  rw [hg3] at HS ⊢
  clear hg3
  obtain ⟨g6, hg6⟩ : ∃ g, g3 + 1 = g := ⟨_, rfl⟩
  obtain ⟨g7, hg7⟩ : ∃ g, g3 + 2 = g := ⟨_, rfl⟩
  rw [hg6, hg7] at HS
  (try rw [hg6]); (try rw [hg7]); (try rw [show g3 + 1 + 1 = g7 from hg7]); (try rw [show g6 + 1 = g7 by omega])
  clear hg6 hg7
  go_wp2_with fail
  go_loopw [8] (fun i wr => ∃ kk : Nat, kk ≤ l.length ∧ i = .int .i64 (kk : Int) ∧ Hid (∃ a, Nx w wr g3 g6 g7 A l.length cap a ∧ Best (l.take kk) key aft a)) (fun i _ => l.length - (RowKit.intOf i).toNat)
  case atStart => exact ⟨0, Nat.zero_le _, rfl, Lib.hid ⟨_, HS.out, Best.start _ _⟩⟩
  case round =>
    obtain ⟨kk, hk, rfl, HP⟩ := hrel
    clear HS
    obtain ⟨a, hnx, hbest⟩ := HP.out
    have HW := Lib.hid hnx
    have HB := Lib.hid hbest
    clear hnx hbest HP
    have b0 := HW.out.box.cell 0
    simp at b0
    by_cases hlt : kk < l.length
    · obtain ⟨p, hp⟩ : ∃ p, l[kk]? = some p := ⟨l[kk], List.getElem?_eq_getElem hlt⟩
      obtain ⟨b, off, hA, hb, x0, x1⟩ := (HR.out.1.no HW.out.tu).pair hp
      have HX := Lib.hid (best_step hp HB.out)
      have hfp := HR.out.2.1 p (List.mem_of_getElem? hp)
      obtain ⟨pk, pv⟩ := p
      simp only at x0 x1
      have tn : Turn No wr (wr.alloc (.cells #[.string pk, .string pv] 47)) := (Turn.refl _ _).alloc _
      have HV : Hid (Nx w (wr.alloc (.cells #[.string pk, .string pv] 47)) g3 g6 g7 A l.length cap a ∧ At (wr.alloc (.cells #[.string pk, .string pv] 47)) wr.heap.size (.cells #[.string pk, .string pv] 47 (0, 0))) := Lib.hid ⟨HW.out.no tn, At.new _ _⟩
      have CL := Lib.hid fun W => less_any pk key W hfp.1 HR.out.2.2
      subst hA
      clear hb hp tn HW
      go_upto_region 6 with fail
      generalize wr.alloc (.cells #[.string pk, .string pv] 47) = w2 at HV ⊢
      generalize wr.heap.size = g9 at HV ⊢
      clear x0 x1 b0
      have y0 := HV.out.2.cell 0
      have y1 := HV.out.2.cell 1
      simp at y0 y1
      have qe := bytes_beq pk key
      go_cut [34] from 22 to 35 (fun s wx => s = .bool (!okB key aft ⟨pk, pv⟩) ∧ Hid (Turn No w2 wx))
      case first =>
        by_cases h1 : kl pk key
        · rw [decide_eq_true h1] at CL
          have HE : Hid (okB key aft ⟨pk, pv⟩ = false) := Lib.hid (by simp [okB, h1])
          clear h1 HX
          go_wp2_with (go_at_call 100; (with_reducible refine (CL.out _).mono ?_); rintro e w4 ⟨rfl, nn, hw⟩; have T9 : Hid (Turn No w2 w4) := Lib.hid (by rw [hw]; exact (Turn.refl _ _).drewN _); clear hw)
          go_meet
          exact ⟨by rw [HE.out]; rfl, T9⟩
        · rw [decide_eq_false h1] at CL
          cases aft with
          | false =>
            have HE : Hid (okB key false ⟨pk, pv⟩ = true) := Lib.hid (by simp [okB, h1])
            clear h1 HX
            go_wp2_with (go_at_call 100; (with_reducible refine (CL.out _).mono ?_); rintro e w4 ⟨rfl, nn, hw⟩; have T9 : Hid (Turn No w2 w4) := Lib.hid (by rw [hw]; exact (Turn.refl _ _).drewN _); clear hw)
            go_meet
            exact ⟨by rw [HE.out]; rfl, T9⟩
          | true =>
            have HE : Hid (okB key true ⟨pk, pv⟩ = !decide (pk = key)) := Lib.hid (by simp [okB, h1])
            have hcell : Hid (∀ W, Turn No w2 W → W.cell? ⟨g9, 0, none⟩ = some (.string pk)) := Lib.hid fun W t => by simpa using (HV.out.2.no t).cell 0
            clear h1 HX
            go_wp2_with (go_at_call 100; (with_reducible refine (CL.out _).mono ?_); rintro e w4 ⟨rfl, nn, hw⟩; have T9 : Hid (Turn No w2 w4) := Lib.hid (by rw [hw]; exact (Turn.refl _ _).drewN _); have z0 := hcell.out _ T9.out; clear hw)
            go_meet
            exact ⟨by rw [HE.out, Bool.not_not, ← bytes_beq], T9⟩
      case rest =>
        obtain ⟨rfl, HT⟩ := hcut
        generalize wc = w3 at HT ⊢
        have HV2 : Hid (Nx w w3 g3 g6 g7 (some ⟨b, off, none⟩) l.length cap a ∧ At w3 g9 (.cells #[.string pk, .string pv] 47 (0, 0))) := Lib.hid ⟨HV.out.1.no HT.out, HV.out.2.no HT.out⟩
        clear HV HT CL y0 y1 qe
        cases hok : okB key aft ⟨pk, pv⟩ with
        | false =>
          have HE := Lib.hid (HX.out.1 hok)
          clear hok HX
          go_wp2_with fail
          exact ⟨⟨kk + 1, by omega, by go_num, Lib.hid ⟨a, HV2.out.1, HE.out⟩⟩, by simp [RowKit.intOf]; omega⟩
        | true =>
          have HE := Lib.hid (And.intro (HX.out.2.1 hok) HX.out.2.2)
          have HAK := Lib.hid (best_fit HB.out (fun p hp => HR.out.2.1 p (List.mem_of_mem_take hp)))
          clear hok HX
          obtain ⟨ac, af, ak, av⟩ := a
          have CL := Lib.hid fun W => less_any pk ak W hfp.1 HAK.out
          have y0 := HV2.out.2.cell 0
          have y1 := HV2.out.2.cell 1
          have c0 := HV2.out.1.cur.cell 0
          have c1 := HV2.out.1.cur.cell 1
          have c2 := HV2.out.1.cur.cell 2
          have c3 := HV2.out.1.cur.cell 3
          simp at y0 y1 c0 c1 c2 c3
          go_upto_region 7 with fail
          go_cut [44] from 35 to 45 (fun s wx => ∃ bv : Bool, s = .bool bv ∧ Hid (((bv = true → af = false ∨ kl pk ak) ∧ (bv = false → af = true ∧ ¬ kl pk ak)) ∧ Turn No w3 wx))
          case first =>
            cases af with
            | false =>
              go_wp2_with fail
              go_meet
              exact ⟨true, rfl, Lib.hid ⟨⟨fun _ => .inl (by first | rfl | trivial), fun e => (by cases e)⟩, Turn.refl _ _⟩⟩
            | true =>
              by_cases h1 : kl pk ak
              · rw [decide_eq_true h1] at CL
                have H1 := Lib.hid h1
                clear h1
                go_wp2_with (go_at_call 100; (with_reducible refine (CL.out _).mono ?_); rintro e w4 ⟨rfl, nn, hw⟩; have T9 : Hid (Turn No w3 w4) := Lib.hid (by rw [hw]; exact (Turn.refl _ _).drewN _); clear hw)
                go_meet
                exact ⟨true, rfl, Lib.hid ⟨⟨fun _ => .inr H1.out, fun e => (by cases e)⟩, T9.out⟩⟩
              · rw [decide_eq_false h1] at CL
                have H1 := Lib.hid h1
                clear h1
                go_wp2_with (go_at_call 100; (with_reducible refine (CL.out _).mono ?_); rintro e w4 ⟨rfl, nn, hw⟩; have T9 : Hid (Turn No w3 w4) := Lib.hid (by rw [hw]; exact (Turn.refl _ _).drewN _); clear hw)
                go_meet
                exact ⟨false, rfl, Lib.hid ⟨⟨fun e => (by cases e), fun _ => ⟨(by first | rfl | trivial), H1.out⟩⟩, T9.out⟩⟩
          case rest =>
            obtain ⟨bv, rfl, HB2⟩ := hcut
            have HV3 : Hid (Nx w wc g3 g6 g7 (some ⟨b, off, none⟩) l.length cap ⟨ac, af, ak, av⟩ ∧ At wc g9 (.cells #[.string pk, .string pv] 47 (0, 0))) := Lib.hid ⟨HV2.out.1.no HB2.out.2, HV2.out.2.no HB2.out.2⟩
            clear HV2 y0 y1 c0 c1 c2 c3 CL
            cases bv with
            | false =>
              have hb2 := HB2.out.1.2 rfl
              have HN := Lib.hid (HE.out.2 hb2.1 hb2.2)
              clear hb2
              go_wp2_with fail
              exact ⟨⟨kk + 1, by omega, by go_num, Lib.hid ⟨_, HV3.out.1, HN.out⟩⟩, by simp [RowKit.intOf]; omega⟩
            | true =>
              have HN := Lib.hid (HE.out.1 (HB2.out.1.1 rfl))
              have y0 := HV3.out.2.cell 0
              have y1 := HV3.out.2.cell 1
              have c0 := HV3.out.1.cur.cell 0
              have c1 := HV3.out.1.cur.cell 1
              have c2 := HV3.out.1.cur.cell 2
              have c3 := HV3.out.1.cur.cell 3
              have e0 := HV3.out.1.cur.thawed 0
              have e1 := HV3.out.1.cur.thawed 1
              have e2 := HV3.out.1.cur.thawed 2
              have e3 := HV3.out.1.cur.thawed 3
              simp at y0 y1 c0 c1 c2 c3
              have HP2 := Lib.hid (HV3.out.1.put ⟨0, true, pk, pv⟩)
              clear HV3
              go_wp2_with fail
              exact ⟨⟨kk + 1, by omega, by go_num, Lib.hid ⟨_, HP2.out, HN.out⟩⟩, by simp [RowKit.intOf]; omega⟩
    · obtain rfl : kk = l.length := by omega
      have hb := HB.out
      rw [List.take_length] at hb
      have HB2 := Lib.hid hb
      have HZ := Lib.hid HW.out.fin
      have c0 := HW.out.cur.cell 0
      have c1 := HW.out.cur.cell 1
      have c2 := HW.out.cur.cell 2
      have c3 := HW.out.cur.cell 3
      have d0 := HW.out.res.cell 0
      have d1 := HW.out.res.cell 1
      have d2 := HW.out.res.cell 2
      have d3 := HW.out.res.cell 3
      have e0 := HW.out.res.thawed 0
      have e1 := HW.out.res.thawed 1
      have e2 := HW.out.res.thawed 2
      have e3 := HW.out.res.thawed 3
      simp at c0 c1 c2 c3 d0 d1 d2 d3
      clear hb HB HW
      go_wp2_with fail
      generalize (((wr.setCell ⟨g6, 0, none⟩ (.int .i64 a.code)).setCell ⟨g6, 1, none⟩ (.bool a.found)).setCell ⟨g6, 2, none⟩ (.string a.k)).setCell ⟨g6, 3, none⟩ (.string a.v) = w9 at HZ ⊢
      (try simp only [Exit.inBlock, Exit.then])
      refine bodyPost_ret (results_cell_row rfl _ _ g6 38 _ (0, 0) _ (by rfl) HZ.out.2 Try.underlying38 rfl (by kernel_rfl)) rfl ?_
      exact ⟨⟨a, rfl, HB2.out⟩, HZ.out.1⟩
/-- next, held against the sorted map. -/
theorem rnext_any (l : List Pr) (A : Option Addr) (cap : Nat) (key : ByteArray) (aft : Bool) (w : World) (hR : Row w A (pcs l)) (hl : l.length ≤ 50000) (hf : ∀ p ∈ l, Fit p.k ∧ Fit p.v) (hkf : Fit key) {m : List Pr} (hs : Sim l m) (ha : Asc m) {a : Ans} (hx : nans (nexts m key aft) = a) :
    Calls Try.prog 78 #[.agg #[.slice A l.length cap], .string key, .bool aft] w fun e w' => e = .returned (.agg #[.int .i64 a.code, .bool a.found, .string a.k, .string a.v]) ∧ Turn No w w' := by
  refine (rnext_best l A cap key aft w hR hl hf hkf).mono ?_
  rintro e w' ⟨⟨a', rfl, hb⟩, ht⟩
  have := hb.done hs ha
  rw [hx] at this
  subst this
  exact ⟨rfl, ht⟩

/-- What is there in a New. -/
structure Nw (w wr : World) (g2 g3 : Nat) (R : List Pr) (m : Nat) (B : Option Addr) (c : Nat) : Prop where
  tu : Turn No w wr
  res : At wr g2 (.cells #[.slice none 0 0] 60 (0, 0))
  cur : At wr g3 (.cells #[.slice B m c] 60 (0, 0))
  row : wr.ownsRow w.heap.size 47 2 (.slice B m c) m (pcs R)
  o2 : w.heap.size ≤ g2
  o3 : w.heap.size ≤ g3
  n23 : g2 ≠ g3
  hm : R.length = m
section
variable {w wr w2 : World} {g2 g3 m c : Nat} {B : Option Addr} {R : List Pr}
theorem Nw.no (h : Nw w wr g2 g3 R m B c) (t : Turn No wr w2) : Nw w w2 g2 g3 R m B c := ⟨h.tu.trans t, h.res.no t, h.cur.no t, own_grown h.row t (fun _ _ h => h), h.o2, h.o3, h.n23, h.hm⟩
theorem Nw.put (h : Nw w wr g2 g3 R m B c) {R2 : List Pr} {B2 : Option Addr} {c2 : Nat} (t : Turn No wr w2) (ho : w2.ownsRow wr.heap.size 47 2 (.slice B2 R2.length c2) R2.length (pcs R2)) :
    Nw w (w2.setCell ⟨g3, 0, none⟩ (.slice B2 R2.length c2)) g2 g3 R2 R2.length B2 c2 := by
  have t2 : Turn (fun i => i = g3) w2 (w2.setCell ⟨g3, 0, none⟩ (.slice B2 R2.length c2)) := Turn.set1 _ _ _ _
  refine ⟨(h.tu.trans t).then t2 (fun i hi e => by have := h.o3; omega), (h.res.no t).turn t2 h.n23, by simpa using (h.cur.no t).set 0 (.slice B2 R2.length c2), own_grown (ho.mono h.tu.size) t2 (fun k hk e => ?_), h.o2, h.o3, h.n23, rfl⟩
  subst e
  exact own_ne ho (h.cur.no t) (by decide) hk
theorem Nw.fin (h : Nw w wr g2 g3 R m B c) : Turn No w (wr.setCell ⟨g2, 0, none⟩ (.slice B m c)) ∧ At (wr.setCell ⟨g2, 0, none⟩ (.slice B m c)) g2 (.cells #[.slice B m c] 60 (0, 0)) ∧ R.length = m ∧ (wr.setCell ⟨g2, 0, none⟩ (.slice B m c)).ownsRow w.heap.size 47 2 (.slice B m c) m (pcs R) := by
  have t2 : Turn (fun i => i = g2) wr (wr.setCell ⟨g2, 0, none⟩ (.slice B m c)) := Turn.set1 _ _ _ _
  refine ⟨h.tu.then t2 (fun i hi e => by have := h.o2; omega), by simpa using h.res.set 0 (.slice B m c), h.hm, own_grown h.row t2 (fun k hk e => ?_)⟩
  subst e
  exact own_ne h.row h.res (by decide) hk
end
theorem newR_step {l : List Pr} {j : Nat} {p : Pr} (hj : l[j]? = some p) : newR (l.take (j + 1)) = withL (newR (l.take j)) p.k p.v := by
  unfold newR
  rw [List.take_add_one, List.foldl_append, hj]
  rfl
theorem newR_len (l : List Pr) : (newR l).length ≤ l.length := by
  have : ∀ (l m : List Pr), (l.foldl (fun m p => withL m p.k p.v) m).length ≤ m.length + l.length := by
    intro l
    induction l with
    | nil => intro m; simp
    | cons p t ih =>
      intro m
      rw [List.foldl_cons]
      have h1 := ih (withL m p.k p.v)
      have h2 := with_len m p.k p.v
      have h3 := del_len m p.k
      rw [List.length_cons]
      omega
  have := this l []
  simpa [newR] using this
set_option maxHeartbeats 4000000 in
theorem rnew_any (l : List Pr) (A : Option Addr) (cap : Nat) (w : World) (hR : Row w A (pcs l)) (hl : l.length ≤ 50000) :
    Calls Try.prog 33 #[.slice A l.length cap] w fun e w' => ∃ B c, e = .returned (.agg #[.slice B (newR l).length c]) ∧ w'.ownsRow w.heap.size 47 2 (.slice B (newR l).length c) (newR l).length (pcs (newR l)) ∧ Turn No w w' := by
  have HS : Hid (Nw w ((w.alloc (.cells #[.slice none 0 0] 60)).alloc (.cells #[.slice none 0 0] 60)) w.heap.size (w.heap.size + 1) [] 0 none 0) := Lib.hid (by
    have t1 : Turn No w (w.alloc (.cells #[.slice none 0 0] 60)) := (Turn.refl _ _).alloc _
    have t2 : Turn No (w.alloc (.cells #[.slice none 0 0] 60)) ((w.alloc (.cells #[.slice none 0 0] 60)).alloc (.cells #[.slice none 0 0] 60)) := (Turn.refl _ _).alloc _
    exact ⟨t1.trans t2, (At.new _ _).no t2, At.new2 _ _ _, World.ownsRow_nil _ _ _ _, by omega, by omega, by omega, rfl⟩)
  have HR := Lib.hid hR
  clear hR
  go_enter Try.func33, Try.ntmps33
  go_upto_region 2 with fail
  generalize (w.alloc (.cells #[.slice none 0 0] 60)).alloc (.cells #[.slice none 0 0] 60) = w1 at HS ⊢
  obtain ⟨g2, hg2⟩ : ∃ g, w.heap.size = g := ⟨_, rfl⟩
  rw [hg2] at HS ⊢
  clear hg2
  obtain ⟨g3, hg3⟩ : ∃ g, g2 + 1 = g := ⟨_, rfl⟩
  rw [hg3] at HS ⊢
  clear hg3
  go_wp2_with fail
  go_loopw [4] (fun i wr => ∃ kk : Nat, kk ≤ l.length ∧ i = .int .i64 (kk : Int) ∧ Hid (∃ m B c, Nw w wr g2 g3 (newR (l.take kk)) m B c)) (fun i _ => l.length - (RowKit.intOf i).toNat)
  case atStart => exact ⟨0, Nat.zero_le _, rfl, Lib.hid ⟨0, none, 0, HS.out⟩⟩
  case round =>
    obtain ⟨kk, hk, rfl, HP⟩ := hrel
    clear HS
    obtain ⟨m, B, c, hwo⟩ := HP.out
    have HW := Lib.hid hwo
    clear hwo HP
    have c0 := HW.out.cur.cell 0
    simp at c0
    by_cases hlt : kk < l.length
    · obtain ⟨p, hp⟩ : ∃ p, l[kk]? = some p := ⟨l[kk], List.getElem?_eq_getElem hlt⟩
      obtain ⟨b, off, hA, hb, x0, x1⟩ := (HR.out.no HW.out.tu).pair hp
      have HE := Lib.hid (newR_step hp)
      have hmm : (newR (l.take kk)).length ≤ 50000 := by have h1 := newR_len (l.take kk); rw [List.length_take] at h1; omega
      have ew : w.heap.size ≤ wr.heap.size := HW.out.tu.size
      obtain ⟨pk, pv⟩ := p
      simp only at x0 x1 HE
      subst hA
      have hS0 : wr.drew.cell? ⟨g3, 0, none⟩ = some (.slice B m c) ∧ wr.drew.cell? ⟨b, off + kk * 2, none⟩ = some (.string pk) ∧ wr.drew.cell? ⟨b, off + kk * 2 + 1, none⟩ = some (.string pv) := ⟨c0, x0, x1⟩
      have td : Turn No wr wr.drew := (Turn.refl _ _).drew
      have hS1 : Hid (∀ W, Turn No wr.drew W → W.cell? ⟨g3, 0, none⟩ = some (.slice B m c) ∧ W.cell? ⟨b, off + kk * 2, none⟩ = some (.string pk) ∧ W.cell? ⟨b, off + kk * 2 + 1, none⟩ = some (.string pv)) := Lib.hid fun W t => by
        refine ⟨by simpa using (HW.out.cur.no (td.trans t)).cell 0, ?_, ?_⟩
        · exact (World.cell?_of_block (w := wr) ((td.trans t).block b hb (fun h => h))).trans x0
        · exact (World.cell?_of_block (w := wr) ((td.trans t).block b hb (fun h => h))).trans x1
      have CC := Lib.hid (with_any (newR (l.take kk)) B c pk pv wr.drew ((row_of_own HW.out.row).no td) hmm)
      rw [HW.out.hm] at CC
      have HWD := Lib.hid (HW.out.no td)
      obtain ⟨R2, hR2⟩ : ∃ R2, withL (newR (l.take kk)) pk pv = R2 := ⟨_, rfl⟩
      rw [hR2] at CC HE
      have hq0 : (0 : Int) ≤ (kk : Int) := by omega
      have hq1 : (kk : Int) < (l.length : Int) := by omega
      clear hb hp c0 x0 x1 hmm ew td hR2
      go_upto_region 5 with fail
      go_region_law (first | (go_simp; go_at_call 72; (with_reducible refine CC.out.mono ?_); rintro e w4 ⟨B2, c2, rfl, ho, ht⟩; have H4 : Hid (w4.ownsRow wr.drew.heap.size 47 2 (.slice B2 R2.length c2) R2.length (pcs R2) ∧ Turn No wr.drew w4) := Lib.hid ⟨ho, ht⟩; clear ho ht; have z0 := (HWD.out.no H4.out.2).cur.cell 0; have zf := (HWD.out.no H4.out.2).cur.thawed 0; simp at z0))
      all_goals have HN := Lib.hid (HWD.out.put H4.out.2 H4.out.1)
      all_goals go_wp2_with fail
      all_goals exact ⟨⟨kk + 1, by omega, by go_num, by rw [HE.out]; exact Lib.hid ⟨_, B2, c2, HN.out⟩⟩, by simp [RowKit.intOf]; omega⟩
    · obtain rfl : kk = l.length := by omega
      have hr := HW.out.fin
      rw [List.take_length] at hr
      have r0 := HW.out.res.cell 0
      have rf := HW.out.res.thawed 0
      simp at r0
      have HZ := Lib.hid hr
      clear hr HW
      go_wp2_with fail
      generalize wr.setCell ⟨g2, 0, none⟩ (.slice B m c) = w9 at HZ ⊢
      (try simp only [Exit.inBlock, Exit.then])
      refine bodyPost_ret (results_cell_row rfl _ _ g2 60 _ (0, 0) _ (by rfl) HZ.out.2.1 Try.underlying60 rfl (by kernel_rfl)) rfl ?_
      exact ⟨B, c, by rw [HZ.out.2.2.1], by rw [HZ.out.2.2.1]; exact HZ.out.2.2.2, HZ.out.1⟩

/-- What is there in an All. -/
structure Al (w wr : World) (g1 g4 : Nat) (A : Option Addr) (n cap : Nat) (a : Ans) (L : List Pr) (i : Nat) (B : Option Addr) (c : Nat) : Prop where
  tu : Turn No w wr
  box : At wr g1 (.cells #[.slice A n cap] 60 (0, 0))
  cur : At wr g4 (.cells #[.int .i64 a.code, .bool a.found, .string a.k, .string a.v] 38 (0, 0))
  row : wr.ownsRow w.heap.size 47 2 (.slice B i c) i (pcs L)
  o4 : w.heap.size ≤ g4
  n14 : g1 ≠ g4
section
variable {w wr w2 : World} {g1 g4 n cap i c : Nat} {A B : Option Addr} {a : Ans} {L : List Pr}
theorem Al.no (h : Al w wr g1 g4 A n cap a L i B c) (t : Turn No wr w2) : Al w w2 g1 g4 A n cap a L i B c := ⟨h.tu.trans t, h.box.no t, h.cur.no t, own_grown h.row t (fun _ _ h => h), h.o4, h.n14⟩
theorem Al.app (h : Al w wr g1 g4 A n cap a L i B c) {vb : Nat} {p : Pr} (hp : At wr vb (.cells #[.string p.k, .string p.v] 47 (0, 0))) (hn : i ≤ 100000) :
    ∃ B' c' w5, AppRun 22 22 (.slice B i c) (.slice (some ⟨vb, 0, none⟩) 1 1) (.slice B' (i + 1) c') wr w5 ∧ Al w w5 g1 g4 A n cap a (L ++ [p]) (i + 1) B' c' := by
  obtain ⟨B', c', w5, q, ho, ht⟩ := app_pair h.row hp hn h.tu.size 22
  have k1 := own_ne h.row h.box (by decide)
  have k4 := own_ne h.row h.cur (by decide)
  exact ⟨B', c', w5, q, h.tu.then ht (fun i hi e => by have := (h.row.lt i e).1; omega), h.box.turn ht k1, h.cur.turn ht k4, ho, h.o4, h.n14⟩
theorem Al.put (h : Al w wr g1 g4 A n cap a L i B c) (b : Ans) : Al w ((((wr.setCell ⟨g4, 0, none⟩ (.int .i64 b.code)).setCell ⟨g4, 1, none⟩ (.bool b.found)).setCell ⟨g4, 2, none⟩ (.string b.k)).setCell ⟨g4, 3, none⟩ (.string b.v)) g1 g4 A n cap b L i B c := by
  have t := turn4 wr g4 0 1 2 3 (.int .i64 b.code) (.bool b.found) (.string b.k) (.string b.v)
  refine ⟨h.tu.then t (fun i hi e => by have := h.o4; omega), h.box.turn t h.n14, ?_, own_grown h.row t (fun k hk e => ?_), h.o4, h.n14⟩
  · simpa using (((h.cur.set 0 (.int .i64 b.code)).set 1 (.bool b.found)).set 2 (.string b.k)).set 3 (.string b.v)
  · subst e
    exact own_ne h.row h.cur (by decide) hk
end
set_option maxHeartbeats 4000000 in
theorem rall_any (l : List Pr) (A : Option Addr) (cap : Nat) (w : World) (hR : Row w A (pcs l)) (hl : l.length ≤ 50000) (hf : ∀ p ∈ l, Fit p.k ∧ Fit p.v) {M : List Pr} (hs : Sim l M) (ha : Asc M) :
    Calls Try.prog 40 #[.agg #[.slice A l.length cap]] w fun e w' => ∃ B c, e = .returned (.slice B M.length c) ∧ w'.ownsRow w.heap.size 47 2 (.slice B M.length c) M.length (pcs M) ∧ Turn No w w' := by
  have HB : Hid (Turn No w (w.alloc (.cells #[.slice A l.length cap] 60)) ∧ At (w.alloc (.cells #[.slice A l.length cap] 60)) w.heap.size (.cells #[.slice A l.length cap] 60 (0, 0))) := Lib.hid ⟨(Turn.refl _ _).alloc _, At.new _ _⟩
  have CF : Hid (∀ W, Turn No w W → ∀ a, nans (M.drop 0) = a → Calls Try.prog 78 #[.agg #[.slice A l.length cap], .string ⟨#[]⟩, .bool false] W fun e w' => e = .returned (.agg #[.int .i64 a.code, .bool a.found, .string a.k, .string a.v]) ∧ Turn No W w') := Lib.hid fun W t a hx => rnext_any l A cap ⟨#[]⟩ false W (hR.no t) hl hf (fitS _ (by decide)) hs ha (by rw [nexts_first, ← hx, List.drop_zero])
  have CN : Hid (∀ (i : Nat) (p : Pr), M[i]? = some p → ∀ a, nans (M.drop (i + 1)) = a → ∀ W, Turn No w W → Calls Try.prog 78 #[.agg #[.slice A l.length cap], .string p.k, .bool true] W fun e w' => e = .returned (.agg #[.int .i64 a.code, .bool a.found, .string a.k, .string a.v]) ∧ Turn No W w') := Lib.hid fun i p hp a hx W t => rnext_any l A cap p.k true W (hR.no t) hl hf (hf p (hs.symm.mem (List.mem_of_getElem? hp))).1 hs ha (by rw [nexts_after ha hp, ← hx])
  have hM : M.length ≤ 50000 := by rw [← hs.len]; exact hl
  clear hR hf hs ha hl
  go_enter Try.func40, Try.ntmps40
  go_upto_region 2 with fail
  generalize w.alloc (.cells #[.slice A l.length cap] 60) = w1 at HB ⊢
  obtain ⟨g1, hg1⟩ : ∃ g, w.heap.size = g := ⟨_, rfl⟩
  have HG1 := Lib.hid hg1
  rw [hg1] at HB ⊢
  clear hg1
  have b0 := HB.out.2.cell 0
  simp at b0
  obtain ⟨a, han⟩ : ∃ a, nans (M.drop 0) = a := ⟨_, rfl⟩
  have HAN := Lib.hid han
  have CA := Lib.hid (CF.out w1 HB.out.1 a han)
  clear CF han
  go_upto_region 3 with (go_at_call 78; refine CA.out.mono ?_; rintro e w2 ⟨rfl, ht⟩; have H2 := Lib.hid ht; clear ht)
  have HS : Hid (Al w (w2.alloc (.cells #[.int .i64 a.code, .bool a.found, .string a.k, .string a.v] 38)) g1 w2.heap.size A l.length cap (nans (M.drop 0)) (M.take 0) 0 none 0) := Lib.hid (by
    have t2 : Turn No w2 (w2.alloc (.cells #[.int .i64 a.code, .bool a.found, .string a.k, .string a.v] 38)) := (Turn.refl _ _).alloc _
    have e1 := HG1.out
    have l1 := HB.out.2.lt
    have l2 := H2.out.size
    exact ⟨(HB.out.1.trans H2.out).trans t2, (HB.out.2.no H2.out).no t2, by rw [HAN.out]; exact At.new _ _, World.ownsRow_nil _ _ _ _, by omega, by omega⟩)
  clear CA H2 HB b0 HAN
  generalize w2.alloc (.cells #[.int .i64 a.code, .bool a.found, .string a.k, .string a.v] 38) = w3 at HS ⊢
  generalize w2.heap.size = g4 at HS ⊢
  go_wp2_with fail
  go_loopw [3] (fun s wr => ∃ (i : Nat) (B : Option Addr) (c : Nat), i ≤ M.length ∧ s = .slice B i c ∧ Hid (Al w wr g1 g4 A l.length cap (nans (M.drop i)) (M.take i) i B c)) (fun s _ => M.length - (match s with | .slice _ n _ => n | _ => 0))
  case atStart => exact ⟨0, none, 0, Nat.zero_le _, rfl, HS⟩
  case round =>
    obtain ⟨i, B, c, hi, rfl, HW⟩ := hrel
    clear HS
    by_cases hlt : i < M.length
    · obtain ⟨p, hp⟩ : ∃ p, M[i]? = some p := ⟨M[i], List.getElem?_eq_getElem hlt⟩
      have hna : nans (M.drop i) = ⟨0, true, p.k, p.v⟩ := nans_drop hp
      rw [hna] at HW
      obtain ⟨pk, pv⟩ := p
      simp only at HW
      have c1 := HW.out.cur.cell 1
      have c2 := HW.out.cur.cell 2
      have c3 := HW.out.cur.cell 3
      simp at c1 c2 c3
      have tn : Turn No wr (wr.alloc (.cells #[.string pk, .string pv] 47)) := (Turn.refl _ _).alloc _
      obtain ⟨B2, c2', w5, q, hw5⟩ := (HW.out.no tn).app (p := ⟨pk, pv⟩) (vb := wr.heap.size) (At.new wr _) (by omega)
      have H5 := Lib.hid hw5
      have HPP := Lib.hid hp
      clear tn hw5 hp hna
      go_upto_region 5 with (at_builtin; refine wpList_append_run rfl _ _ 22 rfl _ _ _ rfl rfl q ?_)
      clear q c1 c2 c3 HW
      have b0 := H5.out.box.cell 0
      have c2 := H5.out.cur.cell 2
      simp at b0 c2
      obtain ⟨a2, ha2⟩ : ∃ a, nans (M.drop (i + 1)) = a := ⟨_, rfl⟩
      have CA := Lib.hid (CN.out i _ HPP.out a2 ha2 w5 H5.out.tu)
      have HA2 := Lib.hid ha2
      simp only at CA
      clear ha2
      go_wp2_with (go_at_call 78; refine CA.out.mono ?_; rintro e w6 ⟨rfl, ht⟩; have H6 := Lib.hid (H5.out.no ht); clear ht; have d0 := H6.out.cur.cell 0; have d1 := H6.out.cur.cell 1; have d2 := H6.out.cur.cell 2; have d3 := H6.out.cur.cell 3; simp at d0 d1 d2 d3; have e0 := H6.out.cur.thawed 0; have e1 := H6.out.cur.thawed 1; have e2 := H6.out.cur.thawed 2; have e3 := H6.out.cur.thawed 3)
      have HN := Lib.hid (H6.out.put a2)
      refine ⟨⟨i + 1, B2, c2', by omega, rfl, Lib.hid ?_⟩, by simp; omega⟩
      rw [HA2.out, List.take_add_one, HPP.out]
      exact HN.out
    · obtain rfl : i = M.length := by omega
      have hz : nans (M.drop M.length) = ⟨0, false, ⟨#[]⟩, ⟨#[]⟩⟩ := nans_end
      rw [hz] at HW
      have c1 := HW.out.cur.cell 1
      simp at c1
      have hr := HW.out.row
      rw [List.take_length] at hr
      have HZ := Lib.hid (And.intro hr HW.out.tu)
      clear hz hr HW
      go_wp2_with fail
      go_ret
      exact ⟨B, c, rfl, HZ.out.1, HZ.out.2⟩

theorem bigK_iff {a : ByteArray} : (bigK a = true → (24 : Int) < (a.size : Int)) ∧ (bigK a = false → ¬ (24 : Int) < (a.size : Int)) := by
  unfold bigK
  exact ⟨fun h => by have := of_decide_eq_true h; omega, fun h => by have := of_decide_eq_false h; omega⟩
theorem bigV_iff {a : ByteArray} : (bigV a = true → (32 : Int) < (a.size : Int)) ∧ (bigV a = false → ¬ (32 : Int) < (a.size : Int)) := by
  unfold bigV
  exact ⟨fun h => by have := of_decide_eq_true h; omega, fun h => by have := of_decide_eq_false h; omega⟩
set_option maxRecDepth 100000 in
set_option maxHeartbeats 8000000 in
theorem rrefused_any (kind : Int) (k v o : ByteArray) (had aft : Bool) (A : Option Addr) (cap : Nat) (ws : List Wr) (w : World) (h : Row w A (wcs ws)) (hk : Fit k) (hv : Fit v) (ho : Fit o) (hf : ∀ x ∈ ws, Fit x.k ∧ Fit x.v) (hn : ws.length ≤ 100000) :
    Calls Try.prog 75 #[.agg #[.int .u8 kind, .string k, .string v, .string o, .bool had, .bool aft, .slice A ws.length cap]] w fun e w' => e = .returned (.int .i64 (refO kind k v o had ws)) ∧ Turn No w w' := by
  have HT : Hid (Turn No w (w.alloc (.cells #[.int .u8 kind, .string k, .string v, .string o, .bool had, .bool aft, .slice A ws.length cap] 34))) := Lib.hid ((Turn.refl _ _).alloc _)
  have HA : Hid (At (w.alloc (.cells #[.int .u8 kind, .string k, .string v, .string o, .bool had, .bool aft, .slice A ws.length cap] 34)) w.heap.size (.cells #[.int .u8 kind, .string k, .string v, .string o, .bool had, .bool aft, .slice A ws.length cap] 34 (0, 0))) := Lib.hid (At.new _ _)
  have HR := Lib.hid (And.intro h hf)
  unfold Fit at hk hv ho
  clear h hf
  obtain ⟨r, hr⟩ : ∃ r, refO kind k v o had ws = r := ⟨_, rfl⟩
  have HE := Lib.hid hr
  rw [hr]
  clear hr
  go_enter Try.func75, Try.ntmps75
  go_upto_region 1 with fail
  generalize w.alloc (.cells #[.int .u8 kind, .string k, .string v, .string o, .bool had, .bool aft, .slice A ws.length cap] 34) = w1 at HT HA ⊢
  generalize w.heap.size = g at HA ⊢
  have y0 := HA.out.cell 0
  have y1 := HA.out.cell 1
  have y2 := HA.out.cell 2
  have y3 := HA.out.cell 3
  have y4 := HA.out.cell 4
  have y6 := HA.out.cell 6
  simp at y0 y1 y2 y3 y4 y6
  by_cases q1 : kind = 1
  · subst q1
    cases b1 : bigK k with
    | true =>
      have n1 := bigK_iff.1 b1
      obtain rfl : r = 7 := by rw [← HE.out]; simp [refO, b1]
      clear HE
      go_wp2_with fail
      go_ret
      exact ⟨rfl, HT.out⟩
    | false =>
      have n1 := bigK_iff.2 b1
      obtain rfl : r = 0 := by rw [← HE.out]; simp [refO, b1]
      clear HE
      go_wp2_with fail
      go_ret
      exact ⟨rfl, HT.out⟩
  · skip
    by_cases q3 : kind = 3
    · subst q3
      cases b1 : bigK k with
      | true =>
        have n1 := bigK_iff.1 b1
        obtain rfl : r = 7 := by rw [← HE.out]; simp [refO, b1]
        clear HE
        go_wp2_with fail
        go_ret
        exact ⟨rfl, HT.out⟩
      | false =>
        have n1 := bigK_iff.2 b1
        obtain rfl : r = 0 := by rw [← HE.out]; simp [refO, b1]
        clear HE
        go_wp2_with fail
        go_ret
        exact ⟨rfl, HT.out⟩
    · skip
      by_cases q5 : kind = 5
      · subst q5
        cases b1 : bigK k with
        | true =>
          have n1 := bigK_iff.1 b1
          obtain rfl : r = 7 := by rw [← HE.out]; simp [refO, b1]
          clear HE
          go_wp2_with fail
          go_ret
          exact ⟨rfl, HT.out⟩
        | false =>
          have n1 := bigK_iff.2 b1
          obtain rfl : r = 0 := by rw [← HE.out]; simp [refO, b1]
          clear HE
          go_wp2_with fail
          go_ret
          exact ⟨rfl, HT.out⟩
      · skip
        by_cases q2 : kind = 2
        · subst q2
          cases b1 : bigK k with
          | true =>
            have nb1 := bigK_iff.1 b1
            obtain rfl : r = 7 := by rw [← HE.out]; simp [refO, b1]
            clear HE
            go_wp2_with fail
            go_ret
            exact ⟨rfl, HT.out⟩
          | false =>
            have nb1 := bigK_iff.2 b1
            cases b2 : bigV v with
            | true =>
              have nb2 := bigV_iff.1 b2
              obtain rfl : r = 7 := by rw [← HE.out]; simp [refO, b1, b2]
              clear HE
              go_wp2_with fail
              go_ret
              exact ⟨rfl, HT.out⟩
            | false =>
              have nb2 := bigV_iff.2 b2
              obtain rfl : r = 0 := by rw [← HE.out]; simp [refO, b1, b2]
              clear HE
              go_wp2_with fail
              go_ret
              exact ⟨rfl, HT.out⟩
        · skip
          by_cases q4 : kind = 4
          · subst q4
            cases had with
            | false =>
              cases b1 : bigK k with
              | true =>
                have nb1 := bigK_iff.1 b1
                obtain rfl : r = 7 := by rw [← HE.out]; simp [refO, b1]
                clear HE
                go_wp2_with fail
                go_ret
                exact ⟨rfl, HT.out⟩
              | false =>
                have nb1 := bigK_iff.2 b1
                cases b2 : bigV v with
                | true =>
                  have nb2 := bigV_iff.1 b2
                  obtain rfl : r = 7 := by rw [← HE.out]; simp [refO, b1, b2]
                  clear HE
                  go_wp2_with fail
                  go_ret
                  exact ⟨rfl, HT.out⟩
                | false =>
                  have nb2 := bigV_iff.2 b2
                  obtain rfl : r = 0 := by rw [← HE.out]; simp [refO, b1, b2]
                  clear HE
                  go_wp2_with fail
                  go_ret
                  exact ⟨rfl, HT.out⟩
            | true =>
              cases b1 : bigK k with
              | true =>
                have nb1 := bigK_iff.1 b1
                obtain rfl : r = 7 := by rw [← HE.out]; simp [refO, b1]
                clear HE
                go_wp2_with fail
                go_ret
                exact ⟨rfl, HT.out⟩
              | false =>
                have nb1 := bigK_iff.2 b1
                cases b2 : bigV v with
                | true =>
                  have nb2 := bigV_iff.1 b2
                  obtain rfl : r = 7 := by rw [← HE.out]; simp [refO, b1, b2]
                  clear HE
                  go_wp2_with fail
                  go_ret
                  exact ⟨rfl, HT.out⟩
                | false =>
                  have nb2 := bigV_iff.2 b2
                  cases b3 : bigV o with
                  | true =>
                    have nb3 := bigV_iff.1 b3
                    obtain rfl : r = 7 := by rw [← HE.out]; simp [refO, b1, b2, b3]
                    clear HE
                    go_wp2_with fail
                    go_ret
                    exact ⟨rfl, HT.out⟩
                  | false =>
                    have nb3 := bigV_iff.2 b3
                    obtain rfl : r = 0 := by rw [← HE.out]; simp [refO, b1, b2, b3]
                    clear HE
                    go_wp2_with fail
                    go_ret
                    exact ⟨rfl, HT.out⟩
          · skip
            by_cases q6 : kind = 6
            · subst q6
              have HE6 : Hid (refW ws = r) := Lib.hid (by have := HE.out; simpa [refO] using this)
              clear HE
              by_cases h8 : 8 < ws.length
              · have h8' : (8 : Int) < (ws.length : Int) := by omega
                obtain rfl : r = 3 := by rw [← HE6.out]; unfold refW; rw [if_pos h8]
                clear h8 HE6
                go_wp2_with fail
                go_ret
                exact ⟨rfl, HT.out⟩
              · have h8' : ¬ ((8 : Int) < (ws.length : Int)) := by omega
                have HZ : Hid (r = if ws.any badW = true then 7 else 0) := Lib.hid (by rw [← HE6.out]; unfold refW; rw [if_neg h8])
                clear h8 HE6
                go_wp2_with fail
                go_loopw [3] (fun i wr => ∃ kk : Nat, kk ≤ ws.length ∧ i = .int .i64 (kk : Int) ∧ wr = w1 ∧ Hid ((ws.take kk).any badW = false)) (fun i _ => ws.length - (RowKit.intOf i).toNat)
                case atStart => exact ⟨0, Nat.zero_le _, rfl, rfl, Lib.hid rfl⟩
                case round =>
                  obtain ⟨kk, hm, rfl, rfl, HP⟩ := hrel
                  by_cases hlt : kk < ws.length
                  · obtain ⟨x, hx⟩ : ∃ x, ws[kk]? = some x := ⟨ws[kk], List.getElem?_eq_getElem hlt⟩
                    obtain ⟨b, off, hA, hb, x0, x1, x2⟩ := (HR.out.1.no HT.out).wr hx
                    have hfx := HR.out.2 x (List.mem_of_getElem? hx)
                    have HX : Hid ((badW x = true → r = 7) ∧ (badW x = false → (ws.take (kk + 1)).any badW = false)) := Lib.hid ⟨fun e => by rw [HZ.out, if_pos (any_hit hx e)], fun e => any_take hx HP.out e⟩
                    obtain ⟨xk, xv, xg⟩ := x
                    unfold Fit at hfx
                    obtain ⟨f1, f2⟩ := hfx
                    simp only at x0 x1 x2 f1 f2
                    subst hA
                    clear hb hx HP
                    cases b1 : bigK xk with
                    | true =>
                      have n1 := bigK_iff.1 b1
                      obtain rfl : r = 7 := HX.out.1 (by simp [badW, b1])
                      clear HX b1
                      go_wp2_with fail
                      go_ret
                      exact ⟨rfl, HT.out⟩
                    | false =>
                      have n1 := bigK_iff.2 b1
                      cases xg with
                      | true =>
                        have HN := Lib.hid (HX.out.2 (by simp [badW, b1]))
                        clear HX b1
                        go_wp2_with fail
                        exact ⟨⟨kk + 1, by omega, by go_num, trivial, HN⟩, by simp [RowKit.intOf]; omega⟩
                      | false =>
                        cases b2 : bigV xv with
                        | true =>
                          have n2 := bigV_iff.1 b2
                          obtain rfl : r = 7 := HX.out.1 (by simp [badW, b1, b2])
                          clear HX b1 b2
                          go_wp2_with fail
                          go_ret
                          exact ⟨rfl, HT.out⟩
                        | false =>
                          have n2 := bigV_iff.2 b2
                          have HN := Lib.hid (HX.out.2 (by simp [badW, b1, b2]))
                          clear HX b1 b2
                          go_wp2_with fail
                          exact ⟨⟨kk + 1, by omega, by go_num, trivial, HN⟩, by simp [RowKit.intOf]; omega⟩
                  · obtain rfl : kk = ws.length := by omega
                    obtain rfl : r = 0 := by
                      have h0 := HP.out
                      rw [List.take_length] at h0
                      rw [HZ.out, h0]
                      simp
                    clear HP HZ
                    go_wp2_with fail
                    go_ret
                    exact ⟨rfl, HT.out⟩
            · have q1' : (kind == 1) = false := by simpa using q1
              obtain rfl : r = 20 := by rw [← HE.out]; simp [refO, q1, q2, q3, q4, q5, q6]
              clear HE
              go_wp2_with fail
              go_ret
              exact ⟨rfl, HT.out⟩

theorem results_cells2 {fn : Func} {p q : Tmp} {ty tz : TypeId} (h : fn.results = #[.cell p ty, .cell q tz]) (tmps : Array Value) (w : World) (g g' : Nat) (t t' : TypeId) (cs cs' : Array Value) (fr fr' : Nat × Nat) (d d' : Array Field)
    (hp : tmps.getD p undef = .pointer (some ⟨g, 0, none⟩)) (hq : tmps.getD q undef = .pointer (some ⟨g', 0, none⟩)) (hg : At w g (.cells cs t fr)) (hg' : At w g' (.cells cs' t' fr'))
    (hu : Try.prog.underlying ty = some (.struct d)) (hi : (Try.prog.info? ty).map (·.size) = some cs.size)
    (hu' : Try.prog.underlying tz = some (.struct d')) (hi' : (Try.prog.info? tz).map (·.size) = some cs'.size) :
    (results fn tmps).run Try.prog w = .ok (.tuple #[.agg cs, .agg cs']) w := by
  have hp' : tmps[p]?.getD undef = .pointer (some ⟨g, 0, none⟩) := by simpa using hp
  have hq' : tmps[q]?.getD undef = .pointer (some ⟨g', 0, none⟩) := by simpa using hq
  have e1 := run_loadVar_row (P := Try.prog) w g t ty cs fr (.struct d) hg hu rfl hi
  have e2 := run_loadVar_row (P := Try.prog) w g' t' tz cs' fr' (.struct d') hg' hu' rfl hi'
  simp [results, h, hp', hq', asAddr, Sem.run_bind, Result.andThen, e1, e2]

/-- What is there in a Do of the document's. -/
structure Dr (Z : Nat) (w wr : World) (g2 g3 g4 g5 : Nat) (op : Array Value) (v0 : Value) (R : List Pr) (m : Nat) (B : Option Addr) (c : Nat) : Prop where
  tu : Turn No w wr
  bm : At wr g2 (.cells #[.slice B m c] 60 (0, 0))
  bo : At wr g3 (.cells op 34 (0, 0))
  r4 : At wr g4 (.cells #[.slice none 0 0] 60 (0, 0))
  r5 : At wr g5 (.cells #[.int .i64 0, .bool false, .string ⟨#[]⟩, .string ⟨#[]⟩] 38 (0, 0))
  row : wr.ownsRow Z 47 2 (.slice B m c) m (pcs R)
  old : ∀ k, (Value.slice B m c).ownBlock = some k → v0.ownBlock = some k ∨ w.heap.size ≤ k
  l2 : w.heap.size ≤ g2
  l3 : g2 < g3
  l4 : g3 < g4
  l5 : g4 < g5
  hm : R.length = m
  hZ : Z ≤ w.heap.size
/-- What a Do of the document's leaves. -/
structure Fi (Z : Nat) (w w' : World) (g4 g5 : Nat) (v0 : Value) (R : List Pr) (m : Nat) (B : Option Addr) (c : Nat) (a : Ans) : Prop where
  tu : Turn No w w'
  a4 : At w' g4 (.cells #[.slice B m c] 60 (0, 0))
  a5 : At w' g5 (.cells #[.int .i64 a.code, .bool a.found, .string a.k, .string a.v] 38 (0, 0))
  row : w'.ownsRow Z 47 2 (.slice B m c) m (pcs R)
  old : ∀ k, (Value.slice B m c).ownBlock = some k → v0.ownBlock = some k ∨ w.heap.size ≤ k
  hm : R.length = m
def RDo (Z : Nat) (w : World) (v0 : Value) (R : List Pr) (a : Ans) (e : Ending) (w' : World) : Prop :=
  ∃ B c, e = .returned (.tuple #[.agg #[.slice B R.length c], .agg #[.int .i64 a.code, .bool a.found, .string a.k, .string a.v]]) ∧ w'.ownsRow Z 47 2 (.slice B R.length c) R.length (pcs R) ∧
    (∀ k, (Value.slice B R.length c).ownBlock = some k → v0.ownBlock = some k ∨ w.heap.size ≤ k) ∧ Turn No w w'
section
variable {Z : Nat} {w wr w2 : World} {g2 g3 g4 g5 m c : Nat} {op : Array Value} {v0 : Value} {R : List Pr} {B : Option Addr}
theorem Fi.rdo {a : Ans} (h : Fi Z w wr g4 g5 v0 R m B c a) {R' : List Pr} {a' : Ans} (hR : R' = R) (ha : a' = a) : RDo Z w v0 R' a' (.returned (.tuple #[.agg #[.slice B m c], .agg #[.int .i64 a.code, .bool a.found, .string a.k, .string a.v]])) wr := by
  subst hR ha
  have := h.hm
  subst this
  exact ⟨B, c, rfl, h.row, h.old, h.tu⟩
theorem Dr.no (h : Dr Z w wr g2 g3 g4 g5 op v0 R m B c) (t : Turn No wr w2) : Dr Z w w2 g2 g3 g4 g5 op v0 R m B c :=
  ⟨h.tu.trans t, h.bm.no t, h.bo.no t, h.r4.no t, h.r5.no t, own_grown h.row t (fun _ _ h => h), h.old, h.l2, h.l3, h.l4, h.l5, h.hm, h.hZ⟩
theorem Dr.set9 (h : Dr Z w wr g2 g3 g4 g5 op v0 R m B c) {g9 : Nat} {cs : Array Value} (h9 : At wr g9 (.cells cs 38 (0, 0))) (hl : g5 < g9) (i : Nat) (u : Value) : Dr Z w (wr.setCell ⟨g9, i, none⟩ u) g2 g3 g4 g5 op v0 R m B c := by
  have t : Turn (fun k => k = g9) wr (wr.setCell ⟨g9, i, none⟩ u) := Turn.set1 _ _ _ _
  have l2 := h.l2; have l3 := h.l3; have l4 := h.l4; have l5 := h.l5
  refine ⟨h.tu.then t (fun i hi e => by omega), h.bm.turn t (by omega), h.bo.turn t (by omega), h.r4.turn t (by omega), h.r5.turn t (by omega), own_grown h.row t (fun k hk e => ?_), h.old, h.l2, h.l3, h.l4, h.l5, h.hm, h.hZ⟩
  subst e
  exact own_ne h.row h9 (by decide) hk
theorem Dr.step (h : Dr Z w wr g2 g3 g4 g5 op v0 R m B c) {R2 : List Pr} {B2 : Option Addr} {c2 : Nat} (t : Turn No wr w2) (ho : w2.ownsRow wr.heap.size 47 2 (.slice B2 R2.length c2) R2.length (pcs R2)) :
    Dr Z w (w2.setCell ⟨g2, 0, none⟩ (.slice B2 R2.length c2)) g2 g3 g4 g5 op v0 R2 R2.length B2 c2 := by
  have t2 : Turn (fun i => i = g2) w2 (w2.setCell ⟨g2, 0, none⟩ (.slice B2 R2.length c2)) := Turn.set1 _ _ _ _
  have h2 := h.no t
  have l2 := h.l2; have l3 := h.l3; have l4 := h.l4; have l5 := h.l5
  refine ⟨h2.tu.then t2 (fun i hi e => by omega), by simpa using h2.bm.set 0 (.slice B2 R2.length c2), h2.bo.turn t2 (by omega), h2.r4.turn t2 (by omega), h2.r5.turn t2 (by omega), own_grown (ho.mono (Nat.le_trans h.hZ h.tu.size)) t2 (fun k hk e => ?_), fun k hk => Or.inr ?_, h.l2, h.l3, h.l4, h.l5, rfl, h.hZ⟩
  · subst e
    exact own_ne ho h2.bm (by decide) hk
  · have := (ho.lt k hk).1
    have := h.tu.size
    omega
theorem Dr.finA (h : Dr Z w wr g2 g3 g4 g5 op v0 R m B c) {R2 : List Pr} {m2 : Nat} {B2 : Option Addr} {c2 : Nat} (ho : wr.ownsRow Z 47 2 (.slice B2 m2 c2) m2 (pcs R2)) (hold : ∀ k, (Value.slice B2 m2 c2).ownBlock = some k → v0.ownBlock = some k ∨ w.heap.size ≤ k) (hm : R2.length = m2) (a : Ans) :
    Fi Z w (((((wr.setCell ⟨g4, 0, none⟩ (.slice B2 m2 c2)).setCell ⟨g5, 0, none⟩ (.int .i64 a.code)).setCell ⟨g5, 1, none⟩ (.bool a.found)).setCell ⟨g5, 2, none⟩ (.string a.k)).setCell ⟨g5, 3, none⟩ (.string a.v)) g4 g5 v0 R2 m2 B2 c2 a := by
  have t1 : Turn (fun i => i = g4) wr (wr.setCell ⟨g4, 0, none⟩ (.slice B2 m2 c2)) := Turn.set1 _ _ _ _
  have t2 := turn4 (wr.setCell ⟨g4, 0, none⟩ (.slice B2 m2 c2)) g5 0 1 2 3 (.int .i64 a.code) (.bool a.found) (.string a.k) (.string a.v)
  have l2 := h.l2; have l3 := h.l3; have l4 := h.l4; have l5 := h.l5
  have b4 : At (wr.setCell ⟨g4, 0, none⟩ (.slice B2 m2 c2)) g4 (.cells #[.slice B2 m2 c2] 60 (0, 0)) := by simpa using h.r4.set 0 (.slice B2 m2 c2)
  have b5 := h.r5.turn t1 (by omega)
  refine ⟨(h.tu.then t1 (fun i hi e => by omega)).then t2 (fun i hi e => by omega), b4.turn t2 (by omega), ?_, own_grown (own_grown ho t1 (fun k hk e => ?_)) t2 (fun k hk e => ?_), hold, hm⟩
  · simpa using (((b5.set 0 (.int .i64 a.code)).set 1 (.bool a.found)).set 2 (.string a.k)).set 3 (.string a.v)
  · subst e
    exact own_ne ho h.r4 (by decide) hk
  · subst e
    exact own_ne ho h.r5 (by decide) hk
theorem Dr.finB (h : Dr Z w wr g2 g3 g4 g5 op v0 R m B c) {R2 : List Pr} {m2 : Nat} {B2 : Option Addr} {c2 : Nat} (ho : wr.ownsRow Z 47 2 (.slice B2 m2 c2) m2 (pcs R2)) (hold : ∀ k, (Value.slice B2 m2 c2).ownBlock = some k → v0.ownBlock = some k ∨ w.heap.size ≤ k) (hm : R2.length = m2) (a : Ans) :
    Fi Z w (((((wr.setCell ⟨g5, 0, none⟩ (.int .i64 a.code)).setCell ⟨g5, 1, none⟩ (.bool a.found)).setCell ⟨g5, 2, none⟩ (.string a.k)).setCell ⟨g5, 3, none⟩ (.string a.v)).setCell ⟨g4, 0, none⟩ (.slice B2 m2 c2)) g4 g5 v0 R2 m2 B2 c2 a := by
  have t1 := turn4 wr g5 0 1 2 3 (.int .i64 a.code) (.bool a.found) (.string a.k) (.string a.v)
  have t2 : Turn (fun i => i = g4) ((((wr.setCell ⟨g5, 0, none⟩ (.int .i64 a.code)).setCell ⟨g5, 1, none⟩ (.bool a.found)).setCell ⟨g5, 2, none⟩ (.string a.k)).setCell ⟨g5, 3, none⟩ (.string a.v)) (((((wr.setCell ⟨g5, 0, none⟩ (.int .i64 a.code)).setCell ⟨g5, 1, none⟩ (.bool a.found)).setCell ⟨g5, 2, none⟩ (.string a.k)).setCell ⟨g5, 3, none⟩ (.string a.v)).setCell ⟨g4, 0, none⟩ (.slice B2 m2 c2)) := Turn.set1 _ _ _ _
  have l2 := h.l2; have l3 := h.l3; have l4 := h.l4; have l5 := h.l5
  have b4 := h.r4.turn t1 (by omega)
  have b5 : At ((((wr.setCell ⟨g5, 0, none⟩ (.int .i64 a.code)).setCell ⟨g5, 1, none⟩ (.bool a.found)).setCell ⟨g5, 2, none⟩ (.string a.k)).setCell ⟨g5, 3, none⟩ (.string a.v)) g5 (.cells #[.int .i64 a.code, .bool a.found, .string a.k, .string a.v] 38 (0, 0)) := by
    simpa using (((h.r5.set 0 (.int .i64 a.code)).set 1 (.bool a.found)).set 2 (.string a.k)).set 3 (.string a.v)
  refine ⟨(h.tu.then t1 (fun i hi e => by omega)).then t2 (fun i hi e => by omega), by simpa using b4.set 0 (.slice B2 m2 c2), b5.turn t2 (by omega), own_grown (own_grown ho t1 (fun k hk e => ?_)) t2 (fun k hk e => ?_), hold, hm⟩
  · subst e
    exact own_ne ho h.r5 (by decide) hk
  · subst e
    exact own_ne ho h.r4 (by decide) hk
theorem Dr.news (h : Dr Z w wr g2 g3 g4 g5 op v0 R m B c) {R2 : List Pr} {B2 : Option Addr} {c2 : Nat} (t : Turn No wr w2) (ho : w2.ownsRow wr.heap.size 47 2 (.slice B2 R2.length c2) R2.length (pcs R2)) :
    w2.ownsRow Z 47 2 (.slice B2 R2.length c2) R2.length (pcs R2) ∧ (∀ k, (Value.slice B2 R2.length c2).ownBlock = some k → v0.ownBlock = some k ∨ w.heap.size ≤ k) :=
  ⟨ho.mono (Nat.le_trans h.hZ h.tu.size), fun k hk => Or.inr (by
    have := (ho.lt k hk).1
    have := h.tu.size
    omega)⟩
end
theorem wrR_snoc {ws : List Wr} {j : Nat} {x : Wr} (hj : ws[j]? = some x) (l : List Pr) : wrR l (ws.take (j + 1)) = wrR1 (wrR l (ws.take j)) x := by
  unfold wrR
  rw [List.take_add_one, List.foldl_append, hj]
  rfl
theorem wrR_len (l : List Pr) : ∀ ws : List Wr, (wrR l ws).length ≤ l.length + ws.length := by
  intro ws
  unfold wrR
  induction ws generalizing l with
  | nil => simp
  | cons x t ih =>
    rw [List.foldl_cons]
    have h1 := ih (wrR1 l x)
    have h2 : (wrR1 l x).length ≤ l.length + 1 := by
      unfold wrR1
      split
      · have := del_len l x.k; omega
      · have := del_len l x.k; rw [with_len]; omega
    rw [List.length_cons]
    omega
end Go.Proofs.Ytllppkfeiifklaa
