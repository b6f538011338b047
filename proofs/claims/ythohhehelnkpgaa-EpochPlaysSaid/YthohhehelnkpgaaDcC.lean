/-
  What Unpin of the document's epoch comes to.
-/
import Derived.Test.YthohhehelnkpgaaDcB
namespace Go.Proofs.Ythohhehelnkpgaa
open Go.RowKit Go.Maps Go.IntWalk Go.Lib
set_option linter.unusedVariables false

/-- The document's epoch with its lists told one by one. -/
structure DcG (Z : Nat) (w : World) (qb : Nat) (av : Option Nat) (pl : List Int) (g n : Nat) (wf : Nat → List Int) (pv_ lv : Value) (ws : List Value) : Prop where
  at_ : At w qb (.cells #[pv_, lv] 35 (0, 0))
  pins : Nums Z w pv_ pl
  pav : ∀ i, pv_.ownBlock = some i → av ≠ some i
  row : w.ownsRow Z 65 2 lv n (flatR g ws)
  len : ws.length = n
  waits : ∀ i v, ws[i]? = some v → Nums Z w v (wf i) ∧ ∀ b, v.ownBlock = some b → av ≠ some b
  base : Z ≤ qb
section
variable {Z qb g n : Nat} {av : Option Nat} {w w' : World} {E : Ab} {pl : List Int} {wf wf' : Nat → List Int} {pv_ lv : Value} {ws : List Value} {t : Int}
theorem DcAt.toG (h : DcAt Z w qb av E pv_ lv ws) : DcG Z w qb av E.tasks E.gone E.fs.length (fun i => wl E.P (E.gone + i)) pv_ lv ws := ⟨h.at_, h.pins, h.pav, h.row, h.len, h.waits, h.base⟩
theorem DcG.toE (h : DcG Z w qb av E.tasks E.gone E.fs.length wf pv_ lv ws) (hw : E.wf) (he : ∀ i, i < E.fs.length → wf i = wl E.P (E.gone + i)) : Dc Z w qb av E :=
  ⟨pv_, lv, ws, h.at_, h.pins, h.pav, h.row, h.len, fun i v hv => by
    have hi : i < E.fs.length := by have := (List.getElem?_eq_some_iff.1 hv).1; have := h.len; omega
    rw [← he i hi]; exact h.waits i v hv, hw, h.base⟩
theorem DcG.turn {X : Nat → Prop} (h : DcG Z w qb av pl g n wf pv_ lv ws) (t : Turn X w w') (hX : ∀ i c ty f, At w i (.cells c ty f) → (ty = 35 ∨ ty = 65 ∨ (ty = 3 ∧ av ≠ some i)) → ¬ X i) : DcG Z w' qb av pl g n wf pv_ lv ws :=
  ⟨h.at_.turn t (hX _ _ _ _ h.at_ (Or.inl rfl)), h.pins.turn t (fun i c ho hi _ => hX _ _ _ _ hi (Or.inr (Or.inr ⟨rfl, h.pav i ho⟩))), h.pav, own_turn h.row t (fun i c _ hi _ => hX _ _ _ _ hi (Or.inr (Or.inl rfl))), h.len,
    fun i v hv => ⟨(h.waits i v hv).1.turn t (fun b c ho hi _ => hX _ _ _ _ hi (Or.inr (Or.inr ⟨rfl, (h.waits i v hv).2 b ho⟩))), (h.waits i v hv).2⟩, h.base⟩
theorem DcG.same (h : DcG Z w qb av pl g n wf pv_ lv ws) (t : Turn (fun _ => False) w w') : DcG Z w' qb av pl g n wf pv_ lv ws := h.turn t (fun _ _ _ _ _ _ h => h)
theorem DcG.cells (h : DcG Z w qb av pl g n wf pv_ lv ws) : w.cell? ⟨qb, 0, none⟩ = some pv_ ∧ w.cell? ⟨qb, 1, none⟩ = some lv := by
  rw [h.at_.cell, h.at_.cell]; exact ⟨rfl, rfl⟩
/-- The first field is written. -/
theorem DcG.head {v : Value} {pl' : List Int} (h : DcG Z w qb av pl g n wf pv_ lv ws) (hv : Nums Z w v pl') (ha : ∀ i, v.ownBlock = some i → av ≠ some i) : DcG Z (w.setCell ⟨qb, 0, none⟩ v) qb av pl' g n wf v lv ws ∧ Tr Ro Z w (w.setCell ⟨qb, 0, none⟩ v) := by
  have tz := set_turn w qb 0 v
  have no : ∀ i c ty f, At w i (.cells c ty f) → ty ≠ 35 → ¬ i = qb := fun i c ty f hi hne e => by
    subst e
    have := hi.eq h.at_
    injection this with _ e _
    exact hne e
  exact ⟨⟨h.at_.set 0 v, hv.turn tz (fun i c _ hi _ => no _ _ _ _ hi (by decide)), ha, own_turn h.row tz (fun i c _ hi _ => no _ _ _ _ hi (by decide)), h.len, fun i u hu => ⟨(h.waits i u hu).1.turn tz (fun i c _ hi _ => no _ _ _ _ hi (by decide)), (h.waits i u hu).2⟩, h.base⟩, Tr.set h.at_ (Or.inl rfl) h.base 0 v⟩
/-- One that waits: its cells. -/
theorem DcG.one (h : DcG Z w qb av pl g n wf pv_ lv ws) {m : Nat} (hm : m < n) : ∃ q cap u, lv = .slice (some ⟨q, 0, none⟩) n cap ∧ n ≤ cap ∧ q < w.heap.size ∧ ws[m]? = some u ∧ w.cell? ⟨q, m * 2, none⟩ = some (.int .i64 ((g + m : Nat) : Int)) ∧ w.cell? ⟨q, m * 2 + 1, none⟩ = some u ∧ w.frozen? ⟨q, m * 2 + 1, none⟩ = false ∧
    ∀ (v : Value) (l : List Int), Nums Z w v l → (∀ b, v.ownBlock = some b → av ≠ some b) → DcG Z (w.setCell ⟨q, m * 2 + 1, none⟩ v) qb av pl g n (fun i => if i = m then l else wf i) pv_ lv (ws.set m v) ∧ Tr Ro Z w (w.setCell ⟨q, m * 2 + 1, none⟩ v) := by
  obtain ⟨A, cap, rfl⟩ := own_form h.row
  have hlen := flatR_len ws g
  have hwl := h.len
  obtain ⟨q, rfl, _, hc, hz, hl, ⟨cq, hq⟩, hcell, hth, hput⟩ := own_at h.row (j := m * 2 + 1) (by rw [hlen]; omega)
  obtain ⟨u, hu⟩ : ∃ u, ws[m]? = some u := ⟨_, List.getElem?_eq_getElem (by omega)⟩
  obtain ⟨f0, f1⟩ := flatR_at ws g m u hu
  refine ⟨q, cap, u, rfl, hc, hl, hu, hcell _ _ f0, hcell _ _ f1, hth _, fun v l hv ha => ?_⟩
  have tz := set_turn w q (m * 2 + 1) v
  have no : ∀ i c ty f, At w i (.cells c ty f) → ty ≠ 65 → ¬ i = q := fun i c ty f hi hne e => by
    subst e
    have := hi.eq hq
    injection this with _ e _
    exact hne e
  have hr := hput v
  rw [flatR_set ws g m v (by omega)] at hr
  refine ⟨⟨h.at_.turn tz (no _ _ _ _ h.at_ (by decide)), h.pins.turn tz (fun i c _ hi _ => no _ _ _ _ hi (by decide)), h.pav, hr, by rw [List.length_set]; exact hwl, fun i x hx => ?_, h.base⟩, Tr.set hq (Or.inr rfl) hz _ _⟩
  rw [List.getElem?_set] at hx
  by_cases hi : m = i
  · rw [if_pos hi, if_pos (by omega)] at hx
    injection hx with hx
    subst hx
    rw [if_pos hi.symm]
    exact ⟨hv.turn tz (fun i c _ hi _ => no _ _ _ _ hi (by decide)), ha⟩
  · rw [if_neg hi] at hx
    rw [if_neg (fun e => hi e.symm)]
    exact ⟨(h.waits i x hx).1.turn tz (fun i c _ hi _ => no _ _ _ _ hi (by decide)), (h.waits i x hx).2⟩
theorem DcG.congr (h : DcG Z w qb av pl g n wf pv_ lv ws) (he : ∀ i, i < n → wf i = wf' i) : DcG Z w qb av pl g n wf' pv_ lv ws :=
  ⟨h.at_, h.pins, h.pav, h.row, h.len, fun i v hv => by
    have hi : i < n := by have := (List.getElem?_eq_some_iff.1 hv).1; have := h.len; omega
    rw [← he i hi]; exact h.waits i v hv, h.base⟩

set_option maxRecDepth 100000 in
set_option maxHeartbeats 4000000 in
theorem runpin_any (h : Dc Z w qb av E) (t : Int) (ha : ∀ i, av = some i → i < w.heap.size) :
    Calls Try.prog 20 #[.pointer (some ⟨qb, 0, none⟩), .int .i64 t] w fun e w' => e = .returned (.bool (look E.P t).isSome) ∧ Dc Z w' qb av (E.unpin t) ∧ Tr Ro Z w w' := by
  obtain ⟨p, l, ws, hd⟩ := h
  have hmt := mem_tasks hd.wf t
  have hpv : (pv E.P t).isSome = (look E.P t).isSome := by unfold pv; rw [Option.isSome_map]
  rw [hpv] at hmt
  have hTl : E.tasks.length ≤ 100000 := by unfold Ab.tasks; rw [List.length_map]; exact hd.wf.small.1
  have hfl : E.fs.length ≤ 100000 := by have : E.gone + E.fs.length ≤ 100000 := hd.wf.small.2; omega
  have HH := has_any hd.pins t hTl
  have hdec : decide (t ∈ E.tasks) = (look E.P t).isSome := by
    cases hb : (look E.P t).isSome with
    | true => exact decide_eq_true (hmt.2 hb)
    | false => exact decide_eq_false (fun h => by rw [hmt.1 h] at hb; cases hb)
  rw [hdec] at HH
  replace HH := Lib.hid HH
  have WO := Lib.hid (without_any hd.pins t hTl)
  have c0 := hd.cells.1
  have z0 := hd.at_.thawed 0
  have lq := hd.lt
  have hzs : Z ≤ w.heap.size := Nat.le_trans hd.base (Nat.le_of_lt hd.lt)
  have HD := Lib.hid (And.intro hd ha)
  clear hd ha hmt hpv hdec
  go_enter Try.func20, Try.ntmps20
  go_wp2_with fail
  refine HH.out.mono ?_
  rintro e w1 ⟨rfl, hq⟩
  have hq := hq.symm
  subst hq
  clear HH
  go_wp2_with fail
  refine WO.out.mono ?_
  rintro e w2 ⟨A, cap, rfl, hN, ht⟩
  have s2 := HD.out.1.toG.same ht
  obtain ⟨hg, hgt⟩ := s2.head (hN.mono hzs) (new_av hN HD.out.2)
  have HG : Hid (∃ ws', DcG Z (w2.setCell ⟨qb, 0, none⟩ (.slice A (wo E.tasks t).length cap)) qb av (wo E.tasks t) E.gone E.fs.length (fun i => if i < 0 then wo (wl E.P (E.gone + i)) t else wl E.P (E.gone + i)) (.slice A (wo E.tasks t).length cap) l ws' ∧ Tr Ro Z w (w2.setCell ⟨qb, 0, none⟩ (.slice A (wo E.tasks t).length cap))) :=
    Lib.hid ⟨ws, hg.congr (fun i _ => by rw [if_neg (by omega)]), (Tr.of_same ht).trans hgt⟩
  have c2 := s2.cells.1
  have z2 := s2.at_.thawed 0
  clear s2 hg hgt hN ht WO
  go_wp2_with fail
  generalize w2.setCell ⟨qb, 0, none⟩ (.slice A (wo E.tasks t).length cap) = w3 at HG ⊢
  generalize Value.slice A (wo E.tasks t).length cap = v3 at HG
  go_loopw [6] (fun i wz => ∃ m : Nat, m ≤ E.fs.length ∧ i = .int .i64 (m : Int) ∧ Hid (∃ ws', DcG Z wz qb av (wo E.tasks t) E.gone E.fs.length (fun i => if i < m then wo (wl E.P (E.gone + i)) t else wl E.P (E.gone + i)) v3 l ws' ∧ Tr Ro Z w wz)) (fun i _ => E.fs.length - (intOf i).toNat)
  case atStart => exact ⟨0, Nat.zero_le _, rfl, HG⟩
  case round =>
    obtain ⟨m, hm, rfl, hst⟩ := hrel
    clear HG c2 z2 c0 z0
    obtain ⟨ws', hG, hT⟩ := hst.out
    have m0 : (0 : Int) ≤ (m : Int) := by omega
    by_cases hlt : m < E.fs.length
    · have b1 : (m : Int) < (E.fs.length : Int) := by omega
      obtain ⟨q, cp, u, hlv, hc, hql, hu, k0, k1, k2, hput⟩ := hG.one hlt
      obtain ⟨hNu, hau⟩ := hG.waits m u hu
      rw [if_neg (by omega)] at hNu
      have c1 := hG.cells.2
      rw [hlv] at c1
      have lq2 := hG.at_.lt
      have hws : (wl E.P (E.gone + m)).length ≤ 100000 := Nat.le_trans (wl_len_le _ _) HD.out.1.wf.small.1
      have CA : Hid (∀ W, Turn (fun _ => False) wr W → Calls Try.prog 35 #[u, .int .i64 t] W fun e w' => ∃ A cap, e = .returned (.slice A (wo (wl E.P (E.gone + m)) t).length cap) ∧ Nums W.heap.size w' (.slice A (wo (wl E.P (E.gone + m)) t).length cap) (wo (wl E.P (E.gone + m)) t) ∧ Turn (fun _ => False) W w') :=
        Lib.hid fun W hW => without_any (hNu.same hW) t hws
      have HGG := Lib.hid (And.intro hG (And.intro hT hu))
      have hzr : Z ≤ wr.heap.size := Nat.le_trans hG.base (Nat.le_of_lt lq2)
      have har : Hid (∀ i, av = some i → i < wr.heap.size) := Lib.hid fun i hi => Nat.lt_of_lt_of_le (HD.out.2 i hi) hT.size
      obtain ⟨uA, ucap, rfl⟩ := hNu.form
      clear hst hG hT hNu hau hput hu
      replace hlv := Lib.hid hlv
      go_wp2_with fail
      go_region_with (go_at_call 35; refine (CA.out _ ((Turn.refl _ _).drewN _)).mono ?_; rintro e wy ⟨A5, cap5, rfl, hN5, ht5⟩; have s5 := Lib.hid (HGG.out.1.same (((Turn.refl (fun _ => False) wr).drewN _).trans ht5)); have d1 := s5.out.cells.2; rw [hlv.out] at d1; obtain ⟨q6, cp6, u6, hl6, hc6, hq6, hu6, e0, e1, e2, hput6⟩ := s5.out.one hlt; rw [hlv.out] at hl6; obtain rfl : q = q6 := (by injection hl6 with h; injection h with h; injection h); have hfin := Lib.hid (And.intro (hput6 _ _ (hN5.mono (by first | exact hzr | simpa using hzr)) (new_av hN5 (fun i hi => by have := har.out i hi; first | exact this | simpa using this))) (Tr.of_same (T := Ro) (Z := Z) (((Turn.refl (fun _ => False) wr).drewN _).trans ht5))); clear hN5 ht5 hput6 hl6 hu6 hc6)
      all_goals
        go_wp2_with fail
        go_roundw
        case rel =>
          refine ⟨m + 1, by omega, by go_num, _, hfin.out.1.1.congr (fun i _ => ?_), (HGG.out.2.1.trans hfin.out.2).trans hfin.out.1.2⟩
          by_cases hi : i = m
          · rw [if_pos hi, if_pos (by omega), hi]
          · rw [if_neg hi]
            by_cases h2 : i < m
            · rw [if_pos h2, if_pos (by omega)]
            · rw [if_neg h2, if_neg (by omega)]
        case measure => simp [intOf]; omega
    · have b1 : ¬ (m : Int) < (E.fs.length : Int) := by omega
      obtain rfl : m = E.fs.length := by omega
      obtain ⟨LA, lcap, hlv⟩ := own_form hG.row
      have c1 := hG.cells.2
      rw [hlv] at c1
      replace hlv := Lib.hid hlv
      have hfin : Hid (Dc Z wr qb av (E.unpin t)) := Lib.hid (DcG.toE (E := E.unpin t) (wf := fun i => if i < E.fs.length then wo (wl E.P (E.gone + i)) t else wl E.P (E.gone + i)) (by rw [tasks_del]; exact hG) (HD.out.1.wf.unpin t) (fun i hi => by
        have hi2 : i < E.fs.length := hi
        rw [if_pos hi2]
        exact (wl_del E.P t (E.gone + i)).symm))
      have hTT := Lib.hid hT
      clear hG hT hst
      go_wp2_with fail
      go_ret
      exact ⟨rfl, hfin.out, hTT.out⟩
end
end Go.Proofs.Ythohhehelnkpgaa
