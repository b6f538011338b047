/-
  walks: All is what Next tells, from the empty key on.
-/
import Derived.Test.YtjjmooegpoeomaaWLess
import Derived.Test.YtjjmooegpoeomaaWApt
namespace Go.Proofs.Ytjjmooegpoeomaa
open Go.RowKit Go.Lib
set_option linter.unusedVariables false
set_option linter.unusedSimpArgs false

theorem not_kl_nil (a : ByteArray) : ¬ kl a ⟨#[]⟩ := by
  unfold kl kcmp
  have : (⟨#[]⟩ : ByteArray).data.toList = [] := rfl
  rw [this]
  cases a.data.toList <;> simp [Lib.compareBytes]
theorem nexts_first (l : List Pr) : nexts l ⟨#[]⟩ false = l := by
  unfold nexts
  rw [Bool.and_false, if_neg (by decide)]
  unfold hiL
  cases l with
  | nil => rfl
  | cons p t => rw [List.dropWhile_cons, if_neg (by simpa using not_kl_nil p.k)]
theorem hi_at {l : List Pr} (h : Asc l) {i : Nat} {p : Pr} (hp : l[i]? = some p) : hiL l p.k = p :: l.drop (i + 1) := by
  have e : l = l.take i ++ p :: l.drop (i + 1) := by rw [← drop_cons hp, List.take_append_drop]
  have h2 := h
  unfold Asc at h2
  rw [e, List.pairwise_append] at h2
  unfold hiL
  conv => lhs; rw [e]
  rw [List.dropWhile_append_of_pos (fun q hq => by simpa using h2.2.2 q hq p List.mem_cons_self), List.dropWhile_cons, if_neg (by simpa using kl_irrefl p.k)]
theorem nexts_after {l : List Pr} (h : Asc l) {i : Nat} {p : Pr} (hp : l[i]? = some p) : nexts l p.k true = l.drop (i + 1) := by
  have e := hi_at h hp
  unfold nexts hasL
  rw [e]
  simp
theorem doA_next (l : List Pr) (k : ByteArray) (aft : Bool) (h : bigK k = false) : doA l 5 k ⟨#[]⟩ ⟨#[]⟩ false aft [] = nans (nexts l k aft) := by
  unfold doA refO
  simp [h]
theorem doM_next (l : List Pr) (k v o : ByteArray) (had aft : Bool) (ws : List Wr) : doM l 5 k v o had aft ws = l := by
  unfold doM
  split <;> simp
structure Wl (w wr : World) (m : Nat) (r : Option Nat) (M : List Pr) (bb g : Nat) (a : Ans) : Prop where
  so : So w wr m r M
  row : Row wr (some ⟨bb, 0, none⟩) (pcs M)
  bm : bb ≠ m
  br : r ≠ some bb
  bl : bb < wr.heap.size
  box : At wr g (.cells #[.int .i64 a.code, .bool a.found, .string a.k, .string a.v] 35 (0, 0))
section
variable {w wr : World} {m : Nat} {r : Option Nat} {M : List Pr} {bb g : Nat} {a : Ans}
theorem Wl.no (h : Wl w wr m r M bb g a) {w2 : World} (t : Turn No wr w2) : Wl w w2 m r M bb g a := ⟨h.so.no t, h.row.no t, h.bm, h.br, Nat.lt_of_lt_of_le h.bl t.size, h.box.no t⟩
theorem Wl.step (h : Wl w wr m r M bb g a) {w2 : World} {r2 : Option Nat} (hom : Om w2 w.heap.size m r2 M) (hr : r2 = r ∨ ∃ k, r2 = some k ∧ wr.heap.size ≤ k) (t : Turn (Mp m r) wr w2) : Wl w w2 m r2 M bb g a := by
  refine ⟨⟨hom, turn_mp h.so.a h.so.tu t⟩, h.row.turn t (fun b o e hx => ?_), h.bm, ?_, Nat.lt_of_lt_of_le h.bl t.size, h.so.a.keep h.box (by decide) (by decide) t⟩
  · injection e with e; injection e with e
    subst e
    exact hx.elim h.bm h.br
  · rcases hr with e | ⟨k, e, hk⟩
    · rw [e]; exact h.br
    · rw [e]; intro e2; injection e2 with e2; have := h.bl; omega
theorem Wl.put (h : Wl w wr m r M bb g a) (b : Ans) (hg : w.heap.size ≤ g) : Wl w ((((wr.setCell ⟨g, 0, none⟩ (.int .i64 b.code)).setCell ⟨g, 1, none⟩ (.bool b.found)).setCell ⟨g, 2, none⟩ (.string b.k)).setCell ⟨g, 3, none⟩ (.string b.v)) m r M bb g b := by
  have t := turn4 wr g 0 1 2 3 (.int .i64 b.code) (.bool b.found) (.string b.k) (.string b.v)
  have hap := h.so.a.apart h.box (by decide) (by decide)
  refine ⟨⟨h.so.a.turn t (fun e => hap.1 e.symm) (fun k hk e => hap.2 (by rw [hk, e])), h.so.tu.then t (fun i hi e => by omega)⟩, ?_, h.bm, h.br, Nat.lt_of_lt_of_le h.bl t.size, ?_⟩
  · cases hM : M with
    | nil => exact Row.nil _ _
    | cons p t2 =>
      have hrow := h.row
      rw [hM] at hrow
      refine hrow.turn t (fun b' o e hx => ?_)
      injection e with e; injection e with e
      subst e
      subst hx
      obtain ⟨b3, o3, e3, _, hc⟩ := hrow 0 (.string p.k) rfl
      injection e3 with e3; injection e3 with e4 e5
      subst e4 e5
      rw [Nat.zero_add, h.box.cell] at hc
      simp at hc
  · simpa using (((h.box.set 0 (.int .i64 b.code)).set 1 (.bool b.found)).set 2 (.string b.k)).set 3 (.string b.v)
end

set_option maxRecDepth 100000 in
set_option maxHeartbeats 8000000 in
theorem walks_any {w W : World} {m : Nat} {r : Option Nat} {M : List Pr} (h : So w W m r M) (hn : M.length ≤ 30000) :
    Calls Try.prog 22 #[.pointer (some ⟨m, 0, none⟩)] W fun e w' => e = .returned (.bool true) ∧ Turn No w w' := by
  have CA := Lib.hid (all_any h.a)
  have H0 := Lib.hid h
  clear h
  go_enter Try.func22, Try.ntmps22
  go_upto_region 2 with (go_at_call 14; refine CA.out.mono ?_; rintro e w1 ⟨bb, rfl, ho, ht⟩; have H1 : Hid (So w w1 m r M ∧ Row w1 (some ⟨bb, 0, none⟩) (pcs M) ∧ bb ≠ m ∧ r ≠ some bb ∧ bb < w1.heap.size) := Lib.hid ⟨H0.out.no ht, row_of_own ho, (by have h1 := ho.lt bb rfl; have := H0.out.a.lt; omega), (fun e => by have h1 := ho.lt bb rfl; have := (H0.out.a.rb_lt e).2; omega), (ho.lt bb rfl).2⟩; clear ho ht)
  have CD := Lib.hid (om_do H1.out.1.a H1.out.1.tu 5 ⟨#[]⟩ ⟨#[]⟩ ⟨#[]⟩ false false none 0 [] (Row.nil _ _) ⟨by decide, by decide, by decide, by decide, by simp⟩ hn (doA_next M ⟨#[]⟩ false (by decide)) (doM_next _ _ _ _ _ _ _))
  rw [nexts_first] at CD
  have HAsc := Lib.hid H0.out.a.asc
  have HFit := Lib.hid H0.out.a.fit
  clear CA H0
  simp only [List.length_nil] at CD
  obtain ⟨a0, ha0⟩ : ∃ a, nans (M.drop 0) = a := ⟨_, rfl⟩
  have HA0 := Lib.hid ha0
  rw [List.drop_zero] at ha0
  rw [ha0] at CD
  clear ha0
  go_upto_region 3 with (go_at_call 16; refine CD.out.mono ?_; rintro e w2 ⟨rfl, r2, hom, hr, ht⟩; have H2 : Hid (So w w2 m r2 M ∧ Row w2 (some ⟨bb, 0, none⟩) (pcs M) ∧ bb ≠ m ∧ r2 ≠ some bb ∧ bb < w2.heap.size) := Lib.hid ⟨⟨hom, turn_mp H1.out.1.a H1.out.1.tu ht⟩, H1.out.2.1.turn ht (fun b o e hx => by injection e with e; injection e with e; subst e; exact hx.elim H1.out.2.2.1 H1.out.2.2.2.1), H1.out.2.2.1, (by rcases hr with e | ⟨k, e, hk⟩; (rw [e]; exact H1.out.2.2.2.1); (rw [e]; intro e2; injection e2 with e2; have := H1.out.2.2.2.2; omega)), Nat.lt_of_lt_of_le H1.out.2.2.2.2 ht.size⟩; clear hom hr ht)
  clear CD H1
  have H3 : Hid (w.heap.size ≤ w2.heap.size ∧ ∃ r3, Wl w (w2.alloc (.cells #[.int .i64 a0.code, .bool a0.found, .string a0.k, .string a0.v] 35)) m r3 M bb w2.heap.size (nans (M.drop 0))) := Lib.hid ⟨H2.out.1.tu.size, r2, by
    have t : Turn No w2 (w2.alloc (.cells #[.int .i64 a0.code, .bool a0.found, .string a0.k, .string a0.v] 35)) := (Turn.refl _ _).alloc _
    refine ⟨H2.out.1.no t, H2.out.2.1.no t, H2.out.2.2.1, H2.out.2.2.2.1, Nat.lt_of_lt_of_le H2.out.2.2.2.2 t.size, ?_⟩
    rw [HA0.out]
    exact At.new _ _⟩
  generalize w2.alloc (.cells #[.int .i64 a0.code, .bool a0.found, .string a0.k, .string a0.v] 35) = w3 at H3 ⊢
  generalize w2.heap.size = g at H3 ⊢
  have HG := Lib.hid H3.out.1
  have H4 := Lib.hid H3.out.2
  clear H2 H3
  go_wp2_with fail
  go_loopw [5] (fun x wr => ∃ i : Nat, i ≤ M.length ∧ x = .int .i64 (i : Int) ∧ Hid (∃ r3, Wl w wr m r3 M bb g (nans (M.drop i)))) (fun x _ => M.length - (RowKit.intOf x).toNat)
  case atStart => exact ⟨0, Nat.zero_le _, rfl, H4⟩
  case round =>
    obtain ⟨i, hi, rfl, HP⟩ := hrel
    clear H4
    obtain ⟨r3, hwl⟩ := HP.out
    have HWL := Lib.hid hwl
    clear hwl HP
    by_cases hlt : i < M.length
    · obtain ⟨p, hp⟩ : ∃ p, M[i]? = some p := ⟨M[i], List.getElem?_eq_getElem hlt⟩
      have HPP := Lib.hid hp
      have hna : nans (M.drop i) = ⟨0, true, p.k, p.v⟩ := by rw [drop_cons hp]; rfl
      rw [hna] at HWL
      have hcp : Hid (∀ W, Turn No wr W → W.cell? ⟨bb, i * 2, none⟩ = some (.string p.k) ∧ W.cell? ⟨bb, i * 2 + 1, none⟩ = some (.string p.v)) := Lib.hid fun W t => (HWL.out.row.no t).at0 hp
      have hfp := HFit.out p (List.mem_of_getElem? hp)
      obtain ⟨pk, pv⟩ := p
      simp only at HWL hcp hfp
      have hq1 : (0 : Int) ≤ (i : Int) := by omega
      have hq2 : (i : Int) < (M.length : Int) := by omega
      have HQF := Lib.hid hfp
      clear hp hna hfp
      go_upto_region 6 with fail
      go_cut [33] from 17 to 34 (fun s wx => s = .bool false ∧ Hid (Turn No wr wx))
      case first =>
        by_cases h0 : 0 < i
        · obtain ⟨j, hj⟩ : ∃ j, i = j + 1 := ⟨i - 1, by omega⟩
          obtain ⟨q, hq⟩ : ∃ q, M[j]? = some q := ⟨M[j]'(by omega), List.getElem?_eq_getElem (by omega)⟩
          have hkl : kl q.k pk := by
            have hA := HAsc.out
            have h1 := hq
            have h2 := HPP.out
            rw [List.getElem?_eq_some_iff] at h1 h2
            obtain ⟨h1, e1⟩ := h1
            obtain ⟨h2, e2⟩ := h2
            have := List.pairwise_iff_getElem.1 hA j i h1 h2 (by omega)
            rw [e1, e2] at this
            exact this
          have hfq := HFit.out q (List.mem_of_getElem? hq)
          have CL := Lib.hid (less_any q.k pk wr.drew hfq.1 HQF.out.1)
          rw [decide_eq_true hkl] at CL
          have hSn : Hid (∀ W, Turn No wr W → W.cell? ⟨bb, j * 2, none⟩ = some (.string q.k) ∧ W.cell? ⟨bb, i * 2, none⟩ = some (.string pk)) := Lib.hid fun W t => ⟨((HWL.out.row.no t).at0 hq).1, (hcp.out W t).1⟩
          obtain ⟨qk, qv⟩ := q
          simp only at hSn CL
          have tt0 : Turn No wr wr.drew := (Turn.refl _ _).drew
          have hS0 := hSn.out _ tt0
          have q1 : (i : Int) - 1 = (j : Int) := by omega
          have q2 : IntKind.i64.wrap ((i : Int) - 1) = (j : Int) := by rw [IntKind.wrap_i64]; omega
          have q8 : IntKind.i64.wrap (j : Int) = (j : Int) := by rw [IntKind.wrap_i64]; omega
          have q3 : (0 : Int) ≤ (j : Int) := by omega
          have q4 : (j : Int) < (M.length : Int) := by omega
          have q5 : (0 : Int) < (i : Int) := by omega
          have hd : decide ((0 : Int) < (i : Int)) = true := decide_eq_true (by omega)
          have hdn : decide (0 < i) = true := decide_eq_true h0
          clear hq hkl hfq hj
          go_region_held3 (fun W => W.cell? ⟨bb, j * 2, none⟩ = some (.string qk) ∧ W.cell? ⟨bb, i * 2, none⟩ = some (.string pk)) (first | (with_reducible exact hS0) | (with_reducible exact hSn.out _ T9.out)) (first | (go_at_call 46; (with_reducible refine CL.out.mono ?_); rintro e w9 ⟨rfl, nn, hw⟩; have T9 : Hid (Turn No wr w9) := Lib.hid (by rw [hw]; exact tt0.drewN _); clear hw))
          go_wp2_with fail
          go_meet
          exact ⟨rfl, T9⟩
        · obtain rfl : i = 0 := by omega
          rw [show (((0 : Nat) : Int)) = 0 from rfl]
          clear h0 hq1
          go_quiet (fail)
          all_goals go_wp2_with fail
          all_goals go_meet
          all_goals exact ⟨rfl, Lib.hid ((Turn.refl No wr).drewN _)⟩
      case rest =>
        obtain ⟨rfl, HT⟩ := hcut
        have HW2 := Lib.hid (HWL.out.no HT.out)
        have hcq : Hid (∀ W, Turn No wc W → W.cell? ⟨bb, i * 2, none⟩ = some (.string pk) ∧ W.cell? ⟨bb, i * 2 + 1, none⟩ = some (.string pv)) := Lib.hid fun W t => hcp.out W (HT.out.trans t)
        clear HWL hcp HT
        have x0 := (hcq.out wc (Turn.refl _ _)).1
        have x1 := (hcq.out wc (Turn.refl _ _)).2
        have y0 := HW2.out.box.cell 0
        have y1 := HW2.out.box.cell 1
        have y2 := HW2.out.box.cell 2
        have y3 := HW2.out.box.cell 3
        simp at y0 y1 y2 y3
        have qn := fun W => neq_ans 0 0 true true pk pk pv pv W
        rw [ansEq_same] at qn
        go_upto_region 8 with fail
        go_cut [46] from 34 to 47 (fun s wx => s = .bool false ∧ Hid (Turn No wc wx))
        case first =>
          go_quiet (fail)
          all_goals go_wp2_with fail
          all_goals go_meet
          all_goals exact ⟨rfl, Lib.hid ((Turn.refl No wc).drewN _)⟩
        case rest =>
          obtain ⟨rfl, HT⟩ := hcut
          have HW3 := Lib.hid (HW2.out.no HT.out)
          have x0 := (hcq.out _ HT.out).1
          clear x1 y0 y1 y2 y3
          by_cases hbig : bigK pk = true
          · have g1 : (24 : Int) < (pk.size : Int) := by have := of_decide_eq_true hbig; omega
            clear hbig
            go_wp2_with fail
            go_ret
            exact ⟨rfl, HW3.out.so.tu⟩
          · have hb : bigK pk = false := by simpa using hbig
            have g1 : ¬ (24 : Int) < (pk.size : Int) := by have := of_decide_eq_false hb; omega
            have hsz : pk.size ≤ 500 := by have := of_decide_eq_false hb; omega
            have CN := Lib.hid (om_do HW3.out.so.a HW3.out.so.tu 5 pk ⟨#[]⟩ ⟨#[]⟩ false true none 0 [] (Row.nil _ _) ⟨hsz, by decide, by decide, by decide, by simp⟩ hn (doA_next M pk true hb) (doM_next _ _ _ _ _ _ _))
            rw [nexts_after HAsc.out HPP.out] at CN
            simp only [List.length_nil] at CN
            clear hbig hb hsz
            go_wp2_with (go_at_call 16; refine CN.out.mono ?_; rintro e w9 ⟨rfl, r9, hom, hr, ht⟩; have H9 : Hid (Wl w w9 m r9 M bb g ⟨0, true, pk, pv⟩) := Lib.hid (HW3.out.step hom hr ht); clear hom hr ht; have t0 := H9.out.box.cell 0; have t1 := H9.out.box.cell 1; have t2 := H9.out.box.cell 2; have t3 := H9.out.box.cell 3; simp at t0 t1 t2 t3; have e0 := H9.out.box.thawed 0; have e1 := H9.out.box.thawed 1; have e2 := H9.out.box.thawed 2; have e3 := H9.out.box.thawed 3)
            exact ⟨⟨i + 1, by omega, by go_num, Lib.hid ⟨_, H9.out.put _ HG.out⟩⟩, by simp [RowKit.intOf]; omega⟩
    · obtain rfl : i = M.length := by omega
      have hz : nans (M.drop M.length) = ⟨0, false, ⟨#[]⟩, ⟨#[]⟩⟩ := by rw [List.drop_length]; rfl
      rw [hz] at HWL
      have y0 := HWL.out.box.cell 0
      have y1 := HWL.out.box.cell 1
      have y2 := HWL.out.box.cell 2
      have y3 := HWL.out.box.cell 3
      simp at y0 y1 y2 y3
      have CL := Lib.hid (len_any HWL.out.so.a)
      have qn := fun W => eql_ans 0 0 false false ⟨#[]⟩ ⟨#[]⟩ ⟨#[]⟩ ⟨#[]⟩ W
      rw [ansEq_same] at qn
      clear hz
      go_wp2_with (go_at_call 20; (with_reducible refine CL.out.mono ?_); rintro e w8 ⟨rfl, hw⟩; subst hw)
      go_ret
      exact ⟨rfl, HWL.out.so.tu⟩
end Go.Proofs.Ytjjmooegpoeomaa
