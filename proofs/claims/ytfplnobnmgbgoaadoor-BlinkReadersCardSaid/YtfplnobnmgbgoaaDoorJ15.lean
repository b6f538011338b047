/-
  The tree's Put.
  The tree's New.
  The tree's Delete.
  The tree's leaves.
  The tree's Slots and Len.
  The tree's All.
-/
import Derived.Test.YtfplnobnmgbgoaaDoorJ14
namespace Go.Proofs.YtfplnobnmgbgoaaDoor
open Go.RowKit Go.Lib
set_option linter.unusedVariables false
set_option maxRecDepth 20000
set_option linter.unusedSimpArgs false

/-- needs, of a way down. -/
theorem needs_c {w : World} {I : Ids} {N : Nat → Option Ent} {T : List Lvl} {root : Hn} {G : List Nat} {fr : Nat → Bool} {key : ByteArray} {U : List Lvl} {L A : Lvl} {h : Hn} {n : Nd} {B : Lvl} (hm : Tm w I N T.flatten root G fr) (d : Way T key U L A h n B) {Q : List Nat} (hQ : Q = ptrs N (L.reverse ++ [(h, n)])) {b o : Nat} (c : Nat) (hp : PRow w b o Q) (hlen : Q.length < 10000) (W : World) (tW : Turn No w W) :
    Calls Tryd.prog 49 #[.slice (some ⟨b, o, none⟩) Q.length c] W fun e w' => e = .returned (.int .i64 ((nds ((h, n) :: L) : Nat) : Int)) ∧ Turn No W w' := by
  obtain ⟨Z, hZ⟩ : ∃ Z, L.reverse ++ [(h, n)] = Z := ⟨_, rfl⟩
  rw [hZ] at hQ
  have hZr : (h, n) :: L = Z.reverse := by rw [← hZ]; simp
  have hql : Q.length = Z.length := by rw [hQ]; unfold ptrs; simp
  have hl0 : 0 < Z.length := by rw [← hZ]; simp
  have hmem : ∀ z ∈ Z, z ∈ T.flatten := fun z hz => by
    rw [← hZ] at hz
    rcases List.mem_append.1 hz with h1 | h1
    · exact d.d.lmem z (List.mem_reverse.1 h1)
    · rw [List.mem_singleton.1 h1]; exact d.d.mem
  have hmW := hm.no tW
  have hcell : ∀ j, j < Z.length → (ptrs N Z).getD j 0 < W.heap.size ∧ ∃ A c, W.cell? ⟨(ptrs N Z).getD j 0, 2, none⟩ = some (.slice A ((Z.map fun z => z.2.keys.length).getD j 0) c) := fun j hj => by
    obtain ⟨e, s, h1, h2, h3⟩ := hmW.s.blk (hmem Z[j] (List.getElem_mem hj))
    obtain ⟨AK, ck, AV, cv, AD, cd, a1, _⟩ := hmW.b.at_ h1
    have e1 : (ptrs N Z).getD j 0 = e.blk := by
      unfold ptrs
      rw [List.getD_eq_getElem?_getD, List.getElem?_map, List.getElem?_eq_getElem hj]
      exact h3
    have e2 : (Z.map fun z => z.2.keys.length).getD j 0 = e.nd.keys.length := by
      rw [List.getD_eq_getElem?_getD, List.getElem?_map, List.getElem?_eq_getElem hj]
      show Z[j].2.keys.length = _
      rw [h2]
    rw [e1, e2]
    exact ⟨a1.lt, AK, ck, (node_cells a1).2.1⟩
  have hrow : ∀ j, j < Z.length → b < W.heap.size ∧ W.cell? ⟨b, o + j, none⟩ = some (.pointer (some ⟨(ptrs N Z).getD j 0, 1, none⟩)) := fun j hj => by
    have hj2 : j < Q.length := by omega
    obtain ⟨b', o', hA, hb, hc⟩ := (hp.no tW).r j (pq ((ptrs N Z).getD j 0)) (by rw [hQ, List.getElem?_map]; rw [List.getD_eq_getElem?_getD]; rw [hQ] at hj2; rw [List.getElem?_eq_getElem hj2]; rfl)
    injection hA with hA
    injection hA with e1 e2
    subst e1 e2
    exact ⟨hb, hc⟩
  rw [hql]
  have hc := callsIn_wide.1 (needs_in Fence.wide 3 trivial trivial trivial rfl (Nat.le_refl _) b o Z.length c hl0 (by omega) (fun j => (ptrs N Z).getD j 0) (fun j => (Z.map fun z => z.2.keys.length).getD j 0) W hrow hcell)
  refine hc.mono ?_
  rintro e w' ⟨hv, hb⟩
  refine ⟨?_, Turn.of_below hb⟩
  rw [nds_ndk, hZr, List.map_reverse]
  obtain ⟨K, hK⟩ : ∃ K, (Z.map fun z => z.2.keys.length) = K := ⟨_, rfl⟩
  have hkl : K.length = Z.length := by rw [← hK, List.length_map]
  rw [hK] at hv ⊢
  rcases hv with ⟨rfl, h1⟩ | ⟨k, hk, rfl, h1, h2⟩
  · rw [ndk_all, List.length_reverse, hkl]
    · rfl
    · intro x hx
      obtain ⟨j, hj⟩ := List.mem_iff_getElem?.1 (List.mem_reverse.1 hx)
      have hjl := (List.getElem?_eq_some_iff.1 hj).1
      have := h1 j (by omega)
      rw [List.getD_eq_getElem?_getD, hj] at this
      exact this
  · have hsplit : K = K.take k ++ K[k]'(by omega) :: K.drop (k + 1) := by rw [List.getElem_cons_drop, List.take_append_drop]
    have hk4 : K[k]'(by omega) < 4 := by
      rw [List.getD_eq_getElem?_getD, List.getElem?_eq_getElem (by omega)] at h1
      exact h1
    have hr : K.reverse = (K.drop (k + 1)).reverse ++ K[k]'(by omega) :: (K.take k).reverse := by
      conv => lhs; rw [hsplit]
      simp
    rw [hr, ndk_first _ hk4, List.length_reverse, List.length_drop]
    · congr 2
      omega
    · intro x hx
      obtain ⟨j, hj⟩ := List.mem_iff_getElem?.1 (List.mem_reverse.1 hx)
      rw [List.getElem?_drop] at hj
      have hjl := (List.getElem?_eq_some_iff.1 hj).1
      have := h2 (k + 1 + j) (by omega) (by omega)
      rw [List.getD_eq_getElem?_getD, hj] at this
      exact this
theorem nds_le : ∀ L : Lvl, nds L ≤ L.length + 1
  | [] => Nat.le_refl _
  | (h, n) :: L => by
    show (if n.keys.length < 4 then 0 else 1 + nds L) ≤ _
    have := nds_le L
    split
    · omega
    · rw [List.length_cons]; omega
/-- The leaf is kept: what the tree has then. -/
theorem put_keep {w W : World} {I : Ids} {N : Nat → Option Ent} {T : List Lvl} {root : Hn} {G : List Nat} {fr : Nat → Bool} {key val : ByteArray} {U : List Lvl} {L A : Lvl} {h : Hn} {n m : Nd} {B : Lvl} {AK AV AD : Option Addr} {g c q : Nat} {Q0 : List Nat} (hm : Tm w I N T.flatten root G fr) (d : Way T key U L A h n B) (hk : Kst key U L A h m B [] root) (hp : prs m = putL (prs n) key val) (hle : n.keys.length ≤ m.keys.length) (hb : m.bnd = n.bnd) (hh : m.high = n.high)
    (tW : Turn No w W) (hi : Inn W m AK AV AD) (hpr : PRow W g 0 (Q0 ++ [q])) (hQ : Q0 ++ [q] = ptrs N (L.reverse ++ [(h, n)])) (hc : Q0.length + 1 ≤ c) (hl : Q0.length < 10000) (hf : m.keys.length = 5 → 1 + nds L ≤ cnt fr G.length) (ck cv cd : Nat) :
    Calls Tryd.prog 50 #[.pointer (some ⟨I.tb, 0, none⟩), .slice (some ⟨g, 0, none⟩) (Q0.length + 1) c, .agg (ndc m AK ck AV cv AD cd)] W fun e w' => e = .returned (.tuple #[]) ∧ PutOk I T G fr (putL (flatT T) key val) w w' := by
  have hpm := vt_perm U A h n B []
  rw [← d.vt] at hpm
  refine ((keep_c U).k W I N n G fr AK ck AV cv AD cd g 0 Q0 q c hk ((hm.no tW).perm hpm.symm) hi hpr hQ hc hl hf).mono ?_
  rintro e w' ⟨rfl, N', T', root', fr', k1, k2, k3, k4, k5, k6⟩
  refine ⟨rfl, N', T', root', fr', k1, k2, (Tn.no tW).trans k3, k4.fl.trans (d.putF hp), fun f x hv => k4.vis f x (d.vis hb hh (ch_leaf hk.tw.1 m (by simp)).1 f x hv), ?_, fun hmn => k4.mn (d.min hle hmn), by rw [k5, hpm.length_eq], k6⟩
  have := k4.lv
  rw [if_pos rfl, d.lv] at this
  exact this
set_option maxRecDepth 100000 in
set_option maxHeartbeats 8000000 in
theorem bput_any {w : World} {I : Ids} {N : Nat → Option Ent} {T : List Lvl} {root : Hn} {G : List Nat} {fr : Nat → Bool} (hm : Tm w I N T.flatten root G fr) (hg : Good T root) (key val : ByteArray) (fk : Fit key) (fv : Fit val) :
    Calls Tryd.prog 18 #[.pointer (some ⟨I.tb, 0, none⟩), .string key, .string val] w (TPut I T G fr key val w) := by
  have hTl := hg.len hm.len
  have hrz := hm.rtz hg
  have HALL := Lib.hid (And.intro hm (And.intro hg (And.intro fk (And.intro fv hTl))))
  have CM := Lib.hid (made_yes I root w hm.t)
  have CS := Lib.hid (stands_any I root w hm.t)
  rw [hrz] at CS
  have CLn := Lib.hid (line_any (hm.tr hg) key fk hTl)
  clear hm hg fk fv hTl hrz
  go_enter Tryd.func18, Tryd.ntmps18
  go_wp2_with (first | (go_at_call 41; refine CM.out.mono ?_; rintro e w1 ⟨rfl, hw⟩; rw [hw]; clear hw) | (go_at_call 42; refine CS.out.mono ?_; rintro e w1 ⟨rfl, hw⟩; rw [hw]; clear hw))
  refine CLn.out.mono ?_
  rintro e w1 ⟨U, L, A, h, n, B, Q, Bq, c, rfl, hd, hQ, hP⟩
  obtain ⟨Q0, q, hQ0, hq⟩ : ∃ Q0 q, ptrs N (L.reverse ++ [(h, n)]) = Q0 ++ [q] ∧ q = blkOf N (h, n) := ⟨ptrs N L.reverse, blkOf N (h, n), by unfold ptrs; simp, rfl⟩
  rw [hQ0] at hQ
  subst hQ
  obtain ⟨g, hBq, hgl⟩ := hP.blk_ (by simp)
  subst hBq
  have hpr := hP.prow
  have hql : (Q0 ++ [q]).length < 10000 := by
    have h1 := congrArg List.length hQ0
    have h2 := hd.d.len
    have h3 := HALL.out.2.2.2.2
    unfold ptrs at h1
    rw [List.length_map] at h1
    simp only [List.length_append, List.length_reverse, List.length_singleton, List.length_nil] at h1 h2 ⊢
    omega
  obtain ⟨g2, AK, ck, AV, cv, AD, cd, hat, hin⟩ := ((HALL.out.1.no hP.tu).tr HALL.out.2.1).node hd.d.mem
  rw [← hq] at hat
  have hql2 : Q0.length < 10000 := by rw [List.length_append] at hql; omega
  have CL := Lib.hid fun W (tW : Turn No w1 W) => last_c (c := c) hpr.1 hql2 W tW
  have CP := Lib.hid fun W (tW : Turn No w1 W) => nput_c ck cv cd hd HALL.out.2.1 hin HALL.out.2.2.1 HALL.out.2.2.2.1 W tW
  have HW := Lib.hid (And.intro hd (And.intro hP (And.intro hpr (And.intro hql (And.intro hQ0 (And.intro hq hat))))))
  have hr0 := node_range hat
  have lq := hat.lt
  rw [List.length_append, List.length_singleton]
  clear hd hP hpr hql hQ0 hq hat hin hgl hql2
  go_upto_region 12 with (first | (go_at_call 46; refine (CL.out _ (Turn.refl _ _)).mono ?_; rintro e w2 ⟨rfl, ht2⟩; have H2 := Lib.hid ht2; have hr0 := node_range (HW.out.2.2.2.2.2.2.no ht2); clear ht2) | (refine wpList_load_mid rfl 79 _ rfl q 1 rfl (ndc n AK ck AV cv AD cd).toList _ hr0 Tryd.underlying79 rfl inf79 ?_))
  refine (CP.out w2 H2.out).mono ?_
  rintro e w3 ⟨m, BK, dk, BV, dv, BD, dd, rfl, him, hkm, hprs, hle, hlen, hbn, hhi, ht3⟩
  rw [show ndc m BK dk BV dv BD dd = #[.bool m.leaf, .slice BK m.keys.length dk, .slice BV m.vals.length dv, .slice BD m.kids.length dd, .string m.high, .bool m.bnd, .int .i64 m.nx.slot, .int .u64 m.nx.gen] from rfl]
  have tj := (Turn.refl No w3).alloc (.cells #[.bool m.leaf, .slice BK m.keys.length dk, .slice BV m.vals.length dv, .slice BD m.kids.length dd, .string m.high, .bool m.bnd, .int .i64 m.nx.slot, .int .u64 m.nx.gen] 79)
  have ha4 := At.new w3 (.cells #[.bool m.leaf, .slice BK m.keys.length dk, .slice BV m.vals.length dv, .slice BD m.kids.length dd, .string m.high, .bool m.bnd, .int .i64 m.nx.slot, .int .u64 m.nx.gen] 79)
  obtain ⟨b4, hb4⟩ : ∃ x, w3.heap.size = x := ⟨_, rfl⟩
  rw [hb4] at ha4
  obtain ⟨w4, hw4⟩ : ∃ w4, w3.alloc (.cells #[.bool m.leaf, .slice BK m.keys.length dk, .slice BV m.vals.length dv, .slice BD m.kids.length dd, .string m.high, .bool m.bnd, .int .i64 m.nx.slot, .int .u64 m.nx.gen] 79) = w4 := ⟨_, rfl⟩
  rw [hw4] at tj ha4
  have ha4 : At w4 b4 (.cells (ndc m BK dk BV dv BD dd) 79 (0, 0)) := ha4
  have t4 : Turn No w1 w4 := H2.out.trans (ht3.trans tj)
  have HM := Lib.hid (And.intro (him.no tj) (And.intro hkm (And.intro hprs (And.intro hle (And.intro hlen (And.intro hbn (And.intro hhi (And.intro t4 ha4))))))))
  have HB4 := Lib.hid (And.intro hw4 hb4)
  have hr4 := box_range ha4
  have l4 := ha4.lt
  have x0 := At.cell (At.no HALL.out.1.t (HW.out.2.1.tu.trans t4)) 0
  simp at x0
  have HX0 : Hid (∀ W, Turn No w4 W → W.cell? ⟨I.tb, 0, none⟩ = some (.pointer (some ⟨I.pb, 0, none⟩))) := Lib.hid fun W tW => by simpa using At.cell (At.no HALL.out.1.t (HW.out.2.1.tu.trans (HM.out.2.2.2.2.2.2.2.1.trans tW))) 0
  have ltb := At.lt (At.no HALL.out.1.t (HW.out.2.1.tu.trans t4))
  clear him hkm hprs hle hlen hbn hhi ht3 tj ha4 hw4 hb4 t4 CP CL hr0 lq
  have CK : Hid ((m.keys.length = 5 → 1 + nds L ≤ cnt fr G.length) → ∀ W, Turn No w4 W → Calls Tryd.prog 50 #[.pointer (some ⟨I.tb, 0, none⟩), .slice (some ⟨g, 0, none⟩) (Q0.length + 1) c, .agg (ndc m BK dk BV dv BD dd)] W fun e w' => e = .returned (.tuple #[]) ∧ PutOk I T G fr (putL (flatT T) key val) w w') := Lib.hid fun hf W tW => by
    have t1 := HM.out.2.2.2.2.2.2.2.1.trans tW
    have hcc := HW.out.2.2.1.2
    have hql := HW.out.2.2.2.1
    rw [List.length_append, List.length_singleton] at hcc hql
    refine put_keep HALL.out.1 HW.out.1 HM.out.2.1 HM.out.2.2.1 HM.out.2.2.2.1 HM.out.2.2.2.2.2.1 HM.out.2.2.2.2.2.2.1 (HW.out.2.1.tu.trans t1) (HM.out.1.no tW) (HW.out.2.2.1.1.no t1) HW.out.2.2.2.2.1.symm (by omega) (by omega) hf dk dv dd
  cases hO : getL (flatT T) key with
  | some v =>
    have HO := Lib.hid hO
    clear hO
    simp only [Option.getD_some, Option.isSome_some]
    go_upto_region 12 with fail
    rw [HB4.out.1, HB4.out.2]
    clear HB4
    have CK2 := Lib.hid (CK.out fun h5 => by
      have h1 := HM.out.2.2.2.2.1
      have h2 : n.keys.length ≤ 4 := HALL.out.2.1.sl _ (by rw [HW.out.1.d.e]; exact List.mem_append.2 (.inr (List.mem_cons_self ..))) (h, n) (by simp)
      rw [HO.out] at h1
      simp at h1
      omega)
    have hr5 := box_range (HM.out.2.2.2.2.2.2.2.2.no (Turn.refl No w4).drew)
    go_quiet (fail)
    go_wp2_with (first | (refine wpList_load_mid rfl 79 _ rfl b4 0 rfl (ndc m BK dk BV dv BD dd).toList _ hr5 Tryd.underlying79 rfl inf79 ?_) | (go_at_call 50; (refine (CK2.out _ ((Turn.refl No _).drewN _)).mono ?_); rintro e w7 ⟨rfl, h7⟩; have H7 := Lib.hid h7; clear h7))
    go_ret3
    exact TPut.ok (by rw [HO.out]; rfl) H7.out
  | none =>
    have HO := Lib.hid hO
    clear hO
    simp only [Option.getD_none, Option.isSome_none]
    obtain ⟨nd, hnd⟩ : ∃ nd, nds ((h, n) :: L) = nd := ⟨_, rfl⟩
    have HND := Lib.hid hnd
    have CN : Hid (∀ W, Turn No w4 W → Calls Tryd.prog 49 #[.slice (some ⟨g, 0, none⟩) (Q0.length + 1) c] W fun e W' => e = .returned (.int .i64 (nd : Int)) ∧ Turn No W W') := Lib.hid fun W tW => by
      have := needs_c (HALL.out.1.no HW.out.2.1.tu) HW.out.1 HW.out.2.2.2.2.1.symm c (HW.out.2.2.1.1) HW.out.2.2.2.1 W (HM.out.2.2.2.2.2.2.2.1.trans tW)
      rw [hnd, List.length_append, List.length_singleton] at this
      exact this
    clear hnd
    go_upto_region 12 with fail
    rw [HB4.out.1, HB4.out.2]
    clear HB4
    by_cases hrm : nd ≤ cnt fr G.length
    · have CR : Hid (∀ W, Turn No w4 W → Calls Tryd.prog 48 #[.pointer (some ⟨I.pb, 0, none⟩), .int .i64 (nd : Int)] W fun e W' => e = .returned (.bool true) ∧ Turn No W W') := Lib.hid fun W tW => by
        refine (room_any ((HALL.out.1.no (HW.out.2.1.tu.trans (HM.out.2.2.2.2.2.2.2.1.trans tW))).p) nd).mono ?_
        rintro e W' ⟨rfl, rfl⟩
        rw [decide_eq_true (by omega)]
        exact ⟨rfl, Turn.refl _ _⟩
      have HRM := Lib.hid hrm
      clear hrm
      go_region_held3 (fun W => W.cell? ⟨I.tb, 0, none⟩ = some (.pointer (some ⟨I.pb, 0, none⟩))) (first | (with_reducible exact x0) | (exact HX0.out _ (by first | exact (Turn.refl No _).drew | assumption))) (first | (go_at_call 49; (with_reducible refine (CN.out _ (Turn.refl No _).drew).mono ?_); rintro e w5 ⟨rfl, ht5⟩; have ht5 : Turn No w4 w5 := (Turn.refl No w4).drew.trans ht5) | (go_at_call 48; (with_reducible refine (CR.out _ ht5).mono ?_); rintro e w6 ⟨rfl, ht6⟩; have ht6 : Turn No w4 w6 := ht5.trans ht6))
      have CK2 := Lib.hid (CK.out fun h5 => by
        have h1 := HM.out.2.2.2.2.1
        rw [HO.out] at h1
        simp at h1
        have h3 : nds ((h, n) :: L) = 1 + nds L := by
          show (if n.keys.length < 4 then 0 else 1 + nds L) = _
          rw [if_neg (by omega)]
        have h4 := HND.out
        have h6 := HRM.out
        omega)
      have hr6 := box_range (HM.out.2.2.2.2.2.2.2.2.no ht6)
      have HT6 := Lib.hid ht6
      clear ht6 ht5 hr4
      go_wp2_with (first | (refine wpList_load_mid rfl 79 _ rfl b4 0 rfl (ndc m BK dk BV dv BD dd).toList _ hr6 Tryd.underlying79 rfl inf79 ?_) | (go_at_call 50; (refine (CK2.out _ HT6.out).mono ?_); rintro e w7 ⟨rfl, h7⟩; have H7 := Lib.hid h7; clear h7))
      go_ret3
      exact TPut.ok (by rw [HO.out]; rfl) H7.out
    · have CR : Hid (∀ W, Turn No w4 W → Calls Tryd.prog 48 #[.pointer (some ⟨I.pb, 0, none⟩), .int .i64 (nd : Int)] W fun e W' => e = .returned (.bool false) ∧ Turn No W W') := Lib.hid fun W tW => by
        refine (room_any ((HALL.out.1.no (HW.out.2.1.tu.trans (HM.out.2.2.2.2.2.2.2.1.trans tW))).p) nd).mono ?_
        rintro e W' ⟨rfl, rfl⟩
        rw [decide_eq_false (by omega)]
        exact ⟨rfl, Turn.refl _ _⟩
      have HRM := Lib.hid hrm
      clear hrm
      go_region_held3 (fun W => W.cell? ⟨I.tb, 0, none⟩ = some (.pointer (some ⟨I.pb, 0, none⟩))) (first | (with_reducible exact x0) | (exact HX0.out _ (by first | exact (Turn.refl No _).drew | assumption))) (first | (go_at_call 49; (with_reducible refine (CN.out _ (Turn.refl No _).drew).mono ?_); rintro e w5 ⟨rfl, ht5⟩; have ht5 : Turn No w4 w5 := (Turn.refl No w4).drew.trans ht5) | (go_at_call 48; (with_reducible refine (CR.out _ ht5).mono ?_); rintro e w6 ⟨rfl, ht6⟩; have ht6 : Turn No w4 w6 := ht5.trans ht6))
      have HT6 := Lib.hid ht6
      clear ht6 ht5 hr4
      go_wp2_with fail
      go_ret3
      refine TPut.full rfl HO.out ?_ (HW.out.2.1.tu.trans (HM.out.2.2.2.2.2.2.2.1.trans HT6.out))
      have h1 := HND.out
      have h2 := HRM.out
      have h3 := nds_le ((h, n) :: L)
      have h4 := HW.out.1.d.len
      simp only [List.length_cons, List.length_nil] at h3 h4
      omega
end Go.Proofs.YtfplnobnmgbgoaaDoor
namespace Go.Proofs.YtfplnobnmgbgoaaDoor
open Go.RowKit Go.Lib
set_option linter.unusedVariables false
set_option maxRecDepth 20000
set_option linter.unusedSimpArgs false

def nd1 : Nd := ⟨true, [], [], [], ⟨#[]⟩, false, ⟨0, 0⟩⟩
theorem inn_nd1 (w : World) : Inn w nd1 none none none :=
  ⟨⟨Row.nil _ _, Row.nil _ _, Row.nil _ _, (fun k hk => by cases hk), (fun k hk => by cases hk), by unfold Fit nd1; decide, Nat.zero_le _, Nat.zero_le _, Nat.zero_le _⟩, .inl rfl, .inl rfl, .inl rfl⟩
theorem nd1_right : NdRight nd1 := ⟨List.Pairwise.nil, fun _ => rfl, fun h => (by cases h), fun _ => ⟨rfl, rfl⟩, fun h => (by cases h)⟩
/-- A tree of one leaf. -/
theorem good1 (root : Hn) : Good [[(root, nd1)]] root := by
  refine ⟨⟨⟨⟨rfl, nd1_right, (fun l h k hk => by cases hk), (fun l h hb => by cases hb)⟩, rfl⟩, rfl⟩, ⟨nd1, [], rfl⟩, fun l hl x hx => ?_, fun l hl x hx hx2 => ?_⟩
  · rw [List.mem_singleton.1 hl] at hx
    rw [List.mem_singleton.1 hx]
    exact Nat.zero_le _
  · rw [List.mem_singleton.1 hl] at hx
    rw [List.mem_singleton.1 hx] at hx2
    cases hx2
/-- What New comes to: a tree of one empty leaf, of new blocks. -/
structure NewT (w : World) (pb gb fb : Nat) (G : List Nat) (fr : Nat → Bool) (e : Ending) (w' : World) : Prop where
  r : ∃ (I : Ids) (N : Nat → Option Ent) (root : Hn) (s : Nat), e = .returned (.tuple #[.pointer (some ⟨I.tb, 0, none⟩), .int .i64 0]) ∧ I.pb = pb ∧ I.gb = gb ∧ I.fb = fb ∧ I.Z = w.heap.size ∧ w.heap.size ≤ I.tb ∧ w.heap.size ≤ I.ab ∧ w.heap.size ≤ I.mb ∧ Tm w' I N [(root, nd1)] root G (fun y => fr y && y != s) ∧ fr s = true ∧ s < G.length ∧ Turn (· = fb) w w'
set_option maxRecDepth 100000 in
set_option maxHeartbeats 8000000 in
theorem bnew_any {w : World} {pb gb fb : Nat} {G : List Nat} {fr : Nat → Bool} (hP : Pool w pb gb fb G fr) (hT : Tab w) (hc : 0 < cnt fr G.length) (hgn : ∀ x, fr x = true → 1 ≤ G.getD x 0) :
    Calls Tryd.prog 8 #[.pointer (some ⟨pb, 0, none⟩)] w (NewT w pb gb fb G fr) := by
  obtain ⟨s, hsl, hs, hlow⟩ := cnt_pos fr G.length hc
  obtain ⟨Y, hY⟩ : ∃ Y, G.getD s 0 = Y := ⟨_, rfl⟩
  have CN := Lib.hid (newN (some ⟨pb, 0, none⟩) w)
  have HALL := Lib.hid (And.intro hP (And.intro hT (And.intro hgn (And.intro hsl (And.intro hs (And.intro hlow hY))))))
  clear hP hT hc hgn hsl hs hlow hY
  go_enter Tryd.func8, Tryd.ntmps8
  go_wp2_with fail
  refine CN.out.mono ?_
  rintro e w1 ⟨rfl, har, ht1⟩
  obtain ⟨ab, hab⟩ : ∃ x, w.heap.size + 1 = x := ⟨_, rfl⟩
  rw [hab] at har ⊢
  obtain ⟨f, har⟩ := har
  have hbr : Br w1 ⟨0, ab, w.heap.size, pb, gb, fb, w.heap.size⟩ (fun _ => none) 0 := ⟨fun _ => none, f, har, fun _ _ => rfl, fun x e h => (by cases h), fun x e h => (by cases h)⟩
  have CA := Lib.hid (allocB_some hbr (Turn.refl _ _) (HALL.out.1.turn ht1 (fun h => h) (fun h => h) (fun h => h)) (HALL.out.2.1.turn ht1 (fun h => h) HALL.out.2.1.pos) HALL.out.2.2.2.2.1 HALL.out.2.2.2.2.2.1 rfl (by decide) (HALL.out.2.2.1 s HALL.out.2.2.2.2.1) ht1.size 0 0 0 (inn_nd1 w1))
  rw [HALL.out.2.2.2.2.2.2] at CA
  have HB := Lib.hid (And.intro hbr (And.intro ht1 hab))
  clear har hbr ht1 hab
  go_wp2_with (go_at_call 31; refine CA.out.mono ?_; rintro e w2 ⟨rfl, hp2, hi2, ⟨q, hq, hbq⟩, ht2⟩; have H2 := Lib.hid (And.intro hp2 (And.intro hi2 (And.intro hq (And.intro hbq ht2)))); clear hp2 hi2 hq hbq ht2)
  go_ret2
  obtain ⟨hp2, hi2, hq, hbq, ht2⟩ := H2.out
  obtain ⟨hbr, ht1, hab⟩ := HB.out
  have tj := ((Turn.refl No w2).alloc (.cells #[.int .i64 (s : Int), .int .u64 (Y : Int)] 77)).alloc (.cells #[.pointer (some ⟨pb, 0, none⟩), .pointer (some ⟨ab, 0, none⟩), .int .i64 (s : Int), .int .u64 (Y : Int)] 83)
  have hat := At.new (w2.alloc (.cells #[.int .i64 (s : Int), .int .u64 (Y : Int)] 77)) (.cells #[.pointer (some ⟨pb, 0, none⟩), .pointer (some ⟨ab, 0, none⟩), .int .i64 (s : Int), .int .u64 (Y : Int)] 83)
  rw [show (w2.alloc (.cells #[.int .i64 (s : Int), .int .u64 (Y : Int)] 77)).heap.size = w2.heap.size + 1 by simp] at hat
  have hb2 := hbq w2 No (Turn.refl _ _) (fun _ h => h.elim) hi2
  obtain ⟨hP, hT, hgn, hsl, hs, hlow, hY⟩ := HALL.out
  have tw : Turn (· = fb) w w2 := (ht1.mono fun _ _ h => h.elim).then ht2 fun i hi hx => by
    rcases hx with e | e
    · exact e
    · have : i = w.heap.size := e
      omega
  have l1 := ht1.size
  have l2 := ht2.size
  obtain ⟨_, _, lfb⟩ := hP.lt
  refine ⟨⟨w2.heap.size + 1, ab, w.heap.size, pb, gb, fb, w.heap.size⟩, updE (fun _ => none) s (some ⟨Y, q, nd1⟩), ⟨(s : Int), (Y : Int)⟩, s, rfl, rfl, rfl, rfl, rfl, by show w.heap.size ≤ w2.heap.size + 1; omega, by show w.heap.size ≤ ab; omega, Nat.le_refl _, ⟨?_, hat, ?_, ?_, ?_, ?_, ?_, ?_, ?_⟩, hs, hsl, ?_⟩
  · obtain ⟨M, f, hb⟩ := hb2.no tj
    exact ⟨M, f, hb.ar, hb.no, hb.yes, hb.z⟩
  · exact hp2.turn tj (fun h => h) (fun h => h) (fun h => h)
  · have hT2 : Tab w2 := hT.turn tw (fun h0 => (hP.ne0 hT).2.1 h0.symm) hT.pos
    exact hT2.turn tj (fun h => h) hT2.pos
  · have h0 : Sto (fun _ => none) [] := ⟨fun h n => ⟨fun h => (by cases h), fun ⟨x, e, h, _⟩ => (by cases h)⟩, List.Pairwise.nil⟩
    exact h0.add rfl ⟨Y, q, nd1⟩
  · intro y d hy
    unfold updE at hy
    split at hy
    · rename_i hys
      simp [hys]
    · cases hy
  · intro y hy
    simp at hy
    exact hgn y hy.1
  · show w.heap.size ≤ _
    have := tj.size
    omega
  · have := hT.pos
    exact this
  · exact tw.then tj fun i _ h => h.elim
end Go.Proofs.YtfplnobnmgbgoaaDoor
namespace Go.Proofs.YtfplnobnmgbgoaaDoor
open Go.RowKit Go.Lib
set_option linter.unusedVariables false
set_option maxRecDepth 20000
set_option linter.unusedSimpArgs false

/-- What a Delete leaves, where it did it. -/
structure DelOk (I : Ids) (T : List Lvl) (root : Hn) (G : List Nat) (fr : Nat → Bool) (key : ByteArray) (w w' : World) : Prop where
  r : ∃ N' T', Tm w' I N' T'.flatten root G fr ∧ Good T' root ∧ Tn I w w' ∧ flatT T' = delL (flatT T) key ∧ (∀ f q, VisT T f q → VisT T' f q) ∧ (leaves T').length = (leaves T).length ∧ (getL (flatT T) key = none → MinL T → MinL T') ∧ T'.flatten.length = T.flatten.length
theorem ndel_c {w : World} {T : List Lvl} {key : ByteArray} {U : List Lvl} {L A : Lvl} {h : Hn} {n : Nd} {B : Lvl} {root : Hn} {AK AV AD : Option Addr} (ck cv cd : Nat) (d : Way T key U L A h n B) (g : Good T root) (hi : Inn w n AK AV AD) (fk : Fit key) (W : World) (tW : Turn No w W) :
    Calls Tryd.prog 51 #[.agg (ndc n AK ck AV cv AD cd), .string key] W fun e W' => ∃ m BK dk BV dv BD dd, e = .returned (.tuple #[.agg (ndc m BK dk BV dv BD dd), .string ((getL (flatT T) key).getD ⟨#[]⟩), .bool (getL (flatT T) key).isSome]) ∧ Inn W' m BK BV BD ∧ Kst key U L A h m B [] root ∧ prs m = delL (prs n) key ∧ m.keys.length ≤ 4 ∧ (getL (flatT T) key = none → n.keys.length ≤ m.keys.length) ∧ m.bnd = n.bnd ∧ m.high = n.high ∧ Turn No W W' := by
  have hi2 := (hi.no tW).i
  have h4 : n.keys.length ≤ 4 := g.sl _ (by rw [d.d.e]; exact List.mem_append.2 (.inr (List.mem_cons_self ..))) (h, n) (by simp)
  have hget := d.get
  have hrt := d.right
  have hlf := d.lf
  have hkst : ∀ m : Nd, m.leaf = true → NdRight m → m.bnd = n.bnd → m.high = n.high → m.nx = n.nx → (∀ k ∈ m.keys, k ∈ n.keys ∨ k = key) → m.keys.length ≤ 5 → Kst key U L A h m B [] root := fun m a1 a2 a3 a4 a5 a6 a7 => d.kst g a1 a2 a3 a4 a5 a6 a7
  clear d g
  refine (del_c n AK AV AD ck cv cd key W hi2 fk).mono ?_
  rintro e w' ⟨m, BK, dk, BV, dv, BD, dd, old, had, rfl, hp, hg, ht⟩
  obtain ⟨e1, e2, e3⟩ := hp.1 hrt
  rw [e2, e3, hget]
  obtain ⟨leaf, K, V, D, high, bnd, nx⟩ := n
  obtain ⟨K1, V1, rfl, h1, h2, h3, h4', h5, h6, h7⟩ := del_ok hrt.1 hp
  obtain ⟨hLf, _⟩ := h6 hrt
  have hl : leaf = true := hlf
  subst hl
  have hv : V.length = K.length := (hrt.1.2.2.2.1 rfl).1
  have hd : D.length = 0 := (hrt.1.2.2.2.1 rfl).2
  have h4 : K.length ≤ 4 := h4
  refine ⟨_, BK, dk, BV, dv, BD, dd, rfl, hg.inn (fun k hk => hi2.fk k (h2 k hk)) (fun k hk => hi2.fv k (h3 k hk)) hi2.fh (by show K1.length ≤ 10000; omega) (by show V1.length ≤ 10000; omega) (by show D.length ≤ 10000; omega), hkst _ rfl h1 rfl rfl rfl (fun k hk => .inl (h2 k hk)) (by show K1.length ≤ 5; omega), ?_, by show K1.length ≤ 4; omega, ?_, rfl, rfl, ht⟩
  · show zipP K1 V1 = _
    exact hLf.zip
  · intro hno
    show K.length ≤ K1.length
    have hno : getL (zipP K V) key = none := hno
    have e4 : delL (zipP K V) key = zipP K V := by
      unfold delL
      refine List.filter_eq_self.2 fun p hp => ?_
      unfold getL at hno
      have hf : (zipP K V).find? (fun p => decide (p.k = key)) = none := by
        cases hc : (zipP K V).find? (fun p => decide (p.k = key)) with
        | none => rfl
        | some q => rw [hc] at hno; cases hno
      have := List.find?_eq_none.1 hf p hp
      simpa using this
    have h9 := congrArg List.length hLf.1
    rw [e4, List.length_map, zipP_length] at h9
    omega
set_option maxRecDepth 100000 in
set_option maxHeartbeats 8000000 in
theorem bdel_any {w : World} {I : Ids} {N : Nat → Option Ent} {T : List Lvl} {root : Hn} {G : List Nat} {fr : Nat → Bool} (hm : Tm w I N T.flatten root G fr) (hg : Good T root) (key : ByteArray) (fk : Fit key) :
    Calls Tryd.prog 19 #[.pointer (some ⟨I.tb, 0, none⟩), .string key] w fun e w' => e = .returned (.tuple #[.string ((getL (flatT T) key).getD ⟨#[]⟩), .bool (getL (flatT T) key).isSome]) ∧ DelOk I T root G fr key w w' := by
  have hTl := hg.len hm.len
  have hrz := hm.rtz hg
  have HALL := Lib.hid (And.intro hm (And.intro hg (And.intro fk hTl)))
  have CS := Lib.hid (stands_any I root w hm.t)
  rw [hrz] at CS
  have CLn := Lib.hid (line_any (hm.tr hg) key fk hTl)
  clear hm hg fk hTl hrz
  go_enter Tryd.func19, Tryd.ntmps19
  go_wp2_with (go_at_call 42; refine CS.out.mono ?_; rintro e w1 ⟨rfl, hw⟩; rw [hw]; clear hw)
  refine CLn.out.mono ?_
  rintro e w1 ⟨U, L, A, h, n, B, Q, Bq, c, rfl, hd, hQ, hP⟩
  obtain ⟨Q0, q, hQ0, hq⟩ : ∃ Q0 q, ptrs N (L.reverse ++ [(h, n)]) = Q0 ++ [q] ∧ q = blkOf N (h, n) := ⟨ptrs N L.reverse, blkOf N (h, n), by unfold ptrs; simp, rfl⟩
  rw [hQ0] at hQ
  subst hQ
  obtain ⟨g, hBq, hgl⟩ := hP.blk_ (by simp)
  subst hBq
  have hql2 : Q0.length < 10000 := by
    have h1 := congrArg List.length hQ0
    have h2 := hd.d.len
    have h3 := HALL.out.2.2.2
    unfold ptrs at h1
    rw [List.length_map] at h1
    simp only [List.length_append, List.length_reverse, List.length_singleton, List.length_nil] at h1 h2
    omega
  obtain ⟨g2, AK, ck, AV, cv, AD, cd, hat, hin⟩ := ((HALL.out.1.no hP.tu).tr HALL.out.2.1).node hd.d.mem
  rw [← hq] at hat
  have CL := Lib.hid (last_c (c := c) hP.prow.1 hql2 w1 (Turn.refl _ _))
  have CD := Lib.hid fun W (tW : Turn No w1 W) => ndel_c ck cv cd hd HALL.out.2.1 hin HALL.out.2.2.1 W tW
  have HW := Lib.hid (And.intro hd (And.intro hP (And.intro hq hat)))
  rw [List.length_append, List.length_singleton]
  clear hd hP hQ0 hq hin hgl hql2
  have lq := hat.lt
  clear hat
  go_wp2_with (first | (go_at_call 46; refine CL.out.mono ?_; rintro e w2 ⟨rfl, ht2⟩; have H2 := Lib.hid ht2; have hr0 := node_range (HW.out.2.2.2.no ht2); clear ht2) | (refine wpList_load_mid rfl 79 _ rfl q 1 rfl (ndc n AK ck AV cv AD cd).toList _ hr0 Tryd.underlying79 rfl inf79 ?_))
  refine (CD.out w2 H2.out).mono ?_
  rintro e w3 ⟨m, BK, dk, BV, dv, BD, dd, rfl, him, hkm, hprs, h4, hle, hbn, hhi, ht3⟩
  have t03 := HW.out.2.1.tu.trans (H2.out.trans ht3)
  have hpm := vt_perm U A h n B []
  rw [← HW.out.1.vt] at hpm
  have hm3 := (HALL.out.1.no t03).perm hpm.symm
  obtain ⟨x, e5, he, hh, _⟩ := hm3.s.head
  have hqe : q = e5.blk := by
    obtain ⟨e6, s, k1, k2, k3⟩ := HALL.out.1.s.blk HW.out.1.d.mem
    injection k2 with k2 _
    rw [hh] at k2
    injection k2 with k2 _
    have : x = s := by omega
    subst this
    rw [he] at k1
    injection k1 with k1
    rw [HW.out.2.2.1, k3, k1]
  obtain ⟨w4, hst, hw4, hm4, tn4⟩ := keep_store hm3 him he hh hqe dk dv dd (Turn.refl No w3)
  have HF : Hid (DelOk I T root G fr key w w4) := Lib.hid (by
    have hgd := hkm.done h4
    refine ⟨_, vt U A h m B [], hm4.perm (vt_perm U A h m B []), hgd, (Tn.no t03).trans tn4, HW.out.1.delF hprs, fun f x hv => HW.out.1.vis hbn hhi (ch_leaf hkm.tw.1 m (by simp)).1 f x hv, HW.out.1.lv, fun hno hmn => HW.out.1.min (hle hno) hmn, ?_⟩
    rw [← (vt_perm U A h m B []).length_eq, ← hpm.length_eq]
    rfl)
  have HST := Lib.hid (And.intro hst hw4)
  clear him hkm hprs h4 hle hbn hhi ht3 t03 hpm hm3 he hh hqe hst hw4 hm4 tn4 hr0
  cases hO : getL (flatT T) key with
  | some v =>
    simp only [Option.getD_some, Option.isSome_some]
    have HO := Lib.hid hO
    clear hO
    go_wp2_with (refine wpList_store_mid rfl 79 (.tmp 24) (.tmp 21) rfl q 1 (ndc m BK dk BV dv BD dd) rfl rfl HST.out.1.1 HST.out.1.2.1 HST.out.1.2.2 ?_; rw [HST.out.2])
    go_ret2
    exact ⟨by rw [HO.out]; rfl, HF.out⟩
  | none =>
    simp only [Option.getD_none, Option.isSome_none]
    have HO := Lib.hid hO
    clear hO
    go_wp2_with (refine wpList_store_mid rfl 79 (.tmp 24) (.tmp 21) rfl q 1 (ndc m BK dk BV dv BD dd) rfl rfl HST.out.1.1 HST.out.1.2.1 HST.out.1.2.2 ?_; rw [HST.out.2])
    go_ret2
    exact ⟨by rw [HO.out]; rfl, HF.out⟩
end Go.Proofs.YtfplnobnmgbgoaaDoor
namespace Go.Proofs.YtfplnobnmgbgoaaDoor
open Go.RowKit Go.Lib
set_option linter.unusedVariables false
set_option maxRecDepth 20000
set_option linter.unusedSimpArgs false

/-- While the leaves are gathered: those that have come, and the last one's neighbour's handle in a cell. -/
inductive LvS (w wr : World) (N : Nat → Option Ent) (Z : Lvl) : Value → Value → Prop
  | mk {X Y : Lvl} {h : Hn} {n : Nd} {Q : List Nat} {Bq : Option Addr} {c g4 : Nat} : Z = X ++ (h, n) :: Y → Q = ptrs N (X ++ [(h, n)]) → Ptrs w wr Q Bq c → At wr g4 (.cells #[.int .i64 n.nx.slot, .int .u64 n.nx.gen] 77 (0, 0)) → LvS w wr N Z (.slice Bq Q.length c) (.pointer (some ⟨g4, 0, none⟩))
theorem way_first {T : List Lvl} {U : List Lvl} {L A : Lvl} {h : Hn} {n : Nd} {B : Lvl} (d : Way T ⟨#[]⟩ U L A h n B) : A = [] := by
  cases A with
  | nil => rfl
  | cons a A =>
    exfalso
    obtain ⟨hc, hlo, _⟩ := d.ch
    obtain ⟨h1, h2, _⟩ := ch_head hc
    obtain ⟨hb, _⟩ := h2 (by simp)
    exact hlo a.2 (by simp) fun _ => h1.2.2.2 ⟨#[]⟩ rfl hb
theorem tower_leaves : ∀ {R : List Lvl} {l : Lvl}, Tower (l :: R) → Ch (some ⟨#[]⟩) ((leaves (l :: R)).map Prod.snd) ∧ Nxs (leaves (l :: R))
  | [], l, h => h
  | d :: R, l, h => by
    rw [leaves_cons]
    exact tower_leaves h.2.2
theorem Good.leaves {T : List Lvl} {root : Hn} (g : Good T root) : Ch (some ⟨#[]⟩) ((leaves T).map Prod.snd) ∧ Nxs (leaves T) := by
  obtain ⟨n, R, e⟩ := g.rt
  have := g.tw
  rw [e] at this ⊢
  exact tower_leaves this
theorem leaves_mem {T : List Lvl} {x : Hn × Nd} (h : x ∈ leaves T) : x ∈ T.flatten := by
  unfold leaves at h
  rcases List.eq_nil_or_concat T with e | ⟨P, l, e⟩
  · rw [e] at h; cases h
  · subst e
    rw [List.concat_eq_append] at h ⊢
    simp at h
    simp [h]
theorem Tr.nz {w : World} {I : Ids} {N : Nat → Option Ent} {T : List Lvl} {root : Hn} (t : Tr w I N T root) {x : Hn × Nd} (hx : x ∈ T.flatten) : rtZ x.1 = false := by
  obtain ⟨e, s, h1, h2, _⟩ := t.s.blk hx
  obtain ⟨M, f, hb⟩ := t.b
  have := (hb.z s e h1).2.1
  unfold rtZ hnEq
  rw [h2]
  simp
  omega
theorem leaf_next {w : World} {I : Ids} {N : Nat → Option Ent} {T : List Lvl} {root : Hn} (t : Tr w I N T root) {h : Hn} {n : Nd} (hx : (h, n) ∈ T.flatten) {q : Nat} (hq : q = blkOf N (h, n)) : w.cell? ⟨q, 7, none⟩ = some (.int .i64 n.nx.slot) ∧ w.cell? ⟨q, 8, none⟩ = some (.int .u64 n.nx.gen) := by
  obtain ⟨g, AK, ck, AV, cv, AD, cd, h1, _⟩ := t.node hx
  have h2 := node_cells h1
  rw [hq]
  exact ⟨h2.2.2.2.2.2.2.1, h2.2.2.2.2.2.2.2⟩
theorem own_base {w : World} {Z Z2 n c s : Nat} {t : TypeId} {A : Option Addr} {xs : List Value} (h : w.ownsRow Z t s (.slice A n c) n xs) (hz : Z2 ≤ Z) : w.ownsRow Z2 t s (.slice A n c) n xs := by
  obtain ⟨h1, h2 | ⟨g, cap, cur, hv, hb, r⟩⟩ := h
  · exact ⟨h1, .inl h2⟩
  · exact ⟨h1, .inr ⟨g, cap, cur, hv, Nat.le_trans hz hb, r⟩⟩
set_option maxRecDepth 100000 in
set_option maxHeartbeats 8000000 in
theorem leaves_any {w : World} {I : Ids} {N : Nat → Option Ent} {T : List Lvl} {root : Hn} (hT : Tr w I N T root) (hn : T.length ≤ 4096) (hm : (leaves T).length ≤ 4096) :
    Calls Tryd.prog 52 #[.pointer (some ⟨I.tb, 0, none⟩)] w fun e w' => ∃ Q Bq c, e = .returned (.slice Bq Q.length c) ∧ Q = ptrs N (leaves T) ∧ Ptrs w w' Q Bq c := by
  have hrz : rtZ root = false := by
    obtain ⟨n, R, e⟩ := hT.g.rt
    exact hT.nz (x := (root, n)) (by rw [e]; simp)
  have CS := Lib.hid (stands_any I root w hT.t)
  rw [hrz] at CS
  have CLn := Lib.hid (line_any hT ⟨#[]⟩ (by unfold Fit; decide) hn)
  have HT := Lib.hid (And.intro hT (And.intro hn hm))
  have ltb := At.lt hT.t
  have HS : Hid (∀ W, Turn No w W → W.cell? ⟨I.tb, 1, none⟩ = some (.pointer (some ⟨I.ab, 0, none⟩))) := Lib.hid fun W t => by simpa using At.cell (At.no hT.t t) 1
  have GY := Lib.hid fun x (hx : x ∈ T.flatten) W t => hT.getY hx W t
  clear hT hrz hn hm
  go_enter Tryd.func52, Tryd.ntmps52
  go_wp2_with (go_at_call 42; refine CS.out.mono ?_; rintro e w1 ⟨rfl, hw⟩; rw [hw]; clear hw)
  refine CLn.out.mono ?_
  rintro e w1 ⟨U, L, A, h, n, B, Q, Bq, c, rfl, hd, hQ, hP⟩
  have hA := way_first hd
  subst hA
  have hlv := hd.leaves
  rw [List.nil_append] at hlv
  obtain ⟨Q0, q, hQ0, hq⟩ : ∃ Q0 q, ptrs N (L.reverse ++ [(h, n)]) = Q0 ++ [q] ∧ q = blkOf N (h, n) := ⟨ptrs N L.reverse, blkOf N (h, n), by unfold ptrs; simp, rfl⟩
  rw [hQ0] at hQ
  subst hQ
  obtain ⟨g, hBq, hgl⟩ := hP.blk_ (by simp)
  subst hBq
  have hql2 : Q0.length < 10000 := by
    have h1 := congrArg List.length hQ0
    have h2 := hd.d.len
    have h3 := HT.out.2.1
    unfold ptrs at h1
    rw [List.length_map] at h1
    simp only [List.length_append, List.length_reverse, List.length_singleton, List.length_nil] at h1 h2
    omega
  have CL := Lib.hid (last_c (c := c) hP.prow.1 hql2 w1 (Turn.refl _ _))
  have HW := Lib.hid (And.intro hd (And.intro hP (And.intro hlv hq)))
  rw [List.length_append, List.length_singleton]
  clear hd hP hlv hq hQ0 hql2 hgl
  go_wp2_with (go_at_call 46; refine CL.out.mono ?_; rintro e w2 ⟨rfl, ht2⟩; have H2 := Lib.hid (HW.out.2.1.tu.trans ht2); clear ht2; obtain ⟨z7, z8⟩ := leaf_next (HT.out.1.no (H2.out.alloc (.cells #[.pointer (some ⟨q, 1, none⟩)] 86))) HW.out.1.d.mem HW.out.2.2.2)
  clear z7 z8 CL CLn CS
  have tj := (Turn.refl No (w2.alloc (.cells #[.pointer (some ⟨q, 1, none⟩)] 86))).alloc (.cells #[.int .i64 n.nx.slot, .int .u64 n.nx.gen] 77)
  have hP0 := (Ptrs.one w2 q).no tj
  have hat := At.new (w2.alloc (.cells #[.pointer (some ⟨q, 1, none⟩)] 86)) (.cells #[.int .i64 n.nx.slot, .int .u64 n.nx.gen] 77)
  unfold pq at hP0
  have hP1 : Ptrs w ((w2.alloc (.cells #[.pointer (some ⟨q, 1, none⟩)] 86)).alloc (.cells #[.int .i64 n.nx.slot, .int .u64 n.nx.gen] 77)) [q] (some ⟨w2.heap.size, 0, none⟩) 1 := ⟨H2.out.trans hP0.tu, own_base hP0.row H2.out.size⟩
  have HI : Hid (LvS w ((w2.alloc (.cells #[.pointer (some ⟨q, 1, none⟩)] 86)).alloc (.cells #[.int .i64 n.nx.slot, .int .u64 n.nx.gen] 77)) N (leaves T) (.slice (some ⟨w2.heap.size, 0, none⟩) 1 1) (.pointer (some ⟨(w2.alloc (.cells #[.pointer (some ⟨q, 1, none⟩)] 86)).heap.size, 0, none⟩))) := Lib.hid (by
    have e : [q] = ptrs N ([] ++ [(h, n)]) := by rw [HW.out.2.2.2]; rfl
    exact LvS.mk (Q := [q]) (X := []) (Y := B) HW.out.2.2.1 e hP1 hat)
  rw [show (w2.alloc (.cells #[.pointer (some ⟨q, 1, none⟩)] 86)).heap.size = w2.heap.size + 1 by simp] at HI
  clear tj hP0 hP1 hat
  generalize (w2.alloc (.cells #[.pointer (some ⟨q, 1, none⟩)] 86)).alloc (.cells #[.int .i64 n.nx.slot, .int .u64 n.nx.gen] 77) = w4 at HI ⊢
  go_loopw [3, 4] (fun x y wr => LvS w wr N (leaves T) x y) (fun x _ _ => (leaves T).length - slN x)
  case atStart => exact HI.out
  case round =>
    clear HI HW H2
    cases hrel with
    | @mk X Y h n Q Bq c g4 hZ hQ hP hat =>
      have hnx := HT.out.1.g.leaves.2
      rw [hZ] at hnx
      have HM := Lib.hid (And.intro hZ (And.intro hQ (And.intro hP hat)))
      obtain ⟨y0, y1⟩ := at2 hat
      have l4 := hat.lt
      have hql : Q.length = X.length + 1 := by rw [hQ]; unfold ptrs; simp
      have HZL : Hid ((leaves T).length = X.length + 1 + Y.length) := Lib.hid (by rw [hZ]; simp; omega)
      cases Y with
      | nil =>
        have hz := nxs_last hnx
        rw [hz] at y0 y1
        have hq0 := neq_same 0 0
        clear hnx hZ hQ hP hat hz
        go_wp2_with fail
        go_ret
        exact ⟨Q, Bq, c, by rw [hql]; rfl, by rw [HM.out.2.1, HM.out.1], HM.out.2.2.1⟩
      | cons y Y =>
        have hz := nxs_next hnx
        have hym : y ∈ T.flatten := leaves_mem (by rw [hZ]; simp)
        have hyz := HT.out.1.nz hym
        rw [hz] at y0 y1
        have hq0 := neq_hn y.1.slot 0 y.1.gen 0
        unfold rtZ at hyz
        rw [hyz] at hq0
        have hS8 : Hid (∀ W, Turn No wr W → W.cell? ⟨I.tb, 1, none⟩ = some (.pointer (some ⟨I.ab, 0, none⟩)) ∧ W.cell? ⟨g4, 0, none⟩ = some (.int .i64 y.1.slot) ∧ W.cell? ⟨g4, 1, none⟩ = some (.int .u64 y.1.gen)) := Lib.hid fun W t => ⟨HS.out W (HM.out.2.2.1.tu.trans t), by rw [← hz]; exact at2 (HM.out.2.2.2.no t)⟩
        have t1 := HS.out wr hP.tu
        have HN := Lib.hid (And.intro hz hym)
        clear hnx hZ hQ hP hat hz hyz hym
        go_upto_region 11 with fail
        go_region_held3 (fun W => W.cell? ⟨I.tb, 1, none⟩ = some (.pointer (some ⟨I.ab, 0, none⟩)) ∧ W.cell? ⟨g4, 0, none⟩ = some (.int .i64 y.1.slot) ∧ W.cell? ⟨g4, 1, none⟩ = some (.int .u64 y.1.gen)) (first | (with_reducible exact ⟨t1, y0, y1⟩) | (exact hS8.out _ (by first | exact (Turn.refl No _).drew | assumption))) (first | (go_at_call 61; (with_reducible refine (GY.out y HN.out.2 _ HM.out.2.2.1.tu.drew).mono ?_); rintro e w5 ⟨rfl, ht⟩; have ht : Turn No wr w5 := (Turn.refl No wr).drew.trans ht))
        obtain ⟨B3, c3, w6, q6, hq6, ht6⟩ := (HM.out.2.2.1.no ht).append (by have := HT.out.2.2; have := HZL.out; omega) (blkOf N y)
        have hat6 := (HM.out.2.2.2.no ht).turn ht6 (fun e2 => by
          obtain ⟨_, cur, hc⟩ := own_at (HM.out.2.2.1.no ht).row e2
          have := (HM.out.2.2.2.no ht).eq hc
          injection this with _ this
          exact absurd this (by decide))
        rw [HN.out.1] at hat6
        obtain ⟨X1, hX1⟩ : ∃ x, blkOf N y = x := ⟨_, rfl⟩
        rw [hX1] at q6 hq6 ⊢
        obtain ⟨g', hB3, _⟩ := hq6.blk_ (by simp)
        subst hB3
        unfold pq at q6 ⊢
        have tj7 := (Turn.refl No w6).alloc (.cells #[.int .i64 y.1.slot, .int .u64 y.1.gen] 77)
        have hat7 := At.new w6 (.cells #[.int .i64 y.1.slot, .int .u64 y.1.gen] 77)
        have CL7 : Hid (Calls Tryd.prog 46 #[.slice (some ⟨g', 0, none⟩) (X.length + 1 + 1) c3] (w6.alloc (.cells #[.int .i64 y.1.slot, .int .u64 y.1.gen] 77)) fun e w' => e = .returned (.pointer (some ⟨X1, 1, none⟩)) ∧ Turn No (w6.alloc (.cells #[.int .i64 y.1.slot, .int .u64 y.1.gen] 77)) w') := Lib.hid (by
          have := last_c (c := c3) hq6.prow.1 (by have := HT.out.2.2; have := HZL.out; omega) _ tj7
          rw [hql] at this
          exact this)
        obtain ⟨g6, hg6⟩ : ∃ x, w6.heap.size = x := ⟨_, rfl⟩
        rw [hg6] at hat7
        obtain ⟨v0, v1⟩ := at2 hat6
        have l6 := hat6.lt
        have H7 := Lib.hid (And.intro hq6 (And.intro tj7 (And.intro hat7 (And.intro hX1 (And.intro hg6 (hat6.no tj7))))))
        have q6' : AppRun 101 101 (.slice Bq (X.length + 1) c) (.slice (some ⟨w5.heap.size, 0, none⟩) 1 1) (.slice (some ⟨g', 0, none⟩) (X.length + 1 + 1) c3) (w5.alloc (.cells #[.pointer (some ⟨X1, 1, none⟩)] 86)) w6 := by rw [hql] at q6; exact q6
        clear ht6 hat6 hq6 tj7 hat7 hX1 hg6 ht t1 y0 y1 l4 q6
        go_upto_region 5 with (at_builtin; refine wpList_append_run rfl _ _ 101 rfl _ _ _ rfl rfl q6' ?_)
        refine CL7.out.mono ?_
        rintro e w8 ⟨rfl, ht8⟩
        obtain ⟨hq6, tj7, hat7, hX1, hg6, hat67⟩ := H7.out
        rw [hg6]
        have hP8 := (hq6.no tj7).no ht8
        obtain ⟨z7, z8⟩ := leaf_next (HT.out.1.no hP8.tu) (h := y.1) (n := y.2) HN.out.2 hX1.symm
        have hat8 := hat7.no ht8
        obtain ⟨v2, v3⟩ := at2 hat8
        have f2 := hat8.thawed 0
        have f3 := hat8.thawed 1
        have l8 := hat8.lt
        obtain ⟨hset, tset⟩ := set2 (v0 := .int .i64 y.2.nx.slot) (v1 := .int .u64 y.2.nx.gen) hat8
        have HF : Hid (LvS w ((w8.setCell ⟨g6, 0, none⟩ (.int .i64 y.2.nx.slot)).setCell ⟨g6, 1, none⟩ (.int .u64 y.2.nx.gen)) N (leaves T) (.slice (some ⟨g', 0, none⟩) (Q ++ [X1]).length c3) (.pointer (some ⟨g6, 0, none⟩))) := Lib.hid (by
          refine LvS.mk (X := X ++ [(h, n)]) (h := y.1) (n := y.2) (Y := Y) ?_ ?_ ⟨hP8.tu.then tset fun i hi e2 => ?_, own_grown hP8.row tset fun k hk e2 => ?_⟩ hset
          · rw [HM.out.1]; simp
          · rw [HM.out.2.1, ← hX1]; unfold ptrs; simp
          · have := HM.out.2.2.1.tu.size
            have := H7.out.2.2.1.lt
            have h9 := (hq6).tu.size
            omega
          · subst e2
            obtain ⟨_, cur, hc⟩ := own_at hP8.row (by rw [own_ablk] at hk; exact hk)
            have := hat8.eq hc
            injection this with _ this
            exact absurd this (by decide))
        rw [List.length_append, hql, List.length_singleton] at HF
        clear hq6 tj7 hat7 hX1 hg6 hat67 hP8 hat8 hset tset ht8
        go_wp2_with fail
        exact ⟨HF.out, by have := HZL.out; rw [List.length_cons] at this; simp [slN]; omega⟩
end Go.Proofs.YtfplnobnmgbgoaaDoor
namespace Go.Proofs.YtfplnobnmgbgoaaDoor
open Go.RowKit Go.Lib
set_option linter.unusedVariables false
set_option maxRecDepth 20000
set_option linter.unusedSimpArgs false

theorem slots_any {w : World} {I : Ids} {N : Nat → Option Ent} {T : List Lvl} {root : Hn} (hT : Tr w I N T root) :
    Calls Tryd.prog 23 #[.pointer (some ⟨I.tb, 0, none⟩)] w fun e w' => e = .returned (.int .i64 ((T.flatten.length : Nat) : Int)) ∧ Turn No w w' := by
  have t1 := At.cell hT.t 1
  simp at t1
  have ltb := At.lt hT.t
  have CL := Lib.hid (liveB hT.b)
  clear hT
  generalize T.flatten.length = n at CL ⊢
  go_enter Tryd.func23, Tryd.ntmps23
  go_wp2_with (go_at_call 53; refine CL.out.mono ?_; rintro e w1 ⟨rfl, hw⟩; rw [← hw]; clear hw)
  go_ret
  exact ⟨rfl, Turn.refl _ _⟩
theorem slots_nil (w : World) : Calls Tryd.prog 23 #[.pointer none] w fun e w' => e = .returned (.int .i64 0) ∧ Turn No w w' := by
  go_enter Tryd.func23, Tryd.ntmps23
  go_wp2_with fail
  go_ret
  exact ⟨rfl, Turn.refl _ _⟩
/-- How many keys. -/
def ksum (Z : Lvl) : Nat := (Z.map fun z => z.2.keys.length).sum
theorem ksum_take {Z : Lvl} {j : Nat} {z : Hn × Nd} (h : Z[j]? = some z) : ksum (Z.take (j + 1)) = ksum (Z.take j) + z.2.keys.length := by
  unfold ksum
  rw [List.take_add_one, h]
  simp
theorem flat_ksum : ∀ {Z : Lvl}, (∀ z ∈ Z, z.2.leaf = true ∧ NdRight z.2) → (flat (Z.map Prod.snd)).length = ksum Z
  | [], _ => rfl
  | z :: Z, h => by
    obtain ⟨h1, h2⟩ := h z (List.mem_cons_self ..)
    rw [List.map_cons, flat_cons, List.length_append, flat_ksum fun x hx => h x (List.mem_cons_of_mem _ hx)]
    have h3 : (prs z.2).length = z.2.keys.length := by
      have := congrArg List.length (prs_keys h1 h2).1
      rwa [List.length_map] at this
    rw [h3]
    unfold ksum
    simp
theorem leaves_right {T : List Lvl} {root : Hn} (g : Good T root) : ∀ z ∈ leaves T, z.2.leaf = true ∧ NdRight z.2 := fun z hz => ch_leaf g.leaves.1 z.2 (List.mem_map_of_mem hz)
theorem flatT_len {T : List Lvl} {root : Hn} (g : Good T root) : (flatT T).length = ksum (leaves T) := flat_ksum (leaves_right g)
theorem ksum_le : ∀ {Z : Lvl}, (∀ z ∈ Z, z.2.keys.length ≤ 4) → ksum Z ≤ 4 * Z.length
  | [], _ => Nat.le_refl _
  | z :: Z, h => by
    have h1 := h z (List.mem_cons_self ..)
    have h2 := ksum_le fun x hx => h x (List.mem_cons_of_mem _ hx)
    unfold ksum at h2 ⊢
    rw [List.map_cons, List.sum_cons, List.length_cons]
    omega
theorem leaves_sl {T : List Lvl} {root : Hn} (g : Good T root) : ∀ z ∈ leaves T, z.2.keys.length ≤ 4 := fun z hz => by
  obtain ⟨l, hl, hzl⟩ := List.mem_flatten.1 (leaves_mem hz)
  exact g.sl l hl z hzl
theorem leaves_len {T : List Lvl} : (leaves T).length ≤ T.flatten.length := by
  unfold leaves
  rcases List.eq_nil_or_concat T with e | ⟨P, l, e⟩
  · rw [e]; exact Nat.le_refl _
  · subst e
    rw [List.concat_eq_append]
    simp
/-- The leaf at a place of the row of pointers. -/
theorem Ptrs.leaf {w wr : World} {I : Ids} {N : Nat → Option Ent} {T : List Lvl} {root : Hn} (hT : Tr w I N T root) {Z : Lvl} (hZ : ∀ z ∈ Z, z ∈ T.flatten) {g : Nat} (h : PRow wr g 0 (ptrs N Z)) (t : Turn No w wr) {j : Nat} {z : Hn × Nd} (hj : Z[j]? = some z) :
    ∃ (q : Nat) (AK : Option Addr) (ck : Nat) (AV : Option Addr) (cv : Nat) (AD : Option Addr), q = blkOf N z ∧ g < wr.heap.size ∧ wr.cell? ⟨g, j, none⟩ = some (.pointer (some ⟨q, 1, none⟩)) ∧ q < wr.heap.size ∧ wr.cell? ⟨q, 2, none⟩ = some (.slice AK z.2.keys.length ck) ∧ wr.cell? ⟨q, 3, none⟩ = some (.slice AV z.2.vals.length cv) ∧ Inn wr z.2 AK AV AD := by
  have hjl := (List.getElem?_eq_some_iff.1 hj).1
  obtain ⟨b, o, hA, hb, hc⟩ := h.r j (pq (blkOf N z)) (by unfold ptrs; rw [List.map_map, List.getElem?_map, hj]; rfl)
  injection hA with hA
  injection hA with e1 e2
  subst e1 e2
  obtain ⟨g2, AK, ck, AV, cv, AD, cd, h1, h2⟩ := (hT.no t).node (hZ z (List.mem_of_getElem? hj))
  have h3 := node_cells h1
  refine ⟨_, AK, ck, AV, cv, AD, rfl, hb, by rw [Nat.zero_add] at hc; exact hc, h1.lt, h3.2.1, h3.2.2.1, h2⟩
set_option maxRecDepth 100000 in
set_option maxHeartbeats 4000000 in
theorem len_any {w : World} {I : Ids} {N : Nat → Option Ent} {T : List Lvl} {root : Hn} (hT : Tr w I N T root) (hn : T.flatten.length ≤ 4096) :
    Calls Tryd.prog 22 #[.pointer (some ⟨I.tb, 0, none⟩)] w fun e w' => e = .returned (.int .i64 (((flatT T).length : Nat) : Int)) ∧ Turn No w w' := by
  have hml := leaves_len (T := T)
  have CLv := Lib.hid (leaves_any hT (hT.g.len hn) (by omega))
  rw [flatT_len hT.g]
  have hk4 := ksum_le (leaves_sl hT.g)
  have HT := Lib.hid (And.intro hT (And.intro hn hk4))
  obtain ⟨Z, hZ⟩ : ∃ Z, leaves T = Z := ⟨_, rfl⟩
  have HZ := Lib.hid hZ
  rw [hZ] at CLv HT hml ⊢
  have HML : Hid (Z.length ≤ 4096) := Lib.hid (by omega)
  clear hT hn hk4 hml hZ
  go_enter Tryd.func22, Tryd.ntmps22
  go_wp2_with fail
  refine CLv.out.mono ?_
  rintro e w1 ⟨Q, Bq, c, rfl, hQ, hP⟩
  have hql : Q.length = Z.length := by rw [hQ]; unfold ptrs; simp
  have HP := Lib.hid (And.intro hQ (And.intro hP hql))
  have hlen := hql
  clear hQ hP hql
  rw [hlen]
  clear hlen
  go_wp2_with fail
  go_loopw [3, 9] (fun x y wr => ∃ j : Nat, j ≤ Z.length ∧ x = .int .i64 ((ksum (Z.take j) : Nat) : Int) ∧ y = .int .i64 (j : Int) ∧ wr = w1) (fun _ y _ => Z.length - (RowKit.intOf y).toNat)
  case atStart => exact ⟨0, Nat.zero_le _, rfl, rfl, rfl⟩
  case round =>
    obtain ⟨j, hj, rfl, rfl, hwr⟩ := hrel
    subst hwr
    by_cases hlt : j < Z.length
    · obtain ⟨z, hz⟩ : ∃ z, Z[j]? = some z := ⟨Z[j], List.getElem?_eq_getElem hlt⟩
      obtain ⟨g, hBq, hg⟩ := HP.out.2.1.blk_ (by intro e2; have := HP.out.2.2; rw [e2] at this; simp at this; omega)
      subst hBq
      have hpr := HP.out.2.1.prow.1
      rw [HP.out.1] at hpr
      obtain ⟨q, AK, ck, AV, cv, AD, hq, lg, c1, lq, c2, _⟩ := Ptrs.leaf HT.out.1 (fun z hz2 => leaves_mem (by rw [HZ.out]; exact hz2)) hpr HP.out.2.1.tu hz
      have b1 : (0 : Int) ≤ (j : Int) := by omega
      have b2 : (j : Int) < (Z.length : Int) := by omega
      have hk := ksum_take hz
      have hks : IntKind.i64.wrap (((ksum (Z.take j) : Nat) : Int) + ((z.2.keys.length : Nat) : Int)) = ((ksum (Z.take (j + 1)) : Nat) : Int) := by
        rw [hk, Int.natCast_add]
        have h1 : ksum (Z.take (j + 1)) ≤ 4 * (Z.take (j + 1)).length := ksum_le fun x hx => by
          have h2 := leaves_sl HT.out.1.g x (by rw [HZ.out]; exact List.mem_of_mem_take hx)
          exact h2
        have h3 : (Z.take (j + 1)).length ≤ Z.length := by rw [List.length_take]; omega
        have h4 := HML.out
        exact IntWalk.i64_in _ ⟨by omega, by omega⟩
      obtain ⟨S1, hS1⟩ : ∃ x, ksum (Z.take (j + 1)) = x := ⟨_, rfl⟩
      obtain ⟨S0, hS0⟩ : ∃ x, ksum (Z.take j) = x := ⟨_, rfl⟩
      rw [hS1, hS0] at hks
      rw [hS0]
      obtain ⟨kl0, hkl0⟩ : ∃ x, z.2.keys.length = x := ⟨_, rfl⟩
      rw [hkl0] at hks c2
      have HS1 := Lib.hid hS1
      clear hpr hk hz hg hq hS1 hS0 hkl0
      have HJ : Hid (j ≤ 5000) := Lib.hid (by have := HML.out; omega)
      go_wp2_with fail
      have hw : wrap64 ((j : Int) + 1) = (j : Int) + 1 := by have := HJ.out; simp only [wrap64]; omega
      rw [hw]
      refine ⟨⟨j + 1, by omega, by rw [HS1.out], congrArg _ (by omega), trivial⟩, ?_⟩
      show Z.length - ((j : Int) + 1).toNat < Z.length - ((j : Int)).toNat
      omega
    · obtain rfl : j = Z.length := by omega
      have b2 : ¬ (Z.length : Int) < (Z.length : Int) := by omega
      go_wp2_with fail
      go_ret
      exact ⟨rfl, HP.out.2.1.tu⟩
end Go.Proofs.YtfplnobnmgbgoaaDoor
namespace Go.Proofs.YtfplnobnmgbgoaaDoor
open Go.RowKit Go.Lib
set_option linter.unusedVariables false
set_option maxRecDepth 20000
set_option linter.unusedSimpArgs false

theorem infoPA : (Tryd.prog.info? 63).map (fun i => (i.zero, i.size, i.bytes)) = some (some (.agg #[.string ⟨#[]⟩, .string ⟨#[]⟩]), 2, 32) := by kernel_rfl
/-- A row of pairs of one's own, while it is made. -/
structure Prw (w0 wx : World) (l : List Pr) (B : Option Addr) (c : Nat) : Prop where
  tu : Turn No w0 wx
  row : wx.ownsRow w0.heap.size 63 2 (.slice B l.length c) l.length (pcs l)
theorem Prw.nil (w : World) : Prw w w [] none 0 := ⟨Turn.refl _ _, rfl, .inl ⟨rfl, rfl⟩⟩
theorem Prw.no {w0 wx w2 : World} {l : List Pr} {B : Option Addr} {c : Nat} (h : Prw w0 wx l B c) (t : Turn No wx w2) : Prw w0 w2 l B c := ⟨h.tu.trans t, own_grown h.row t fun _ _ h => h⟩
theorem Prw.append {w0 wx : World} {l : List Pr} {B : Option Addr} {c : Nat} (h : Prw w0 wx l B c) (hl : l.length < 100000) (p : Pr) :
    ∃ B' c' w2, AppRun 60 60 (.slice B l.length c) (.slice (some ⟨wx.heap.size, 0, none⟩) 1 1) (.slice B' (l.length + 1) c') (wx.alloc (.cells #[.string p.k, .string p.v] 63)) w2 ∧ Prw w0 w2 (l ++ [p]) B' c' := by
  have tj : Turn No wx (wx.alloc (.cells #[.string p.k, .string p.v] 63)) := (Turn.refl _ _).alloc _
  have h2 := h.no tj
  have hn := At.new wx (.cells #[.string p.k, .string p.v] 63)
  obtain ⟨B', c', w2, qq, ho, ht, hB⟩ := app_gen Tryd.underlying60 infoPA rfl (by decide) (by decide) h2.row ⟨wx.heap.size, 0, none⟩ 1 1 [.string p.k, .string p.v] rfl
    (fun j u hj => by rw [Addr.add_lit, Nat.zero_add, hn.cell]; simpa using hj) (by
      intro u hu
      simp at hu
      rcases hu with rfl | rfl <;> rfl) (by omega) h2.tu.size 60
  refine ⟨B', c', w2, qq, ⟨h2.tu.then (ht.mono fun k _ hk => (by rw [own_ablk] at hk; exact hk : ablk B = some k)) fun i hi hb => ?_, ?_⟩⟩
  · have := (own_at h2.row hb).1
    omega
  · rw [List.length_append]
    have e : pcs (l ++ [p]) = pcs l ++ [.string p.k, .string p.v] := by unfold pcs; rw [List.flatMap_append]; simp [Pr.cs]
    rw [e]
    exact ho
/-- What has come: whole leaves, and the first keys of one. -/
def part (Z : Lvl) (j i : Nat) : List Pr := flat ((Z.take j).map Prod.snd) ++ ((Z[j]?).elim [] fun z => (prs z.2).take i)
theorem part_next {Z : Lvl} {j : Nat} {z : Hn × Nd} (h : Z[j]? = some z) {i : Nat} {p : Pr} (hp : (prs z.2)[i]? = some p) : part Z j (i + 1) = part Z j i ++ [p] := by
  unfold part
  rw [h]
  show _ ++ (prs z.2).take (i + 1) = _ ++ (prs z.2).take i ++ [p]
  rw [List.take_add_one, hp, List.append_assoc]
  rfl
theorem part_leaf {Z : Lvl} {j : Nat} {z : Hn × Nd} (h : Z[j]? = some z) : part Z j (prs z.2).length = part Z (j + 1) 0 := by
  unfold part
  rw [h, List.take_add_one, h]
  show flat ((Z.take j).map Prod.snd) ++ (prs z.2).take (prs z.2).length = _
  rw [List.take_length, List.map_append, flat_append]
  have h2 : flat (List.map Prod.snd (some z).toList) = prs z.2 := by show flat [z.2] = _; rw [flat_cons]; simp [flat]
  rw [h2]
  cases Z[j + 1]? with
  | none => simp
  | some y => simp
theorem part_start (Z : Lvl) (j : Nat) : part Z j 0 = flat ((Z.take j).map Prod.snd) := by
  unfold part
  cases Z[j]? with
  | none => simp
  | some y => simp
set_option maxRecDepth 100000 in
set_option maxHeartbeats 8000000 in
theorem all_any {w : World} {I : Ids} {N : Nat → Option Ent} {T : List Lvl} {root : Hn} (hT : Tr w I N T root) (hn : T.flatten.length ≤ 4096) :
    Calls Tryd.prog 26 #[.pointer (some ⟨I.tb, 0, none⟩)] w fun e w' => ∃ B c, e = .returned (.slice B (flatT T).length c) ∧ Prw w w' (flatT T) B c := by
  have hml := leaves_len (T := T)
  have CLv := Lib.hid (leaves_any hT (hT.g.len hn) (by omega))
  have hlr := leaves_right hT.g
  have hsl := leaves_sl hT.g
  have HT := Lib.hid (And.intro hT (And.intro hn (And.intro hlr hsl)))
  obtain ⟨Z, hZ⟩ : ∃ Z, leaves T = Z := ⟨_, rfl⟩
  have HZ := Lib.hid hZ
  have hfl : flatT T = flat (Z.map Prod.snd) := by unfold flatT; rw [hZ]
  rw [hfl]
  rw [hZ] at CLv HT hml
  have HML : Hid (Z.length ≤ 4096) := Lib.hid (by omega)
  clear hT hn hlr hsl hml hZ hfl
  go_enter Tryd.func26, Tryd.ntmps26
  go_wp2_with fail
  refine CLv.out.mono ?_
  rintro e w1 ⟨Q, Bq, c, rfl, hQ, hP⟩
  have hql : Q.length = Z.length := by rw [hQ]; unfold ptrs; simp
  have HP := Lib.hid (And.intro hQ (And.intro hP hql))
  have hlen := hql
  clear hQ hP hql
  rw [hlen]
  clear hlen
  go_wp2_with fail
  go_loopw [3, 11] (fun x y wr => ∃ (j : Nat) (B : Option Addr) (c : Nat), j ≤ Z.length ∧ x = .slice B (part Z j 0).length c ∧ y = .int .i64 (j : Int) ∧ Hid (Prw w1 wr (part Z j 0) B c)) (fun _ y _ => Z.length - (RowKit.intOf y).toNat)
  case atStart => exact ⟨0, none, 0, Nat.zero_le _, by rw [part_start]; rfl, rfl, Lib.hid (by rw [part_start]; exact Prw.nil w1)⟩
  case round =>
    obtain ⟨j, B, c, hj, rfl, rfl, HR⟩ := hrel
    by_cases hlt : j < Z.length
    · obtain ⟨z, hz⟩ : ∃ z, Z[j]? = some z := ⟨Z[j], List.getElem?_eq_getElem hlt⟩
      obtain ⟨g, hBq, hg⟩ := HP.out.2.1.blk_ (by intro e2; have := HP.out.2.2; rw [e2] at this; simp at this; omega)
      subst hBq
      have hpr := HP.out.2.1.prow.1
      rw [HP.out.1] at hpr
      have tw := HP.out.2.1.tu.trans HR.out.tu
      obtain ⟨q, AK, ck, AV, cv, AD, hq, lg, c1, lq, c2, c3, hin⟩ := Ptrs.leaf HT.out.1 (fun z hz2 => leaves_mem (by rw [HZ.out]; exact hz2)) (hpr.no HR.out.tu) tw hz
      obtain ⟨g9, BK, ek, BV, ev, BD, ed, hat9, hin9⟩ := (HT.out.1.no HP.out.2.1.tu).node (leaves_mem (by rw [HZ.out]; exact List.mem_of_getElem? hz) : z ∈ T.flatten)
      rw [← hq] at hat9
      have hzm := List.mem_of_getElem? hz
      obtain ⟨hzl, hzr⟩ := HT.out.2.2.1 z hzm
      have hz4 := HT.out.2.2.2 z hzm
      have hvl : z.2.vals.length = z.2.keys.length := (hzr.2.2.2.1 hzl).1
      have hpk := prs_keys hzl hzr
      have hpl : (prs z.2).length = z.2.keys.length := by
        have := congrArg List.length hpk.1
        rwa [List.length_map] at this
      have b1 : (0 : Int) ≤ (j : Int) := by omega
      have b2 : (j : Int) < (Z.length : Int) := by omega
      have HN := Lib.hid (And.intro hz (And.intro hin9 (And.intro hat9 (And.intro hz4 (And.intro hvl (And.intro hpk hpl))))))
      have z7c2 := (node_cells (hat9.no HR.out.tu)).2.1
      have lq3 := (hat9.no HR.out.tu).lt
      obtain ⟨nk, hnk⟩ : ∃ x, z.2.keys.length = x := ⟨_, rfl⟩
      have HNK := Lib.hid hnk
      rw [hnk] at z7c2
      clear hpr hz hg hq c2 c3 hin hat9 hin9 hzm hzl hzr hz4 hvl hpk hpl hnk
      go_wp2_with fail
      obtain ⟨wx, hwx⟩ : ∃ x, x = wr := ⟨_, rfl⟩
      subst hwx
      go_loopw [3, 20] (fun x y wq => ∃ (i : Nat) (B2 : Option Addr) (c2 : Nat), i ≤ nk ∧ x = .slice B2 (part Z j i).length c2 ∧ y = .int .i64 (i : Int) ∧ Hid (Prw w1 wq (part Z j i) B2 c2)) (fun _ y _ => nk - (RowKit.intOf y).toNat)
      case atStart => exact ⟨0, B, c, Nat.zero_le _, rfl, rfl, HR⟩
      case round =>
        obtain ⟨i, B2, c2, hi, rfl, rfl, HI⟩ := hrel
        by_cases hli : i < nk
        · have hk0 : i < z.2.keys.length := by rw [HNK.out]; exact hli
          have hv0 : i < z.2.vals.length := by rw [HN.out.2.2.2.2.1]; exact hk0
          have hk : z.2.keys[i]? = some z.2.keys[i] := List.getElem?_eq_getElem hk0
          have hv : z.2.vals[i]? = some z.2.vals[i] := List.getElem?_eq_getElem hv0
          obtain ⟨k, hkk⟩ : ∃ x, z.2.keys[i] = x := ⟨_, rfl⟩
          obtain ⟨v, hvv⟩ : ∃ x, z.2.vals[i] = x := ⟨_, rfl⟩
          rw [hkk] at hk
          rw [hvv] at hv
          have hpp : (prs z.2)[i]? = some ⟨k, v⟩ := zipP_get hk hv
          have fk := HN.out.2.1.i.fk k (List.mem_of_getElem? hk)
          have fv := HN.out.2.1.i.fv v (List.mem_of_getElem? hv)
          obtain ⟨bk, ok, hBK, hck⟩ := kcs_hold HN.out.2.1.i.k hk
          obtain ⟨bv, ov, hBV, hcv⟩ := kcs_hold HN.out.2.1.i.v hv
          subst hBK hBV
          have d1 := (node_cells (HN.out.2.2.1.no HI.out.tu)).2.2.1
          have d2 := hck wr HI.out.tu
          have d3 := hcv wr HI.out.tu
          have lq9 := (HN.out.2.2.1.no HI.out.tu).lt
          obtain ⟨nv, hnv⟩ : ∃ x, z.2.vals.length = x := ⟨_, rfl⟩
          rw [hnv] at d1
          have b3 : (0 : Int) ≤ (i : Int) := by omega
          have b4 : (i : Int) < (nk : Int) := by omega
          have b5 : (i : Int) < (nv : Int) := by omega
          have CK := Lib.hid (clone_any k fk)
          have CV := Lib.hid (clone_any v fv)
          have HS : Hid (∀ W, Turn No w1 W → W.cell? ⟨q, 3, none⟩ = some (.slice (some ⟨bv, ov, none⟩) nv ev) ∧ W.cell? ⟨bv, ov + i, none⟩ = some (.string v)) := Lib.hid fun W tW => ⟨by rw [← hnv]; exact (node_cells (HN.out.2.2.1.no tW)).2.2.1, (hcv W tW)⟩
          have HPP := Lib.hid (part_next HN.out.1 hpp)
          have HL0 : Hid ((part Z j i).length < 100000) := Lib.hid (by
            have h1 : (part Z j i).length ≤ 4 * (Z.take j).length + i := by
              unfold part
              rw [HN.out.1, List.length_append, flat_ksum fun x hx => HT.out.2.2.1 x (List.mem_of_mem_take hx)]
              have := ksum_le (Z := Z.take j) fun x hx => HT.out.2.2.2 x (List.mem_of_mem_take hx)
              have h2 : ((prs z.2).take i).length ≤ i := by rw [List.length_take]; omega
              show _ + ((prs z.2).take i).length ≤ _
              omega
            have h3 : (Z.take j).length ≤ Z.length := by rw [List.length_take]; omega
            have := HML.out
            have := HN.out.2.2.2.1
            have := HNK.out
            omega)
          obtain ⟨PL, hPL⟩ : ∃ x, part Z j i = x := ⟨_, rfl⟩
          rw [hPL] at HI HPP HL0 ⊢
          have HPL := Lib.hid hPL
          have HKV := Lib.hid (And.intro hnv hpp)
          clear hk0 hv0 hk hv hkk hvv hpp fk fv hck hcv hnv hPL
          go_upto_region 15 with fail
          go_region_law (first | (go_simp; go_at_call 36; (first | ((with_reducible refine (CK.out _).mono ?_); rintro e w5 ⟨rfl, ht5⟩; have HA : Hid (Turn No wr w5) := Lib.hid (by first | exact HB.out.trans ht5 | exact (Turn.refl No wr).drew.trans ht5); obtain ⟨B7, c7, w7, q7, h7⟩ := (HI.out.no HA.out).append HL0.out ⟨k, v⟩; have HQ7 := Lib.hid h7; clear h7) | ((with_reducible refine (CV.out _).mono ?_); rintro e w5 ⟨rfl, ht5⟩; have HB : Hid (Turn No wr w5) := Lib.hid (by first | exact HA.out.trans ht5 | exact (Turn.refl No wr).drew.trans ht5); obtain ⟨B7, c7, w7, q7, h7⟩ := (HI.out.no HB.out).append HL0.out ⟨k, v⟩; have HQ7 := Lib.hid h7; clear h7)); obtain ⟨s1, s2⟩ := HS.out w5 (HI.out.tu.trans (by first | exact HB.out | exact HA.out)); clear ht5) | (refine step_append_run (by rfl) _ _ 60 (by rfl) _ _ _ (by rfl) (by rfl) q7 ?_))
          all_goals
            have HJ : Hid (i ≤ 5000) := Lib.hid (by have := HN.out.2.2.2.1; have := HNK.out; omega)
            go_wp2_with fail
            have hw : wrap64 ((i : Int) + 1) = (i : Int) + 1 := by have := HJ.out; simp only [wrap64]; omega
            rw [hw]
            refine ⟨⟨i + 1, B7, c7, by omega, by rw [HPP.out, List.length_append]; rfl, congrArg _ (by omega), Lib.hid (by rw [HPP.out]; exact HQ7.out)⟩, ?_⟩
            · show nk - ((i : Int) + 1).toNat < nk - ((i : Int)).toNat
              omega
        · obtain rfl : i = nk := by omega
          have b4 : ¬ (i : Int) < (i : Int) := by omega
          have e1 : part Z j i = part Z (j + 1) 0 := by rw [← part_leaf HN.out.1, HN.out.2.2.2.2.2.2, HNK.out]
          rw [e1] at HI ⊢
          obtain ⟨L1, hL1⟩ : ∃ x, (part Z (j + 1) 0).length = x := ⟨_, rfl⟩
          rw [hL1]
          have HL1 := Lib.hid hL1
          have HJ : Hid (j ≤ 5000) := Lib.hid (by have := HML.out; omega)
          clear hL1 e1
          go_wp2_with fail
          have hw : wrap64 ((j : Int) + 1) = (j : Int) + 1 := by have := HJ.out; simp only [wrap64]; omega
          rw [hw]
          refine ⟨⟨j + 1, B2, c2, by omega, by rw [HL1.out], congrArg _ (by omega), HI⟩, ?_⟩
          show Z.length - ((j : Int) + 1).toNat < Z.length - ((j : Int)).toNat
          omega
    · obtain rfl : j = Z.length := by omega
      have b2 : ¬ (Z.length : Int) < (Z.length : Int) := by omega
      have e0 : part Z Z.length 0 = flat (Z.map Prod.snd) := by rw [part_start, List.take_length]
      rw [e0] at HR ⊢
      have HQ := HR
      clear e0 HR
      go_wp2_with fail
      go_ret
      exact ⟨B, c, rfl, HP.out.2.1.tu.trans HQ.out.tu, own_base HQ.out.row HP.out.2.1.tu.size⟩
end Go.Proofs.YtfplnobnmgbgoaaDoor
