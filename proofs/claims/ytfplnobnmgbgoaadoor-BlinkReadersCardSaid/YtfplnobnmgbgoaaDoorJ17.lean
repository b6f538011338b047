/-
  Check.
  onward.
  look.
  A reader's steps, as plain data.
  What a reader's look comes to.
  Get.
  Looks without a visit.
  keys.After.
  Next, leaf by leaf, as plain data.
  Next, whatever a visit does.
  Next.
-/
import Derived.Test.YtfplnobnmgbgoaaDoorJ16
import Derived.Test.YtfplnobnmgbgoaaDoorJ13
import Derived.Test.YtfplnobnmgbgoaaDoorJ10
import Derived.Test.YtfplnobnmgbgoaaDoorJ6
namespace Go.Proofs.YtfplnobnmgbgoaaDoor
open Go.RowKit Go.Lib
set_option linter.unusedVariables false
set_option maxRecDepth 20000
set_option linter.unusedSimpArgs false

theorem zip_lvl : ∀ {R : List Std} {l : Lvl}, R.map Std.at_ = l.map Prod.fst → (R.zip (l.map Prod.snd)).map (fun y => (y.1.at_, y.2)) = l ∧ (R.zip (l.map Prod.snd)).map Prod.fst = R
  | [], [], _ => ⟨rfl, rfl⟩
  | [], x :: t, h => by simp at h
  | s :: R, [], h => by simp at h
  | s :: R, x :: t, h => by
    rw [List.map_cons, List.map_cons] at h
    injection h with h1 h2
    obtain ⟨i1, i2⟩ := zip_lvl h2
    rw [List.map_cons, List.zip_cons_cons, List.map_cons, List.map_cons, i1, i2, h1]
    exact ⟨rfl, rfl⟩
theorem zip_en : ∀ {R : List Std} {l : Lvl}, R.map E1 = l.map (fun x => En1 x.2) → ∀ y ∈ R.zip (l.map Prod.snd), E1 y.1 = En1 y.2
  | [], l, _, y, hy => by simp at hy
  | s :: R, [], _, y, hy => by simp at hy
  | s :: R, x :: t, h, y, hy => by
    rw [List.map_cons, List.map_cons] at h
    injection h with h1 h2
    rw [List.map_cons, List.zip_cons_cons] at hy
    rcases List.mem_cons.1 hy with rfl | hy
    · exact h1
    · exact zip_en h2 y hy
theorem nxs_get : ∀ {l : Lvl} {j : Nat} {x : Hn × Nd}, Nxs l → l[j]? = some x → x.2.nx = ((l.map Prod.fst)[j + 1]?).getD ⟨0, 0⟩
  | [], _, _, _, h => by simp at h
  | [a], 0, x, hn, h => by simp at h; subst h; exact hn
  | [a], j + 1, x, hn, h => by simp at h
  | a :: b :: t, 0, x, hn, h => by simp at h; subst h; exact hn.1
  | a :: b :: t, j + 1, x, hn, h => by
    rw [List.getElem?_cons_succ] at h
    rw [List.map_cons, List.getElem?_cons_succ]
    exact nxs_get hn.2 h
theorem RowOk.lev {T : List Lvl} {root : Hn} {R : List Std} {l : Lvl} {D : List Lvl} (h : RowOk R l) (hD : Tower (l :: D)) (hm : ∀ x ∈ l, x ∈ T.flatten) (g : Good T root) : ∃ lf, LevOk T (R.zip (l.map Prod.snd)) lf := by
  obtain ⟨z1, z2⟩ := zip_lvl h.hs
  have hmem : ∀ y ∈ R.zip (l.map Prod.snd), (y.1.at_, y.2) ∈ l := fun y hy => by
    have := List.mem_map_of_mem (f := fun y : Std × Nd => (y.1.at_, y.2)) hy
    rwa [z1] at this
  have hlf : ∃ lf, ∀ x ∈ l, x.2.leaf = lf := by
    cases D with
    | nil => exact ⟨true, fun x hx => (ch_leaf hD.1 x.2 (List.mem_map_of_mem hx)).1⟩
    | cons d D => exact ⟨false, fun x hx => (hD.1.inner x hx).1⟩
  obtain ⟨lf, hlf⟩ := hlf
  refine ⟨lf, fun y hy => hm _ (hmem y hy), fun y hy => ?_, fun y hy => hlf _ (hmem y hy), fun j y hj => ?_⟩
  · obtain ⟨a, b⟩ := en_eq (zip_en h.en y hy) (h.nb y.1 (List.of_mem_zip hy).1) (good_right g (hm _ (hmem y hy))).1.2.1
    exact ⟨a, b, fit_low h.lw h.en (tower_kc hD) y hy⟩
  · have hx : l[j]? = some (y.1.at_, y.2) := by
      rw [← z1, List.getElem?_map, hj]
      rfl
    have := nxs_get (tower_nxs hD) hx
    rw [z2]
    unfold nxtH
    rw [this, ← h.hs, List.getElem?_map]
    cases R[j + 1]? <;> rfl
/-- What the rows of stands are, level by level. -/
def LvlFits : List Std → List Lvl → Prop
  | R, [] => R = []
  | R, l :: _ => RowOk R l
theorem bel_leaf : ∀ {Y : List (Std × Nd)}, (∀ y ∈ Y, y.2.kids.length = 0) → bel Y = []
  | [], _ => rfl
  | y :: Y, h => by
    unfold bel
    rw [List.flatMap_cons, h y (List.mem_cons_self ..)]
    exact bel_leaf fun z hz => h z (List.mem_cons_of_mem _ hz)
theorem fits_next {R : List Std} {l : Lvl} {D : List Lvl} (h : RowOk R l) (hD : Tower (l :: D)) : LvlFits (bel (R.zip (l.map Prod.snd))) D := by
  cases D with
  | nil =>
    refine bel_leaf fun y hy => ?_
    obtain ⟨a, b⟩ := ch_leaf hD.1 y.2 (List.of_mem_zip hy).2
    exact (b.2.2.2.1 a).2
  | cons d D => exact h.below hD.1
theorem tower_tail {l : Lvl} {D : List Lvl} (h : Tower (l :: D)) (hD : D ≠ []) : Tower D := by
  cases D with
  | nil => exact absurd rfl hD
  | cons d D => exact h.2.2
theorem tower_drop : ∀ {A D : List Lvl}, Tower (A ++ D) → D ≠ [] → Tower D
  | [], D, h, _ => h
  | a :: A, D, h, hD => tower_drop (tower_tail h (by simp [hD])) hD
theorem lst_ne {l : Lvl} (h : Lst l) : l ≠ [] := by
  obtain ⟨D, k, c, e, _⟩ := h
  rw [e]
  simp
theorem rowok_root {T : List Lvl} {root : Hn} (g : Good T root) : LvlFits [⟨root, ⟨#[]⟩, ⟨#[]⟩, false⟩] T := by
  obtain ⟨n, R, e⟩ := g.rt
  have ht := g.tw
  rw [e] at ht ⊢
  obtain ⟨D, k, c, e2, h1, _⟩ := tower_lst rfl ht
  have e3 : D = [] := by
    have := congrArg List.length e2
    simp at this
    exact this
  subst e3
  simp at e2
  obtain ⟨_, rfl⟩ := e2
  exact ⟨rfl, by rw [List.map_cons, List.map_cons, h1]; rfl, fun s hs _ => by simp at hs; rw [hs], ⟨rfl, trivial⟩⟩
theorem Srw.one (w : World) (s : Std) : Srw w (w.alloc (.cells #[.int .i64 s.at_.slot, .int .u64 s.at_.gen, .string s.low, .string s.high, .bool s.bnd] 98)) [s] (some ⟨w.heap.size, 0, none⟩) 1 := ⟨(Turn.refl _ _).alloc _, World.ownsRow_lit w #[.int .i64 s.at_.slot, .int .u64 s.at_.gen, .string s.low, .string s.high, .bool s.bnd] 1 (Nat.le_refl _) (by decide) (by rfl)⟩
set_option maxRecDepth 100000 in
set_option maxHeartbeats 8000000 in
/-- Check. -/
theorem check_any {w : World} {I : Ids} {N : Nat → Option Ent} {T : List Lvl} {root : Hn} (hT : Tr w I N T root) (hn : T.flatten.length ≤ 4096) :
    Calls Tryd.prog 16 #[.pointer (some ⟨I.tb, 0, none⟩)] w fun e w' => e = .returned (.bool true) ∧ Turn No w w' := by
  have hrz : rtZ root = false := by
    obtain ⟨n, R, e⟩ := hT.g.rt
    exact hT.nz (x := (root, n)) (by rw [e]; simp)
  have HT := Lib.hid (And.intro hT hn)
  have CM := Lib.hid (made_yes I root w hT.t)
  have CS := Lib.hid (stands_any I root w hT.t)
  rw [hrz] at CS
  have CL := Lib.hid fun W (t : Turn No w W) => slots_any (hT.no t)
  obtain ⟨nn, hnn⟩ : ∃ x, T.flatten.length = x := ⟨_, rfl⟩
  rw [hnn] at CL hn
  have HNN := Lib.hid hnn
  have t2 := At.cell hT.t 2
  have t3 := At.cell hT.t 3
  simp at t2 t3
  have ltb := At.lt hT.t
  clear hT hrz hnn
  go_enter Tryd.func16, Tryd.ntmps16
  go_wp2_with (first | (go_at_call 41; refine CM.out.mono ?_; rintro e w1 ⟨rfl, hw⟩; rw [hw]; clear hw) | (go_at_call 42; refine CS.out.mono ?_; rintro e w1 ⟨rfl, hw⟩; rw [hw]; clear hw))
  have HI : Hid (Srw w (w.alloc (.cells #[.int .i64 root.slot, .int .u64 root.gen, .string ⟨#[]⟩, .string ⟨#[]⟩, .bool false] 98)) [⟨root, ⟨#[]⟩, ⟨#[]⟩, false⟩] (some ⟨w.heap.size, 0, none⟩) 1) := Lib.hid (Srw.one w ⟨root, ⟨#[]⟩, ⟨#[]⟩, false⟩)
  generalize w.alloc (.cells #[.int .i64 root.slot, .int .u64 root.gen, .string ⟨#[]⟩, .string ⟨#[]⟩, .bool false] 98) = w1 at HI ⊢
  generalize (some ⟨w.heap.size, 0, none⟩ : Option Addr) = B0 at HI ⊢
  clear CM CS t2 t3
  go_loopw [3, 4] (fun x y wr => ∃ (A D : List Lvl) (R : List Std) (B : Option Addr) (c : Nat), x = .slice B R.length c ∧ y = .int .i64 ((A.flatten.length : Nat) : Int) ∧ Hid (T = A ++ D ∧ LvlFits R D ∧ Srw w wr R B c)) (fun _ y _ => nn - (RowKit.intOf y).toNat)
  case atStart => exact ⟨[], T, _, B0, 1, rfl, rfl, Lib.hid ⟨rfl, rowok_root HT.out.1.g, HI.out⟩⟩
  case round =>
    clear HI
    obtain ⟨A, D, R, B, c, rfl, rfl, HR⟩ := hrel
    cases D with
    | nil =>
      have hR0 : R = [] := HR.out.2.1
      subst hR0
      have hA : A = T := by have := HR.out.1; rw [List.append_nil] at this; exact this.symm
      subst hA
      rw [HNN.out]
      have b1 : ¬ (0 : Int) < 0 := by omega
      go_wp2_with (go_at_call 23; (with_reducible refine (CL.out _ HR.out.2.2.tu).mono ?_); rintro e w6 ⟨rfl, ht⟩; have HF := Lib.hid (HR.out.2.2.tu.trans ht); clear ht)
      go_ret
      exact ⟨rfl, HF.out⟩
    | cons l D =>
      have hTe := HR.out.1
      have hro : RowOk R l := HR.out.2.1
      have htw : Tower (l :: D) := tower_drop (A := A) (by rw [← hTe]; exact HT.out.1.g.tw) (by simp)
      have hmem : ∀ x ∈ l, x ∈ T.flatten := fun x hx => List.mem_flatten.2 ⟨l, by rw [hTe]; simp, hx⟩
      obtain ⟨lf, hlev⟩ := hro.lev htw hmem HT.out.1.g
      obtain ⟨z1, z2⟩ := zip_lvl hro.hs
      have hlen : R.length = l.length := hro.len
      have hl0 : l ≠ [] := lst_ne (tower_lst rfl htw)
      have hl1 : 0 < l.length := List.length_pos_iff.2 hl0
      have hnn : A.flatten.length + l.length ≤ nn := by
        rw [← HNN.out, hTe, List.flatten_append, List.flatten_cons, List.length_append, List.length_append]
        omega
      have hnx := fits_next hro htw
      have hYn : (R.zip (l.map Prod.snd)).length = R.length := by have := congrArg List.length z2; simpa using this
      have hbl : (bel (R.zip (l.map Prod.snd))).length ≤ 50000 := by
        cases D with
        | nil => rw [show bel (R.zip (l.map Prod.snd)) = [] from hnx]; exact Nat.zero_le _
        | cons d D =>
          have h1 : (bel (R.zip (l.map Prod.snd))).length = d.length := RowOk.len hnx
          have h2 : A.flatten.length + (l.length + d.length) ≤ nn := by
            rw [← HNN.out, hTe, List.flatten_append, List.flatten_cons, List.flatten_cons, List.length_append, List.length_append, List.length_append]
            omega
          omega
      have hrow : ∀ W, Turn No wr W → Row W B (scs ((R.zip (l.map Prod.snd)).map Prod.fst)) := fun W t => by rw [z2]; exact (row_of_own HR.out.2.2.row).no t
      have CI := Lib.hid fun W (t : Turn No wr W) => islev_any (HT.out.1.no (HR.out.2.2.tu.trans t)) _ hlev (cq := c) (hrow W t) (by intro e; rw [e] at hYn; simp at hYn; omega) (by omega)
      have CB := Lib.hid fun W (t : Turn No wr W) => below_any (HT.out.1.no (HR.out.2.2.tu.trans t)) _ (cq := c) (hrow W t) hlev.mem (by omega) hbl
      rw [hYn] at CI CB
      obtain ⟨R2, hR2⟩ : ∃ x, bel (R.zip (l.map Prod.snd)) = x := ⟨_, rfl⟩
      rw [hR2] at CB hnx
      obtain ⟨m, hm⟩ : ∃ x, R.length = x := ⟨_, rfl⟩
      rw [hm] at CI CB hlen ⊢
      have HN2 : Hid (T = (A ++ [l]) ++ D ∧ LvlFits R2 D) := Lib.hid ⟨by rw [hTe]; simp, hnx⟩
      have HAL : Hid ((A ++ [l]).flatten.length = A.flatten.length + m) := Lib.hid (by rw [List.flatten_append, List.length_append, hlen]; simp)
      obtain ⟨a, ha⟩ : ∃ x, A.flatten.length = x := ⟨_, rfl⟩
      rw [ha] at HAL hnn ⊢
      have b1 : (0 : Int) < (m : Int) := by omega
      have b2 : (a : Int) < (nn : Int) := by omega
      have hw : IntKind.i64.wrap ((a : Int) + (m : Int)) = ((a + m : Nat) : Int) := (IntWalk.i64_in _ ⟨by omega, by omega⟩).trans (by omega)
      have HME : Hid (a + m ≤ nn ∧ 0 < m) := Lib.hid ⟨by omega, by omega⟩
      clear hTe hro htw hmem hlev z1 z2 hl0 hl1 hnn hnx hYn hbl hrow hR2 hm ha hlen
      go_upto_region 8 with (go_at_call 23; (with_reducible refine (CL.out _ HR.out.2.2.tu).mono ?_); rintro e w6 ⟨rfl, ht⟩; have H6 := Lib.hid ht; clear ht)
      go_upto_region 10 with (go_at_call 43; (with_reducible refine (CI.out _ H6.out).mono ?_); rintro e w7 ⟨rfl, ht⟩; have H7 := Lib.hid (H6.out.trans ht); clear ht)
      go_wp2_with (go_at_call 44; (with_reducible refine (CB.out _ H7.out).mono ?_); rintro e w8 ⟨B2, c2, rfl, hS⟩; have H8 := Lib.hid hS; clear hS)
      have t7 : Turn No w w7 := HR.out.2.2.tu.trans H7.out
      refine ⟨⟨A ++ [l], D, R2, B2, c2, rfl, congrArg _ (by rw [HAL.out]; omega), Lib.hid ⟨HN2.out.1, HN2.out.2, t7.trans H8.out.tu, own_base H8.out.row t7.size⟩⟩, ?_⟩
      show nn - ((a : Int) + (m : Int)).toNat < nn - ((a : Int)).toNat
      have := HME.out
      omega
end Go.Proofs.YtfplnobnmgbgoaaDoor
namespace Go.Proofs.YtfplnobnmgbgoaaDoor
open Go.RowKit Go.Lib
set_option linter.unusedVariables false
set_option maxRecDepth 20000
set_option linter.unusedSimpArgs false

/-- Where a key is to be looked for behind a node. -/
def onwH (is : Bool) (h nx : Hn) : Hn := if is = true then h else nx
set_option maxRecDepth 100000 in
set_option maxHeartbeats 4000000 in
/-- onward. -/
theorem onward_any {w : World} (n : Nd) (key : ByteArray) (fk : Fit key) {q gg : Nat} {AK : Option Addr} {ck : Nat} {AV : Option Addr} {cv : Nat} {AD : Option Addr} {cd : Nat} (hat : At w q (.cells (#[.int .u64 (gg : Int)] ++ ndc n AK ck AV cv AD cd) 121 (0, 0))) (hi : Inn w n AK AV AD) :
    Calls Tryd.prog 58 #[.pointer (some ⟨q, 1, none⟩), .string key] w fun e w' => ∃ h is, KidR n key h is ∧ e = .returned (.agg #[.int .i64 (onwH is h n.nx).slot, .int .u64 (onwH is h n.nx).gen]) ∧ Turn No w w' := by
  have T0 := (Turn.refl No w).alloc (.cells #[.int .i64 0, .int .u64 0] 77)
  have A0 := At.new w (.cells #[.int .i64 0, .int .u64 0] 77)
  have H0 := Lib.hid (And.intro T0 (And.intro A0 (And.intro (hat.no T0) (hi.no T0))))
  clear T0 A0 hat hi
  go_enter Tryd.func58, Tryd.ntmps58
  go_upto_region 1 with fail
  generalize w.alloc (.cells #[.int .i64 0, .int .u64 0] 77) = w1 at H0 ⊢
  obtain ⟨g, hg⟩ : ∃ x, w.heap.size = x := ⟨_, rfl⟩
  have HG := Lib.hid hg
  rw [hg] at H0 ⊢
  clear hg
  have hr := node_range H0.out.2.2.1
  have hq := H0.out.2.2.1.lt
  have CK := Lib.hid (kid_c n AK AV AD ck cv cd key w1 H0.out.2.2.2.i fk)
  go_upto_region 2 with (first | (refine wpList_load_mid rfl 79 _ rfl q 1 rfl (ndc n AK ck AV cv AD cd).toList _ hr Tryd.underlying79 rfl inf79 ?_) | (go_at_call 65; refine CK.out.mono ?_; rintro e w4 ⟨h, is, rfl, hkr, ht4⟩; have HK := Lib.hid (And.intro hkr ht4); clear hkr ht4 hr hq))
  have T5 := (Turn.refl No w4).alloc (.cells #[.int .i64 h.slot, .int .u64 h.gen] 77)
  have A5 := At.new w4 (.cells #[.int .i64 h.slot, .int .u64 h.gen] 77)
  obtain ⟨g5, hg5⟩ : ∃ x, w4.heap.size = x := ⟨_, rfl⟩
  rw [hg5] at A5 ⊢
  clear hg5
  generalize w4.alloc (.cells #[.int .i64 h.slot, .int .u64 h.gen] 77) = w5 at T5 A5 ⊢
  have HN5 := H0.out.2.2.1.no (HK.out.2.trans T5)
  obtain ⟨_, _, _, _, _, _, a7, a8⟩ := node_cells HN5
  have a9 := HN5.lt
  obtain ⟨x0, x1⟩ := at2 A5
  have x9 := A5.lt
  have A0 := H0.out.2.1.no (HK.out.2.trans T5)
  obtain ⟨y0, y1⟩ := at2 A0
  have z0 := A0.thawed 0
  have z1 := A0.thawed 1
  have y9 := A0.lt
  have H5 := Lib.hid (And.intro A0 ((H0.out.1.trans HK.out.2).trans T5))
  clear T5 A5 HN5 A0
  cases is with
  | true =>
    go_wp2_with fail
    obtain ⟨hA, tA⟩ := set2 (v0 := .int .i64 h.slot) (v1 := .int .u64 h.gen) H5.out.1
    have HZ := Lib.hid (And.intro hA (H5.out.2.then tA fun k hk e => by have := HG.out; omega))
    generalize (w5.setCell ⟨g, 0, none⟩ (.int .i64 h.slot)).setCell ⟨g, 1, none⟩ (.int .u64 h.gen) = w9 at HZ ⊢
    (try simp only [Exit.inBlock, Exit.then])
    refine bodyPost_ret (results_cell_row rfl _ _ g 77 _ (0, 0) _ (by rfl) HZ.out.1 Tryd.underlying77 rfl (by kernel_rfl)) rfl ?_
    exact ⟨h, true, HK.out.1, rfl, HZ.out.2⟩
  | false =>
    go_wp2_with fail
    obtain ⟨hA, tA⟩ := set2 (v0 := .int .i64 n.nx.slot) (v1 := .int .u64 n.nx.gen) H5.out.1
    have HZ := Lib.hid (And.intro hA (H5.out.2.then tA fun k hk e => by have := HG.out; omega))
    generalize (w5.setCell ⟨g, 0, none⟩ (.int .i64 n.nx.slot)).setCell ⟨g, 1, none⟩ (.int .u64 n.nx.gen) = w9 at HZ ⊢
    (try simp only [Exit.inBlock, Exit.then])
    refine bodyPost_ret (results_cell_row rfl _ _ g 77 _ (0, 0) _ (by rfl) HZ.out.1 Tryd.underlying77 rfl (by kernel_rfl)) rfl ?_
    exact ⟨h, false, HK.out.1, rfl, HZ.out.2⟩
end Go.Proofs.YtfplnobnmgbgoaaDoor
namespace Go.Proofs.YtfplnobnmgbgoaaDoor
open Go.RowKit Go.Lib
set_option linter.unusedVariables false
set_option maxRecDepth 20000
set_option linter.unusedSimpArgs false

theorem eqIn_nilf (w : World) (d : Nat) : (Op.equalIn (d + 1) 1 .nilFunc .nilFunc).run Tryd.prog w = .ok true w := by
  simp [Op.equalIn, run_underlying Tryd.underlying1]
theorem eqIn_func (w : World) (d : Nat) (f : Fn) (b c : Array Value) : (Op.equalIn (d + 1) 1 (.func f b c) .nilFunc).run Tryd.prog w = .ok false w := by
  simp [Op.equalIn, run_underlying Tryd.underlying1]
theorem neq_nilf (w : World) : (binOp .neq 1 .nilFunc .nilFunc).run Tryd.prog w = .ok (.bool false) w := by
  simp only [binOp, Op.equal, Op.maxDepth]
  rw [show (10000 : Nat) = 9999 + 1 from rfl, Sem.run_bind, eqIn_nilf]
  rfl
theorem neq_func (w : World) (f : Fn) (b c : Array Value) : (binOp .neq 1 (.func f b c) .nilFunc).run Tryd.prog w = .ok (.bool true) w := by
  simp only [binOp, Op.equal, Op.maxDepth]
  rw [show (10000 : Nat) = 9999 + 1 from rfl, Sem.run_bind, eqIn_func]
  rfl
/-- look without a visit. -/
theorem look_nil {w : World} {I : Ids} {N : Nat → Option Ent} {T : List Lvl} {root : Hn} (hT : Tr w I N T root) {x : Hn × Nd} (hx : x ∈ T.flatten) :
    Calls Tryd.prog 39 #[.pointer (some ⟨I.tb, 0, none⟩), .agg #[.int .i64 x.1.slot, .int .u64 x.1.gen], .nilFunc] w fun e w' => e = .returned (.tuple #[pq (blkOf N x), .bool true]) ∧ Turn No w w' := by
  have T0 := (Turn.refl No w).alloc (.cells #[.int .i64 x.1.slot, .int .u64 x.1.gen] 77)
  have A0 := At.new w (.cells #[.int .i64 x.1.slot, .int .u64 x.1.gen] 77)
  obtain ⟨g, hg⟩ : ∃ x, w.heap.size = x := ⟨_, rfl⟩
  rw [hg] at A0
  have HG := Lib.hid hg
  have H0 := Lib.hid (And.intro T0 A0)
  have GY := Lib.hid fun W (t : Turn No w W) => hT.getY hx W t
  have ht0 := hT.no T0
  have HS := Lib.hid fun W (t : Turn No (w.alloc (.cells #[.int .i64 x.1.slot, .int .u64 x.1.gen] 77)) W) => (show W.cell? ⟨I.tb, 1, none⟩ = some (.pointer (some ⟨I.ab, 0, none⟩)) ∧ W.cell? ⟨g, 0, none⟩ = some (.int .i64 x.1.slot) ∧ W.cell? ⟨g, 1, none⟩ = some (.int .u64 x.1.gen) from ⟨by simpa using At.cell (At.no ht0.t t) 1, (at2 (A0.no t)).1, (at2 (A0.no t)).2⟩)
  clear T0 A0 hT hx hg ht0
  have hq0 := neq_nilf
  go_enter Tryd.func39, Tryd.ntmps39
  go_upto_region 3 with fail
  rw [HG.out]
  generalize w.alloc (.cells #[.int .i64 x.1.slot, .int .u64 x.1.gen] 77) = w1 at H0 HS ⊢
  have hs0 := HS.out w1 (Turn.refl _ _)
  go_region_held3 (fun W => W.cell? ⟨I.tb, 1, none⟩ = some (.pointer (some ⟨I.ab, 0, none⟩)) ∧ W.cell? ⟨g, 0, none⟩ = some (.int .i64 x.1.slot) ∧ W.cell? ⟨g, 1, none⟩ = some (.int .u64 x.1.gen)) (first | (with_reducible exact hs0) | (exact HS.out _ (by first | assumption | exact (Turn.refl No _).drew))) (first | (go_at_call 61; (with_reducible refine (GY.out _ (H0.out.1.trans (Turn.refl No _).drew)).mono ?_); rintro e w5 ⟨rfl, ht⟩; have ht : Turn No w1 w5 := (Turn.refl No w1).drew.trans ht))
  have HF := Lib.hid (H0.out.1.trans ht)
  clear hs0 ht
  go_wp2_with fail
  go_ret2
  exact ⟨rfl, HF.out⟩
end Go.Proofs.YtfplnobnmgbgoaaDoor
namespace Go.Proofs.YtfplnobnmgbgoaaDoor
open Go.RowKit Go.Lib
set_option linter.unusedVariables false
set_option maxRecDepth 20000
set_option linter.unusedSimpArgs false

/-- Where a reader of a key stands: nothing to the left of it covers the key; so much is ahead of it. -/
structure At10 (T : List Lvl) (key : ByteArray) (x : Hn × Nd) (d : Nat) : Prop where
  at_ : ∃ U A B D, T = U ++ (A ++ x :: B) :: D ∧ (∀ a ∈ A, ¬ NdCov a.2 key) ∧ d = B.length + 1 + D.flatten.length
theorem At10.mem {T : List Lvl} {key : ByteArray} {x : Hn × Nd} {d : Nat} (h : At10 T key x d) : x ∈ T.flatten := by
  obtain ⟨U, A, B, D, e, _, _⟩ := h.at_
  rw [e]
  simp
theorem At10.le {T : List Lvl} {key : ByteArray} {x : Hn × Nd} {d : Nat} (h : At10 T key x d) : d ≤ T.flatten.length := by
  obtain ⟨U, A, B, D, e, _, hd⟩ := h.at_
  rw [e, hd]
  simp
  omega
theorem At10.vis {T : List Lvl} {key : ByteArray} {x : Hn × Nd} {d : Nat} (h : At10 T key x d) : VisT T x.1 (key, x.2.leaf) := by
  obtain ⟨U, A, B, D, e, hA, _⟩ := h.at_
  exact ⟨A ++ x :: B, by rw [e]; simp, A, x.2, B, rfl, hA, fun h => h⟩
theorem at10_of {T : List Lvl} {key : ByteArray} {lf : Bool} {h : Hn} (hv : VisT T h (key, lf)) : ∃ n d, At10 T key (h, n) d ∧ (lf = true → n.leaf = true) := by
  obtain ⟨l, hl, A, n, B, e, hA, hlf⟩ := hv
  obtain ⟨U, D, e2⟩ := List.append_of_mem hl
  exact ⟨n, _, ⟨U, A, B, D, by rw [e2, e], hA, rfl⟩, hlf⟩
theorem at10_root {T : List Lvl} {root : Hn} (g : Good T root) (key : ByteArray) : VisT T root (key, false) := by
  obtain ⟨n, R, e⟩ := g.rt
  exact ⟨[(root, n)], by rw [e]; simp, [], n, [], rfl, by simp, fun h => by cases h⟩
theorem lvl_leaf {l : Lvl} {D : List Lvl} (h : Tower (l :: D)) {x y : Hn × Nd} (hx : x ∈ l) (hy : y ∈ l) (hl : x.2.leaf = true) : y.2.leaf = true := by
  cases D with
  | nil => exact (ch_leaf h.1 y.2 (List.mem_map_of_mem hy)).1
  | cons d D => have := (h.1.inner x hx).1; rw [hl] at this; cases this
theorem vis_nx {T : List Lvl} {root : Hn} (g : Good T root) {key : ByteArray} {x : Hn × Nd} {d : Nat} (h : At10 T key x d) (hc : ¬ NdCov x.2 key) : ∃ y e, x.2.nx = y.1 ∧ At10 T key y e ∧ e < d ∧ (x.2.leaf = true → y.2.leaf = true) := by
  obtain ⟨U, A, B, D, e, hA, hd⟩ := h.at_
  obtain ⟨xh, n⟩ := x
  have ht : Tower ((A ++ (xh, n) :: B) :: D) := tower_drop (A := U) (by rw [← e]; exact g.tw) (by simp)
  obtain ⟨y, B', hB, hy⟩ := next_of (tower_lst rfl ht) (tower_nxs ht) rfl hc
  subst hB
  refine ⟨y, B'.length + 1 + D.flatten.length, hy, ⟨U, A ++ [(xh, n)], B', D, by rw [e]; simp, fun a ha => ?_, rfl⟩, by rw [hd]; simp, lvl_leaf ht (by simp) (by simp)⟩
  rcases List.mem_append.1 ha with ha | ha
  · exact hA a ha
  · simp at ha
    subst ha
    exact hc
/-- One step of a reader that is not there yet. -/
theorem step_on {T : List Lvl} {root : Hn} (g : Good T root) {key : ByteArray} {x : Hn × Nd} {d : Nat} (h : At10 T key x d) {k : Hn} {is : Bool} (hk : KidR x.2 key k is) (hn : ¬ (x.2.leaf = true ∧ NdCov x.2 key)) : ∃ y e, onwH is k x.2.nx = y.1 ∧ At10 T key y e ∧ e < d := by
  classical
  by_cases hc : NdCov x.2 key
  · have hlf : x.2.leaf = false := by
      cases hl : x.2.leaf with
      | false => rfl
      | true => exact absurd ⟨hl, hc⟩ hn
    obtain ⟨h1, h2⟩ := hk.1 ⟨(good_right g h.mem).1, hlf, hc⟩
    obtain ⟨U, A, B, D, e, hA, hd⟩ := h.at_
    obtain ⟨xh, n⟩ := x
    have ht : Tower ((A ++ (xh, n) :: B) :: D) := tower_drop (A := U) (by rw [← e]; exact g.tw) (by simp)
    obtain ⟨_, h3⟩ := tower_down ht hA hc
    rcases h3 with h3 | ⟨_, A', kid, c, B', R', hD, hkid, _, hA', _⟩
    · simp only at hlf
      rw [hlf] at h3
      cases h3.1
    · simp only at h2
      rw [hkid] at h2
      injection h2 with h2
      subst h2 hD
      refine ⟨(kid, c), B'.length + 1 + R'.flatten.length, by unfold onwH; rw [if_pos h1], ⟨U ++ [A ++ (xh, n) :: B], A', B', R', by rw [e]; simp, hA', rfl⟩, ?_⟩
      rw [hd, List.flatten_cons, List.length_append, List.length_append, List.length_cons]
      omega
  · obtain ⟨y, e, h1, h2, h3, _⟩ := vis_nx g h hc
    obtain ⟨h4, _⟩ := hk.2 fun hh => hc hh.2.2
    exact ⟨y, e, by unfold onwH; rw [if_neg (by rw [h4]; decide)]; exact h1, h2, h3⟩
/-- At the leaf: what it has of the key is what the tree has. -/
theorem at10_leaf {T : List Lvl} {root : Hn} (g : Good T root) {key : ByteArray} {x : Hn × Nd} {d : Nat} (h : At10 T key x d) (hl : x.2.leaf = true) : ∃ U A B, T = U ++ [A ++ x :: B] ∧ ∀ a ∈ A, ¬ NdCov a.2 key := by
  obtain ⟨U, A, B, D, e, hA, hd⟩ := h.at_
  have ht : Tower ((A ++ x :: B) :: D) := tower_drop (A := U) (by rw [← e]; exact g.tw) (by simp)
  cases D with
  | nil => exact ⟨U, A, B, e, hA⟩
  | cons d D =>
    have := (ht.1.inner x (by simp)).1
    rw [hl] at this
    cases this
end Go.Proofs.YtfplnobnmgbgoaaDoor
namespace Go.Proofs.YtfplnobnmgbgoaaDoor
open Go.RowKit Go.Lib
set_option linter.unusedVariables false
set_option maxRecDepth 20000
set_option linter.unusedSimpArgs false

theorem sto_one {N : Nat → Option Ent} {X : Lvl} (hs : Sto N X) {h : Hn} {n m : Nd} (h1 : (h, n) ∈ X) (h2 : (h, m) ∈ X) : n = m := by
  obtain ⟨x, e, a1, a2, a3⟩ := (hs.mem h n).1 h1
  obtain ⟨y, f, b1, b2, b3⟩ := (hs.mem h m).1 h2
  rw [a2] at b2
  injection b2 with b2 _
  have : x = y := by omega
  subst this
  rw [a1] at b1
  injection b1 with b1
  rw [a3, b3, b1]
/-- What a reader's look comes to, whatever its visit does: the states it may lead to keep where readers stand. -/
structure LookC {α : Type} (vis : Value) (I : Ids) (St : α → World → Prop) (R : α → α → Prop) (Nn : α → Nat → Option Ent) (Tt : α → List Lvl) (rt : α → Hn) (rem lim : α → Nat) : Prop where
  tr : ∀ a w, St a w → Tr w I (Nn a) (Tt a) (rt a)
  no : ∀ a w w', St a w → Turn No w w' → St a w'
  sz : ∀ a w, St a w → (Tt a).flatten.length ≤ 10000
  rfl_ : ∀ a, R a a
  trn : ∀ a b c, R a b → R b c → R a c
  look : ∀ a w x key d, St a w → 0 < lim a → At10 (Tt a) key x d → Calls Tryd.prog 39 #[.pointer (some ⟨I.tb, 0, none⟩), .agg #[.int .i64 x.1.slot, .int .u64 x.1.gen], vis] w fun e w' => ∃ b n, R a b ∧ lim a ≤ lim b + 1 ∧ (∀ q, VisT (Tt a) x.1 q → VisT (Tt b) x.1 q) ∧ (rem b < rem a ∨ (rem b = rem a ∧ Tt b = Tt a)) ∧ St b w' ∧ (x.1, n) ∈ (Tt b).flatten ∧ e = .returned (.tuple #[pq (blkOf (Nn b) (x.1, n)), .bool true])
/-- What a look at where a reader stands comes to. -/
theorem LookC.go {α : Type} {vis : Value} {I : Ids} {St : α → World → Prop} {R : α → α → Prop} {Nn : α → Nat → Option Ent} {Tt : α → List Lvl} {rt : α → Hn} {rem lim : α → Nat} (C : LookC vis I St R Nn Tt rt rem lim) {a : α} {w : World} (hs : St a w) (h0 : 0 < lim a) {key : ByteArray} {x : Hn × Nd} {d : Nat} (hx : At10 (Tt a) key x d) :
    Calls Tryd.prog 39 #[.pointer (some ⟨I.tb, 0, none⟩), .agg #[.int .i64 x.1.slot, .int .u64 x.1.gen], vis] w fun e w' => ∃ b y d', R a b ∧ lim a ≤ lim b + 1 ∧ St b w' ∧ At10 (Tt b) key y d' ∧ rem b * 20000 + d' ≤ rem a * 20000 + d ∧ (x.2.leaf = true → y.2.leaf = true) ∧ e = .returned (.tuple #[pq (blkOf (Nn b) y), .bool true]) := by
  refine (C.look a w x key d hs h0 hx).mono ?_
  rintro e w' ⟨b, n, h1, hli, h2, h3, h4, h5, rfl⟩
  have hd := C.sz b w' h4
  rcases h3 with h3 | ⟨h3, h6⟩
  · obtain ⟨n', d', h7, h9⟩ := at10_of (h2 (key, x.2.leaf) hx.vis)
    have : n' = n := sto_one (C.tr b w' h4).s h7.mem h5
    subst this
    exact ⟨b, _, d', h1, hli, h4, h7, by have := h7.le; omega, h9, rfl⟩
  · have : x.2 = n := sto_one (C.tr b w' h4).s (by rw [h6]; exact hx.mem) h5
    subst this
    exact ⟨b, x, d, h1, hli, h4, by rw [h6]; exact hx, by rw [h3]; exact Nat.le_refl _, fun h => h, rfl⟩
set_option maxRecDepth 100000 in
set_option maxHeartbeats 8000000 in
/-- reach. -/
theorem reach_any {α : Type} {vis : Value} {I : Ids} {St : α → World → Prop} {R : α → α → Prop} {Nn : α → Nat → Option Ent} {Tt : α → List Lvl} {rt : α → Hn} {rem lim : α → Nat} (C : LookC vis I St R Nn Tt rt rem lim) {a : α} {w : World} (hs : St a w) (hlm : rem a * 20000 + 10001 ≤ lim a) (key : ByteArray) (fk : Fit key) :
    Calls Tryd.prog 34 #[.pointer (some ⟨I.tb, 0, none⟩), .string key, vis] w fun e w' => ∃ b x d, R a b ∧ St b w' ∧ At10 (Tt b) key x d ∧ x.2.leaf = true ∧ NdCov x.2 key ∧ rem b * 20000 + d ≤ lim b ∧ e = .returned (.tuple #[pq (blkOf (Nn b) x), .bool true]) := by
  have hT := C.tr a w hs
  obtain ⟨n0, d0, hx0, _⟩ := at10_of (at10_root hT.g key)
  have hrz : rtZ (rt a) = false := hT.nz hx0.mem
  have CS := Lib.hid (stands_any I (rt a) w hT.t)
  rw [hrz] at CS
  have hle0 : d0 ≤ 10000 := Nat.le_trans hx0.le (C.sz a w hs)
  have CL := Lib.hid (C.go hs (by omega) hx0)
  have HLM := Lib.hid (And.intro hlm hle0)
  have t2 := At.cell hT.t 2
  have t3 := At.cell hT.t 3
  simp at t2 t3
  have ltb := At.lt hT.t
  have HC := Lib.hid C
  have HK := Lib.hid fk
  clear hT hx0 hrz C fk hlm hle0
  unfold pq at CL ⊢
  go_enter Tryd.func34, Tryd.ntmps34
  go_wp2_with (first | (go_at_call 42; refine CS.out.mono ?_; rintro e w1 ⟨rfl, hw⟩; rw [hw]; clear hw) | (go_at_call 39; (with_reducible refine CL.out.mono ?_); rintro e w1 ⟨b, y, d, h1, hli, h2, h3, h4, _, rfl⟩; have H1 := Lib.hid (And.intro h1 (And.intro h2 (And.intro h3 (show rem b * 20000 + d ≤ lim b from by have := HLM.out.1; have := HLM.out.2; omega)))); clear h1 hli h2 h3 h4 CL CS t2 t3 ltb))
  go_loopg [8, 9] (rem b * 20000 + d) (fun k x o wr => ∃ c z e, k = rem c * 20000 + e ∧ x = .pointer (some ⟨blkOf (Nn c) z, 1, none⟩) ∧ o = .bool true ∧ Hid (R a c ∧ St c wr ∧ At10 (Tt c) key z e ∧ rem c * 20000 + e ≤ lim c))
  case atStart => exact ⟨b, y, d, rfl, rfl, rfl, H1⟩
  case round =>
    clear H1
    obtain ⟨c, z, e, rfl, rfl, rfl, HR⟩ := hrel
    have hT := HC.out.tr c wr HR.out.2.1
    obtain ⟨g, AK, ck, AV, cv, AD, cd, hat, hin⟩ := hT.node HR.out.2.2.1.mem
    obtain ⟨q, hq⟩ : ∃ x, blkOf (Nn c) z = x := ⟨_, rfl⟩
    rw [hq] at hat ⊢
    have HQ := Lib.hid hq
    obtain ⟨c1, c2, c3, c4, c5, c6, c7, c8⟩ := node_cells hat
    have lq := hat.lt
    have CV := Lib.hid (covers_c z.2 AK AV AD ck cv cd key wr hin.i HK.out)
    have CO := Lib.hid fun W (t : Turn No wr W) => onward_any z.2 key HK.out (hat.no t) (hin.no t)
    have HG := Lib.hid hT.g
    obtain ⟨lf, hlf⟩ : ∃ x, z.2.leaf = x := ⟨_, rfl⟩
    rw [hlf] at CV c1
    have HLF := Lib.hid hlf
    clear hT hat hin hq hlf
    cases lf with
    | true =>
      go_wp2_with (first | (go_at_call 57; (with_reducible refine CV.out.mono ?_); rintro e5 w5 ⟨(_ | _), rfl, hbb, ht⟩ <;> have HV := Lib.hid (And.intro hbb ht) <;> clear hbb ht) | (go_at_call 58; (with_reducible refine (CO.out _ HV.out.2).mono ?_); rintro e6 w6 ⟨kh, is, hkr, rfl, ht⟩; obtain ⟨y2, e2, hy2, ha2, hlt⟩ := step_on HG.out HR.out.2.2.1 hkr (fun h => by have := HV.out.1.2 h.2; cases this); rw [hy2]; have CL2 := Lib.hid (HC.out.go (HC.out.no _ _ _ HR.out.2.1 (HV.out.2.trans ht)) (by have := HR.out.2.2.2; omega) ha2); have HLT := Lib.hid hlt; clear hkr ht hy2 ha2 hlt; unfold pq at CL2) | (go_at_call 39; (with_reducible refine CL2.out.mono ?_); rintro e7 w7 ⟨b7, y7, d7, h1, hli, h2, h3, h4, _, rfl⟩; have H7 := Lib.hid (And.intro (HC.out.trn _ _ _ HR.out.1 h1) (And.intro h2 (And.intro h3 (show rem b7 * 20000 + d7 ≤ lim b7 from by have := HR.out.2.2.2; have := HLT.out; omega)))); have H8 := Lib.hid h4; clear h1 hli h2 h3 h4 CL2))
      · go_roundg (rem b7 * 20000 + d7)
        case measure => have := HLT.out; have := H8.out; omega
        case rel => exact ⟨b7, y7, d7, rfl, rfl, rfl, H7⟩
      · go_ret2
        exact ⟨c, z, e, HR.out.1, HC.out.no _ _ _ HR.out.2.1 HV.out.2, HR.out.2.2.1, HLF.out, by first | exact HV.out.1.1 rfl | exact HV.out.1.1 trivial, HR.out.2.2.2, by rw [HQ.out]; rfl⟩
    | false =>
      have HN : Hid (¬ (z.2.leaf = true ∧ NdCov z.2 key)) := Lib.hid fun h => by have := h.1; rw [HLF.out] at this; cases this
      go_wp2_with (first | (go_at_call 58; (with_reducible refine (CO.out _ (Turn.refl _ _)).mono ?_); rintro e6 w6 ⟨kh, is, hkr, rfl, ht⟩; obtain ⟨y2, e2, hy2, ha2, hlt⟩ := step_on HG.out HR.out.2.2.1 hkr HN.out; rw [hy2]; have CL2 := Lib.hid (HC.out.go (HC.out.no _ _ _ HR.out.2.1 ht) (by have := HR.out.2.2.2; omega) ha2); have HLT := Lib.hid hlt; clear hkr ht hy2 ha2 hlt; unfold pq at CL2) | (go_at_call 39; (with_reducible refine CL2.out.mono ?_); rintro e7 w7 ⟨b7, y7, d7, h1, hli, h2, h3, h4, _, rfl⟩; have H7 := Lib.hid (And.intro (HC.out.trn _ _ _ HR.out.1 h1) (And.intro h2 (And.intro h3 (show rem b7 * 20000 + d7 ≤ lim b7 from by have := HR.out.2.2.2; have := HLT.out; omega)))); have H8 := Lib.hid h4; clear h1 hli h2 h3 h4 CL2))
      go_roundg (rem b7 * 20000 + d7)
      case measure => have := HLT.out; have := H8.out; omega
      case rel => exact ⟨b7, y7, d7, rfl, rfl, rfl, H7⟩
end Go.Proofs.YtfplnobnmgbgoaaDoor
namespace Go.Proofs.YtfplnobnmgbgoaaDoor
open Go.RowKit Go.Lib
set_option linter.unusedVariables false
set_option maxRecDepth 20000
set_option linter.unusedSimpArgs false

/-- What the key's leaf has of the key is what the tree has. -/
theorem at10_leaves {T : List Lvl} {root : Hn} (g : Good T root) {key : ByteArray} {x : Hn × Nd} {d : Nat} (h : At10 T key x d) (hl : x.2.leaf = true) : ∃ A B, leaves T = A ++ x :: B ∧ (∀ a ∈ A.map Prod.snd, ¬ NdCov a key) ∧ Ch (some ⟨#[]⟩) (A.map Prod.snd ++ x.2 :: B.map Prod.snd) ∧ flatT T = flat (A.map Prod.snd ++ x.2 :: B.map Prod.snd) := by
  obtain ⟨U, A, B, e, hA⟩ := at10_leaf g h hl
  have hlv : leaves T = A ++ x :: B := by rw [e, leaves_app, leaves_one]
  have hch := g.leaves.1
  rw [hlv, List.map_append, List.map_cons] at hch
  refine ⟨A, B, hlv, fun a ha => ?_, hch, ?_⟩
  · obtain ⟨y, hy, rfl⟩ := List.mem_map.1 ha
    exact hA y hy
  · unfold flatT
    rw [hlv, List.map_append, List.map_cons]
theorem at10_get {T : List Lvl} {root : Hn} (g : Good T root) {key : ByteArray} {x : Hn × Nd} {d : Nat} (h : At10 T key x d) (hl : x.2.leaf = true) (hc : NdCov x.2 key) : getL (flatT T) key = if inK x.2.keys key = true then x.2.vals[plc x.2.keys key]? else none := by
  obtain ⟨A, B, _, hA, hch, hf⟩ := at10_leaves g h hl
  have hr := (good_right g h.mem).1
  rw [hf, ch_get hch hA hc]
  exact get_zip (hr.2.2.2.1 hl).1 hr.1
set_option maxRecDepth 100000 in
set_option maxHeartbeats 8000000 in
/-- Get. -/
theorem bget_any {α : Type} {vis : Value} {I : Ids} {St : α → World → Prop} {R : α → α → Prop} {Nn : α → Nat → Option Ent} {Tt : α → List Lvl} {rt : α → Hn} {rem lim : α → Nat} (C : LookC vis I St R Nn Tt rt rem lim) {a : α} {w : World} (hs : St a w) (hlm : rem a * 20000 + 10001 ≤ lim a) (key : ByteArray) (fk : Fit key) :
    Calls Tryd.prog 11 #[.pointer (some ⟨I.tb, 0, none⟩), .string key, vis] w fun e w' => ∃ b, R a b ∧ St b w' ∧ e = .returned (.tuple #[.string ((getL (flatT (Tt b)) key).getD ⟨#[]⟩), .bool (getL (flatT (Tt b)) key).isSome, .bool false]) := by
  have CR := Lib.hid (reach_any C hs hlm key fk)
  have HC := Lib.hid C
  have HK := Lib.hid fk
  clear C fk hs hlm
  go_enter Tryd.func11, Tryd.ntmps11
  go_upto_region 4 with (go_at_call 34; (with_reducible refine CR.out.mono ?_); rintro e w1 ⟨b, x, d, h1, h2, h3, h4, h5, _, rfl⟩; have H1 := Lib.hid (And.intro h1 (And.intro h2 (And.intro h3 (And.intro h4 h5)))); clear h1 h2 h3 h4 h5 CR; unfold pq)
  have hT := HC.out.tr b w1 H1.out.2.1
  obtain ⟨g, AK, ck, AV, cv, AD, cd, hat, hin⟩ := hT.node H1.out.2.2.1.mem
  have hgt := at10_get hT.g H1.out.2.2.1 H1.out.2.2.2.1 H1.out.2.2.2.2
  have hr := (good_right hT.g H1.out.2.2.1.mem).1
  have h4 := (good_right hT.g H1.out.2.2.1.mem).2
  obtain ⟨q, hq⟩ : ∃ y, blkOf (Nn b) x = y := ⟨_, rfl⟩
  rw [hq] at hat ⊢
  obtain ⟨c1, c2, c3, c4, c5, c6, c7, c8⟩ := node_cells hat
  have lq := hat.lt
  have CF := Lib.hid (find_c x.2.leaf x.2.keys x.2.vals.length x.2.kids.length x.2.high x.2.bnd x.2.nx.slot x.2.nx.gen AK AV AD ck cv cd key w1 hin.i.k hin.i.fk HK.out (by omega))
  have HN := Lib.hid (And.intro hat hin)
  have hvl := (hr.2.2.2.1 H1.out.2.2.2.1).1
  cases hik : inK x.2.keys key with
  | false =>
    rw [if_neg (by rw [hik]; decide)] at hgt
    rw [hik] at CF
    have HG := Lib.hid hgt
    clear hT hat hin hgt hr h4 hvl hq hik
    go_wp2_with (go_at_call 35; (with_reducible refine CF.out.mono ?_); rintro e5 w5 ⟨rfl, ht⟩; have H5 := Lib.hid ht; clear ht)
    go_ret3
    exact ⟨b, H1.out.1, HC.out.no _ _ _ H1.out.2.1 H5.out, by rw [HG.out]; rfl⟩
  | true =>
    rw [if_pos hik] at hgt
    rw [hik] at CF
    have hpl := plc_lt hr.1 hik
    obtain ⟨v, hv⟩ : ∃ v, x.2.vals[plc x.2.keys key]? = some v := ⟨x.2.vals[plc x.2.keys key]'(by rw [hvl]; exact hpl), List.getElem?_eq_getElem (by rw [hvl]; exact hpl)⟩
    rw [hv] at hgt
    have HG := Lib.hid hgt
    have fv := hin.i.fv v (List.mem_of_getElem? hv)
    obtain ⟨bv, ov, hBV, hcv⟩ := kcs_hold hin.i.v hv
    subst hBV
    have CV := Lib.hid (clone_any v fv)
    obtain ⟨pl, hp⟩ : ∃ y, plc x.2.keys key = y := ⟨_, rfl⟩
    rw [hp] at CF hcv hpl
    have b1 : (0 : Int) ≤ (pl : Int) := by omega
    have b2 : (pl : Int) < (x.2.vals.length : Int) := by rw [hvl]; omega
    have HCV := Lib.hid hcv
    clear hT hat hin hgt hr h4 hvl hq hik hv hcv hp hpl
    go_wp2_with (first | (go_at_call 35; (with_reducible refine CF.out.mono ?_); rintro e5 w5 ⟨rfl, ht⟩; have H5 := Lib.hid ht; have z3 := (node_cells (HN.out.1.no ht)).2.2.1; have z9 := (HN.out.1.no ht).lt; have z8 := HCV.out _ ht; clear ht) | (go_at_call 36; (with_reducible refine (CV.out _).mono ?_); rintro e6 w6 ⟨rfl, ht⟩; have H6 := Lib.hid (H5.out.trans ht); clear ht))
    go_ret3
    exact ⟨b, H1.out.1, HC.out.no _ _ _ H1.out.2.1 H6.out, by rw [HG.out]; rfl⟩
end Go.Proofs.YtfplnobnmgbgoaaDoor
namespace Go.Proofs.YtfplnobnmgbgoaaDoor
open Go.RowKit Go.Lib
set_option linter.unusedVariables false
set_option maxRecDepth 20000
set_option linter.unusedSimpArgs false

/-- A look without a visit. -/
theorem lookc_nil {w : World} {I : Ids} {N : Nat → Option Ent} {T : List Lvl} {root : Hn} (hT : Tr w I N T root) (hn : T.flatten.length ≤ 4096) : LookC (α := Unit) .nilFunc I (fun _ W => Turn No w W) (fun _ _ => True) (fun _ => N) (fun _ => T) (fun _ => root) (fun _ => 0) (fun _ => 20000) where
  tr := fun _ _ t => hT.no t
  no := fun _ _ _ t t2 => t.trans t2
  sz := fun _ _ _ => by omega
  rfl_ := fun _ => trivial
  trn := fun _ _ _ _ _ => trivial
  look := fun _ W x _ _ t _ hx => (look_nil (hT.no t) hx.mem).mono (by
    rintro e w' ⟨rfl, ht⟩
    exact ⟨(), x.2, trivial, Nat.le_succ _, fun _ h => h, .inr ⟨rfl, rfl⟩, t.trans ht, hx.mem, rfl⟩)
/-- Get without a visit. -/
theorem bget_nil {w : World} {I : Ids} {N : Nat → Option Ent} {T : List Lvl} {root : Hn} (hT : Tr w I N T root) (hn : T.flatten.length ≤ 4096) (key : ByteArray) (fk : Fit key) :
    Calls Tryd.prog 11 #[.pointer (some ⟨I.tb, 0, none⟩), .string key, .nilFunc] w fun e w' => e = .returned (.tuple #[.string ((getL (flatT T) key).getD ⟨#[]⟩), .bool (getL (flatT T) key).isSome, .bool false]) ∧ Turn No w w' :=
  (bget_any (lookc_nil hT hn) (a := ()) (Turn.refl _ _) (by decide) key fk).mono (by
    rintro e w' ⟨_, _, ht, rfl⟩
    exact ⟨rfl, ht⟩)
end Go.Proofs.YtfplnobnmgbgoaaDoor
namespace Go.Proofs.YtfplnobnmgbgoaaDoor
open Go.RowKit Go.Lib
set_option linter.unusedVariables false
set_option maxRecDepth 20000
set_option linter.unusedSimpArgs false

/-- The key right behind a key. -/
def aftK (key : ByteArray) : ByteArray := key ++ ⟨#[0]⟩
theorem cmp_aft : ∀ l m : List UInt8, Lib.compareBytes l (m ++ [0]) < 0 ↔ Lib.compareBytes l m < 0 ∨ l = m
  | [], [] => by simp [Lib.compareBytes]
  | [], b :: m => by simp [Lib.compareBytes]
  | a :: l, [] => by
    have := UInt8.toNat_lt a
    cases l <;> simp [Lib.compareBytes] <;> (repeat' split) <;> simp_all
  | a :: l, b :: m => by
    have ih := cmp_aft l m
    rw [List.cons_append]
    simp only [Lib.compareBytes]
    by_cases h1 : a < b
    · simp [h1]
    · by_cases h2 : a > b
      · simp [h1, h2]
        intro e
        subst e
        exact absurd h2 (by simp)
      · have e : a = b := by
          apply UInt8.toNat_inj.1
          have h1' : ¬ a.toNat < b.toNat := h1
          have h2' : ¬ b.toNat < a.toNat := h2
          omega
        subst e
        simp [ih]
theorem kl_aft (x key : ByteArray) : kl x (aftK key) ↔ kl x key ∨ x = key := by
  unfold kl kcmp aftK
  rw [show (key ++ (⟨#[0]⟩ : ByteArray)).data.toList = key.data.toList ++ [0] by simp [ByteArray.data_append]]
  rw [cmp_aft]
  exact or_congr Iff.rfl ⟨fun h => bytes_ext h, fun h => by rw [h]⟩
theorem nxR_aft (l : List Pr) (key : ByteArray) : nxR l (aftK key) false = nxR l key true := by
  unfold nxR
  congr 1
  funext p
  unfold nxP
  by_cases h : kl p.k key <;> by_cases h2 : p.k = key <;> simp [kl_aft, h, h2]
theorem after_any (key : ByteArray) (hk : key.size ≤ 1000000) (w : World) : Calls Tryd.prog 38 #[.string key] w fun e w' => e = .returned (.string (aftK key)) ∧ Turn No w w' := by
  have h1 : key.size + 1 ≤ 140737488355328 := by omega
  go_enter Tryd.func38, Tryd.ntmps38
  go_wp2_with fail
  go_ret
  exact ⟨rfl, Turn.refl _ _⟩
end Go.Proofs.YtfplnobnmgbgoaaDoor
namespace Go.Proofs.YtfplnobnmgbgoaaDoor
open Go.RowKit Go.Lib
set_option linter.unusedVariables false
set_option maxRecDepth 20000
set_option linter.unusedSimpArgs false

theorem ch_tail {a : Nd} {L : List Nd} {lo : Option ByteArray} (h : Ch lo (a :: L)) (hL : L ≠ []) : a.bnd = true ∧ Ch (some a.high) L := by
  cases L with
  | nil => exact absurd rfl hL
  | cons m r => exact ⟨h.2.1, h.2.2⟩
theorem ch_nocov {k : ByteArray} : ∀ {A : List Nd} {y : Nd} {B : List Nd} {lo : Option ByteArray}, Ch lo (A ++ y :: B) → (∃ p ∈ prs y, p.k = k) → ∀ a ∈ A, ¬ NdCov a k
  | [], _, _, _, _, _, a, ha => by simp at ha
  | a0 :: A, y, B, lo, h, ⟨p, hp, hk⟩, a, ha => by
    obtain ⟨hb, hc⟩ := ch_tail h (by simp)
    rcases List.mem_cons.1 ha with rfl | ha
    · intro hcov
      have := ch_ge hc p (by unfold flat; exact List.mem_flatMap.2 ⟨y, by simp, hp⟩)
      rw [hk] at this
      exact this (hcov hb)
    · exact ch_nocov hc ⟨p, hp, hk⟩ a ha
theorem nocov_up {a : Nd} {q x : ByteArray} (h : ¬ NdCov a q) (hx : ¬ kl x q) : ¬ NdCov a x := fun hc => h fun hb => by
  rcases kl_tri q x with h1 | h1 | h1
  · exact kl_trans h1 (hc hb)
  · rw [h1]; exact hc hb
  · exact absurd h1 hx
/-- A key that a leaf has: the tree has it. -/
theorem nxq_has {T : List Lvl} {root : Hn} (g : Good T root) {q : ByteArray} {y : Hn × Nd} {d : Nat} (h : At10 T q y d) (hl : y.2.leaf = true) {i : Nat} {k v : ByteArray} (hk : y.2.keys[i]? = some k) (hv : y.2.vals[i]? = some v) : getL (flatT T) k = some v ∧ NdCov y.2 k := by
  obtain ⟨A, B, _, hA, hch, hf⟩ := at10_leaves g h hl
  have hr := (good_right g h.mem).1
  have hp : (prs y.2)[i]? = some ⟨k, v⟩ := zipP_get hk hv
  have hm := List.mem_of_getElem? hp
  have hc : NdCov y.2 k := fun hb => hr.2.2.1 hb k (List.mem_of_getElem? hk)
  rw [hf, ch_get hch (ch_nocov hch ⟨_, hm, rfl⟩) hc]
  exact ⟨(zip_asc (hr.2.2.2.1 hl).1 hr.1).get_of_mem hm, hc⟩
/-- A key that lies in a leaf's range, and that it has not: the tree has not. -/
theorem nxq_none {T : List Lvl} {root : Hn} (g : Good T root) {q : ByteArray} {y : Hn × Nd} {d : Nat} (h : At10 T q y d) (hl : y.2.leaf = true) {x : ByteArray} (hq : ¬ kl x q) (hc : NdCov y.2 x) (hx : x ∉ y.2.keys) : getL (flatT T) x = none := by
  obtain ⟨A, B, _, hA, hch, hf⟩ := at10_leaves g h hl
  have hr := (good_right g h.mem).1
  rw [hf, ch_get hch (fun a ha => nocov_up (hA a ha) hq) hc]
  show getL (zipP y.2.keys y.2.vals) x = none
  rw [get_zip (hr.2.2.2.1 hl).1 hr.1, if_neg (by rw [inK_iff]; exact hx)]
theorem nxq_zero {T : List Lvl} {root : Hn} (g : Good T root) {q : ByteArray} {y : Hn × Nd} {d : Nat} (h : At10 T q y d) (hb : y.2.bnd = false) : y.2.nx = ⟨0, 0⟩ := by
  obtain ⟨U, A, B, D, e, _, _⟩ := h.at_
  have ht : Tower ((A ++ y :: B) :: D) := tower_drop (A := U) (by rw [← e]; exact g.tw) (by simp)
  obtain ⟨L, k, c, e2, h1, h2⟩ := tower_lst rfl ht
  cases B with
  | nil =>
    obtain ⟨yh, n⟩ := y
    exact nxs_last (tower_nxs ht)
  | cons b B =>
    exfalso
    have h3 := congrArg List.dropLast e2
    rw [List.dropLast_concat, List.dropLast_append_of_ne_nil (by simp)] at h3
    refine h2 y (by rw [← h3]; simp) ?_
    unfold En1
    rw [if_neg (by rw [hb]; decide)]
/-- On to the right neighbour, with what ends here. -/
theorem nxq_on {T : List Lvl} {root : Hn} (g : Good T root) {q : ByteArray} {y : Hn × Nd} {d : Nat} (h : At10 T q y d) (hb : y.2.bnd = true) : ∃ z e, y.2.nx = z.1 ∧ At10 T y.2.high z e ∧ e < d ∧ (y.2.leaf = true → z.2.leaf = true) := by
  refine vis_nx g (key := y.2.high) (x := y) (d := d) ?_ fun hc => kl_irrefl _ (hc hb)
  obtain ⟨U, A, B, D, e, hA, hd⟩ := h.at_
  refine ⟨U, A, B, D, e, fun a ha hc => ?_, hd⟩
  have ht : Tower ((A ++ y :: B) :: D) := tower_drop (A := U) (by rw [← e]; exact g.tw) (by simp)
  have he := tower_ends ht
  rw [List.map_append] at he
  obtain ⟨c, hac, hcb⟩ := (List.pairwise_append.1 he).2.2 (En1 a.2) (List.mem_map_of_mem ha) (En1 y.2) (by simp)
  have h1 := hcb y.2.high (by unfold En1; rw [if_pos hb])
  have h2 : a.2.bnd = true := by
    cases hab : a.2.bnd with
    | true => rfl
    | false => unfold En1 at hac; rw [if_neg (by rw [hab]; decide)] at hac; cases hac
  have h3 : a.2.high = c := by unfold En1 at hac; rw [if_pos h2] at hac; injection hac
  have h4 := hc h2
  rw [h3] at h4
  exact kl_asymm h1 h4
end Go.Proofs.YtfplnobnmgbgoaaDoor
namespace Go.Proofs.YtfplnobnmgbgoaaDoor
open Go.RowKit Go.Lib
set_option linter.unusedVariables false
set_option maxRecDepth 20000
set_option linter.unusedSimpArgs false

theorem results_four {fn : Func} {t u v x : Tmp} (h : fn.results = #[.tmp t, .tmp u, .tmp v, .tmp x]) (tmps : Array Value) (P : Program) (w : World) :
    (results fn tmps).run P w = .ok (.tuple #[tmps.getD t undef, tmps.getD u undef, tmps.getD v undef, tmps.getD x undef]) w := by
  simp [results, h]
/-- Next's answers. -/
def nx4 : Option Pr → Value
  | some p => .tuple #[.string p.k, .string p.v, .bool true, .bool false]
  | none => .tuple #[.string ⟨#[]⟩, .string ⟨#[]⟩, .bool false, .bool false]
/-- What Next may tell: the pair is there at the end; what lies between was not there at some moment. -/
def NxOk {α : Type} (R : α → α → Prop) (Tt : α → List Lvl) (a b : α) (k0 : ByteArray) (r : Option Pr) : Prop :=
  (∀ p, r = some p → getL (flatT (Tt b)) p.k = some p.v ∧ ¬ kl p.k k0) ∧ ∀ x, ¬ kl x k0 → (∀ p, r = some p → kl x p.k) → ∃ c, R a c ∧ R c b ∧ getL (flatT (Tt c)) x = none
theorem plc_below {K : List ByteArray} (h : Rk K) {x k0 : ByteArray} (hx : x ∈ K) (h0 : ¬ kl x k0) : ∃ j, plc K k0 ≤ j ∧ K[j]? = some x := by
  have hm : x ∈ K.drop (plc K k0) := by rw [drop_plc h]; exact List.mem_filter.2 ⟨hx, by simp [h0]⟩
  obtain ⟨j, hj⟩ := List.mem_iff_getElem?.1 hm
  rw [List.getElem?_drop] at hj
  exact ⟨_, Nat.le_add_right .., hj⟩
theorem plc_not {K : List ByteArray} (h : Rk K) {k k0 : ByteArray} {j : Nat} (hj : K[j]? = some k) (hp : plc K k0 ≤ j) : ¬ kl k k0 := by
  have hm : k ∈ K.drop (plc K k0) := List.mem_iff_getElem?.2 ⟨j - plc K k0, by rw [List.getElem?_drop, show plc K k0 + (j - plc K k0) = j by omega]; exact hj⟩
  rw [drop_plc h] at hm
  simpa using (List.mem_filter.1 hm).2
section
variable {α : Type} {R : α → α → Prop} {Tt : α → List Lvl} {a b : α} {k0 q : ByteArray} {root : Hn} {y : Hn × Nd} {d : Nat} (hrf : R b b) (hab : R a b) (g : Good (Tt b) root) (hy : At10 (Tt b) q y d) (hl : y.2.leaf = true) (hD : ∀ x, ¬ kl x k0 → kl x q → ∃ c, R a c ∧ R c b ∧ getL (flatT (Tt c)) x = none)
include hrf hab g hy hl hD
theorem nx_found {k v : ByteArray} (hk : y.2.keys[plc y.2.keys k0]? = some k) (hv : y.2.vals[plc y.2.keys k0]? = some v) : NxOk R Tt a b k0 (some ⟨k, v⟩) := by
  have hr := (good_right g hy.mem).1
  obtain ⟨h1, h2⟩ := nxq_has g hy hl hk hv
  refine ⟨fun p hp => by injection hp with hp; subst hp; exact ⟨h1, plc_not hr.1 hk (Nat.le_refl _)⟩, fun x hx hp => ?_⟩
  have hxk := hp _ rfl
  simp only at hxk
  by_cases hq : kl x q
  · exact hD x hx hq
  · refine ⟨b, hab, hrf, nxq_none g hy hl hq (fun hb => kl_trans hxk (h2 hb)) fun hm => ?_⟩
    obtain ⟨j, hj, hxj⟩ := plc_below hr.1 hm hx
    rcases Nat.lt_or_ge (plc y.2.keys k0) j with h3 | h3
    · exact kl_asymm hxk (List.pairwise_iff_getElem.1 hr.1 _ _ (List.getElem?_eq_some_iff.1 hk).1 (List.getElem?_eq_some_iff.1 hxj).1 h3 |> fun h => by rw [(List.getElem?_eq_some_iff.1 hk).2, (List.getElem?_eq_some_iff.1 hxj).2] at h; exact h)
    · have : j = plc y.2.keys k0 := by omega
      rw [this, hk] at hxj
      injection hxj with hxj
      exact kl_irrefl _ (hxj ▸ hxk)
theorem nx_gap (hp : ¬ plc y.2.keys k0 < y.2.keys.length) {x : ByteArray} (hx : ¬ kl x k0) (hc : NdCov y.2 x) : ∃ c, R a c ∧ R c b ∧ getL (flatT (Tt c)) x = none := by
  have hr := (good_right g hy.mem).1
  by_cases hq : kl x q
  · exact hD x hx hq
  · refine ⟨b, hab, hrf, nxq_none g hy hl hq hc fun hm => ?_⟩
    obtain ⟨j, hj, hxj⟩ := plc_below hr.1 hm hx
    have := (List.getElem?_eq_some_iff.1 hxj).1
    omega
theorem nx_end (hp : ¬ plc y.2.keys k0 < y.2.keys.length) (hb : y.2.bnd = false) : NxOk R Tt a b k0 none :=
  ⟨fun p h => (by cases h), fun x hx _ => nx_gap hrf hab g hy hl hD hp hx fun h => by rw [hb] at h; cases h⟩
end
end Go.Proofs.YtfplnobnmgbgoaaDoor
namespace Go.Proofs.YtfplnobnmgbgoaaDoor
open Go.RowKit Go.Lib
set_option linter.unusedVariables false
set_option maxRecDepth 20000
set_option linter.unusedSimpArgs false

/-- The key that Next looks for. -/
def nkK (key : ByteArray) (aft : Bool) : ByteArray := if aft = true then aftK key else key
theorem nkK_fit {key : ByteArray} (h : key.size ≤ 1000000) (aft : Bool) : Fit (nkK key aft) := by
  have : (aftK key).size = key.size + 1 := by unfold aftK; rw [ByteArray.size_append']; rfl
  unfold nkK Fit
  split <;> omega
set_option maxRecDepth 100000 in
set_option maxHeartbeats 8000000 in
/-- Next. -/
theorem bnext_any {α : Type} {vis : Value} {I : Ids} {St : α → World → Prop} {R : α → α → Prop} {Nn : α → Nat → Option Ent} {Tt : α → List Lvl} {rt : α → Hn} {rem lim : α → Nat} (C : LookC vis I St R Nn Tt rt rem lim) {a : α} {w : World} (hs : St a w) (hlm : rem a * 20000 + 10001 ≤ lim a) (key : ByteArray) (aft : Bool) (hk : key.size ≤ 1000000) :
    Calls Tryd.prog 14 #[.pointer (some ⟨I.tb, 0, none⟩), .string key, .bool aft, vis] w fun e w' => ∃ b r, R a b ∧ St b w' ∧ NxOk R Tt a b (nkK key aft) r ∧ e = .returned (nx4 r) := by
  have fk := nkK_fit hk aft
  obtain ⟨k0, hk0⟩ : ∃ x, nkK key aft = x := ⟨_, rfl⟩
  have CR := Lib.hid fun W (h : St a W) => reach_any C h hlm k0 (by rw [← hk0]; exact fk)
  have CA := Lib.hid (after_any key hk w)
  have HC := Lib.hid C
  have HS := Lib.hid hs
  rw [hk0] at fk ⊢
  have HK := Lib.hid fk
  have HK0 := Lib.hid hk0
  clear C fk hs hk0 hlm
  go_enter Tryd.func14, Tryd.ntmps14
  cases aft with
  | true =>
    have hz := HK0.out
    unfold nkK at hz
    rw [if_pos rfl] at hz
    rw [hz] at CA
    clear hz
    go_upto_region 3 with (go_at_call 38; (with_reducible refine CA.out.mono ?_); rintro e w2 ⟨rfl, ht⟩; have H2 := Lib.hid ht; clear ht)
    go_upto_region 4 with (go_at_call 34; (with_reducible refine (CR.out _ (HC.out.no _ _ _ HS.out H2.out)).mono ?_); rintro e w3 ⟨b, y, d, h1, h2, h3, h4, h5, h6, rfl⟩; have H1 : Hid (R a b ∧ St b w3 ∧ At10 (Tt b) k0 y d ∧ y.2.leaf = true ∧ (∀ x, ¬ kl x k0 → kl x k0 → ∃ c, R a c ∧ R c b ∧ getL (flatT (Tt c)) x = none) ∧ rem b * 20000 + d ≤ lim b) := Lib.hid ⟨h1, h2, h3, h4, fun x q1 q2 => absurd q2 q1, h6⟩; clear h1 h2 h3 h4 h5 h6 CR; unfold pq)
    go_loopg [12, 13] (rem b * 20000 + d) (fun k x o wr => ∃ c z e q, k = rem c * 20000 + e ∧ x = .pointer (some ⟨blkOf (Nn c) z, 1, none⟩) ∧ o = .bool true ∧ Hid (R a c ∧ St c wr ∧ At10 (Tt c) q z e ∧ z.2.leaf = true ∧ (∀ x, ¬ kl x k0 → kl x q → ∃ b, R a b ∧ R b c ∧ getL (flatT (Tt b)) x = none) ∧ rem c * 20000 + e ≤ lim c))
    case atStart => exact ⟨b, y, d, k0, rfl, rfl, rfl, H1⟩
    case round =>
      clear H1
      obtain ⟨c, z, e, q, rfl, rfl, rfl, HR⟩ := hrel
      have hT := HC.out.tr c wr HR.out.2.1
      obtain ⟨g, AK, ck, AV, cv, AD, cd, hat, hin⟩ := hT.node HR.out.2.2.1.mem
      obtain ⟨qb, hq⟩ : ∃ x, blkOf (Nn c) z = x := ⟨_, rfl⟩
      rw [hq] at hat ⊢
      obtain ⟨c1, c2, c3, c4, c5, c6, c7, c8⟩ := node_cells hat
      have lq := hat.lt
      have hr := (good_right hT.g HR.out.2.2.1.mem).1
      have h4 := (good_right hT.g HR.out.2.2.1.mem).2
      have CF := Lib.hid (find_c z.2.leaf z.2.keys z.2.vals.length z.2.kids.length z.2.high z.2.bnd z.2.nx.slot z.2.nx.gen AK AV AD ck cv cd k0 wr hin.i.k hin.i.fk HK.out (by omega))
      have hvl := (hr.2.2.2.1 HR.out.2.2.2.1).1
      have HN := Lib.hid (And.intro hat hin)
      obtain ⟨pl, hp⟩ : ∃ y, plc z.2.keys k0 = y := ⟨_, rfl⟩
      rw [hp] at CF
      have HP := Lib.hid hp
      obtain ⟨sl, hsl⟩ : ∃ x, z.2.nx.slot = x := ⟨_, rfl⟩
      obtain ⟨ge, hge⟩ : ∃ x, z.2.nx.gen = x := ⟨_, rfl⟩
      have HNX := Lib.hid (And.intro hsl hge)
      have HG := Lib.hid (And.intro hT.g (And.intro hr hvl))
      by_cases hlt : pl < z.2.keys.length
      · obtain ⟨k, hk⟩ : ∃ k, z.2.keys[pl]? = some k := ⟨z.2.keys[pl], List.getElem?_eq_getElem hlt⟩
        obtain ⟨v, hv⟩ : ∃ v, z.2.vals[pl]? = some v := ⟨z.2.vals[pl]'(by rw [hvl]; exact hlt), List.getElem?_eq_getElem (by rw [hvl]; exact hlt)⟩
        have fkk := hin.i.fk k (List.mem_of_getElem? hk)
        have fv := hin.i.fv v (List.mem_of_getElem? hv)
        obtain ⟨bk, ok, hBK, hck⟩ := kcs_hold hin.i.k hk
        obtain ⟨bv, ov, hBV, hcv⟩ := kcs_hold hin.i.v hv
        subst hBK hBV
        have C1 := Lib.hid (clone_any k fkk)
        have C2 := Lib.hid (clone_any v fv)
        have b1 : (0 : Int) ≤ (pl : Int) := by omega
        have b2 : (pl : Int) < (z.2.keys.length : Int) := by omega
        have b3 : (pl : Int) < (z.2.vals.length : Int) := by rw [hvl]; omega
        have HKV := Lib.hid (And.intro hk hv)
        have HS7 : Hid (∀ W, Turn No wr W → W.cell? ⟨qb, 2, none⟩ = some (.slice (some ⟨bk, ok, none⟩) z.2.keys.length ck) ∧ W.cell? ⟨qb, 3, none⟩ = some (.slice (some ⟨bv, ov, none⟩) z.2.vals.length cv) ∧ W.cell? ⟨bk, ok + pl, none⟩ = some (.string k) ∧ W.cell? ⟨bv, ov + pl, none⟩ = some (.string v)) := Lib.hid fun W t => ⟨(node_cells (hat.no t)).2.1, (node_cells (hat.no t)).2.2.1, hck W t, hcv W t⟩
        clear hT hat hin hr h4 hvl hq hp hsl hge hk hv hck hcv
        go_upto_region 6 with (go_at_call 35; (with_reducible refine CF.out.mono ?_); rintro e5 w5 ⟨rfl, ht⟩; have H5 := Lib.hid ht; have z2 := (HS7.out _ ht).1; have z9 := (HN.out.1.no ht).lt; clear ht)
        go_upto_region 7 with fail
        clear z2 z9
        have hs7 := HS7.out w5 H5.out
        have HS8 : Hid (∀ W, Turn No w5 W → W.cell? ⟨qb, 2, none⟩ = some (.slice (some ⟨bk, ok, none⟩) z.2.keys.length ck) ∧ W.cell? ⟨qb, 3, none⟩ = some (.slice (some ⟨bv, ov, none⟩) z.2.vals.length cv) ∧ W.cell? ⟨bk, ok + pl, none⟩ = some (.string k) ∧ W.cell? ⟨bv, ov + pl, none⟩ = some (.string v)) := Lib.hid fun W t => HS7.out W (H5.out.trans t)
        clear HS7 c1 c2 c3 c4 c5 c6 c7 c8
        go_region_held3 (fun W => W.cell? ⟨qb, 2, none⟩ = some (.slice (some ⟨bk, ok, none⟩) z.2.keys.length ck) ∧ W.cell? ⟨qb, 3, none⟩ = some (.slice (some ⟨bv, ov, none⟩) z.2.vals.length cv) ∧ W.cell? ⟨bk, ok + pl, none⟩ = some (.string k) ∧ W.cell? ⟨bv, ov + pl, none⟩ = some (.string v)) (first | (with_reducible exact hs7) | (exact HS8.out _ (by first | assumption | exact (Turn.refl No _).drew))) (first | (go_at_call 36; (first | (with_reducible refine (C1.out _).mono ?_) | (with_reducible refine (C2.out _).mono ?_)); rintro e6 w6 ⟨rfl, ht⟩; have ht : Turn No w5 w6 := Turn.trans (by first | assumption | exact (Turn.refl No _).drew) ht))
        all_goals
          have HF := Lib.hid (H5.out.trans ht)
          clear hs7
          go_wp2_with fail
          (try simp only [Exit.inBlock, Exit.then])
          refine bodyPost_ret (results_four rfl _ _ _) rfl ?_
          have hkv := HKV.out
          rw [← HP.out] at hkv
          exact ⟨c, some ⟨k, v⟩, HR.out.1, HC.out.no _ _ _ HR.out.2.1 HF.out, nx_found (HC.out.rfl_ c) HR.out.1 HG.out.1 HR.out.2.2.1 HR.out.2.2.2.1 HR.out.2.2.2.2.1 hkv.1 hkv.2, rfl⟩
      · have hpl : ¬ plc z.2.keys k0 < z.2.keys.length := by rw [hp]; exact hlt
        have HPL := Lib.hid hpl
        have b2 : ¬ (pl : Int) < (z.2.keys.length : Int) := by omega
        clear hsl hge HNX
        cases hbd : z.2.bnd with
        | false =>
          have hnx := nxq_zero hT.g HR.out.2.2.1 hbd
          have HB := Lib.hid (And.intro hbd hnx)
          rw [hnx] at CF c7 c8
          have hq0 := eql_hn 0 0 0 0
          rw [hnEq_same] at hq0
          clear hT hat hin hr h4 hvl hq hp hpl hnx hbd
          go_wp2_with (go_at_call 35; (with_reducible refine CF.out.mono ?_); rintro e5 w5 ⟨rfl, ht⟩; have H5 := Lib.hid ht; obtain ⟨_, z2, _, _, _, _, z7, z8⟩ := node_cells (HN.out.1.no ht); have z9 := (HN.out.1.no ht).lt; clear ht; rw [HB.out.2] at z7 z8)
          (try simp only [Exit.inBlock, Exit.then])
          refine bodyPost_ret (results_four rfl _ _ _) rfl ?_
          exact ⟨c, none, HR.out.1, HC.out.no _ _ _ HR.out.2.1 H5.out, nx_end (HC.out.rfl_ c) HR.out.1 HG.out.1 HR.out.2.2.1 HR.out.2.2.2.1 HR.out.2.2.2.2.1 HPL.out HB.out.1, rfl⟩
        | true =>
          obtain ⟨y2, e2, hnx, hat2, hlt2, hlf2⟩ := nxq_on hT.g HR.out.2.2.1 hbd
          have hz0 : rtZ y2.1 = false := hT.nz hat2.mem
          have hq0 := eql_hn y2.1.slot 0 y2.1.gen 0
          unfold rtZ at hz0
          rw [hz0] at hq0
          have HB := Lib.hid (And.intro hbd (And.intro hnx (And.intro hat2 (And.intro hlt2 (hlf2 HR.out.2.2.2.1)))))
          rw [hnx] at CF c7 c8
          clear hT hat hin hr h4 hvl hq hp hpl hnx hbd hat2 hlt2 hlf2 hz0
          go_wp2_with (first | (go_at_call 35; (with_reducible refine CF.out.mono ?_); rintro e5 w5 ⟨rfl, ht⟩; have H5 := Lib.hid ht; obtain ⟨_, z2, _, _, _, _, z7, z8⟩ := node_cells (HN.out.1.no ht); have z9 := (HN.out.1.no ht).lt; clear ht; rw [HB.out.2.1] at z7 z8; have CL2 := Lib.hid (HC.out.go (HC.out.no _ _ _ HR.out.2.1 H5.out) (by have := HR.out.2.2.2.2.2; have := HB.out.2.2.2.1; omega) HB.out.2.2.1); unfold pq at CL2) | (go_at_call 39; (with_reducible refine CL2.out.mono ?_); rintro e7 w7 ⟨b7, y7, d7, h1, hli, h2, h3, h4, h5, rfl⟩; have H7 := Lib.hid (And.intro h1 (And.intro h2 (And.intro h3 (And.intro h4 (And.intro (h5 HB.out.2.2.2.2) (show rem b7 * 20000 + d7 ≤ lim b7 from by have := HR.out.2.2.2.2.2; have := HB.out.2.2.2.1; omega)))))); clear h1 hli h2 h3 h4 h5 CL2))
          go_roundg (rem b7 * 20000 + d7)
          case measure => have := HB.out.2.2.2.1; have := H7.out.2.2.2.1; omega
          case rel =>
            refine ⟨b7, y7, d7, z.2.high, rfl, rfl, rfl, Lib.hid ⟨HC.out.trn _ _ _ HR.out.1 H7.out.1, H7.out.2.1, H7.out.2.2.1, H7.out.2.2.2.2.1, fun x hx hq => ?_, H7.out.2.2.2.2.2⟩⟩
            obtain ⟨c9, i1, i2, i3⟩ := nx_gap (HC.out.rfl_ c) HR.out.1 HG.out.1 HR.out.2.2.1 HR.out.2.2.2.1 HR.out.2.2.2.2.1 HPL.out hx fun _ => hq
            exact ⟨c9, i1, HC.out.trn _ _ _ i2 H7.out.1, i3⟩
  | false =>
    have hz := HK0.out
    unfold nkK at hz
    rw [if_neg (by decide)] at hz
    have hz2 := hz.symm
    clear hz
    subst hz2
    have H2 := Lib.hid (Turn.refl No w)
    go_upto_region 4 with (go_at_call 34; (with_reducible refine (CR.out _ (HC.out.no _ _ _ HS.out H2.out)).mono ?_); rintro e w3 ⟨b, y, d, h1, h2, h3, h4, h5, h6, rfl⟩; have H1 : Hid (R a b ∧ St b w3 ∧ At10 (Tt b) k0 y d ∧ y.2.leaf = true ∧ (∀ x, ¬ kl x k0 → kl x k0 → ∃ c, R a c ∧ R c b ∧ getL (flatT (Tt c)) x = none) ∧ rem b * 20000 + d ≤ lim b) := Lib.hid ⟨h1, h2, h3, h4, fun x q1 q2 => absurd q2 q1, h6⟩; clear h1 h2 h3 h4 h5 h6 CR; unfold pq)
    go_loopg [12, 13] (rem b * 20000 + d) (fun k x o wr => ∃ c z e q, k = rem c * 20000 + e ∧ x = .pointer (some ⟨blkOf (Nn c) z, 1, none⟩) ∧ o = .bool true ∧ Hid (R a c ∧ St c wr ∧ At10 (Tt c) q z e ∧ z.2.leaf = true ∧ (∀ x, ¬ kl x k0 → kl x q → ∃ b, R a b ∧ R b c ∧ getL (flatT (Tt b)) x = none) ∧ rem c * 20000 + e ≤ lim c))
    case atStart => exact ⟨b, y, d, k0, rfl, rfl, rfl, H1⟩
    case round =>
      clear H1
      obtain ⟨c, z, e, q, rfl, rfl, rfl, HR⟩ := hrel
      have hT := HC.out.tr c wr HR.out.2.1
      obtain ⟨g, AK, ck, AV, cv, AD, cd, hat, hin⟩ := hT.node HR.out.2.2.1.mem
      obtain ⟨qb, hq⟩ : ∃ x, blkOf (Nn c) z = x := ⟨_, rfl⟩
      rw [hq] at hat ⊢
      obtain ⟨c1, c2, c3, c4, c5, c6, c7, c8⟩ := node_cells hat
      have lq := hat.lt
      have hr := (good_right hT.g HR.out.2.2.1.mem).1
      have h4 := (good_right hT.g HR.out.2.2.1.mem).2
      have CF := Lib.hid (find_c z.2.leaf z.2.keys z.2.vals.length z.2.kids.length z.2.high z.2.bnd z.2.nx.slot z.2.nx.gen AK AV AD ck cv cd k0 wr hin.i.k hin.i.fk HK.out (by omega))
      have hvl := (hr.2.2.2.1 HR.out.2.2.2.1).1
      have HN := Lib.hid (And.intro hat hin)
      obtain ⟨pl, hp⟩ : ∃ y, plc z.2.keys k0 = y := ⟨_, rfl⟩
      rw [hp] at CF
      have HP := Lib.hid hp
      obtain ⟨sl, hsl⟩ : ∃ x, z.2.nx.slot = x := ⟨_, rfl⟩
      obtain ⟨ge, hge⟩ : ∃ x, z.2.nx.gen = x := ⟨_, rfl⟩
      have HNX := Lib.hid (And.intro hsl hge)
      have HG := Lib.hid (And.intro hT.g (And.intro hr hvl))
      by_cases hlt : pl < z.2.keys.length
      · obtain ⟨k, hk⟩ : ∃ k, z.2.keys[pl]? = some k := ⟨z.2.keys[pl], List.getElem?_eq_getElem hlt⟩
        obtain ⟨v, hv⟩ : ∃ v, z.2.vals[pl]? = some v := ⟨z.2.vals[pl]'(by rw [hvl]; exact hlt), List.getElem?_eq_getElem (by rw [hvl]; exact hlt)⟩
        have fkk := hin.i.fk k (List.mem_of_getElem? hk)
        have fv := hin.i.fv v (List.mem_of_getElem? hv)
        obtain ⟨bk, ok, hBK, hck⟩ := kcs_hold hin.i.k hk
        obtain ⟨bv, ov, hBV, hcv⟩ := kcs_hold hin.i.v hv
        subst hBK hBV
        have C1 := Lib.hid (clone_any k fkk)
        have C2 := Lib.hid (clone_any v fv)
        have b1 : (0 : Int) ≤ (pl : Int) := by omega
        have b2 : (pl : Int) < (z.2.keys.length : Int) := by omega
        have b3 : (pl : Int) < (z.2.vals.length : Int) := by rw [hvl]; omega
        have HKV := Lib.hid (And.intro hk hv)
        have HS7 : Hid (∀ W, Turn No wr W → W.cell? ⟨qb, 2, none⟩ = some (.slice (some ⟨bk, ok, none⟩) z.2.keys.length ck) ∧ W.cell? ⟨qb, 3, none⟩ = some (.slice (some ⟨bv, ov, none⟩) z.2.vals.length cv) ∧ W.cell? ⟨bk, ok + pl, none⟩ = some (.string k) ∧ W.cell? ⟨bv, ov + pl, none⟩ = some (.string v)) := Lib.hid fun W t => ⟨(node_cells (hat.no t)).2.1, (node_cells (hat.no t)).2.2.1, hck W t, hcv W t⟩
        clear hT hat hin hr h4 hvl hq hp hsl hge hk hv hck hcv
        go_upto_region 6 with (go_at_call 35; (with_reducible refine CF.out.mono ?_); rintro e5 w5 ⟨rfl, ht⟩; have H5 := Lib.hid ht; have z2 := (HS7.out _ ht).1; have z9 := (HN.out.1.no ht).lt; clear ht)
        go_upto_region 7 with fail
        clear z2 z9
        have hs7 := HS7.out w5 H5.out
        have HS8 : Hid (∀ W, Turn No w5 W → W.cell? ⟨qb, 2, none⟩ = some (.slice (some ⟨bk, ok, none⟩) z.2.keys.length ck) ∧ W.cell? ⟨qb, 3, none⟩ = some (.slice (some ⟨bv, ov, none⟩) z.2.vals.length cv) ∧ W.cell? ⟨bk, ok + pl, none⟩ = some (.string k) ∧ W.cell? ⟨bv, ov + pl, none⟩ = some (.string v)) := Lib.hid fun W t => HS7.out W (H5.out.trans t)
        clear HS7 c1 c2 c3 c4 c5 c6 c7 c8
        go_region_held3 (fun W => W.cell? ⟨qb, 2, none⟩ = some (.slice (some ⟨bk, ok, none⟩) z.2.keys.length ck) ∧ W.cell? ⟨qb, 3, none⟩ = some (.slice (some ⟨bv, ov, none⟩) z.2.vals.length cv) ∧ W.cell? ⟨bk, ok + pl, none⟩ = some (.string k) ∧ W.cell? ⟨bv, ov + pl, none⟩ = some (.string v)) (first | (with_reducible exact hs7) | (exact HS8.out _ (by first | assumption | exact (Turn.refl No _).drew))) (first | (go_at_call 36; (first | (with_reducible refine (C1.out _).mono ?_) | (with_reducible refine (C2.out _).mono ?_)); rintro e6 w6 ⟨rfl, ht⟩; have ht : Turn No w5 w6 := Turn.trans (by first | assumption | exact (Turn.refl No _).drew) ht))
        all_goals
          have HF := Lib.hid (H5.out.trans ht)
          clear hs7
          go_wp2_with fail
          (try simp only [Exit.inBlock, Exit.then])
          refine bodyPost_ret (results_four rfl _ _ _) rfl ?_
          have hkv := HKV.out
          rw [← HP.out] at hkv
          exact ⟨c, some ⟨k, v⟩, HR.out.1, HC.out.no _ _ _ HR.out.2.1 HF.out, nx_found (HC.out.rfl_ c) HR.out.1 HG.out.1 HR.out.2.2.1 HR.out.2.2.2.1 HR.out.2.2.2.2.1 hkv.1 hkv.2, rfl⟩
      · have hpl : ¬ plc z.2.keys k0 < z.2.keys.length := by rw [hp]; exact hlt
        have HPL := Lib.hid hpl
        have b2 : ¬ (pl : Int) < (z.2.keys.length : Int) := by omega
        clear hsl hge HNX
        cases hbd : z.2.bnd with
        | false =>
          have hnx := nxq_zero hT.g HR.out.2.2.1 hbd
          have HB := Lib.hid (And.intro hbd hnx)
          rw [hnx] at CF c7 c8
          have hq0 := eql_hn 0 0 0 0
          rw [hnEq_same] at hq0
          clear hT hat hin hr h4 hvl hq hp hpl hnx hbd
          go_wp2_with (go_at_call 35; (with_reducible refine CF.out.mono ?_); rintro e5 w5 ⟨rfl, ht⟩; have H5 := Lib.hid ht; obtain ⟨_, z2, _, _, _, _, z7, z8⟩ := node_cells (HN.out.1.no ht); have z9 := (HN.out.1.no ht).lt; clear ht; rw [HB.out.2] at z7 z8)
          (try simp only [Exit.inBlock, Exit.then])
          refine bodyPost_ret (results_four rfl _ _ _) rfl ?_
          exact ⟨c, none, HR.out.1, HC.out.no _ _ _ HR.out.2.1 H5.out, nx_end (HC.out.rfl_ c) HR.out.1 HG.out.1 HR.out.2.2.1 HR.out.2.2.2.1 HR.out.2.2.2.2.1 HPL.out HB.out.1, rfl⟩
        | true =>
          obtain ⟨y2, e2, hnx, hat2, hlt2, hlf2⟩ := nxq_on hT.g HR.out.2.2.1 hbd
          have hz0 : rtZ y2.1 = false := hT.nz hat2.mem
          have hq0 := eql_hn y2.1.slot 0 y2.1.gen 0
          unfold rtZ at hz0
          rw [hz0] at hq0
          have HB := Lib.hid (And.intro hbd (And.intro hnx (And.intro hat2 (And.intro hlt2 (hlf2 HR.out.2.2.2.1)))))
          rw [hnx] at CF c7 c8
          clear hT hat hin hr h4 hvl hq hp hpl hnx hbd hat2 hlt2 hlf2 hz0
          go_wp2_with (first | (go_at_call 35; (with_reducible refine CF.out.mono ?_); rintro e5 w5 ⟨rfl, ht⟩; have H5 := Lib.hid ht; obtain ⟨_, z2, _, _, _, _, z7, z8⟩ := node_cells (HN.out.1.no ht); have z9 := (HN.out.1.no ht).lt; clear ht; rw [HB.out.2.1] at z7 z8; have CL2 := Lib.hid (HC.out.go (HC.out.no _ _ _ HR.out.2.1 H5.out) (by have := HR.out.2.2.2.2.2; have := HB.out.2.2.2.1; omega) HB.out.2.2.1); unfold pq at CL2) | (go_at_call 39; (with_reducible refine CL2.out.mono ?_); rintro e7 w7 ⟨b7, y7, d7, h1, hli, h2, h3, h4, h5, rfl⟩; have H7 := Lib.hid (And.intro h1 (And.intro h2 (And.intro h3 (And.intro h4 (And.intro (h5 HB.out.2.2.2.2) (show rem b7 * 20000 + d7 ≤ lim b7 from by have := HR.out.2.2.2.2.2; have := HB.out.2.2.2.1; omega)))))); clear h1 hli h2 h3 h4 h5 CL2))
          go_roundg (rem b7 * 20000 + d7)
          case measure => have := HB.out.2.2.2.1; have := H7.out.2.2.2.1; omega
          case rel =>
            refine ⟨b7, y7, d7, z.2.high, rfl, rfl, rfl, Lib.hid ⟨HC.out.trn _ _ _ HR.out.1 H7.out.1, H7.out.2.1, H7.out.2.2.1, H7.out.2.2.2.2.1, fun x hx hq => ?_, H7.out.2.2.2.2.2⟩⟩
            obtain ⟨c9, i1, i2, i3⟩ := nx_gap (HC.out.rfl_ c) HR.out.1 HG.out.1 HR.out.2.2.1 HR.out.2.2.2.1 HR.out.2.2.2.2.1 HPL.out hx fun _ => hq
            exact ⟨c9, i1, HC.out.trn _ _ _ i2 H7.out.1, i3⟩
end Go.Proofs.YtfplnobnmgbgoaaDoor
