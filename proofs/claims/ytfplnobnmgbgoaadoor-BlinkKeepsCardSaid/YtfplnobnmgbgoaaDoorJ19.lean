/-
  Next in a tree that nobody writes.
  A look whose visit does something.
  BlinkKeeps as plain data.
  most.
-/
import Derived.Test.YtfplnobnmgbgoaaDoorJ18
namespace Go.Proofs.YtfplnobnmgbgoaaDoor
open Go.RowKit Go.Lib
set_option linter.unusedVariables false
set_option maxRecDepth 20000
set_option linter.unusedSimpArgs false


/-- How many looks are done, at a leaf, in a tree that nobody writes: it covers the key, or is the one to the right of that. -/
def Cnf (T : List Lvl) (a : Nat) (k0 : ByteArray) (c : Nat) (z : Hn × Nd) : Prop := (c = a + T.length ∧ NdCov z.2 k0) ∨ (c = a + T.length + 1 ∧ plc z.2.keys k0 = 0 ∧ 0 < z.2.keys.length)
section
variable {T : List Lvl} {root : Hn} {a c : Nat} {k0 : ByteArray} {z y : Hn × Nd}
theorem Cnf.le (h : Cnf T a k0 c z) : c ≤ a + T.length + 1 := by rcases h with ⟨h, _⟩ | ⟨h, _⟩ <;> omega
theorem Cnf.right (h : Cnf T a k0 c z) (hp : ¬ plc z.2.keys k0 < z.2.keys.length) (hb : z.2.bnd = true) (hy : ∀ k ∈ y.2.keys, ¬ kl k z.2.high) (h2 : 2 ≤ y.2.keys.length) : Cnf T a k0 (c + 1) y := by
  rcases h with ⟨h, hc⟩ | ⟨_, h0, h1⟩
  · refine .inr ⟨by omega, ?_, by omega⟩
    unfold plc
    rw [List.length_eq_zero_iff, List.filter_eq_nil_iff]
    intro k hk
    have h3 : ¬ kl k k0 := fun hlt => hy k hk (kl_trans hlt (hc hb))
    simpa using h3
  · omega
theorem ch_right : ∀ {A : List Nd} {z y : Nd} {B : List Nd} {lo : Option ByteArray}, Ch lo (A ++ z :: y :: B) → ∀ k ∈ y.keys, ¬ kl k z.high
  | [], z, y, B, lo, h, k, hk => by
    obtain ⟨_, h2, _⟩ := ch_head h
    exact (ch_head (h2 (by simp)).2).1.2.2.1 _ rfl k hk
  | a :: A, z, y, B, lo, h, k, hk => by
    obtain ⟨_, h2, _⟩ := ch_head h
    exact ch_right (h2 (by simp)).2 k hk
/-- The leaf to the right. -/
theorem nx_right {N : Nat → Option Ent} {q : ByteArray} {d : Nat} (g : Good T root) (hs : Sto N T.flatten) (h : At10 T q z d) (hl : z.2.leaf = true) (hb : z.2.bnd = true) (hn : z.2.nx = y.1) (hy : y ∈ T.flatten) : (∀ k ∈ y.2.keys, ¬ kl k z.2.high) ∧ (MinL T → 2 ≤ y.2.keys.length) := by
  obtain ⟨U, A, B, e, _⟩ := at10_leaf g h hl
  have hlv : leaves T = A ++ z :: B := by rw [e]; exact leaves_app U _ []
  have hc := g.leaves.1
  have hx := g.leaves.2
  rw [hlv] at hc hx
  cases B with
  | nil =>
    exfalso
    rw [List.map_append, List.map_cons] at hc
    have h0 : ∀ {A : List Nd} {n : Nd} {lo : Option ByteArray}, Ch lo (A ++ [n]) → n.bnd = false := by
      intro A
      induction A with
      | nil => intro n lo h; exact (ch_head h).2.2 rfl
      | cons a A ih => intro n lo h; exact ih ((ch_head h).2.1 (by simp)).2
    have := h0 hc
    rw [hb] at this
    cases this
  | cons y' B =>
    obtain ⟨zh, zn⟩ := z
    have hn2 := nxs_next hx
    have hm : y' ∈ T.flatten := by rw [e]; simp
    obtain ⟨yh, yn⟩ := y
    obtain ⟨yh', yn'⟩ := y'
    have hh : yh = yh' := by
      have h1 : zn.nx = yh := hn
      have h2 : zn.nx = yh' := hn2
      rw [← h1, h2]
    subst hh
    have : yn = yn' := sto_one hs hy hm
    subst this
    rw [List.map_append, List.map_cons, List.map_cons] at hc
    refine ⟨ch_right hc, fun hmn => ?_⟩
    rcases hmn with h1 | h1
    · rw [hlv] at h1
      simp at h1
      omega
    · rw [hlv] at h1
      exact h1 (yh, yn) (by simp)
theorem nxok_fix (g : Good T root) {key : ByteArray} {aft : Bool} {r : Option Pr} (h : NxOk (fun (_ _ : Unit) => True) (fun _ => T) () () (nkK key aft) r) : r = nxR (flatT T) key aft := by
  obtain ⟨h1, h2⟩ := h
  rw [← nxR_nk]
  exact nxok_one (ch_asc g.leaves.1) h1 fun x a b => by obtain ⟨_, _, _, h⟩ := h2 x a b; exact h
end
/-- What Next comes to in a tree that nobody writes. -/
def NextF (T : List Lvl) (St : Nat → World → Prop) (a : Nat) (key : ByteArray) (aft : Bool) (e : Ending) (w' : World) : Prop := ∃ b r, St b w' ∧ (MinL T → b ≤ a + T.length + 1) ∧ r = nxR (flatT T) key aft ∧ e = .returned (nx4 r)
set_option maxRecDepth 100000 in
set_option maxHeartbeats 8000000 in
theorem bnext_fix {vis : Value} {I : Ids} {N : Nat → Option Ent} {T : List Lvl} {root : Hn} {St : Nat → World → Prop} (C : LookF vis I N T root St) {a : Nat} {w : World} (hs : St a w) (key : ByteArray) (aft : Bool) (hk : key.size ≤ 1000000) :
    Calls Tryd.prog 14 #[.pointer (some ⟨I.tb, 0, none⟩), .string key, .bool aft, vis] w (NextF T St a key aft) := by
  have fk := nkK_fit hk aft
  obtain ⟨k0, hk0⟩ : ∃ x, nkK key aft = x := ⟨_, rfl⟩
  have CR := Lib.hid fun W (h : St a W) => reach_fix C h k0 (by rw [← hk0]; exact fk)
  have CA := Lib.hid (after_any key hk w)
  have HC := Lib.hid C
  have HS := Lib.hid hs
  rw [hk0] at fk
  have HK := Lib.hid fk
  have HK0 := Lib.hid hk0
  clear C fk hs hk0
  go_enter Tryd.func14, Tryd.ntmps14
  cases aft with
  | true =>
    have hz := HK0.out
    unfold nkK at hz
    rw [if_pos rfl] at hz
    rw [hz] at CA
    clear hz
    go_upto_region 3 with (go_at_call 38; (with_reducible refine CA.out.mono ?_); rintro e w2 ⟨rfl, ht⟩; have H2 := Lib.hid ht; clear ht)
    go_upto_region 4 with (go_at_call 34; (with_reducible refine (CR.out _ (HC.out.no _ _ _ HS.out H2.out)).mono ?_); rintro e w3 ⟨y, j, h1, h2, h3, rfl⟩; obtain ⟨d, h4⟩ := h2.at10; have H1 : Hid (True ∧ St (a + T.length) w3 ∧ At10 T k0 y d ∧ y.2.leaf = true ∧ (∀ x, ¬ kl x k0 → kl x k0 → ∃ c : Unit, True ∧ True ∧ getL (flatT T) x = none) ∧ (MinL T → Cnf T a k0 (a + T.length) y)) := Lib.hid ⟨trivial, h1, h4, h3, fun x q1 q2 => absurd q2 q1, fun _ => .inl ⟨rfl, h2.cov⟩⟩; clear h1 h2 h3 h4 CR; unfold pq)
    go_loopg [12, 13] (d) (fun k x o wr => ∃ c z e q, k = e ∧ x = .pointer (some ⟨blkOf N z, 1, none⟩) ∧ o = .bool true ∧ Hid (True ∧ St c wr ∧ At10 T q z e ∧ z.2.leaf = true ∧ (∀ x, ¬ kl x k0 → kl x q → ∃ b : Unit, True ∧ True ∧ getL (flatT T) x = none) ∧ (MinL T → Cnf T a k0 c z)))
    case atStart => exact ⟨a + T.length, y, d, k0, rfl, rfl, rfl, H1⟩
    case round =>
      clear H1
      obtain ⟨c, z, e, q, rfl, rfl, rfl, HR⟩ := hrel
      have hT := HC.out.tr _ wr HR.out.2.1
      obtain ⟨g, AK, ck, AV, cv, AD, cd, hat, hin⟩ := hT.node HR.out.2.2.1.mem
      obtain ⟨qb, hq⟩ : ∃ x, blkOf N z = x := ⟨_, rfl⟩
      rw [hq] at hat ⊢
      obtain ⟨c1, c2, c3, c4, c5, c6, c7, c8⟩ := node_cells hat
      have lq := hat.lt
      have hr := (good_right hT.g HR.out.2.2.1.mem).1
      have h4 := (good_right hT.g HR.out.2.2.1.mem).2
      have CF := Lib.hid (find_c z.2.leaf z.2.keys z.2.vals.length z.2.kids.length z.2.high z.2.bnd z.2.nx.slot z.2.nx.gen AK AV AD ck cv cd k0 wr hin.i.k hin.i.fk HK.out (by omega))
      have hvl := (hr.2.2.2.1 HR.out.2.2.2.1).1
      have HN := Lib.hid (And.intro hat hin)
      obtain ⟨pl, hp⟩ : ∃ y, plc z.2.keys k0 = y := ⟨_, rfl⟩
      rw [hp] at CF
      have HP := Lib.hid hp
      obtain ⟨sl, hsl⟩ : ∃ x, z.2.nx.slot = x := ⟨_, rfl⟩
      obtain ⟨ge, hge⟩ : ∃ x, z.2.nx.gen = x := ⟨_, rfl⟩
      have HNX := Lib.hid (And.intro hsl hge)
      have HG := Lib.hid (And.intro hT.g (And.intro hr hvl))
      by_cases hlt : pl < z.2.keys.length
      · obtain ⟨k, hk⟩ : ∃ k, z.2.keys[pl]? = some k := ⟨z.2.keys[pl], List.getElem?_eq_getElem hlt⟩
        obtain ⟨v, hv⟩ : ∃ v, z.2.vals[pl]? = some v := ⟨z.2.vals[pl]'(by rw [hvl]; exact hlt), List.getElem?_eq_getElem (by rw [hvl]; exact hlt)⟩
        have fkk := hin.i.fk k (List.mem_of_getElem? hk)
        have fv := hin.i.fv v (List.mem_of_getElem? hv)
        obtain ⟨bk, ok, hBK, hck⟩ := kcs_hold hin.i.k hk
        obtain ⟨bv, ov, hBV, hcv⟩ := kcs_hold hin.i.v hv
        subst hBK hBV
        have C1 := Lib.hid (clone_any k fkk)
        have C2 := Lib.hid (clone_any v fv)
        have b1 : (0 : Int) ≤ (pl : Int) := by omega
        have b2 : (pl : Int) < (z.2.keys.length : Int) := by omega
        have b3 : (pl : Int) < (z.2.vals.length : Int) := by rw [hvl]; omega
        have HKV := Lib.hid (And.intro hk hv)
        have HS7 : Hid (∀ W, Turn No wr W → W.cell? ⟨qb, 2, none⟩ = some (.slice (some ⟨bk, ok, none⟩) z.2.keys.length ck) ∧ W.cell? ⟨qb, 3, none⟩ = some (.slice (some ⟨bv, ov, none⟩) z.2.vals.length cv) ∧ W.cell? ⟨bk, ok + pl, none⟩ = some (.string k) ∧ W.cell? ⟨bv, ov + pl, none⟩ = some (.string v)) := Lib.hid fun W t => ⟨(node_cells (hat.no t)).2.1, (node_cells (hat.no t)).2.2.1, hck W t, hcv W t⟩
        clear hT hat hin hr h4 hvl hq hp hsl hge hk hv hck hcv
        go_upto_region 6 with (go_at_call 35; (with_reducible refine CF.out.mono ?_); rintro e5 w5 ⟨rfl, ht⟩; have H5 := Lib.hid ht; have z2 := (HS7.out _ ht).1; have z9 := (HN.out.1.no ht).lt; clear ht)
        go_upto_region 7 with fail
        clear z2 z9
        have hs7 := HS7.out w5 H5.out
        have HS8 : Hid (∀ W, Turn No w5 W → W.cell? ⟨qb, 2, none⟩ = some (.slice (some ⟨bk, ok, none⟩) z.2.keys.length ck) ∧ W.cell? ⟨qb, 3, none⟩ = some (.slice (some ⟨bv, ov, none⟩) z.2.vals.length cv) ∧ W.cell? ⟨bk, ok + pl, none⟩ = some (.string k) ∧ W.cell? ⟨bv, ov + pl, none⟩ = some (.string v)) := Lib.hid fun W t => HS7.out W (H5.out.trans t)
        clear HS7 c1 c2 c3 c4 c5 c6 c7 c8
        go_region_held3 (fun W => W.cell? ⟨qb, 2, none⟩ = some (.slice (some ⟨bk, ok, none⟩) z.2.keys.length ck) ∧ W.cell? ⟨qb, 3, none⟩ = some (.slice (some ⟨bv, ov, none⟩) z.2.vals.length cv) ∧ W.cell? ⟨bk, ok + pl, none⟩ = some (.string k) ∧ W.cell? ⟨bv, ov + pl, none⟩ = some (.string v)) (first | (with_reducible exact hs7) | (exact HS8.out _ (by first | assumption | exact (Turn.refl No _).drew))) (first | (go_at_call 36; (first | (with_reducible refine (C1.out _).mono ?_) | (with_reducible refine (C2.out _).mono ?_)); rintro e6 w6 ⟨rfl, ht⟩; have ht : Turn No w5 w6 := Turn.trans (by first | assumption | exact (Turn.refl No _).drew) ht))
        all_goals
          have HF := Lib.hid (H5.out.trans ht)
          clear hs7
          go_wp2_with fail
          (try simp only [Exit.inBlock, Exit.then])
          refine bodyPost_ret (results_four rfl _ _ _) rfl ?_
          have hkv := HKV.out
          rw [← HP.out] at hkv
          exact ⟨c, some ⟨k, v⟩, HC.out.no _ _ _ HR.out.2.1 HF.out, fun hm => (HR.out.2.2.2.2.2 hm).le, nxok_fix HG.out.1 (by rw [HK0.out]; exact nx_found (R := fun (_ _ : Unit) => True) (Tt := fun _ => T) (a := ()) (b := ()) trivial trivial HG.out.1 HR.out.2.2.1 HR.out.2.2.2.1 HR.out.2.2.2.2.1 hkv.1 hkv.2), rfl⟩
      · have hpl : ¬ plc z.2.keys k0 < z.2.keys.length := by rw [hp]; exact hlt
        have HPL := Lib.hid hpl
        have b2 : ¬ (pl : Int) < (z.2.keys.length : Int) := by omega
        clear hsl hge HNX
        cases hbd : z.2.bnd with
        | false =>
          have hnx := nxq_zero hT.g HR.out.2.2.1 hbd
          have HB := Lib.hid (And.intro hbd hnx)
          rw [hnx] at CF c7 c8
          have hq0 := eql_hn 0 0 0 0
          rw [hnEq_same] at hq0
          clear hT hat hin hr h4 hvl hq hp hpl hnx hbd
          go_wp2_with (go_at_call 35; (with_reducible refine CF.out.mono ?_); rintro e5 w5 ⟨rfl, ht⟩; have H5 := Lib.hid ht; obtain ⟨_, z2, _, _, _, _, z7, z8⟩ := node_cells (HN.out.1.no ht); have z9 := (HN.out.1.no ht).lt; clear ht; rw [HB.out.2] at z7 z8)
          (try simp only [Exit.inBlock, Exit.then])
          refine bodyPost_ret (results_four rfl _ _ _) rfl ?_
          exact ⟨c, none, HC.out.no _ _ _ HR.out.2.1 H5.out, fun hm => (HR.out.2.2.2.2.2 hm).le, nxok_fix HG.out.1 (by rw [HK0.out]; exact nx_end (R := fun (_ _ : Unit) => True) (Tt := fun _ => T) (a := ()) (b := ()) trivial trivial HG.out.1 HR.out.2.2.1 HR.out.2.2.2.1 HR.out.2.2.2.2.1 HPL.out HB.out.1), rfl⟩
        | true =>
          obtain ⟨y2, e2, hnx, hat2, hlt2, hlf2⟩ := nxq_on hT.g HR.out.2.2.1 hbd
          have HRI := Lib.hid (nx_right hT.g hT.s HR.out.2.2.1 HR.out.2.2.2.1 hbd hnx hat2.mem)
          have hz0 : rtZ y2.1 = false := hT.nz hat2.mem
          have hq0 := eql_hn y2.1.slot 0 y2.1.gen 0
          unfold rtZ at hz0
          rw [hz0] at hq0
          have HB := Lib.hid (And.intro hbd (And.intro hnx (And.intro hat2 (And.intro hlt2 (hlf2 HR.out.2.2.2.1)))))
          rw [hnx] at CF c7 c8
          clear hT hat hin hr h4 hvl hq hp hpl hnx hbd hat2 hlt2 hlf2 hz0
          go_wp2_with (first | (go_at_call 35; (with_reducible refine CF.out.mono ?_); rintro e5 w5 ⟨rfl, ht⟩; have H5 := Lib.hid ht; obtain ⟨_, z2, _, _, _, _, z7, z8⟩ := node_cells (HN.out.1.no ht); have z9 := (HN.out.1.no ht).lt; clear ht; rw [HB.out.2.1] at z7 z8; have CL2 := Lib.hid (HC.out.look _ _ y2 (HC.out.no _ _ _ HR.out.2.1 H5.out) HB.out.2.2.1.mem); unfold pq at CL2) | (go_at_call 39; (with_reducible refine CL2.out.mono ?_); rintro e7 w7 ⟨h1, rfl⟩; have H7 := Lib.hid h1; clear h1 CL2))
          go_roundg (e2)
          case measure => exact HB.out.2.2.2.1
          case rel =>
            refine ⟨c + 1, y2, e2, z.2.high, rfl, rfl, rfl, Lib.hid ⟨trivial, H7.out, HB.out.2.2.1, HB.out.2.2.2.2, fun x hx hq => ?_, fun hm => ?_⟩⟩
            · exact nx_gap (R := fun (_ _ : Unit) => True) (Tt := fun _ => T) (a := ()) (b := ()) trivial trivial HG.out.1 HR.out.2.2.1 HR.out.2.2.2.1 HR.out.2.2.2.2.1 HPL.out hx fun _ => hq
            · exact (HR.out.2.2.2.2.2 hm).right HPL.out HB.out.1 HRI.out.1 (HRI.out.2 hm)
  | false =>
    have hz := HK0.out
    unfold nkK at hz
    rw [if_neg (by decide)] at hz
    have hz2 := hz.symm
    clear hz
    subst hz2
    have H2 := Lib.hid (Turn.refl No w)
    go_upto_region 4 with (go_at_call 34; (with_reducible refine (CR.out _ (HC.out.no _ _ _ HS.out H2.out)).mono ?_); rintro e w3 ⟨y, j, h1, h2, h3, rfl⟩; obtain ⟨d, h4⟩ := h2.at10; have H1 : Hid (True ∧ St (a + T.length) w3 ∧ At10 T k0 y d ∧ y.2.leaf = true ∧ (∀ x, ¬ kl x k0 → kl x k0 → ∃ c : Unit, True ∧ True ∧ getL (flatT T) x = none) ∧ (MinL T → Cnf T a k0 (a + T.length) y)) := Lib.hid ⟨trivial, h1, h4, h3, fun x q1 q2 => absurd q2 q1, fun _ => .inl ⟨rfl, h2.cov⟩⟩; clear h1 h2 h3 h4 CR; unfold pq)
    go_loopg [12, 13] (d) (fun k x o wr => ∃ c z e q, k = e ∧ x = .pointer (some ⟨blkOf N z, 1, none⟩) ∧ o = .bool true ∧ Hid (True ∧ St c wr ∧ At10 T q z e ∧ z.2.leaf = true ∧ (∀ x, ¬ kl x k0 → kl x q → ∃ b : Unit, True ∧ True ∧ getL (flatT T) x = none) ∧ (MinL T → Cnf T a k0 c z)))
    case atStart => exact ⟨a + T.length, y, d, k0, rfl, rfl, rfl, H1⟩
    case round =>
      clear H1
      obtain ⟨c, z, e, q, rfl, rfl, rfl, HR⟩ := hrel
      have hT := HC.out.tr _ wr HR.out.2.1
      obtain ⟨g, AK, ck, AV, cv, AD, cd, hat, hin⟩ := hT.node HR.out.2.2.1.mem
      obtain ⟨qb, hq⟩ : ∃ x, blkOf N z = x := ⟨_, rfl⟩
      rw [hq] at hat ⊢
      obtain ⟨c1, c2, c3, c4, c5, c6, c7, c8⟩ := node_cells hat
      have lq := hat.lt
      have hr := (good_right hT.g HR.out.2.2.1.mem).1
      have h4 := (good_right hT.g HR.out.2.2.1.mem).2
      have CF := Lib.hid (find_c z.2.leaf z.2.keys z.2.vals.length z.2.kids.length z.2.high z.2.bnd z.2.nx.slot z.2.nx.gen AK AV AD ck cv cd k0 wr hin.i.k hin.i.fk HK.out (by omega))
      have hvl := (hr.2.2.2.1 HR.out.2.2.2.1).1
      have HN := Lib.hid (And.intro hat hin)
      obtain ⟨pl, hp⟩ : ∃ y, plc z.2.keys k0 = y := ⟨_, rfl⟩
      rw [hp] at CF
      have HP := Lib.hid hp
      obtain ⟨sl, hsl⟩ : ∃ x, z.2.nx.slot = x := ⟨_, rfl⟩
      obtain ⟨ge, hge⟩ : ∃ x, z.2.nx.gen = x := ⟨_, rfl⟩
      have HNX := Lib.hid (And.intro hsl hge)
      have HG := Lib.hid (And.intro hT.g (And.intro hr hvl))
      by_cases hlt : pl < z.2.keys.length
      · obtain ⟨k, hk⟩ : ∃ k, z.2.keys[pl]? = some k := ⟨z.2.keys[pl], List.getElem?_eq_getElem hlt⟩
        obtain ⟨v, hv⟩ : ∃ v, z.2.vals[pl]? = some v := ⟨z.2.vals[pl]'(by rw [hvl]; exact hlt), List.getElem?_eq_getElem (by rw [hvl]; exact hlt)⟩
        have fkk := hin.i.fk k (List.mem_of_getElem? hk)
        have fv := hin.i.fv v (List.mem_of_getElem? hv)
        obtain ⟨bk, ok, hBK, hck⟩ := kcs_hold hin.i.k hk
        obtain ⟨bv, ov, hBV, hcv⟩ := kcs_hold hin.i.v hv
        subst hBK hBV
        have C1 := Lib.hid (clone_any k fkk)
        have C2 := Lib.hid (clone_any v fv)
        have b1 : (0 : Int) ≤ (pl : Int) := by omega
        have b2 : (pl : Int) < (z.2.keys.length : Int) := by omega
        have b3 : (pl : Int) < (z.2.vals.length : Int) := by rw [hvl]; omega
        have HKV := Lib.hid (And.intro hk hv)
        have HS7 : Hid (∀ W, Turn No wr W → W.cell? ⟨qb, 2, none⟩ = some (.slice (some ⟨bk, ok, none⟩) z.2.keys.length ck) ∧ W.cell? ⟨qb, 3, none⟩ = some (.slice (some ⟨bv, ov, none⟩) z.2.vals.length cv) ∧ W.cell? ⟨bk, ok + pl, none⟩ = some (.string k) ∧ W.cell? ⟨bv, ov + pl, none⟩ = some (.string v)) := Lib.hid fun W t => ⟨(node_cells (hat.no t)).2.1, (node_cells (hat.no t)).2.2.1, hck W t, hcv W t⟩
        clear hT hat hin hr h4 hvl hq hp hsl hge hk hv hck hcv
        go_upto_region 6 with (go_at_call 35; (with_reducible refine CF.out.mono ?_); rintro e5 w5 ⟨rfl, ht⟩; have H5 := Lib.hid ht; have z2 := (HS7.out _ ht).1; have z9 := (HN.out.1.no ht).lt; clear ht)
        go_upto_region 7 with fail
        clear z2 z9
        have hs7 := HS7.out w5 H5.out
        have HS8 : Hid (∀ W, Turn No w5 W → W.cell? ⟨qb, 2, none⟩ = some (.slice (some ⟨bk, ok, none⟩) z.2.keys.length ck) ∧ W.cell? ⟨qb, 3, none⟩ = some (.slice (some ⟨bv, ov, none⟩) z.2.vals.length cv) ∧ W.cell? ⟨bk, ok + pl, none⟩ = some (.string k) ∧ W.cell? ⟨bv, ov + pl, none⟩ = some (.string v)) := Lib.hid fun W t => HS7.out W (H5.out.trans t)
        clear HS7 c1 c2 c3 c4 c5 c6 c7 c8
        go_region_held3 (fun W => W.cell? ⟨qb, 2, none⟩ = some (.slice (some ⟨bk, ok, none⟩) z.2.keys.length ck) ∧ W.cell? ⟨qb, 3, none⟩ = some (.slice (some ⟨bv, ov, none⟩) z.2.vals.length cv) ∧ W.cell? ⟨bk, ok + pl, none⟩ = some (.string k) ∧ W.cell? ⟨bv, ov + pl, none⟩ = some (.string v)) (first | (with_reducible exact hs7) | (exact HS8.out _ (by first | assumption | exact (Turn.refl No _).drew))) (first | (go_at_call 36; (first | (with_reducible refine (C1.out _).mono ?_) | (with_reducible refine (C2.out _).mono ?_)); rintro e6 w6 ⟨rfl, ht⟩; have ht : Turn No w5 w6 := Turn.trans (by first | assumption | exact (Turn.refl No _).drew) ht))
        all_goals
          have HF := Lib.hid (H5.out.trans ht)
          clear hs7
          go_wp2_with fail
          (try simp only [Exit.inBlock, Exit.then])
          refine bodyPost_ret (results_four rfl _ _ _) rfl ?_
          have hkv := HKV.out
          rw [← HP.out] at hkv
          exact ⟨c, some ⟨k, v⟩, HC.out.no _ _ _ HR.out.2.1 HF.out, fun hm => (HR.out.2.2.2.2.2 hm).le, nxok_fix HG.out.1 (by rw [HK0.out]; exact nx_found (R := fun (_ _ : Unit) => True) (Tt := fun _ => T) (a := ()) (b := ()) trivial trivial HG.out.1 HR.out.2.2.1 HR.out.2.2.2.1 HR.out.2.2.2.2.1 hkv.1 hkv.2), rfl⟩
      · have hpl : ¬ plc z.2.keys k0 < z.2.keys.length := by rw [hp]; exact hlt
        have HPL := Lib.hid hpl
        have b2 : ¬ (pl : Int) < (z.2.keys.length : Int) := by omega
        clear hsl hge HNX
        cases hbd : z.2.bnd with
        | false =>
          have hnx := nxq_zero hT.g HR.out.2.2.1 hbd
          have HB := Lib.hid (And.intro hbd hnx)
          rw [hnx] at CF c7 c8
          have hq0 := eql_hn 0 0 0 0
          rw [hnEq_same] at hq0
          clear hT hat hin hr h4 hvl hq hp hpl hnx hbd
          go_wp2_with (go_at_call 35; (with_reducible refine CF.out.mono ?_); rintro e5 w5 ⟨rfl, ht⟩; have H5 := Lib.hid ht; obtain ⟨_, z2, _, _, _, _, z7, z8⟩ := node_cells (HN.out.1.no ht); have z9 := (HN.out.1.no ht).lt; clear ht; rw [HB.out.2] at z7 z8)
          (try simp only [Exit.inBlock, Exit.then])
          refine bodyPost_ret (results_four rfl _ _ _) rfl ?_
          exact ⟨c, none, HC.out.no _ _ _ HR.out.2.1 H5.out, fun hm => (HR.out.2.2.2.2.2 hm).le, nxok_fix HG.out.1 (by rw [HK0.out]; exact nx_end (R := fun (_ _ : Unit) => True) (Tt := fun _ => T) (a := ()) (b := ()) trivial trivial HG.out.1 HR.out.2.2.1 HR.out.2.2.2.1 HR.out.2.2.2.2.1 HPL.out HB.out.1), rfl⟩
        | true =>
          obtain ⟨y2, e2, hnx, hat2, hlt2, hlf2⟩ := nxq_on hT.g HR.out.2.2.1 hbd
          have HRI := Lib.hid (nx_right hT.g hT.s HR.out.2.2.1 HR.out.2.2.2.1 hbd hnx hat2.mem)
          have hz0 : rtZ y2.1 = false := hT.nz hat2.mem
          have hq0 := eql_hn y2.1.slot 0 y2.1.gen 0
          unfold rtZ at hz0
          rw [hz0] at hq0
          have HB := Lib.hid (And.intro hbd (And.intro hnx (And.intro hat2 (And.intro hlt2 (hlf2 HR.out.2.2.2.1)))))
          rw [hnx] at CF c7 c8
          clear hT hat hin hr h4 hvl hq hp hpl hnx hbd hat2 hlt2 hlf2 hz0
          go_wp2_with (first | (go_at_call 35; (with_reducible refine CF.out.mono ?_); rintro e5 w5 ⟨rfl, ht⟩; have H5 := Lib.hid ht; obtain ⟨_, z2, _, _, _, _, z7, z8⟩ := node_cells (HN.out.1.no ht); have z9 := (HN.out.1.no ht).lt; clear ht; rw [HB.out.2.1] at z7 z8; have CL2 := Lib.hid (HC.out.look _ _ y2 (HC.out.no _ _ _ HR.out.2.1 H5.out) HB.out.2.2.1.mem); unfold pq at CL2) | (go_at_call 39; (with_reducible refine CL2.out.mono ?_); rintro e7 w7 ⟨h1, rfl⟩; have H7 := Lib.hid h1; clear h1 CL2))
          go_roundg (e2)
          case measure => exact HB.out.2.2.2.1
          case rel =>
            refine ⟨c + 1, y2, e2, z.2.high, rfl, rfl, rfl, Lib.hid ⟨trivial, H7.out, HB.out.2.2.1, HB.out.2.2.2.2, fun x hx hq => ?_, fun hm => ?_⟩⟩
            · exact nx_gap (R := fun (_ _ : Unit) => True) (Tt := fun _ => T) (a := ()) (b := ()) trivial trivial HG.out.1 HR.out.2.2.1 HR.out.2.2.2.1 HR.out.2.2.2.2.1 HPL.out hx fun _ => hq
            · exact (HR.out.2.2.2.2.2 hm).right HPL.out HB.out.1 HRI.out.1 (HRI.out.2 hm)
end Go.Proofs.YtfplnobnmgbgoaaDoor
namespace Go.Proofs.YtfplnobnmgbgoaaDoor
open Go.RowKit Go.Lib
set_option linter.unusedVariables false
set_option maxRecDepth 20000
set_option linter.unusedSimpArgs false


/-- What a look comes to, whose visit does something. -/
structure LookV (I : Ids) (h : Hn) (R : World → (Nat → Option Ent) → List Lvl → Hn → Nd → Prop) (e : Ending) (w' : World) : Prop where
  r : ∃ w1 N T root n, Tr w1 I N T root ∧ (h, n) ∈ T.flatten ∧ R w1 N T root n ∧ Turn No w1 w' ∧ e = .returned (.tuple #[pq (blkOf N (h, n)), .bool true])
/-- What a visit comes to, ahead of a look at a node. -/
structure VisV (I : Ids) (h : Hn) (g : Nat) (R : World → (Nat → Option Ent) → List Lvl → Hn → Nd → Prop) (e : Ending) (w1 : World) : Prop where
  e : e = .returned (.tuple #[])
  r : ∃ N T root n, Tr w1 I N T root ∧ (h, n) ∈ T.flatten ∧ At w1 g (.cells #[.int .i64 h.slot, .int .u64 h.gen] 77 (0, 0)) ∧ R w1 N T root n
set_option maxRecDepth 100000 in
set_option maxHeartbeats 8000000 in
/-- look with a visit. -/
theorem look_fn {w : World} {I : Ids} {h : Hn} {fn : Nat} {caps : Array Value} {R : World → (Nat → Option Ent) → List Lvl → Hn → Nd → Prop} (hE : Enters Tryd.prog fn)
    (hv : Calls Tryd.prog fn caps (w.alloc (.cells #[.int .i64 h.slot, .int .u64 h.gen] 77)) (VisV I h w.heap.size R)) :
    Calls Tryd.prog 39 #[.pointer (some ⟨I.tb, 0, none⟩), .agg #[.int .i64 h.slot, .int .u64 h.gen], .func (.func fn) #[] caps] w (LookV I h R) := by
  obtain ⟨g, hg⟩ : ∃ x, w.heap.size = x := ⟨_, rfl⟩
  rw [hg] at hv
  have HG := Lib.hid hg
  have HV := Lib.hid hv
  have he : ∀ (args : Array Value) (W : World), (callFunc fn args).run Tryd.prog W = .ok (.enter fn args) W := hE
  have hq0 := fun W => neq_func W (.func fn) #[] caps
  clear hg hv hE
  go_enter Tryd.func39, Tryd.ntmps39
  go_wp2_with fail
  rw [HG.out]
  refine HV.out.mono ?_
  rintro e w1 ⟨rfl, N, T, root, n, hT, hm, hat, hr⟩
  have HS := Lib.hid fun W (t : Turn No w1 W) => (show W.cell? ⟨I.tb, 1, none⟩ = some (.pointer (some ⟨I.ab, 0, none⟩)) ∧ W.cell? ⟨g, 0, none⟩ = some (.int .i64 h.slot) ∧ W.cell? ⟨g, 1, none⟩ = some (.int .u64 h.gen) from ⟨by simpa using At.cell (At.no hT.t t) 1, (at2 (hat.no t)).1, (at2 (hat.no t)).2⟩)
  have GY := Lib.hid fun W (t : Turn No w1 W) => hT.getY hm W t
  have H1 := Lib.hid (And.intro hT (And.intro hm hr))
  clear hT hm hat hr HV
  go_upto_region 3 with fail
  have hs0 := HS.out w1 (Turn.refl _ _)
  go_region_held3 (fun W => W.cell? ⟨I.tb, 1, none⟩ = some (.pointer (some ⟨I.ab, 0, none⟩)) ∧ W.cell? ⟨g, 0, none⟩ = some (.int .i64 h.slot) ∧ W.cell? ⟨g, 1, none⟩ = some (.int .u64 h.gen)) (first | (with_reducible exact hs0) | (exact HS.out _ (by first | assumption | exact (Turn.refl No _).drew))) (first | (go_at_call 61; (with_reducible refine (GY.out _ (Turn.refl No _).drew).mono ?_); rintro e w5 ⟨rfl, ht⟩; have ht : Turn No w1 w5 := (Turn.refl No w1).drew.trans ht))
  have HF := Lib.hid ht
  clear hs0 ht
  go_wp2_with fail
  go_ret2
  exact ⟨⟨w1, N, T, root, n, H1.out.1, H1.out.2.1, H1.out.2.2, HF.out, rfl⟩⟩

/-- A counter in memory. -/
structure Ctr (w0 : World) (vb a : Nat) (W : World) : Prop where
  c : At W vb (.cells #[.int .i64 (wrap64 (a : Int))] 3 (0, 0))
  tu : Turn No w0 W
  ge : w0.heap.size ≤ vb
theorem Ctr.no {w0 W W2 : World} {vb a : Nat} (h : Ctr w0 vb a W) (t : Turn No W W2) : Ctr w0 vb a W2 := ⟨h.c.no t, h.tu.trans t, h.ge⟩
theorem cnt_enters : Enters Tryd.prog 20 := enters_of Tryd.func20 (by kernel_rfl) rfl
theorem wrap_step (a : Nat) : wrap64 (wrap64 (a : Int) + 1) = wrap64 ((a + 1 : Nat) : Int) := by simp only [wrap64]; omega
theorem ctr_step {w0 W : World} {vb a : Nat} (h : Ctr w0 vb a W) : Calls Tryd.prog 20 #[.pointer (some ⟨vb, 0, none⟩)] W fun e w' => e = .returned (.tuple #[]) ∧ Ctr w0 vb (a + 1) w' ∧ Turn (fun i => i = vb) W w' := by
  have c0 := h.c.cell 0
  have f0 := h.c.thawed 0
  simp at c0
  have lv := h.c.lt
  have H := Lib.hid h
  have HW := Lib.hid (wrap_step a)
  obtain ⟨x, hx⟩ : ∃ x, wrap64 (a : Int) = x := ⟨_, rfl⟩
  rw [hx] at c0 HW
  clear h hx
  go_enter Tryd.func20, Tryd.ntmps20
  go_wp2_with fail
  rw [HW.out]
  go_end0
  have t : Turn (fun i => i = vb) W (W.setCell ⟨vb, 0, none⟩ (.int .i64 (wrap64 ((a + 1 : Nat) : Int)))) := Turn.set1 _ _ _ _
  exact ⟨rfl, ⟨by simpa using H.out.c.set 0 (.int .i64 (wrap64 ((a + 1 : Nat) : Int))), H.out.tu.then t fun i hi e => by have := H.out.ge; omega, H.out.ge⟩, t⟩
/-- A look that is counted. -/
theorem lookf_ctr {w0 : World} {I : Ids} {N : Nat → Option Ent} {T : List Lvl} {root : Hn} {vb : Nat} (hT : Tr w0 I N T root) (hn : T.flatten.length ≤ 4096) : LookF (.func (.func 20) #[] #[.pointer (some ⟨vb, 0, none⟩)]) I N T root (fun a W => Ctr w0 vb a W) where
  tr := fun a w h => hT.no h.tu
  no := fun a w w' h t => h.no t
  sz := hn
  look := fun a w x h hx => by
    obtain ⟨xh, xn⟩ := x
    have t0 : Turn No w (w.alloc (.cells #[.int .i64 xh.slot, .int .u64 xh.gen] 77)) := (Turn.refl _ _).alloc _
    have hne : w.heap.size ≠ vb := fun e => by have := h.c.lt; omega
    refine (look_fn (R := fun w1 N' T' root' n' => Ctr w0 vb (a + 1) w1 ∧ N' = N ∧ n' = xn) cnt_enters ((ctr_step (h.no t0)).mono ?_)).mono ?_
    · rintro e w1 ⟨rfl, h1, h2⟩
      exact ⟨rfl, N, T, root, xn, hT.no h1.tu, hx, (At.new w (.cells #[.int .i64 xh.slot, .int .u64 xh.gen] 77)).turn h2 hne, h1, rfl, rfl⟩
    · rintro e w2 ⟨⟨w1, N', T', root', n', k1, k2, ⟨k3, rfl, rfl⟩, k4, rfl⟩⟩
      exact ⟨k3.no k4, rfl⟩
end Go.Proofs.YtfplnobnmgbgoaaDoor
namespace Go.Proofs.YtfplnobnmgbgoaaDoor
open Go.RowKit Go.Lib
set_option linter.unusedVariables false
set_option maxRecDepth 20000
set_option linter.unusedSimpArgs false


/-- Is it an act of putting or deleting this key? -/
def hits (key : ByteArray) (a : Ac) : Prop := a.k = key ∧ 0 ≤ a.d ∧ a.d ≤ 1
/-- What the last act on a key tells of it: the act at the place j, of the first k ones; i, if there is none. -/
structure LastA (L : List Ac) (i : Nat) (key : ByteArray) (k j : Nat) : Prop where
  le : j = i ∨ j < k
  r : (∃ a, L[j]? = some a ∧ hits key a ∧ j < k ∧ getL (doneL (L.take k)) key = if a.d = 0 then some a.v else none) ∨ (j = i ∧ (∀ x, x < k → ∀ a, L[x]? = some a → ¬ hits key a) ∧ getL (doneL (L.take k)) key = none)
section
variable {L : List Ac} {i k j : Nat} {key : ByteArray} {a : Ac}
theorem LastA.start (L : List Ac) (i : Nat) (key : ByteArray) : LastA L i key 0 i := ⟨.inl rfl, .inr ⟨rfl, (fun x hx => by omega), rfl⟩⟩
theorem get_doA_hit (F : List Pr) (h : hits a.k a) : getL (doA F a) a.k = if a.d = 0 then some a.v else none := by
  unfold doA
  by_cases h0 : a.d = 0
  · rw [if_pos h0, if_pos h0, get_put, if_pos rfl]
  · have h1 : a.d = 1 := by have := h.2.1; have := h.2.2; omega
    rw [if_neg h0, if_neg h0, if_pos h1, get_del, if_pos rfl]
theorem get_doA_miss (F : List Pr) (h : ¬ hits key a) : getL (doA F a) key = getL F key := by
  unfold doA hits at *
  by_cases h0 : a.d = 0
  · rw [if_pos h0, get_put, if_neg (fun e => h ⟨e.symm, by omega, by omega⟩)]
  · rw [if_neg h0]
    by_cases h1 : a.d = 1
    · rw [if_pos h1, get_del, if_neg (fun e => h ⟨e.symm, by omega, by omega⟩)]
    · rw [if_neg h1]
theorem LastA.hit (ha : L[k]? = some a) (hh : hits key a) : LastA L i key (k + 1) k := by
  refine ⟨.inr (Nat.lt_succ_self _), .inl ⟨a, ha, hh, Nat.lt_succ_self _, ?_⟩⟩
  rw [doneL_take ha]
  obtain ⟨h1, h2⟩ := hh
  subst h1
  exact get_doA_hit _ ⟨rfl, h2⟩
theorem LastA.miss (h : LastA L i key k j) (ha : L[k]? = some a) (hh : ¬ hits key a) : LastA L i key (k + 1) j := by
  refine ⟨h.le.imp id fun x => by omega, ?_⟩
  rw [doneL_take ha, get_doA_miss _ hh]
  rcases h.r with ⟨b, h1, h2, h3, h4⟩ | ⟨h1, h2, h3⟩
  · exact .inl ⟨b, h1, h2, by omega, h4⟩
  · refine .inr ⟨h1, fun x hx b hb => ?_, h3⟩
    by_cases hxk : x < k
    · exact h2 x hxk b hb
    · obtain rfl : x = k := by omega
      rw [ha] at hb
      injection hb with hb
      subst hb
      exact hh
/-- Behind all acts: what the act at the place tells is what there is. -/
theorem LastA.done (h : LastA L i key L.length j) (hi : L[i]? = some a) (hk : a.k = key) : ∃ b, L[j]? = some b ∧ j < L.length ∧ getL (doneL L) key = if b.d = 0 then some b.v else none := by
  have hl : i < L.length := (List.getElem?_eq_some_iff.1 hi).1
  rcases h.r with ⟨b, h1, h2, h3, h4⟩ | ⟨h1, h2, h3⟩
  · rw [List.take_length] at h4
    exact ⟨b, h1, h3, h4⟩
  · subst h1
    rw [List.take_length] at h3
    refine ⟨a, hi, hl, ?_⟩
    have := h2 j hl a hi
    rw [if_neg (fun e => this ⟨hk, by omega, by omega⟩)]
    exact h3
end
/-! Going on from key to key. -/
def kAt (F : List Pr) (n : Nat) : ByteArray := if n = 0 then ⟨#[]⟩ else ((F[n - 1]?).map Pr.k).getD ⟨#[]⟩
theorem nxR_at {F : List Pr} (ha : Asc F) {n : Nat} (hn : n ≤ F.length) : nxR F (kAt F n) (decide (0 < n)) = F[n]? := by
  have hlow : ∀ q ∈ F.take n, nxP (kAt F n) (decide (0 < n)) q = true := fun q hq => by
    obtain ⟨j, hj⟩ := List.mem_iff_getElem?.1 hq
    have hjn : j < n := by have := (List.getElem?_eq_some_iff.1 hj).1; rw [List.length_take] at this; omega
    rw [List.getElem?_take, if_pos hjn] at hj
    obtain ⟨m, rfl⟩ : ∃ m, n = m + 1 := ⟨n - 1, by omega⟩
    have hm : F[m]? = some F[m] := List.getElem?_eq_getElem (by omega)
    unfold nxP kAt
    rw [if_neg (by omega), Nat.add_sub_cancel, hm]
    simp only [Option.map_some, Option.getD_some]
    by_cases hjm : j = m
    · subst hjm
      rw [hm] at hj
      injection hj with hj
      rw [hj]
      simp
    · have h1 := List.getElem?_eq_some_iff.1 hj
      obtain ⟨h1, h2⟩ := h1
      have h3 := List.pairwise_iff_getElem.1 ha j m h1 (by omega) (by omega)
      rw [h2] at h3
      simp [h3]
  by_cases hlt : n < F.length
  · have hp : F[n]? = some F[n] := List.getElem?_eq_getElem hlt
    rw [hp]
    refine nx_first hp hlow ?_
    unfold nxP kAt
    by_cases h0 : n = 0
    · subst h0
      have := kl_empty (F[0]).k
      simp [this]
    · obtain ⟨m, rfl⟩ : ∃ m, n = m + 1 := ⟨n - 1, by omega⟩
      have hm : F[m]? = some F[m] := List.getElem?_eq_getElem (by omega)
      have h3 := List.pairwise_iff_getElem.1 ha m (m + 1) (by omega) hlt (by omega)
      rw [if_neg (by omega), Nat.add_sub_cancel, hm]
      simp only [Option.map_some, Option.getD_some]
      have h4 := kl_asymm h3
      have h5 : ¬ F[m + 1].k = F[m].k := fun e => by rw [e] at h3; exact kl_irrefl _ h3
      simp [h4, h5]
  · obtain rfl : n = F.length := by omega
    rw [List.getElem?_eq_none (Nat.le_refl _)]
    unfold nxR
    rw [List.find?_eq_none]
    intro q hq
    have := hlow q (by rw [List.take_length]; exact hq)
    simp [this]
theorem kAt_next {F : List Pr} {n : Nat} {p : Pr} (hp : F[n]? = some p) : kAt F (n + 1) = p.k := by
  unfold kAt
  rw [if_neg (by omega), Nat.add_sub_cancel, hp]
  rfl
theorem kAt_below {F : List Pr} (ha : Asc F) {n : Nat} {p : Pr} (hp : F[n]? = some p) (h0 : 0 < n) : kl (kAt F n) p.k := by
  obtain ⟨m, rfl⟩ : ∃ m, n = m + 1 := ⟨n - 1, by omega⟩
  obtain ⟨h1, h2⟩ := List.getElem?_eq_some_iff.1 hp
  have hm : F[m]? = some F[m] := List.getElem?_eq_getElem (by omega)
  have h3 := List.pairwise_iff_getElem.1 ha m (m + 1) (by omega) h1 (by omega)
  unfold kAt
  rw [if_neg (by omega), Nat.add_sub_cancel, hm]
  rw [h2] at h3
  exact h3
theorem kAt_size {F : List Pr} (h : ∀ p ∈ F, p.k.size ≤ 40000) (n : Nat) : (kAt F n).size ≤ 40000 := by
  unfold kAt
  split
  · show (0 : Nat) ≤ _; omega
  · cases hp : F[n - 1]? with
    | none => show (0 : Nat) ≤ _; omega
    | some p => exact h p (List.mem_of_getElem? hp)
/-! How often a reader looks. -/
/-- What most tells: its square is below that power of two. -/
structure Most (n r : Nat) : Prop where
  two : 2 ≤ r
  hi : (n + 1) * (n + 1) < 2 ^ (r - 1)
theorem Most.le {n r t : Nat} (h : Most n r) (ht : t = 1 ∨ 2 ^ t ≤ n) : t + 1 ≤ r := by
  rcases ht with rfl | ht
  · exact h.two
  · refine Classical.byContradiction fun hc => ?_
    have h1 : 2 ^ (r - 1) ≤ 2 ^ t := Nat.pow_le_pow_right (by decide) (by omega)
    have h2 : n ≤ (n + 1) * (n + 1) := Nat.le_trans (Nat.le_succ n) (Nat.le_mul_of_pos_left (n + 1) (Nat.succ_pos n))
    have := h.hi
    omega
end Go.Proofs.YtfplnobnmgbgoaaDoor
namespace Go.Proofs.YtfplnobnmgbgoaaDoor
open Go.RowKit Go.Lib
set_option linter.unusedVariables false
set_option maxRecDepth 20000
set_option linter.unusedSimpArgs false


set_option maxRecDepth 100000 in
set_option maxHeartbeats 8000000 in
theorem most_any (n : Nat) (hn : n ≤ 300) (w : World) :
    Calls Tryd.prog 21 #[.int .i64 (n : Int)] w fun e w' => ∃ r : Nat, e = .returned (.int .i64 (r : Int)) ∧ Most n r ∧ w' = w := by
  obtain ⟨M, hM⟩ : ∃ M, (n + 1) * (n + 1) = M := ⟨_, rfl⟩
  have hML : M ≤ 90601 := by rw [← hM]; exact Nat.le_trans (Nat.mul_le_mul (Nat.succ_le_succ hn) (Nat.succ_le_succ hn)) (by decide)
  have h1 : IntKind.i64.wrap ((n : Int) + 1) = ((n + 1 : Nat) : Int) := IntWalk.i64_in _ (by omega)
  have h2 : wrap64 (((n : Int) + 1) * ((n : Int) + 1)) = (M : Int) := by rw [show ((n : Int) + 1) = ((n + 1 : Nat) : Int) by omega, ← Int.natCast_mul, hM]; simp only [wrap64]; omega
  have HM := Lib.hid (And.intro hM hML)
  clear hM hML
  go_enter Tryd.func21, Tryd.ntmps21
  go_wp2_with fail
  go_loopw [3, 4] (fun x y wr => ∃ (k m : Nat), x = .int .i64 ((k + 2 : Nat) : Int) ∧ y = .int .i64 (m : Int) ∧ Hid (k + m ≤ M ∧ M < (m + 1) * 2 ^ k ∧ wr = w)) (fun x y _ => (RowKit.intOf y).toNat)
  case atStart => exact ⟨0, M, rfl, by rw [h2], Lib.hid ⟨by omega, by omega, rfl⟩⟩
  case round =>
    obtain ⟨k, m, rfl, rfl, HI⟩ := hrel
    have HL : Hid (k + m ≤ 90601) := Lib.hid (by have := HI.out.1; have := HM.out.2; omega)
    by_cases hm : 1 < m
    · have q1 : (1 : Int) < (m : Int) := by omega
      have w1 : IntKind.i64.wrap (((k + 2 : Nat) : Int) + 1) = ((k + 1 + 2 : Nat) : Int) := by have := HL.out; rw [show ((k + 2 : Nat) : Int) + 1 = ((k + 1 + 2 : Nat) : Int) by omega]; exact IntWalk.i64_in _ (by omega)
      have HN : Hid (k + 1 + m / 2 ≤ M ∧ M < (m / 2 + 1) * 2 ^ (k + 1)) := Lib.hid ⟨by have := HI.out.1; omega, by
        have h3 := HI.out.2.1
        have h4 : (m + 1) * 2 ^ k ≤ (2 * (m / 2 + 1)) * 2 ^ k := Nat.mul_le_mul_right _ (by omega)
        have h5 : (m / 2 + 1) * 2 ^ (k + 1) = (2 * (m / 2 + 1)) * 2 ^ k := by rw [Nat.pow_succ, Nat.mul_comm (2 ^ k) 2, ← Nat.mul_assoc, Nat.mul_comm (m / 2 + 1) 2]
        omega⟩
      go_wp2_with fail
      have w2 : wrap64 ((k : Int) + 2 + 1) = ((k + 1 + 2 : Nat) : Int) := by have := HL.out; simp only [wrap64]; omega
      have w3 : wrap64 ((m : Int) / 2) = ((m / 2 : Nat) : Int) := by have := HL.out; simp only [wrap64]; omega
      rw [w2, w3]
      exact ⟨⟨k + 1, m / 2, rfl, rfl, Lib.hid ⟨HN.out.1, HN.out.2, HI.out.2.2⟩⟩, by simp [RowKit.intOf]; omega⟩
    · have q1 : ¬ (1 : Int) < (m : Int) := by omega
      have HX : Hid (Most n (k + 2) ∧ wr = w) := Lib.hid ⟨⟨by omega, by
        rw [HM.out.1, show k + 2 - 1 = k + 1 by omega, Nat.pow_succ]
        have h3 := HI.out.2.1
        have h4 : (m + 1) * 2 ^ k ≤ 2 * 2 ^ k := Nat.mul_le_mul_right _ (by omega)
        omega⟩, HI.out.2.2⟩
      go_wp2_with fail
      go_ret
      exact ⟨_, rfl, HX.out.1, HX.out.2⟩
end Go.Proofs.YtfplnobnmgbgoaaDoor
