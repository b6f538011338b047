/-
  OmapKnown.
-/
import Derived.Test.YtjjmooegpoeomaaWKno
import Derived.Test.YtjjmooegpoeomaaRg3
import Derived.Test.YtjjmooegpoeomaaWApt
namespace Go.Proofs.Ytjjmooegpoeomaa
open Go.RowKit Go.Lib
set_option linter.unusedVariables false
set_option linter.unusedSimpArgs false

/-- The cells of row j. -/
def KC (W : World) (rb2 j : Nat) (x : Kr) : Prop := W.cell? ⟨rb2, j * 11, none⟩ = some (.int .u8 x.op.kind) ∧ W.cell? ⟨rb2, j * 11 + 1, none⟩ = some (.string x.op.k) ∧ W.cell? ⟨rb2, j * 11 + 2, none⟩ = some (.string x.op.v) ∧ W.cell? ⟨rb2, j * 11 + 3, none⟩ = some (.string x.op.o) ∧ W.cell? ⟨rb2, j * 11 + 4, none⟩ = some (.bool x.op.had) ∧ W.cell? ⟨rb2, j * 11 + 5, none⟩ = some (.bool x.op.aft) ∧ W.cell? ⟨rb2, j * 11 + 6, none⟩ = some (.slice x.op.A x.op.len x.op.cap) ∧ W.cell? ⟨rb2, j * 11 + 7, none⟩ = some (.int .i64 x.an.code) ∧ W.cell? ⟨rb2, j * 11 + 8, none⟩ = some (.bool x.an.found) ∧ W.cell? ⟨rb2, j * 11 + 9, none⟩ = some (.string x.an.k) ∧ W.cell? ⟨rb2, j * 11 + 10, none⟩ = some (.string x.an.v)
theorem kc_of {W : World} {wb zb rb2 j : Nat} {x : Kr} (h : At W rb2 (.cells (kcs (krs wb zb)).toArray 52 (0, 0))) (hj : (krs wb zb)[j]? = some x) : KC W rb2 j x := by
  obtain ⟨⟨kd, k1, v1, o1, h1, f1, A1, ln, c1⟩, ws, ⟨ac, af, ak, av⟩⟩ := x
  exact ⟨by have := (h.cell (j * 11 + 0)); simp only [List.getElem?_toArray] at this; rw [kcs_at hj 0 (by decide)] at this; simpa [Kr.cs, Opx.cs, Ans.cs] using this, by have := (h.cell (j * 11 + 1)); simp only [List.getElem?_toArray] at this; rw [kcs_at hj 1 (by decide)] at this; simpa [Kr.cs, Opx.cs, Ans.cs] using this, by have := (h.cell (j * 11 + 2)); simp only [List.getElem?_toArray] at this; rw [kcs_at hj 2 (by decide)] at this; simpa [Kr.cs, Opx.cs, Ans.cs] using this, by have := (h.cell (j * 11 + 3)); simp only [List.getElem?_toArray] at this; rw [kcs_at hj 3 (by decide)] at this; simpa [Kr.cs, Opx.cs, Ans.cs] using this, by have := (h.cell (j * 11 + 4)); simp only [List.getElem?_toArray] at this; rw [kcs_at hj 4 (by decide)] at this; simpa [Kr.cs, Opx.cs, Ans.cs] using this, by have := (h.cell (j * 11 + 5)); simp only [List.getElem?_toArray] at this; rw [kcs_at hj 5 (by decide)] at this; simpa [Kr.cs, Opx.cs, Ans.cs] using this, by have := (h.cell (j * 11 + 6)); simp only [List.getElem?_toArray] at this; rw [kcs_at hj 6 (by decide)] at this; simpa [Kr.cs, Opx.cs, Ans.cs] using this, by have := (h.cell (j * 11 + 7)); simp only [List.getElem?_toArray] at this; rw [kcs_at hj 7 (by decide)] at this; simpa [Kr.cs, Opx.cs, Ans.cs] using this, by have := (h.cell (j * 11 + 8)); simp only [List.getElem?_toArray] at this; rw [kcs_at hj 8 (by decide)] at this; simpa [Kr.cs, Opx.cs, Ans.cs] using this, by have := (h.cell (j * 11 + 9)); simp only [List.getElem?_toArray] at this; rw [kcs_at hj 9 (by decide)] at this; simpa [Kr.cs, Opx.cs, Ans.cs] using this, by have := (h.cell (j * 11 + 10)); simp only [List.getElem?_toArray] at this; rw [kcs_at hj 10 (by decide)] at this; simpa [Kr.cs, Opx.cs, Ans.cs] using this⟩
theorem row_at {W : World} {b : Nat} {xs : List Value} {t : TypeId} (h : At W b (.cells xs.toArray t (0, 0))) : Row W (some ⟨b, 0, none⟩) xs := fun j u hj => ⟨b, 0, rfl, h.lt, by rw [h.cell]; simpa using hj⟩
theorem kno_do {w W : World} {mb : Nat} {r' : Option Nat} {wb zb j : Nat} {x : Kr} (h : So w W mb r' (kst wb zb j)) (h3 : At W wb (.cells (wcs kw3).toArray 46 (0, 0))) (h9 : At W zb (.cells (wcs kw9).toArray 46 (0, 0))) (hx : (krs wb zb)[j]? = some x) :
    Calls Try.prog 16 #[.pointer (some ⟨mb, 0, none⟩), .agg #[.int .u8 x.op.kind, .string x.op.k, .string x.op.v, .string x.op.o, .bool x.op.had, .bool x.op.aft, .slice x.op.A x.ws.length x.op.cap]] W fun e w' => e = .returned (.agg #[.int .i64 x.an.code, .bool x.an.found, .string x.an.k, .string x.an.v]) ∧
      ∃ r2, So w w' mb r2 (doM (kst wb zb j) x.op.kind x.op.k x.op.v x.op.o x.op.had x.op.aft x.ws) ∧ Turn (Mp mb r') W w' := by
  have hk := kok_at hx
  have hf := hk.few
  obtain ⟨hrow, hcase⟩ := krow_ws hx (row_at h3) (row_at h9)
  refine (do_any h.a x.op.kind x.op.k x.op.v x.op.o x.op.had x.op.aft x.op.A x.op.cap x.ws hrow (fun b o hA h0 => ?_) ⟨fit500 hf.k, fit500 hf.v, fun x hx => ⟨fit500 (hf.w x hx).1, fit500 (hf.w x hx).2⟩⟩ (fit500 hf.o) h.tu.size (by have := hf.n; have := hk.sz; omega)).mono ?_
  · have a3 := h.a.apart h3 (by decide) (by decide)
    have a9 := h.a.apart h9 (by decide) (by decide)
    rcases hcase with e | e | e
    · rw [hA] at e
      injection e with e; injection e with e
      subst e
      exact a3
    · rw [hA] at e
      injection e with e; injection e with e
      subst e
      exact a9
    · rw [e] at h0; simp at h0
  · rintro e w' ⟨rfl, r2, hom, _, ht⟩
    rw [hk.ans]
    exact ⟨rfl, r2, ⟨hom, turn_mp h.a h.tu ht⟩, ht⟩

theorem isSome_of {i : Nat} {o : Oper} {ops : Array Oper} (h : ops[i]? = some o) : i < ops.size := by
  obtain ⟨h, _⟩ := Array.getElem?_eq_some_iff.1 h
  exact h
theorem G3_mono (i : Nat) (w w' : World) (v : Value) (t : Turn No w w') (h : G3 i w v) : G3 i w' v := by
  unfold G3 at h ⊢
  split at h
  · unfold g3s at h ⊢
    repeat' (split at h)
    all_goals (try (obtain ⟨b, e, a⟩ := h; exact ⟨b, e, a.no t⟩))
    all_goals (try (obtain ⟨wb, zb, rb, e, a, b, c⟩ := h; exact ⟨wb, zb, rb, e, a.no t, b.no t, c.no t⟩))
    all_goals trivial
  · exact h
theorem hput3 (p : Value) (vs : Nat → Value) (v : Value) : AllN (fun i => (F3 p vs).put (some (if Nat.beq i 75 then 3 else i + 7)) v = F3 p (updV vs i v)) 76 := ⟨⟨⟨⟨⟨⟨⟨⟨⟨⟨⟨⟨⟨⟨⟨⟨⟨⟨⟨⟨⟨⟨⟨⟨⟨⟨⟨⟨⟨⟨⟨⟨⟨⟨⟨⟨⟨⟨⟨⟨⟨⟨⟨⟨⟨⟨⟨⟨⟨⟨⟨⟨⟨⟨⟨⟨⟨⟨⟨⟨⟨⟨⟨⟨⟨⟨⟨⟨⟨⟨⟨⟨⟨⟨⟨⟨trivial, rfl⟩, rfl⟩, rfl⟩, rfl⟩, rfl⟩, rfl⟩, rfl⟩, rfl⟩, rfl⟩, rfl⟩, rfl⟩, rfl⟩, rfl⟩, rfl⟩, rfl⟩, rfl⟩, rfl⟩, rfl⟩, rfl⟩, rfl⟩, rfl⟩, rfl⟩, rfl⟩, rfl⟩, rfl⟩, rfl⟩, rfl⟩, rfl⟩, rfl⟩, rfl⟩, rfl⟩, rfl⟩, rfl⟩, rfl⟩, rfl⟩, rfl⟩, rfl⟩, rfl⟩, rfl⟩, rfl⟩, rfl⟩, rfl⟩, rfl⟩, rfl⟩, rfl⟩, rfl⟩, rfl⟩, rfl⟩, rfl⟩, rfl⟩, rfl⟩, rfl⟩, rfl⟩, rfl⟩, rfl⟩, rfl⟩, rfl⟩, rfl⟩, rfl⟩, rfl⟩, rfl⟩, rfl⟩, rfl⟩, rfl⟩, rfl⟩, rfl⟩, rfl⟩, rfl⟩, rfl⟩, rfl⟩, rfl⟩, rfl⟩, rfl⟩, rfl⟩, rfl⟩, rfl⟩
/-- The region: whatever row its operations come in, slot 3 holds the rows. -/
theorem reg3 {Q : Exit → Act → World → Prop} {p : Value} {w : World} (ops : Array Oper) (hops : ops = (((Try.f7.body).bind (regOf 3)).getD #[])) (vs0 : Nat → Value)
    (hdone : ∀ vs w', Turn No w w' → G3 75 w' (vs 75) → Q .normal (F3 p vs) w') : (Code.region 3 ops true).wp Try.prog Q (F3 p vs0) w := by
  subst hops
  have hn : (((Try.f7.body).bind (regOf 3)).getD #[]).size = 76 := by kernel_rfl
  have hz : ((((Try.f7.body).bind (regOf 3)).getD #[]).toList.zipIdx.all fun q => (q.1.after.toList.all fun e => Nat.blt e.on q.2) && q.1.guard.isNone && (q.1.dst == some (if Nat.beq q.2 75 then 3 else q.2 + 7))) = true := by kernel_rfl
  have hall : ∀ (i : Nat) (o : Oper), (((Try.f7.body).bind (regOf 3)).getD #[])[i]? = some o → (∀ e ∈ o.after, e.on < i) ∧ o.guard = none ∧ o.dst = some (if Nat.beq i 75 then 3 else i + 7) := by
    intro i o ho
    have hm : (o, i) ∈ (((Try.f7.body).bind (regOf 3)).getD #[]).toList.zipIdx := by
      rw [List.mem_zipIdx_iff_getElem?]
      simpa using ho
    have := List.all_eq_true.1 hz _ hm
    simp only [Bool.and_eq_true, List.all_eq_true] at this
    obtain ⟨⟨h1, h2⟩, h3⟩ := this
    refine ⟨fun e he => ?_, by simpa using h2, by simpa using h3⟩
    have h4 := h1 e (by simpa using he)
    exact Nat.lt_of_succ_le (Nat.le_of_ble_eq_true h4)
  refine region_tab (F := F3 p) (G := G3) (by kernel_rfl) vs0 rfl G3_mono (fun i o ho => (hall i o ho).1) (fun i o ho => (hall i o ho).2.1) (fun i o vs v ho => ?_) (fun i o vs w' ho t hv K hK => ?_) (fun vs w' t hv => hdone vs w' t (hv 75 (by rw [hn]; decide)))
  · rw [(hall i o ho).2.2]
    have hi := isSome_of ho
    rw [hn] at hi
    exact (hput3 p vs v).get i hi
  · have hi := isSome_of ho
    rw [hn] at hi
    refine all3.get i hi o (by unfold Is3; simpa using ho) p vs w' (fun j hj => ?_) K Q hK
    obtain ⟨e, he, h2⟩ := List.any_eq_true.1 hj
    simp only [Bool.and_eq_true] at h2
    have := hv e (by simpa using he) h2.2
    rw [Nat.eq_of_beq_eq_true h2.1] at this
    exact this

set_option maxRecDepth 100000 in
set_option maxHeartbeats 8000000 in
theorem known_any (w : World) : Calls Try.prog 7 #[] w fun e w' => e = .returned (.bool true) ∧ Turn No w w' := by
  have CW := Lib.hid wakes_any
  have C1 := Lib.hid (so_new (Turn.refl No w) none 0 [] ⟨rfl, by decide, Row.nil _ _, by simp, fun _ => rfl⟩ (by decide))
  simp only [List.length_nil] at C1
  go_enter Try.func7, Try.ntmps7
  go_upto_region 2 with (go_at_call 11; refine C1.out.mono ?_; rintro e w1 ⟨mb, rb, rfl, hso, ht⟩; have H1 : Hid (So w w1 mb (some rb) []) := Lib.hid hso; clear hso ht)
  clear C1
  go_upto_region 3 with fail
  go_cut [3] from 7 to 82 (fun s wx => ∃ wb zb rb2, s = .slice (some ⟨rb2, 0, none⟩) 19 19 ∧ Hid (Kw w wx mb (some rb) wb zb rb2))
  case first =>
    show Code.wp Try.prog _ _ (F3 (.pointer (some ⟨mb, 0, none⟩)) (fun _ => undef)) _
    refine reg3 _ ?_ (fun _ => undef) (fun vs wx t hg => ?_)
    rfl
    obtain ⟨wb, zb, rb2, hv, k1, k2, k3⟩ := (show ∃ wb zb rb, vs 75 = .slice (some ⟨rb, 0, none⟩) 19 19 ∧ At wx wb (.cells (wcs kw3).toArray 46 (0, 0)) ∧ At wx zb (.cells (wcs kw9).toArray 46 (0, 0)) ∧ At wx rb (.cells (kcs (krs wb zb)).toArray 52 (0, 0)) from hg)
    dsimp only [F3]
    rw [hv]
    go_wp2_with fail
    go_meet
    exact ⟨wb, zb, rb2, rfl, Lib.hid ⟨H1.out.no t, k1, k2, k3⟩⟩
  case rest =>
    obtain ⟨rb1, hrb1⟩ : ∃ r, some rb = r := ⟨_, rfl⟩
    rw [hrb1] at hcut
    obtain ⟨wb, zb, rb2, rfl, HK2⟩ := hcut
    have H7 : Hid (∃ r', So w wc mb r' (kst wb zb 0) ∧ At wc wb (.cells (wcs kw3).toArray 46 (0, 0)) ∧ At wc zb (.cells (wcs kw9).toArray 46 (0, 0)) ∧ At wc rb2 (.cells (kcs (krs wb zb)).toArray 52 (0, 0))) := Lib.hid ⟨rb1, HK2.out.so, HK2.out.h3, HK2.out.h9, HK2.out.hr⟩
    clear HK2
    go_wp2_with fail
    go_loopw [4] (fun x wr => ∃ j : Nat, j ≤ 19 ∧ x = .int .i64 (j : Int) ∧ Hid (∃ r', So w wr mb r' (kst wb zb j) ∧ At wr wb (.cells (wcs kw3).toArray 46 (0, 0)) ∧ At wr zb (.cells (wcs kw9).toArray 46 (0, 0)) ∧ At wr rb2 (.cells (kcs (krs wb zb)).toArray 52 (0, 0)))) (fun x _ => 19 - (RowKit.intOf x).toNat)
    case atStart => exact ⟨0, by decide, rfl, H7⟩
    case round =>
      obtain ⟨j, hj19, rfl, HP⟩ := hrel
      clear H7
      obtain ⟨r', hso, h3, h9, hr⟩ := HP.out
      have HS := Lib.hid (And.intro hso (And.intro h3 (And.intro h9 hr)))
      clear hso h3 h9 hr HP
      by_cases hlt : j < 19
      · obtain ⟨x, hx⟩ : ∃ x, (krs wb zb)[j]? = some x := ⟨(krs wb zb)[j]'(by show j < 19; exact hlt), List.getElem?_eq_getElem _⟩
        have C := Lib.hid (kno_do (HS.out.1.no (Turn.refl No wr).drew) (HS.out.2.1.no (Turn.refl No wr).drew) (HS.out.2.2.1.no (Turn.refl No wr).drew) hx)
        have hSn : Hid (∀ W, At W rb2 (.cells (kcs (krs wb zb)).toArray 52 (0, 0)) → KC W rb2 j x) := Lib.hid fun W h => kc_of h hx
        have hlen := (kok_at hx).len
        have HX := Lib.hid (kst_next hx)
        obtain ⟨⟨kd, k1, v1, o1, h1, f1, A1, ln, c1⟩, ws, ⟨ac, af, ak, av⟩⟩ := x
        unfold KC at hSn
        simp only at C hSn hlen HX
        rw [hlen] at C
        have tt0 : Turn No wr wr.drew := (Turn.refl No wr).drew
        have hS0 : wr.drew.cell? ⟨rb2, j * 11, none⟩ = some (.int .u8 kd) ∧ wr.drew.cell? ⟨rb2, j * 11 + 1, none⟩ = some (.string k1) ∧ wr.drew.cell? ⟨rb2, j * 11 + 2, none⟩ = some (.string v1) ∧ wr.drew.cell? ⟨rb2, j * 11 + 3, none⟩ = some (.string o1) ∧ wr.drew.cell? ⟨rb2, j * 11 + 4, none⟩ = some (.bool h1) ∧ wr.drew.cell? ⟨rb2, j * 11 + 5, none⟩ = some (.bool f1) ∧ wr.drew.cell? ⟨rb2, j * 11 + 6, none⟩ = some (.slice A1 ln c1) ∧ wr.drew.cell? ⟨rb2, j * 11 + 7, none⟩ = some (.int .i64 ac) ∧ wr.drew.cell? ⟨rb2, j * 11 + 8, none⟩ = some (.bool af) ∧ wr.drew.cell? ⟨rb2, j * 11 + 9, none⟩ = some (.string ak) ∧ wr.drew.cell? ⟨rb2, j * 11 + 10, none⟩ = some (.string av) := hSn.out wr.drew (HS.out.2.2.2.no tt0)
        have qn := fun W => neq_ans ac ac af af ak ak av av W
        rw [ansEq_same] at qn
        have hq1 : (0 : Int) ≤ (j : Int) := by omega
        have hq2 : (j : Int) < 19 := by omega
        clear hx hlen
        go_wp2_with fail
        go_region_held3 (fun W => W.cell? ⟨rb2, j * 11, none⟩ = some (.int .u8 kd) ∧ W.cell? ⟨rb2, j * 11 + 1, none⟩ = some (.string k1) ∧ W.cell? ⟨rb2, j * 11 + 2, none⟩ = some (.string v1) ∧ W.cell? ⟨rb2, j * 11 + 3, none⟩ = some (.string o1) ∧ W.cell? ⟨rb2, j * 11 + 4, none⟩ = some (.bool h1) ∧ W.cell? ⟨rb2, j * 11 + 5, none⟩ = some (.bool f1) ∧ W.cell? ⟨rb2, j * 11 + 6, none⟩ = some (.slice A1 ln c1) ∧ W.cell? ⟨rb2, j * 11 + 7, none⟩ = some (.int .i64 ac) ∧ W.cell? ⟨rb2, j * 11 + 8, none⟩ = some (.bool af) ∧ W.cell? ⟨rb2, j * 11 + 9, none⟩ = some (.string ak) ∧ W.cell? ⟨rb2, j * 11 + 10, none⟩ = some (.string av)) (first | (with_reducible exact hS0) | (with_reducible exact hSn.out _ H9.out.2.2.2)) (first | (go_at_call 16; (with_reducible refine C.out.mono ?_); rintro e w9 ⟨rfl, r2, hso, ht⟩; have H9 : Hid (So w w9 mb r2 (kst wb zb (j + 1)) ∧ At w9 wb (.cells (wcs kw3).toArray 46 (0, 0)) ∧ At w9 zb (.cells (wcs kw9).toArray 46 (0, 0)) ∧ At w9 rb2 (.cells (kcs (krs wb zb)).toArray 52 (0, 0))) := Lib.hid ⟨by rw [HX.out]; exact hso, (HS.out.1.no tt0).a.keep (HS.out.2.1.no tt0) (by decide) (by decide) ht, (HS.out.1.no tt0).a.keep (HS.out.2.2.1.no tt0) (by decide) (by decide) ht, (HS.out.1.no tt0).a.keep (HS.out.2.2.2.no tt0) (by decide) (by decide) ht⟩; clear hso ht))
        go_wp2_with fail
        exact ⟨⟨j + 1, by omega, by go_num, Lib.hid ⟨_, H9.out⟩⟩, by simp [RowKit.intOf]; omega⟩
      · obtain rfl : j = 19 := by omega
        have hso := HS.out.1
        rw [kend] at hso
        have CA := Lib.hid (all_any hso.a)
        have HT := Lib.hid hso
        clear hso HS
        go_upto_region 10 with (go_at_call 14; refine CA.out.mono ?_; rintro e w9 ⟨b, rfl, ho, ht⟩; have H9 := Lib.hid (And.intro (HT.out.no ht) (row_of_own ho)); clear ho ht)
        have CL := Lib.hid (len_any H9.out.1.a)
        have y0 := (H9.out.2.at0 (j := 0) rfl).1
        have y1 := (H9.out.2.at0 (j := 0) rfl).2
        have y2 := (H9.out.2.at0 (j := 1) rfl).1
        have y3 := (H9.out.2.at0 (j := 1) rfl).2
        simp only [Nat.zero_mul, Nat.one_mul, Nat.zero_add, List.length_cons, List.length_nil] at y0 y1 y2 y3 CL ⊢
        have q1 : ∀ W, (binOp .eql 50 (.agg #[.string ⟨#[99]⟩, .string ⟨#[53]⟩]) (.agg #[.string ⟨#[99]⟩, .string ⟨#[53]⟩])).run Try.prog W = .ok (.bool true) W := fun W => by have := eql_pr ⟨#[99]⟩ ⟨#[99]⟩ ⟨#[53]⟩ ⟨#[53]⟩ W; simpa [prEq] using this
        have q2 : ∀ W, (binOp .eql 50 (.agg #[.string ⟨#[100]⟩, .string ⟨#[56]⟩]) (.agg #[.string ⟨#[100]⟩, .string ⟨#[56]⟩])).run Try.prog W = .ok (.bool true) W := fun W => by have := eql_pr ⟨#[100]⟩ ⟨#[100]⟩ ⟨#[56]⟩ ⟨#[56]⟩ W; simpa [prEq] using this
        go_wp2_with (first | (go_at_call 20; (with_reducible refine CL.out.mono ?_); rintro e w8 ⟨rfl, hw⟩; subst hw) | (go_at_call 10; refine (CW.out _).mono ?_; rintro e w7 ⟨rfl, ht⟩))
        go_ret
        exact ⟨rfl, H9.out.1.tu.trans ht⟩
end Go.Proofs.Ytjjmooegpoeomaa
