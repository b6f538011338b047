/-
  The document's Witness.
-/
import Derived.Test.YtllppkfeiifklaaJ39
import Derived.Test.YtllppkfeiifklaaJ41
import Derived.Test.YtllppkfeiifklaaJ30
namespace Go.Proofs.Ytllppkfeiifklaa
open Go.RowKit Go.Lib
set_option linter.unusedVariables false
set_option maxRecDepth 20000
set_option linter.unusedSimpArgs false

/-- A row of operations of one's own. -/
structure Od (w wr : World) (L : List Opx) (B : Option Addr) (c : Nat) : Prop where
  tu : Turn No w wr
  row : wr.ownsRow w.heap.size 34 7 (.slice B L.length c) L.length (ocs L)
section
variable {w wr w2 : World} {L : List Opx} {B : Option Addr} {c : Nat}
theorem Od.no (h : Od w wr L B c) (t : Turn No wr w2) : Od w w2 L B c := ⟨h.tu.trans t, own_grown h.row t fun _ _ h => h⟩
theorem Od.app (h : Od w wr L B c) (hn : L.length ≤ 1000) (x : Opx) :
    ∃ B' c' w', AppRun 29 29 (.slice B L.length c) (.slice (some ⟨wr.heap.size, 0, none⟩) 1 1) (.slice B' (L.length + 1) c') (wr.alloc (.cells x.cs.toArray 34)) w' ∧ Od w w' (L ++ [x]) B' c' ∧ Turn (fun i => (Value.slice B L.length c).ownBlock = some i) (wr.alloc (.cells x.cs.toArray 34)) w' := by
  have h2 := h.no ((Turn.refl No wr).alloc (.cells x.cs.toArray 34))
  have hn2 := At.new wr (.cells x.cs.toArray 34)
  obtain ⟨B', c', w', q, ho, ht2, hB⟩ := app_gen Try.underlying29 infw34 rfl (by decide) (by decide) h2.row ⟨wr.heap.size, 0, none⟩ 1 1 x.cs rfl
    (fun j u hj => by rw [Addr.add_lit, Nat.zero_add, hn2.cell]; simpa using hj) (one_op x) (by omega) h2.tu.size 29
  refine ⟨B', c', w', q, ⟨h2.tu.then ht2 (fun i hi hb => ?_), ?_⟩, ht2⟩
  · rw [own_ablk] at hb
    have := (own_at h2.row hb).1
    omega
  · rw [List.length_append, ocs_append]
    have e1 : ocs [x] = x.cs := by simp [ocs]
    rw [e1]
    exact ho
end
theorem own_typed2 {w : World} {Z Z2 n n2 : Nat} {t t2 : TypeId} {s s2 : Nat} {v : Value} {B : Option Addr} {c k : Nat} {xs ys : List Value} (h : w.ownsRow Z t s (.slice B n c) n xs) (h2 : w.ownsRow Z2 t2 s2 v n2 ys) (ht : t ≠ t2) (hk : v.ownBlock = some k) : ¬ (Value.slice B n c).ownBlock = some k := fun e => by
  rw [own_ablk] at e
  obtain ⟨_, cur, hc⟩ := own_at h e
  rcases h2.2 with ⟨hv0, _⟩ | ⟨g', c', cur', hv0, _, hg', _⟩
  · rw [hv0] at hk; cases hk
  · rw [hv0] at hk
    injection hk with hk
    subst hk
    have := hc.eq hg'
    injection this with _ e2 _
    exact ht e2
theorem ics_get2 {w : World} {B : Option Addr} {I : List Int} (h : Row w B (ics I)) {j : Nat} {i : Int} (hj : I[j]? = some i) : ∃ b o, B = some ⟨b, o, none⟩ ∧ w.cell? ⟨b, o + j, none⟩ = some (.int .i64 i) := by
  obtain ⟨b, o, hA, _, hc⟩ := h j _ (ics_at hj)
  exact ⟨b, o, hA, hc⟩
def dW (l : List Ev) (n : Nat) : List Opx := ((marks l).take n).map (stP l)
theorem dW_len {l : List Ev} {n : Nat} (h : n ≤ (marks l).length) : (dW l n).length = n := by unfold dW; rw [List.length_map, List.length_take]; omega
theorem dW_snoc {l : List Ev} {n : Nat} {id : Int} (h : (marks l)[n]? = some id) : dW l (n + 1) = dW l n ++ [stP l id] := by
  unfold dW; rw [List.take_add_one, h]; simp
/-- The marks' Ids are the witness's. -/
theorem marks_witF (l : List Ev) : ∀ n, n ≤ l.length → marks (l.take n) = (witF l n).map (·.id)
  | 0, _ => rfl
  | n + 1, hn => by
    have ih := marks_witF l n (by omega)
    obtain ⟨e, he⟩ : ∃ e, l[n]? = some e := ⟨l[n], List.getElem?_eq_getElem (by omega)⟩
    by_cases h2 : e.kind = 2
    · rw [marks_yes he h2, witF_yes he h2, List.map_append, ih]; rfl
    · rw [marks_no he h2, witF_no he h2, ih]
theorem marks_wit (l : List Ev) : marks l = (wit l).map (·.id) := by
  have := marks_witF l l.length (Nat.le_refl _)
  rwa [List.take_length] at this
set_option maxRecDepth 100000 in
set_option maxHeartbeats 16000000 in
theorem rlwitness_any (l : List Ev) (ps : List (List Wr)) (B : Option Addr) (cap2 : Nat) (w : World) (hE : InE w B cap2 l ps) :
    Calls Try.prog 14 #[.slice B l.length cap2] w fun r w' => ∃ L B c, r = .returned (.slice B L.length c) ∧ Od w w' L B c ∧ ((Right l ∧ L = dW l (marks l).length) ∨ (¬ Right l ∧ L = [])) := by
  have hll : l.length ≤ 200 := hE.few.len
  have hml : (marks l).length ≤ 200 := Nat.le_trans (marks_length l) hll
  have C31 := Lib.hid (refcheck_any l B cap2 w hE.row (by omega) hE.cap)
  have HR := Lib.hid hE
  clear hE
  go_enter Try.func14, Try.ntmps14
  go_upto_if 17 with (go_at_call 32; refine C31.out.mono ?_; rintro e w1 ⟨at_, code, rfl, hc, ht⟩; have H1 := Lib.hid (And.intro hc ht); clear hc ht)
  clear C31
  by_cases hz : code = 0
  · subst hz
    have hrt : Right l := by
      rcases H1.out.1 with ⟨h, _⟩ | ⟨n, _, _, h⟩
      · exact h
      · cases h
    have HRT := Lib.hid hrt
    clear hrt
    have C38 := Lib.hid (refmarks_any l B cap2 w1 (HR.out.row.no H1.out.2) (by omega))
    obtain ⟨M, hM⟩ : ∃ M, marks l = M := ⟨_, rfl⟩
    have HM := Lib.hid hM
    rw [hM] at C38 hml
    clear hM
    go_upto_region 6 with (go_at_call 38; refine C38.out.mono ?_; rintro e w3 ⟨Bm, cm, rfl, hi⟩; have H3 := Lib.hid hi; clear hi)
    have HL0 : Hid (Od w w3 (dW l 0) none 0 ∧ w3.ownsRow w.heap.size 3 1 (.slice Bm M.length cm) M.length (ics M)) := Lib.hid ⟨⟨H1.out.2.trans H3.out.tu, World.ownsRow_nil _ _ _ _⟩, H3.out.row.mono H1.out.2.size⟩
    clear C38 H3 H1
    go_wp2_with fail
    go_loopw [5, 7] (fun s x wr => ∃ (i : Nat) (B : Option Addr) (c : Nat), i ≤ M.length ∧ x = .int .i64 (i : Int) ∧ s = .slice B i c ∧ Hid (Od w wr (dW l i) B c ∧ wr.ownsRow w.heap.size 3 1 (.slice Bm M.length cm) M.length (ics M))) (fun _ x _ => M.length - (RowKit.intOf x).toNat)
    case atStart => exact ⟨0, none, 0, Nat.zero_le _, rfl, rfl, HL0⟩
    case round =>
      obtain ⟨i, Bo, co, hi, rfl, rfl, HP⟩ := hrel
      clear HL0
      have hdl : (dW l i).length = i := dW_len (by rw [HM.out]; exact hi)
      have HDL := Lib.hid hdl
      clear hdl
      by_cases hlt : i < M.length
      · obtain ⟨id, hid⟩ : ∃ t, M[i]? = some t := ⟨M[i], List.getElem?_eq_getElem hlt⟩
        have HID : Hid (dW l (i + 1) = dW l i ++ [stP l id]) := Lib.hid (dW_snoc (by rw [HM.out]; exact hid))
        obtain ⟨b, off, hA, x0⟩ := ics_get2 (row_of_own HP.out.2) hid
        have hin := HR.out.no HP.out.1.tu
        have C35 := Lib.hid (refstate_at id l ps B cap2 wr hin.row hin.rws (by omega))
        obtain ⟨sp, hsp⟩ : ∃ a, stP l id = a := ⟨_, rfl⟩
        rw [hsp] at HID C35
        obtain ⟨sa, hsa⟩ : ∃ a, stA l id = a := ⟨_, rfl⟩
        rw [hsa] at C35
        obtain ⟨sk, s1, s2, s3, s4, s5, sA, sl, sc⟩ := sp
        obtain ⟨code, found, ak, av⟩ := sa
        subst hA
        clear hin hsp hsa hid
        have hq1 : (0 : Int) ≤ (i : Int) := by omega
        have hq2 : (i : Int) < (M.length : Int) := by omega
        go_upto_region 10 with (go_at_call 35; refine C35.out.mono ?_; rintro e2 w5 ⟨o, rfl, ht, ⟨_, rfl⟩, hrow⟩; have H5 := Lib.hid (And.intro (HP.out.1.no ht) (own_grown HP.out.2 ht (fun _ _ h => h))); clear ht hrow; simp only [Opx.valH, Ans.valH])
        clear C35 x0
        have H6 : Hid (Od w ((w5.alloc (.cells #[.int .u8 sk, .string s1, .string s2, .string s3, .bool s4, .bool s5, .slice sA sl sc] 34)).alloc (.cells #[.int .i64 code, .bool found, .string ak, .string av] 38)) (dW l i) Bo co ∧ ((w5.alloc (.cells #[.int .u8 sk, .string s1, .string s2, .string s3, .bool s4, .bool s5, .slice sA sl sc] 34)).alloc (.cells #[.int .i64 code, .bool found, .string ak, .string av] 38)).ownsRow w.heap.size 3 1 (.slice (some ⟨b, off, none⟩) M.length cm) M.length (ics M) ∧ At ((w5.alloc (.cells #[.int .u8 sk, .string s1, .string s2, .string s3, .bool s4, .bool s5, .slice sA sl sc] 34)).alloc (.cells #[.int .i64 code, .bool found, .string ak, .string av] 38)) w5.heap.size (.cells #[.int .u8 sk, .string s1, .string s2, .string s3, .bool s4, .bool s5, .slice sA sl sc] 34 (0, 0))) := Lib.hid (by
          have t2 : Turn No w5 ((w5.alloc (.cells #[.int .u8 sk, .string s1, .string s2, .string s3, .bool s4, .bool s5, .slice sA sl sc] 34)).alloc (.cells #[.int .i64 code, .bool found, .string ak, .string av] 38)) := ((Turn.refl _ _).alloc _).alloc _
          exact ⟨H5.out.1.no t2, own_grown H5.out.2 t2 (fun _ _ h => h), (At.new _ _).no ((Turn.refl _ _).alloc _)⟩)
        clear H5 HP
        generalize (w5.alloc (.cells #[.int .u8 sk, .string s1, .string s2, .string s3, .bool s4, .bool s5, .slice sA sl sc] 34)).alloc (.cells #[.int .i64 code, .bool found, .string ak, .string av] 38) = w6 at H6 ⊢
        generalize w5.heap.size = g at H6 ⊢
        have y0 := H6.out.2.2.cell 0
        have y1 := H6.out.2.2.cell 1
        have y2 := H6.out.2.2.cell 2
        have y3 := H6.out.2.2.cell 3
        have y4 := H6.out.2.2.cell 4
        have y5 := H6.out.2.2.cell 5
        have y6 := H6.out.2.2.cell 6
        simp at y0 y1 y2 y3 y4 y5 y6
        obtain ⟨B9, c9, w9, q, hq⟩ := H6.out.1.app (by have := HDL.out; omega) ⟨sk, s1, s2, s3, s4, s5, sA, sl, sc⟩
        have HQ : Hid (Od w w9 (dW l (i + 1)) B9 c9 ∧ w9.ownsRow w.heap.size 3 1 (.slice (some ⟨b, off, none⟩) M.length cm) M.length (ics M)) := Lib.hid ⟨by rw [HID.out]; exact hq.1, by
          have h7 := own_grown H6.out.2.1 ((Turn.refl No w6).alloc (.cells (Opx.cs ⟨sk, s1, s2, s3, s4, s5, sA, sl, sc⟩).toArray 34)) (fun _ _ h => h)
          have h8 := (H6.out.1.no ((Turn.refl No w6).alloc (.cells (Opx.cs ⟨sk, s1, s2, s3, s4, s5, sA, sl, sc⟩).toArray 34))).row
          exact own_grown h7 hq.2 fun k hk => own_typed2 h8 h7 (by decide) hk⟩
        clear hq
        rw [HDL.out] at q
        simp only [Opx.cs] at q
        go_wp2_with (at_builtin; refine wpList_append_run rfl _ _ 29 rfl _ _ _ rfl rfl q ?_)
        exact ⟨⟨i + 1, B9, c9, by omega, by go_num, rfl, HQ⟩, by simp [RowKit.intOf]; omega⟩
      · obtain rfl : i = M.length := by omega
        go_wp2_with fail
        go_ret
        exact ⟨_, Bo, co, by rw [HDL.out]; rfl, HP.out.1, .inl ⟨HRT.out, by rw [HM.out]⟩⟩
  · have hz1 : (code == 0) = false := by simpa using hz
    have hz2 : (code != 0) = true := by simpa using hz
    have HNR : Hid (¬ Right l) := Lib.hid fun hr => hz ((H1.out.1.of_right hr).2)
    clear hz
    go_wp2_with fail
    go_ret
    exact ⟨[], none, 0, rfl, ⟨H1.out.2, World.ownsRow_nil _ _ _ _⟩, .inr ⟨HNR.out, rfl⟩⟩
end Go.Proofs.Ytllppkfeiifklaa
