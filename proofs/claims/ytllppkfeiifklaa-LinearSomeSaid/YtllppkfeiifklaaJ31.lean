/-
  linear.witness: the operations that have taken effect, in the marks' row.
  hadNoRoom: an answer that is no more than ErrFull or ErrBusy.
-/
import Derived.Test.YtllppkfeiifklaaJ30
import Derived.Test.YtllppkfeiifklaaJ19
import Derived.Test.YtllppkfeiifklaaJ25
import Derived.Test.YtllppkfeiifklaaJ22
import Derived.Test.YtllppkfeiifklaaJ8
namespace Go.Proofs.Ytllppkfeiifklaa
open Go.RowKit Go.Lib Go.Maps
set_option linter.unusedVariables false
set_option maxRecDepth 20000
set_option linter.unusedSimpArgs false

theorem u99 : Try.prog.underlying 99 = some (.map 3 34) := Try.underlying99
theorem zero34 (w : World) : (zeroValue 34).run Try.prog w = .ok op00.valH w := by rfl
theorem infw56 : (Try.prog.info? 56).map (fun i => (i.zero, i.size, i.bytes)) = some (some (.agg #[.int .i64 0, .int .u8 0, .string ⟨#[]⟩, .string ⟨#[]⟩, .string ⟨#[]⟩, .bool false, .bool false, .slice none 0 0, .int .i64 0, .bool false, .string ⟨#[]⟩, .string ⟨#[]⟩]), 12, 144) := by kernel_rfl
theorem info56 : (Try.prog.info? 56).map (·.size) = some 12 := by kernel_rfl
/-- In witness: the map of what is asked, and what has taken effect. -/
structure Wn (w wr : World) (mb : Nat) (l : List Ev) (k : Nat) (B : Option Addr) (c : Nat) : Prop where
  tu : Turn No w wr
  old : w.heap.size ≤ mb
  mp : ∃ n, n ≤ k ∧ IMap Try.prog 3 wr mb (askF l k) n
  row : wr.ownsRow w.heap.size 56 12 (.slice B (witF l k).length c) (witF l k).length (tcs (witF l k))
section
variable {w wr w2 : World} {mb k c : Nat} {l : List Ev} {B : Option Addr}
theorem Wn.no (h : Wn w wr mb l k B c) (t : Turn No wr w2) : Wn w w2 mb l k B c := by
  obtain ⟨n, hn, hI⟩ := h.mp
  exact ⟨h.tu.trans t, h.old, ⟨n, hn, hI.turn t fun h => h⟩, own_grown h.row t fun _ _ h => h⟩
theorem Wn.ask (h : Wn w wr mb l k B c) (hr : Right l) (hk : k < 1000000) {e : Ev} (he : l[k]? = some e) (h1 : e.kind = 1) (hi : In64 e.id) :
    ∃ w2, (Instr.mapUpdate 99 (.map (some mb)) (.int .i64 e.id) e.op.valH).run Try.prog wr = .ok () w2 ∧ Wn w w2 mb l (k + 1) B c := by
  obtain ⟨n, hn, hI⟩ := h.mp
  obtain ⟨w2, q, hI', t⟩ := hI.store law3 Try.underlying3 u99 (by omega) (wf64 hi.1 hi.2) e.op.valH
  refine ⟨w2, q, h.tu.then t (fun i hi e => by have := h.old; omega), h.old, ⟨_, ?_, IMap.congr (fun i => (askF_begun hr he h1 i).symm) hI'⟩, ?_⟩
  · split <;> omega
  · rw [witF_no he (by omega)]
    refine own_grown h.row t fun j hj e => ?_
    subst e
    obtain ⟨es, cl, hb⟩ := hI.obj
    rcases h.row.2 with ⟨hv, _⟩ | ⟨g', c', cur, hv, _, hg', _⟩
    · rw [hv] at hj; cases hj
    · rw [hv] at hj
      injection hj with hj
      subst hj
      have := hb.eq hg'
      cases this
theorem Wn.look (h : Wn w wr mb l k B c) (hr : Right l) {e : Ev} (he : l[k]? = some e) (h2 : e.kind = 2) (hi : In64 e.id) : (Instr.lookup 99 (.map (some mb)) (.int .i64 e.id) false).run Try.prog wr = .ok (stP l e.id).valH wr := by
  obtain ⟨n, hn, hI⟩ := h.mp
  rw [hI.look1 law3 Try.underlying3 u99 (zero34 wr) (wf64 hi.1 hi.2), askF_mark hr he h2]
theorem Wn.app (h : Wn w wr mb l k B c) (hk : k < 1000000) {e : Ev} (he : l[k]? = some e) (h2 : e.kind = 2) :
    ∃ B' c' w', AppRun 53 53 (.slice B (witF l k).length c) (.slice (some ⟨wr.heap.size, 0, none⟩) 1 1) (.slice B' ((witF l k).length + 1) c') (wr.alloc (.cells (Tk.cs ⟨k, e.id, stP l e.id, e.an⟩).toArray 56)) w' ∧ Wn w w' mb l (k + 1) B' c' := by
  have h2' := h.no ((Turn.refl No wr).alloc (.cells (Tk.cs ⟨k, e.id, stP l e.id, e.an⟩).toArray 56))
  have hn := At.new wr (.cells (Tk.cs ⟨k, e.id, stP l e.id, e.an⟩).toArray 56)
  have hlen := witF_length l k
  obtain ⟨B', c', w', q, ho, ht, hB⟩ := app_gen Try.underlying53 infw56 rfl (by decide) (by decide) h2'.row ⟨wr.heap.size, 0, none⟩ 1 1 (Tk.cs ⟨k, e.id, stP l e.id, e.an⟩) rfl
    (fun j u hj => by rw [Addr.add_lit, Nat.zero_add, hn.cell]; simpa using hj) (by
      intro u hu
      simp only [Tk.cs, List.mem_cons, List.mem_append] at hu
      rcases hu with rfl | hu | hu
      · rfl
      · exact one_op _ u hu
      · exact one_an _ u hu) (by omega) h2'.tu.size 53
  have hX : ∀ i, (ablk B = some i) → wr.heap.size ≤ i ∨ ∃ cur, At wr i (.cells cur 56 (0, 0)) := fun i hi => .inr (own_at h.row hi).2
  refine ⟨B', c', w', q, h2'.tu.then ht (fun i hi hb => ?_), h.old, ?_, ?_⟩
  · rw [own_ablk] at hb
    have := (own_at h2'.row hb).1
    omega
  · obtain ⟨n, hn2, hI⟩ := h2'.mp
    refine ⟨n, by omega, IMap.congr (fun i => (askF_other he (by omega) i).symm) (hI.turn ht fun hb => ?_)⟩
    rw [own_ablk] at hb
    obtain ⟨cur, hc⟩ := (own_at h2'.row hb).2
    obtain ⟨es, cl, hb2⟩ := hI.obj
    cases hb2.eq hc
  · rw [witF_yes he h2, List.length_append, tcs_append]
    have e1 : tcs [⟨k, e.id, stP l e.id, e.an⟩] = Tk.cs ⟨k, e.id, stP l e.id, e.an⟩ := by simp [tcs]
    rw [e1]
    exact ho
theorem Wn.skip (h : Wn w wr mb l k B c) {e : Ev} (he : l[k]? = some e) (h1 : ¬ e.kind = 1) (h2 : ¬ e.kind = 2) : Wn w wr mb l (k + 1) B c := by
  obtain ⟨n, hn, hI⟩ := h.mp
  refine ⟨h.tu, h.old, ⟨n, by omega, IMap.congr (fun i => (askF_other he h1 i).symm) hI⟩, ?_⟩
  rw [witF_no he h2]
  exact h.row
end
set_option maxHeartbeats 4000000 in
theorem wit_any (l : List Ev) (hr : Right l) (A : Option Addr) (cap : Nat) (w : World) (hR : Row w A (ecs l)) (hid : ∀ e ∈ l, In64 e.id) (hl : l.length ≤ 100000) :
    Calls Try.prog 29 #[.slice A l.length cap] w fun r w' => ∃ B c, r = .returned (.slice B (wit l).length c) ∧ w'.ownsRow w.heap.size 56 12 (.slice B (wit l).length c) (wit l).length (tcs (wit l)) ∧ Turn No w w' := by
  have HL := Lib.hid (And.intro hR (And.intro hid hr))
  have hC0 : Hid (Wn w (w.alloc (.map #[] 0)) w.heap.size l 0 none 0) := Lib.hid ⟨(Turn.refl _ _).alloc _, Nat.le_refl _, ⟨0, Nat.le_refl _, IMap.congr (fun i => (askF_zero l i).symm) (IMap.made Try.prog 3 w)⟩, World.ownsRow_nil _ _ _ _⟩
  have hmm := @run_makeMap Try.prog
  clear hR hid hr
  go_enter Try.func29, Try.ntmps29
  go_upto_region 2 with (fail)
  generalize w.alloc (.map #[] 0) = w1 at hC0 ⊢
  obtain ⟨mb, hmb⟩ : ∃ mb, w.heap.size = mb := ⟨_, rfl⟩
  have HB := Lib.hid hmb
  rw [hmb] at hC0 ⊢
  clear hmb hmm
  go_wp2_with fail
  go_loopw [4, 10] (fun s i wr => ∃ (kk : Nat) (B : Option Addr) (c : Nat), kk ≤ l.length ∧ i = .int .i64 (kk : Int) ∧ s = .slice B (witF l kk).length c ∧ Hid (Wn w wr mb l kk B c)) (fun _ i _ => l.length - (RowKit.intOf i).toNat)
  case atStart => exact ⟨0, none, 0, Nat.zero_le _, rfl, rfl, hC0⟩
  case round =>
    obtain ⟨kk, B, c, hm, rfl, rfl, HP⟩ := hrel
    clear hC0
    by_cases hlt : kk < l.length
    · obtain ⟨e, he⟩ : ∃ e, l[kk]? = some e := ⟨l[kk], List.getElem?_eq_getElem hlt⟩
      obtain ⟨b, off, hA, hb, hx⟩ := (HL.out.1.turn HP.out.tu fun _ _ _ h => h).range he
      have HE := Lib.hid (And.intro he (HL.out.2.1 e (List.mem_of_getElem? he)))
      have tn : Turn No wr (wr.alloc (.cells e.cs.toArray 40)) := (Turn.refl _ _).alloc _
      have HN : Hid (Wn w (wr.alloc (.cells e.cs.toArray 40)) mb l kk B c ∧ At (wr.alloc (.cells e.cs.toArray 40)) wr.heap.size (.cells e.cs.toArray 40 (0, 0))) := Lib.hid ⟨HP.out.no tn, At.new _ _⟩
      obtain ⟨kind, id, ⟨ok, k, v, o, had, aft, A0, len, cap0⟩, ⟨code, found, ak, av⟩⟩ := e
      have hr1 : wr.rangeAt b (off + kk * 13) [.int .u8 kind, .int .i64 id, .int .u8 ok, .string k, .string v, .string o, .bool had, .bool aft, .slice A0 len cap0, .int .i64 code, .bool found, .string ak, .string av] := hx
      simp only [Ev.cs, Opx.cs, Ans.cs, List.cons_append, List.nil_append] at HN
      subst hA
      clear hx tn HP hb he
      go_upto_region 6 with (refine wpList_load_mid rfl 40 _ rfl b (off + kk * 13) rfl [.int .u8 kind, .int .i64 id, .int .u8 ok, .string k, .string v, .string o, .bool had, .bool aft, .slice A0 len cap0, .int .i64 code, .bool found, .string ak, .string av] _ hr1 Try.underlying40 rfl inf34 ?_)
      clear hr1
      generalize wr.alloc (.cells #[.int .u8 kind, .int .i64 id, .int .u8 ok, .string k, .string v, .string o, .bool had, .bool aft, .slice A0 len cap0, .int .i64 code, .bool found, .string ak, .string av] 40) = w6 at HN ⊢
      generalize wr.heap.size = g at HN ⊢
      have y0 := HN.out.2.cell 0
      have y1 := HN.out.2.cell 1
      have y2 := HN.out.2.cell 2
      have y3 := HN.out.2.cell 3
      have y4 := HN.out.2.cell 4
      have y5 := HN.out.2.cell 5
      have y6 := HN.out.2.cell 6
      have y7 := HN.out.2.cell 7
      have y8 := HN.out.2.cell 8
      have y9 := HN.out.2.cell 9
      have ya := HN.out.2.cell 10
      have yb := HN.out.2.cell 11
      have yc := HN.out.2.cell 12
      simp at y0 y1 y2 y3 y4 y5 y6 y7 y8 y9 ya yb yc
      by_cases h1 : kind = 1
      · subst h1
        obtain ⟨w7, q, hW⟩ := HN.out.1.ask HL.out.2.2 (by omega) HE.out.1 rfl HE.out.2
        have HW := Lib.hid hW
        have hw0 := witF_no HE.out.1 (by show ¬ (1 : Int) = 2; decide)
        have HW0 := Lib.hid hw0
        clear hW hw0 HN
        simp only at q
        go_wp2_with fail
        exact ⟨⟨kk + 1, B, c, by omega, by go_num, by rw [HW0.out], HW⟩, by simp [RowKit.intOf]; omega⟩
      · have k1 : (kind == 1) = false := by simpa using h1
        by_cases h2 : kind = 2
        · subst h2
          clear k1 h1
          have q1 := HN.out.1.look HL.out.2.2 HE.out.1 rfl HE.out.2
          obtain ⟨B2, c2, w8, q, hW⟩ := HN.out.1.app (by omega) HE.out.1 rfl
          have HW := Lib.hid hW
          have hw0 := witF_yes HE.out.1 rfl
          have HW0 := Lib.hid hw0
          clear hW hw0 HN
          generalize stP l id = sp at q q1 HW0
          obtain ⟨sk, s1, s2, s3, s4, s5, sA, sl, sc⟩ := sp
          simp only [Tk.cs, Opx.cs, Ans.cs, List.cons_append, List.nil_append] at q
          simp only at q1
          go_wp2_with (at_builtin; refine wpList_append_run rfl _ _ 53 rfl _ _ _ rfl rfl q ?_)
          refine ⟨⟨kk + 1, B2, c2, by omega, by go_num, ?_, HW⟩, by simp [RowKit.intOf]; omega⟩
          rw [HW0.out, List.length_append]
          rfl
        · have k2 : (kind == 2) = false := by simpa using h2
          have HW := Lib.hid (HN.out.1.skip HE.out.1 h1 h2)
          have hw0 := witF_no HE.out.1 h2
          have HW0 := Lib.hid hw0
          clear HN hw0 h1 h2
          go_wp2_with fail
          exact ⟨⟨kk + 1, B, c, by omega, by go_num, by rw [HW0.out], HW⟩, by simp [RowKit.intOf]; omega⟩
    · obtain rfl : kk = l.length := by omega
      go_wp2_with fail
      go_ret
      exact ⟨B, c, rfl, HP.out.row, HP.out.tu⟩
end Go.Proofs.Ytllppkfeiifklaa
namespace Go.Proofs.Ytllppkfeiifklaa
open Go.RowKit Go.Lib
set_option linter.unusedVariables false
set_option maxRecDepth 20000
set_option linter.unusedSimpArgs false

theorem idle_eq (c : Int) (f : Bool) (k v : ByteArray) : idleA ⟨c, f, k, v⟩ = (ansEq c 5 f false k ⟨#[]⟩ v ⟨#[]⟩ || ansEq c 6 f false k ⟨#[]⟩ v ⟨#[]⟩) := by
  unfold idleA ansEq
  by_cases h5 : c = 5 <;> by_cases h6 : c = 6 <;> cases f <;> simp [h5, h6]
theorem had_any (a : Ans) (w : World) : Calls Try.prog 30 #[.agg #[.int .i64 a.code, .bool a.found, .string a.k, .string a.v]] w fun e w' => e = .returned (.bool (idleA a)) ∧ Turn No w w' := by
  obtain ⟨c, f, k, v⟩ := a
  have HB : Hid (Turn No w (w.alloc (.cells #[.int .i64 c, .bool f, .string k, .string v] 38)) ∧ At (w.alloc (.cells #[.int .i64 c, .bool f, .string k, .string v] 38)) w.heap.size (.cells #[.int .i64 c, .bool f, .string k, .string v] 38 (0, 0))) := Lib.hid ⟨(Turn.refl _ _).alloc _, At.new _ _⟩
  rw [idle_eq]
  have q5 := fun W => eql_ans c 5 f false k ⟨#[]⟩ v ⟨#[]⟩ W
  have q6 := fun W => eql_ans c 6 f false k ⟨#[]⟩ v ⟨#[]⟩ W
  generalize ansEq c 5 f false k ⟨#[]⟩ v ⟨#[]⟩ = r5 at q5 ⊢
  generalize ansEq c 6 f false k ⟨#[]⟩ v ⟨#[]⟩ = r6 at q6 ⊢
  simp only at HB ⊢
  go_enter Try.func30, Try.ntmps30
  go_upto_region 1 with fail
  generalize w.alloc (.cells #[.int .i64 c, .bool f, .string k, .string v] 38) = w1 at HB ⊢
  generalize w.heap.size = g at HB ⊢
  have y0 := HB.out.2.cell 0
  have y1 := HB.out.2.cell 1
  have y2 := HB.out.2.cell 2
  have y3 := HB.out.2.cell 3
  simp at y0 y1 y2 y3
  cases r5 with
  | true =>
    go_wp2_with fail
    go_ret
    exact ⟨rfl, HB.out.1⟩
  | false =>
    go_wp2_with fail
    go_ret
    exact ⟨rfl, HB.out.1⟩
end Go.Proofs.Ytllppkfeiifklaa
