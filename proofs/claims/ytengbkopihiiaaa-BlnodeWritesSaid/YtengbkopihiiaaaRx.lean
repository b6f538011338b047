/-
  The regions of BlnodeWrites that make a leaf of pairs anew, whatever their order.
-/
import Derived.Test.YtengbkopihiiaaaRw
import Derived.Test.YtengbkopihiiaaaWNm
namespace Go.Proofs.Ytengbkopihiiaaa
open Go.RowKit Go.Lib
set_option linter.unusedVariables false
set_option maxRecDepth 20000
set_option linter.unusedSimpArgs false

theorem wp_callL {o : Oper} {a : Act} {w : World} {K : Act → World → Prop} {Q : Exit → Act → World → Prop} (f : Nat) (xs : Array Operand) (ts : Array TypeId) (us : Array Value) (ho : o.op = .call { callee := .value (.func f), args := xs, argTypes := ts }) (hx : xs.map a.eval = us)
    {fn : Func} (hf : Try.prog.funcs[f]? = some fn) (hname : (fn.name == "runtime.NumGoroutine") = false) (hb : fn.body.isNone = false)
    (h : Calls Try.prog f us w fun e w' => ∃ v, e = .returned v ∧ K (a.put o.dst v) w') : o.wp Try.prog a w K Q := by
  have hb2 : ¬ fn.body = none := by intro e; rw [e] at hb; cases hb
  have h1 : fn.name ≠ "runtime.NumGoroutine" := by simpa using hname
  have he : (execOp a.eval o).run Try.prog w = .ok (.enter f us) w := by
    have e1 : a.eval (.func f) = .func (.func f) #[] #[] := rfl
    simp [execOp, ho, resolve, invoke, hx, e1, Deferred.ofValue, Sem.run_bind, Sem.run_pure, callFunc, hf, h1, hb2]
  unfold Oper.wp
  rw [he, Oper.upon_enter]
  refine h.mono ?_
  rintro e w' ⟨v, rfl, hk⟩
  exact hk
theorem wp_mv {P : Program} {o : Oper} {a : Act} {w : World} {K : Act → World → Prop} {Q : Exit → Act → World → Prop} {v : Value} (x : Operand) (h : o.op = .move x ∨ o.op = .assign x) (hv : a.eval x = v) (hk : K (a.put o.dst v) w) : o.wp P a w K Q := by
  subst hv
  unfold Oper.wp execOp
  rcases h with h | h <;> (rw [h]; exact hk)
/-- A row of pairs. -/
def Gp (L : List Pr) (wx : World) (v : Value) : Prop := ∃ B c, v = .slice B L.length c ∧ Row wx B (pcs L)
theorem Gp.no {L : List Pr} {wx w2 : World} {v : Value} (h : Gp L wx v) (t : Turn No wx w2) : Gp L w2 v := by
  obtain ⟨B, c, h1, h2⟩ := h
  exact ⟨B, c, h1, h2.no t⟩
/-- A node of pairs. -/
def Gn (w : World) (leaf : Bool) (D : List Hn) (high : ByteArray) (bnd : Bool) (sl ge : Int) (AD : Option Addr) (cd : Nat) (L : List Pr) (wx : World) (v : Value) : Prop :=
  ∃ A ca B cb, v = .agg #[.bool leaf, .slice A L.length ca, .slice B L.length cb, .slice AD D.length cd, .string high, .bool bnd, .int .i64 sl, .int .u64 ge] ∧ wx.ownsRow w.heap.size 9 1 (.slice A L.length ca) L.length (kcs (L.map Pr.k)) ∧ wx.ownsRow w.heap.size 9 1 (.slice B L.length cb) L.length (kcs (L.map Pr.v))
theorem Gn.no {w : World} {leaf : Bool} {D : List Hn} {high : ByteArray} {bnd : Bool} {sl ge : Int} {AD : Option Addr} {cd : Nat} {L : List Pr} {wx w2 : World} {v : Value} (h : Gn w leaf D high bnd sl ge AD cd L wx v) (t : Turn No wx w2) : Gn w leaf D high bnd sl ge AD cd L w2 v := by
  obtain ⟨A, ca, B, cb, h1, h2, h3⟩ := h
  exact ⟨A, ca, B, cb, h1, own_grown h2 t fun _ _ h => h, own_grown h3 t fun _ _ h => h⟩
/-- What stands behind the region: the block r is the node with the pairs. -/
def En (w : World) (r : Nat) (leaf : Bool) (D : List Hn) (high : ByteArray) (bnd : Bool) (sl ge : Int) (AD : Option Addr) (cd : Nat) (L : List Pr) (wx : World) : Prop :=
  Turn (fun k => k = r) w wx ∧ ∃ A ca B cb, At wx r (.cells #[.bool leaf, .slice A L.length ca, .slice B L.length cb, .slice AD D.length cd, .string high, .bool bnd, .int .i64 sl, .int .u64 ge] 29 (0, 0)) ∧ wx.ownsRow w.heap.size 9 1 (.slice A L.length ca) L.length (kcs (L.map Pr.k)) ∧ wx.ownsRow w.heap.size 9 1 (.slice B L.length cb) L.length (kcs (L.map Pr.v))
structure JP18 (w : World) (r : Nat) (N : Array Value) (leaf : Bool) (D : List Hn) (high : ByteArray) (bnd : Bool) (sl ge : Int) (AD : Option Addr) (cd : Nat) (L0 L1 : List Pr) (key val : ByteArray) (L : Nat → Bool) (b : Act) (wx : World) : Prop where
  o : L 7 = true → ∀ j, j < 7 → L j = true
  t : L 7 = false → Turn No w wx
  l0 : L 7 = false → L 0 = true → (b.eval (.tmp 102)) = .agg N
  l1 : L 7 = false → L 1 = true → (b.eval (.tmp 103)) = .agg N
  l2 : L 7 = false → L 2 = true → L 5 = false → Gp L0 wx (b.eval (.tmp 104))
  l3 : L 7 = false → L 3 = true → (b.eval (.tmp 105)) = .string key
  l4 : L 7 = false → L 4 = true → (b.eval (.tmp 106)) = .string val
  l5 : L 7 = false → L 5 = true → L 6 = false → Gp L1 wx (b.eval (.tmp 107))
  l6 : L 7 = false → L 6 = true → Gn w leaf D high bnd sl ge AD cd L1 wx (b.eval (.tmp 108))
  e : L 7 = true → En w r leaf D high bnd sl ge AD cd L1 wx
def opsP18 : Array Oper := #[{ dst := some 102, op := Go.Op.load 29 (Go.Operand.tmp 4), type := 29, pos := "law.go:175", after := #[], guard := none }, { dst := some 103, op := Go.Op.load 29 (Go.Operand.tmp 4), type := 29, pos := "law.go:175", after := #[], guard := none }, { dst := some 104, op := Go.Op.call { callee := Go.Callee.value (Go.Operand.func 31), args := #[Go.Operand.tmp 103], argTypes := #[29] }, type := 51, pos := "law.go:175", after := #[{ on := 1, ground := Go.Ground.data }], guard := none }, { dst := some 105, op := Go.Op.move (Go.Operand.tmp 1), type := 9, pos := "law.go:175", after := #[], guard := none }, { dst := some 106, op := Go.Op.move (Go.Operand.tmp 2), type := 9, pos := "law.go:175", after := #[], guard := none }, { dst := some 107, op := Go.Op.call { callee := Go.Callee.value (Go.Operand.func 33), args := #[Go.Operand.tmp 104, Go.Operand.tmp 105, Go.Operand.tmp 106], argTypes := #[51, 9, 9] }, type := 51, pos := "law.go:175", after := #[{ on := 2, ground := Go.Ground.data }, { on := 3, ground := Go.Ground.data }, { on := 4, ground := Go.Ground.data }, { on := 2, ground := Go.Ground.chain }], guard := none }, { dst := some 108, op := Go.Op.call { callee := Go.Callee.value (Go.Operand.func 32), args := #[Go.Operand.tmp 102, Go.Operand.tmp 107], argTypes := #[29, 51] }, type := 29, pos := "law.go:175", after := #[{ on := 0, ground := Go.Ground.data }, { on := 5, ground := Go.Ground.data }, { on := 5, ground := Go.Ground.chain }], guard := none }, { dst := none, op := Go.Op.store 29 (Go.Operand.tmp 20) (Go.Operand.tmp 108), type := 0, pos := "law.go:175", after := #[{ on := 6, ground := Go.Ground.data }, { on := 6, ground := Go.Ground.chain }, { on := 0, ground := Go.Ground.phase }, { on := 1, ground := Go.Ground.phase }, { on := 2, ground := Go.Ground.phase }, { on := 3, ground := Go.Ground.phase }, { on := 4, ground := Go.Ground.phase }, { on := 5, ground := Go.Ground.phase }, { on := 6, ground := Go.Ground.phase }], guard := none }]
set_option maxRecDepth 100000 in
set_option maxHeartbeats 8000000 in
theorem regP18 {Q : Exit → Act → World → Prop} {a : Act} {w : World} {r g : Nat} {leaf : Bool} {K V : List ByteArray} {D : List Hn} {high : ByteArray} {bnd : Bool} {sl ge : Int} {AK AV AD : Option Addr} {ck cv cd : Nat} {L0 L1 : List Pr} {key val : ByteArray} {old : Array Value} (h4 : a.eval (.tmp 4) = .pointer (some ⟨g, 0, none⟩)) (h1 : a.eval (.tmp 1) = .string key) (h2 : a.eval (.tmp 2) = .string val) (hr20 : a.eval (.tmp 20) = .pointer (some ⟨r, 0, none⟩)) (hA : At w g (.cells #[.bool leaf, .slice AK K.length ck, .slice AV V.length cv, .slice AD D.length cd, .string high, .bool bnd, .int .i64 sl, .int .u64 ge] 29 (0, 0))) (hR : At w r (.cells old 29 (0, 0))) (hsz8 : old.size = 8) (hL : L1.length ≤ 100000)
    (hP : ∀ W, Turn No w W → Calls Try.prog 31 #[.agg #[.bool leaf, .slice AK K.length ck, .slice AV V.length cv, .slice AD D.length cd, .string high, .bool bnd, .int .i64 sl, .int .u64 ge]] W fun e w' => ∃ B c, e = .returned (.slice B L0.length c) ∧ Ps W w' L0 B c)
    (hU : ∀ W B0 c0, Row W B0 (pcs L0) → Calls Try.prog 33 #[.slice B0 L0.length c0, .string key, .string val] W fun e w' => ∃ B c, e = .returned (.slice B L1.length c) ∧ Ps W w' L1 B c)
    (hsz : a.tmps.size = 197)
    (hQ : ∀ v102 v103 v104 v105 v106 v107 v108 (w' : World), En w r leaf D high bnd sl ge AD cd L1 w' → Q .normal (puts a [(102, v102), (103, v103), (104, v104), (105, v105), (106, v106), (107, v107), (108, v108)]) w') : (Code.region 18 opsP18 true).wp Try.prog Q a w := by
  refine region_J (by kernel_rfl) [102, 103, 104, 105, 106, 107, 108] (JP18 w r #[.bool leaf, .slice AK K.length ck, .slice AV V.length cv, .slice AD D.length cd, .string high, .bool bnd, .int .i64 sl, .int .u64 ge] leaf D high bnd sl ge AD cd L0 L1 key val) ?_ ?_ ?_ ?_
  · refine ⟨fun p => (by cases p), fun _ => (Turn.refl No w).drew, ?_, ?_, ?_, ?_, ?_, ?_, ?_, fun p => (by cases p)⟩ <;> intro p q <;> cases q
  · intro i o ho
    have hall : (opsP18.toList.zipIdx.all fun q => q.1.guard.isNone && (q.1.after.toList.all fun e => Nat.blt e.on q.2 || !Region.binds .any e) && (match q.1.dst with | none => true | some s => [102, 103, 104, 105, 106, 107, 108].contains s)) = true := by kernel_rfl
    have hm := List.all_eq_true.1 hall (o, i) (by
      rw [List.mem_iff_getElem?]
      refine ⟨i, ?_⟩
      rw [List.getElem?_zipIdx, Array.getElem?_toList, ho]
      simp)
    simp only [Bool.and_eq_true, List.all_eq_true, Option.isNone_iff_eq_none] at hm
    refine ⟨hm.1.1, fun e he hb => by have := hm.1.2 e (Array.mem_toList_iff.2 he); simpa [hb] using this, fun s hs => ?_⟩
    have := hm.2
    rw [hs] at this
    simpa using this
  · intro i o ho L a' w' hf h hLi hd K2 hK
    have hin : i < 8 := (Array.getElem?_eq_some_iff.1 ho).1
    rcases i with _ | _ | _ | _ | _ | _ | _ | _ | i
    rotate_left 8
    · omega
    · have hds : o.dst = some 102 := by (injection (show some _ = some o from ho) with e; rw [← e]; rfl)
      rw [hds] at hK
      injection (show some _ = some o from ho) with ho
      subst ho
      have hn : L 7 = false := by
        cases hx : L 7 with
        | false => rfl
        | true => have := h.o hx 0 (by decide); rw [hLi] at this; cases this
      have ht := h.t hn
      refine wp_load_row 29 _ rfl g (by show a'.eval (.tmp 4) = _; rw [hf.2.2 4 (by decide)]; exact h4) 29 _ (0, 0) _ (hA.no ht) Try.underlying29 rfl (by kernel_rfl) (hK _ _ ?_)
      exact ⟨fun p => by simp [hn] at p,
        fun _ => ht,
        fun _ _ => Act.eval_put_same _ _ _ (by rw [hf.1, hsz]; decide),
        fun p q => by have x := h.l1 hn (by simpa using q); simpa [Act.eval_put_ne] using x,
        fun p q r => by have x := h.l2 hn (by simpa using q) (by simpa using r); replace x := x; simpa [Act.eval_put_ne] using x,
        fun p q => by have x := h.l3 hn (by simpa using q); simpa [Act.eval_put_ne] using x,
        fun p q => by have x := h.l4 hn (by simpa using q); simpa [Act.eval_put_ne] using x,
        fun p q r => by have x := h.l5 hn (by simpa using q) (by simpa using r); replace x := x; simpa [Act.eval_put_ne] using x,
        fun p q => by have x := h.l6 hn (by simpa using q); replace x := x; simpa [Act.eval_put_ne] using x,
        fun p => by simp [hn] at p⟩
    · have hds : o.dst = some 103 := by (injection (show some _ = some o from ho) with e; rw [← e]; rfl)
      rw [hds] at hK
      injection (show some _ = some o from ho) with ho
      subst ho
      have hn : L 7 = false := by
        cases hx : L 7 with
        | false => rfl
        | true => have := h.o hx 1 (by decide); rw [hLi] at this; cases this
      have ht := h.t hn
      refine wp_load_row 29 _ rfl g (by show a'.eval (.tmp 4) = _; rw [hf.2.2 4 (by decide)]; exact h4) 29 _ (0, 0) _ (hA.no ht) Try.underlying29 rfl (by kernel_rfl) (hK _ _ ?_)
      exact ⟨fun p => by simp [hn] at p,
        fun _ => ht,
        fun p q => by have x := h.l0 hn (by simpa using q); simpa [Act.eval_put_ne] using x,
        fun _ _ => Act.eval_put_same _ _ _ (by rw [hf.1, hsz]; decide),
        fun p q r => by have x := h.l2 hn (by simpa using q) (by simpa using r); replace x := x; simpa [Act.eval_put_ne] using x,
        fun p q => by have x := h.l3 hn (by simpa using q); simpa [Act.eval_put_ne] using x,
        fun p q => by have x := h.l4 hn (by simpa using q); simpa [Act.eval_put_ne] using x,
        fun p q r => by have x := h.l5 hn (by simpa using q) (by simpa using r); replace x := x; simpa [Act.eval_put_ne] using x,
        fun p q => by have x := h.l6 hn (by simpa using q); replace x := x; simpa [Act.eval_put_ne] using x,
        fun p => by simp [hn] at p⟩
    · have hds : o.dst = some 104 := by (injection (show some _ = some o from ho) with e; rw [← e]; rfl)
      rw [hds] at hK
      injection (show some _ = some o from ho) with ho
      subst ho
      have hn : L 7 = false := by
        cases hx : L 7 with
        | false => rfl
        | true => have := h.o hx 2 (by decide); rw [hLi] at this; cases this
      have ht := h.t hn
      have a1 : L 1 = true := hd ⟨1, .data⟩ (Array.mem_of_getElem? (i := 0) rfl) rfl
      have d1 := h.l1 hn a1
      refine wp_callL 31 _ _ #[.agg #[.bool leaf, .slice AK K.length ck, .slice AV V.length cv, .slice AD D.length cd, .string high, .bool bnd, .int .i64 sl, .int .u64 ge]] rfl (by simp [d1]) Try.func31 (by kernel_rfl) (by kernel_rfl) ((hP w' ht).mono ?_)
      rintro e w2 ⟨B, c, rfl, hp⟩
      have tj := hp.tu
      have hg : Gp L0 w2 (.slice B L0.length c) := ⟨B, c, rfl, row_of_own hp.row⟩
      refine ⟨_, rfl, hK _ _ ?_⟩
      exact ⟨fun p => by simp [hn] at p,
        fun _ => ht.trans tj,
        fun p q => by have x := h.l0 hn (by simpa using q); simpa [Act.eval_put_ne] using x,
        fun p q => by have x := h.l1 hn (by simpa using q); simpa [Act.eval_put_ne] using x,
        fun _ _ _ => by rw [Act.eval_put_same _ _ _ (by rw [hf.1, hsz]; decide)]; exact hg,
        fun p q => by have x := h.l3 hn (by simpa using q); simpa [Act.eval_put_ne] using x,
        fun p q => by have x := h.l4 hn (by simpa using q); simpa [Act.eval_put_ne] using x,
        fun p q r => by have x := h.l5 hn (by simpa using q) (by simpa using r); replace x := x.no tj; simpa [Act.eval_put_ne] using x,
        fun p q => by have x := h.l6 hn (by simpa using q); replace x := x.no tj; simpa [Act.eval_put_ne] using x,
        fun p => by simp [hn] at p⟩
    · have hds : o.dst = some 105 := by (injection (show some _ = some o from ho) with e; rw [← e]; rfl)
      rw [hds] at hK
      injection (show some _ = some o from ho) with ho
      subst ho
      have hn : L 7 = false := by
        cases hx : L 7 with
        | false => rfl
        | true => have := h.o hx 3 (by decide); rw [hLi] at this; cases this
      have ht := h.t hn
      refine wp_mv (v := .string key) _ (Or.inl rfl) (by show a'.eval (.tmp 1) = _; rw [hf.2.2 1 (by decide)]; exact h1) (hK _ _ ?_)
      exact ⟨fun p => by simp [hn] at p,
        fun _ => ht,
        fun p q => by have x := h.l0 hn (by simpa using q); simpa [Act.eval_put_ne] using x,
        fun p q => by have x := h.l1 hn (by simpa using q); simpa [Act.eval_put_ne] using x,
        fun p q r => by have x := h.l2 hn (by simpa using q) (by simpa using r); replace x := x; simpa [Act.eval_put_ne] using x,
        fun _ _ => Act.eval_put_same _ _ _ (by rw [hf.1, hsz]; decide),
        fun p q => by have x := h.l4 hn (by simpa using q); simpa [Act.eval_put_ne] using x,
        fun p q r => by have x := h.l5 hn (by simpa using q) (by simpa using r); replace x := x; simpa [Act.eval_put_ne] using x,
        fun p q => by have x := h.l6 hn (by simpa using q); replace x := x; simpa [Act.eval_put_ne] using x,
        fun p => by simp [hn] at p⟩
    · have hds : o.dst = some 106 := by (injection (show some _ = some o from ho) with e; rw [← e]; rfl)
      rw [hds] at hK
      injection (show some _ = some o from ho) with ho
      subst ho
      have hn : L 7 = false := by
        cases hx : L 7 with
        | false => rfl
        | true => have := h.o hx 4 (by decide); rw [hLi] at this; cases this
      have ht := h.t hn
      refine wp_mv (v := .string val) _ (Or.inl rfl) (by show a'.eval (.tmp 2) = _; rw [hf.2.2 2 (by decide)]; exact h2) (hK _ _ ?_)
      exact ⟨fun p => by simp [hn] at p,
        fun _ => ht,
        fun p q => by have x := h.l0 hn (by simpa using q); simpa [Act.eval_put_ne] using x,
        fun p q => by have x := h.l1 hn (by simpa using q); simpa [Act.eval_put_ne] using x,
        fun p q r => by have x := h.l2 hn (by simpa using q) (by simpa using r); replace x := x; simpa [Act.eval_put_ne] using x,
        fun p q => by have x := h.l3 hn (by simpa using q); simpa [Act.eval_put_ne] using x,
        fun _ _ => Act.eval_put_same _ _ _ (by rw [hf.1, hsz]; decide),
        fun p q r => by have x := h.l5 hn (by simpa using q) (by simpa using r); replace x := x; simpa [Act.eval_put_ne] using x,
        fun p q => by have x := h.l6 hn (by simpa using q); replace x := x; simpa [Act.eval_put_ne] using x,
        fun p => by simp [hn] at p⟩
    · have hds : o.dst = some 107 := by (injection (show some _ = some o from ho) with e; rw [← e]; rfl)
      rw [hds] at hK
      injection (show some _ = some o from ho) with ho
      subst ho
      have hn : L 7 = false := by
        cases hx : L 7 with
        | false => rfl
        | true => have := h.o hx 5 (by decide); rw [hLi] at this; cases this
      have ht := h.t hn
      have a2 : L 2 = true := hd ⟨2, .data⟩ (Array.mem_of_getElem? (i := 0) rfl) rfl
      have d2 := h.l2 hn a2 hLi
      have a3 : L 3 = true := hd ⟨3, .data⟩ (Array.mem_of_getElem? (i := 1) rfl) rfl
      have d3 := h.l3 hn a3
      have a4 : L 4 = true := hd ⟨4, .data⟩ (Array.mem_of_getElem? (i := 2) rfl) rfl
      have d4 := h.l4 hn a4
      obtain ⟨B0, c0, e0, hr0⟩ := d2
      refine wp_callL 33 _ _ #[.slice B0 L0.length c0, .string key, .string val] rfl (by simp [e0, d3, d4]) Try.func33 (by kernel_rfl) (by kernel_rfl) ((hU w' B0 c0 hr0).mono ?_)
      rintro e w2 ⟨B, c, rfl, hp⟩
      have tj := hp.tu
      have hg : Gp L1 w2 (.slice B L1.length c) := ⟨B, c, rfl, row_of_own hp.row⟩
      refine ⟨_, rfl, hK _ _ ?_⟩
      exact ⟨fun p => by simp [hn] at p,
        fun _ => ht.trans tj,
        fun p q => by have x := h.l0 hn (by simpa using q); simpa [Act.eval_put_ne] using x,
        fun p q => by have x := h.l1 hn (by simpa using q); simpa [Act.eval_put_ne] using x,
        fun _ _ q => by simp at q,
        fun p q => by have x := h.l3 hn (by simpa using q); simpa [Act.eval_put_ne] using x,
        fun p q => by have x := h.l4 hn (by simpa using q); simpa [Act.eval_put_ne] using x,
        fun _ _ _ => by rw [Act.eval_put_same _ _ _ (by rw [hf.1, hsz]; decide)]; exact hg,
        fun p q => by have x := h.l6 hn (by simpa using q); replace x := x.no tj; simpa [Act.eval_put_ne] using x,
        fun p => by simp [hn] at p⟩
    · have hds : o.dst = some 108 := by (injection (show some _ = some o from ho) with e; rw [← e]; rfl)
      rw [hds] at hK
      injection (show some _ = some o from ho) with ho
      subst ho
      have hn : L 7 = false := by
        cases hx : L 7 with
        | false => rfl
        | true => have := h.o hx 6 (by decide); rw [hLi] at this; cases this
      have ht := h.t hn
      have a0 : L 0 = true := hd ⟨0, .data⟩ (Array.mem_of_getElem? (i := 0) rfl) rfl
      have d0 := h.l0 hn a0
      have a5 : L 5 = true := hd ⟨5, .data⟩ (Array.mem_of_getElem? (i := 1) rfl) rfl
      have d5 := h.l5 hn a5 hLi
      obtain ⟨B0, c0, e0, hr0⟩ := d5
      refine wp_callL 32 _ _ #[.agg #[.bool leaf, .slice AK K.length ck, .slice AV V.length cv, .slice AD D.length cd, .string high, .bool bnd, .int .i64 sl, .int .u64 ge], .slice B0 L1.length c0] rfl (by simp [e0, d0]) Try.func32 (by kernel_rfl) (by kernel_rfl) ((of_any leaf K.length V.length D.length high bnd sl ge AK AV AD ck cv cd L1 B0 c0 w' hr0 hL).mono ?_)
      rintro e w2 ⟨A, ca, B, cb, rfl, ho1, ho2, tj⟩
      have hg : Gn w leaf D high bnd sl ge AD cd L1 w2 _ := ⟨A, ca, B, cb, rfl, own_from ho1 ht.size, own_from ho2 ht.size⟩
      refine ⟨_, rfl, hK _ _ ?_⟩
      exact ⟨fun p => by simp [hn] at p,
        fun _ => ht.trans tj,
        fun p q => by have x := h.l0 hn (by simpa using q); simpa [Act.eval_put_ne] using x,
        fun p q => by have x := h.l1 hn (by simpa using q); simpa [Act.eval_put_ne] using x,
        fun p q r => by have x := h.l2 hn (by simpa using q) (by simpa using r); replace x := x.no tj; simpa [Act.eval_put_ne] using x,
        fun p q => by have x := h.l3 hn (by simpa using q); simpa [Act.eval_put_ne] using x,
        fun p q => by have x := h.l4 hn (by simpa using q); simpa [Act.eval_put_ne] using x,
        fun _ _ q => by simp at q,
        fun _ _ => by rw [Act.eval_put_same _ _ _ (by rw [hf.1, hsz]; decide)]; exact hg,
        fun p => by simp [hn] at p⟩
    · have hds : o.dst = none := by (injection (show some _ = some o from ho) with e; rw [← e]; rfl)
      rw [hds] at hK
      injection (show some _ = some o from ho) with ho
      subst ho
      have a6 : L 6 = true := hd ⟨6, .data⟩ (Array.mem_of_getElem? (i := 0) rfl) rfl
      have a0 : L 0 = true := hd ⟨0, .phase⟩ (Array.mem_of_getElem? (i := 2) rfl) rfl
      have a1 : L 1 = true := hd ⟨1, .phase⟩ (Array.mem_of_getElem? (i := 3) rfl) rfl
      have a2 : L 2 = true := hd ⟨2, .phase⟩ (Array.mem_of_getElem? (i := 4) rfl) rfl
      have a3 : L 3 = true := hd ⟨3, .phase⟩ (Array.mem_of_getElem? (i := 5) rfl) rfl
      have a4 : L 4 = true := hd ⟨4, .phase⟩ (Array.mem_of_getElem? (i := 6) rfl) rfl
      have a5 : L 5 = true := hd ⟨5, .phase⟩ (Array.mem_of_getElem? (i := 7) rfl) rfl
      have ht := h.t hLi
      have d0 := h.l0 hLi a0
      have d1 := h.l1 hLi a1
      have d3 := h.l3 hLi a3
      have d4 := h.l4 hLi a4
      have d6 := h.l6 hLi a6
      obtain ⟨A, ca, B, cb, e0, ho1, ho2⟩ := d6
      have hr := hR.no ht
      refine wp_store_row 29 _ _ rfl r _ (by show a'.eval (.tmp 20) = _; rw [hf.2.2 20 (by decide)]; exact hr20) e0 29 _ hr (by kernel_rfl) (by rw [hsz8]; rfl) (by simp [Value.oneCell']) (hK undef _ ?_)
      have tw := turn_row w' r #[.bool leaf, .slice A L1.length ca, .slice B L1.length cb, .slice AD D.length cd, .string high, .bool bnd, .int .i64 sl, .int .u64 ge]
      have hE : En w r leaf D high bnd sl ge AD cd L1 (w'.setRow r #[.bool leaf, .slice A L1.length ca, .slice B L1.length cb, .slice AD D.length cd, .string high, .bool bnd, .int .i64 sl, .int .u64 ge]) := ⟨(ht.mono fun _ _ h => h.elim).trans tw, A, ca, B, cb, setRow_heap w' r _ _ 29 (0, 0) hr, own_grown ho1 tw (fun k hk e => own_neG ho1 hr (by decide) (by rw [← e]; exact hk)), own_grown ho2 tw (fun k hk e => own_neG ho2 hr (by decide) (by rw [← e]; exact hk))⟩
      exact ⟨fun _ j hj => by rcases j with _ | _ | _ | _ | _ | _ | _ | j; rotate_left 7; omega; all_goals simp [*], fun p => by simp at p, fun p => by simp at p, fun p => by simp at p, fun p => by simp at p, fun p => by simp at p, fun p => by simp at p, fun p => by simp at p, fun p => by simp at p, fun _ => hE⟩
  · intro L a' w' hall hf h
    have he := hf.eq (by intro s hs; rw [hsz]; simp at hs; omega)
    simp only [List.map_cons, List.map_nil] at he
    rw [he]
    exact hQ _ _ _ _ _ _ _ w' (h.e (hall 7 (by decide)))
structure JD19 (w : World) (r : Nat) (N : Array Value) (leaf : Bool) (D : List Hn) (high : ByteArray) (bnd : Bool) (sl ge : Int) (AD : Option Addr) (cd : Nat) (L0 L1 : List Pr) (key : ByteArray) (L : Nat → Bool) (b : Act) (wx : World) : Prop where
  o : L 6 = true → ∀ j, j < 6 → L j = true
  t : L 6 = false → Turn No w wx
  l0 : L 6 = false → L 0 = true → (b.eval (.tmp 109)) = .agg N
  l1 : L 6 = false → L 1 = true → (b.eval (.tmp 110)) = .agg N
  l2 : L 6 = false → L 2 = true → L 4 = false → Gp L0 wx (b.eval (.tmp 111))
  l3 : L 6 = false → L 3 = true → (b.eval (.tmp 112)) = .string key
  l4 : L 6 = false → L 4 = true → L 5 = false → Gp L1 wx (b.eval (.tmp 113))
  l5 : L 6 = false → L 5 = true → Gn w leaf D high bnd sl ge AD cd L1 wx (b.eval (.tmp 114))
  e : L 6 = true → En w r leaf D high bnd sl ge AD cd L1 wx
def opsD19 : Array Oper := #[{ dst := some 109, op := Go.Op.load 29 (Go.Operand.tmp 4), type := 29, pos := "law.go:176", after := #[], guard := none }, { dst := some 110, op := Go.Op.load 29 (Go.Operand.tmp 4), type := 29, pos := "law.go:176", after := #[], guard := none }, { dst := some 111, op := Go.Op.call { callee := Go.Callee.value (Go.Operand.func 31), args := #[Go.Operand.tmp 110], argTypes := #[29] }, type := 51, pos := "law.go:176", after := #[{ on := 1, ground := Go.Ground.data }], guard := none }, { dst := some 112, op := Go.Op.move (Go.Operand.tmp 1), type := 9, pos := "law.go:176", after := #[], guard := none }, { dst := some 113, op := Go.Op.call { callee := Go.Callee.value (Go.Operand.func 34), args := #[Go.Operand.tmp 111, Go.Operand.tmp 112], argTypes := #[51, 9] }, type := 51, pos := "law.go:176", after := #[{ on := 2, ground := Go.Ground.data }, { on := 3, ground := Go.Ground.data }, { on := 2, ground := Go.Ground.chain }], guard := none }, { dst := some 114, op := Go.Op.call { callee := Go.Callee.value (Go.Operand.func 32), args := #[Go.Operand.tmp 109, Go.Operand.tmp 113], argTypes := #[29, 51] }, type := 29, pos := "law.go:176", after := #[{ on := 0, ground := Go.Ground.data }, { on := 4, ground := Go.Ground.data }, { on := 4, ground := Go.Ground.chain }], guard := none }, { dst := none, op := Go.Op.store 29 (Go.Operand.tmp 21) (Go.Operand.tmp 114), type := 0, pos := "law.go:176", after := #[{ on := 5, ground := Go.Ground.data }, { on := 5, ground := Go.Ground.chain }, { on := 0, ground := Go.Ground.phase }, { on := 1, ground := Go.Ground.phase }, { on := 2, ground := Go.Ground.phase }, { on := 3, ground := Go.Ground.phase }, { on := 4, ground := Go.Ground.phase }, { on := 5, ground := Go.Ground.phase }], guard := none }]
set_option maxRecDepth 100000 in
set_option maxHeartbeats 8000000 in
theorem regD19 {Q : Exit → Act → World → Prop} {a : Act} {w : World} {r g : Nat} {leaf : Bool} {K V : List ByteArray} {D : List Hn} {high : ByteArray} {bnd : Bool} {sl ge : Int} {AK AV AD : Option Addr} {ck cv cd : Nat} {L0 L1 : List Pr} {key : ByteArray} {old : Array Value} (h4 : a.eval (.tmp 4) = .pointer (some ⟨g, 0, none⟩)) (h1 : a.eval (.tmp 1) = .string key) (hr20 : a.eval (.tmp 21) = .pointer (some ⟨r, 0, none⟩)) (hA : At w g (.cells #[.bool leaf, .slice AK K.length ck, .slice AV V.length cv, .slice AD D.length cd, .string high, .bool bnd, .int .i64 sl, .int .u64 ge] 29 (0, 0))) (hR : At w r (.cells old 29 (0, 0))) (hsz8 : old.size = 8) (hL : L1.length ≤ 100000)
    (hP : ∀ W, Turn No w W → Calls Try.prog 31 #[.agg #[.bool leaf, .slice AK K.length ck, .slice AV V.length cv, .slice AD D.length cd, .string high, .bool bnd, .int .i64 sl, .int .u64 ge]] W fun e w' => ∃ B c, e = .returned (.slice B L0.length c) ∧ Ps W w' L0 B c)
    (hU : ∀ W B0 c0, Row W B0 (pcs L0) → Calls Try.prog 34 #[.slice B0 L0.length c0, .string key] W fun e w' => ∃ B c, e = .returned (.slice B L1.length c) ∧ Ps W w' L1 B c)
    (hsz : a.tmps.size = 197)
    (hQ : ∀ v109 v110 v111 v112 v113 v114 (w' : World), En w r leaf D high bnd sl ge AD cd L1 w' → Q .normal (puts a [(109, v109), (110, v110), (111, v111), (112, v112), (113, v113), (114, v114)]) w') : (Code.region 19 opsD19 true).wp Try.prog Q a w := by
  refine region_J (by kernel_rfl) [109, 110, 111, 112, 113, 114] (JD19 w r #[.bool leaf, .slice AK K.length ck, .slice AV V.length cv, .slice AD D.length cd, .string high, .bool bnd, .int .i64 sl, .int .u64 ge] leaf D high bnd sl ge AD cd L0 L1 key) ?_ ?_ ?_ ?_
  · refine ⟨fun p => (by cases p), fun _ => (Turn.refl No w).drew, ?_, ?_, ?_, ?_, ?_, ?_, fun p => (by cases p)⟩ <;> intro p q <;> cases q
  · intro i o ho
    have hall : (opsD19.toList.zipIdx.all fun q => q.1.guard.isNone && (q.1.after.toList.all fun e => Nat.blt e.on q.2 || !Region.binds .any e) && (match q.1.dst with | none => true | some s => [109, 110, 111, 112, 113, 114].contains s)) = true := by kernel_rfl
    have hm := List.all_eq_true.1 hall (o, i) (by
      rw [List.mem_iff_getElem?]
      refine ⟨i, ?_⟩
      rw [List.getElem?_zipIdx, Array.getElem?_toList, ho]
      simp)
    simp only [Bool.and_eq_true, List.all_eq_true, Option.isNone_iff_eq_none] at hm
    refine ⟨hm.1.1, fun e he hb => by have := hm.1.2 e (Array.mem_toList_iff.2 he); simpa [hb] using this, fun s hs => ?_⟩
    have := hm.2
    rw [hs] at this
    simpa using this
  · intro i o ho L a' w' hf h hLi hd K2 hK
    have hin : i < 7 := (Array.getElem?_eq_some_iff.1 ho).1
    rcases i with _ | _ | _ | _ | _ | _ | _ | i
    rotate_left 7
    · omega
    · have hds : o.dst = some 109 := by (injection (show some _ = some o from ho) with e; rw [← e]; rfl)
      rw [hds] at hK
      injection (show some _ = some o from ho) with ho
      subst ho
      have hn : L 6 = false := by
        cases hx : L 6 with
        | false => rfl
        | true => have := h.o hx 0 (by decide); rw [hLi] at this; cases this
      have ht := h.t hn
      refine wp_load_row 29 _ rfl g (by show a'.eval (.tmp 4) = _; rw [hf.2.2 4 (by decide)]; exact h4) 29 _ (0, 0) _ (hA.no ht) Try.underlying29 rfl (by kernel_rfl) (hK _ _ ?_)
      exact ⟨fun p => by simp [hn] at p,
        fun _ => ht,
        fun _ _ => Act.eval_put_same _ _ _ (by rw [hf.1, hsz]; decide),
        fun p q => by have x := h.l1 hn (by simpa using q); simpa [Act.eval_put_ne] using x,
        fun p q r => by have x := h.l2 hn (by simpa using q) (by simpa using r); replace x := x; simpa [Act.eval_put_ne] using x,
        fun p q => by have x := h.l3 hn (by simpa using q); simpa [Act.eval_put_ne] using x,
        fun p q r => by have x := h.l4 hn (by simpa using q) (by simpa using r); replace x := x; simpa [Act.eval_put_ne] using x,
        fun p q => by have x := h.l5 hn (by simpa using q); replace x := x; simpa [Act.eval_put_ne] using x,
        fun p => by simp [hn] at p⟩
    · have hds : o.dst = some 110 := by (injection (show some _ = some o from ho) with e; rw [← e]; rfl)
      rw [hds] at hK
      injection (show some _ = some o from ho) with ho
      subst ho
      have hn : L 6 = false := by
        cases hx : L 6 with
        | false => rfl
        | true => have := h.o hx 1 (by decide); rw [hLi] at this; cases this
      have ht := h.t hn
      refine wp_load_row 29 _ rfl g (by show a'.eval (.tmp 4) = _; rw [hf.2.2 4 (by decide)]; exact h4) 29 _ (0, 0) _ (hA.no ht) Try.underlying29 rfl (by kernel_rfl) (hK _ _ ?_)
      exact ⟨fun p => by simp [hn] at p,
        fun _ => ht,
        fun p q => by have x := h.l0 hn (by simpa using q); simpa [Act.eval_put_ne] using x,
        fun _ _ => Act.eval_put_same _ _ _ (by rw [hf.1, hsz]; decide),
        fun p q r => by have x := h.l2 hn (by simpa using q) (by simpa using r); replace x := x; simpa [Act.eval_put_ne] using x,
        fun p q => by have x := h.l3 hn (by simpa using q); simpa [Act.eval_put_ne] using x,
        fun p q r => by have x := h.l4 hn (by simpa using q) (by simpa using r); replace x := x; simpa [Act.eval_put_ne] using x,
        fun p q => by have x := h.l5 hn (by simpa using q); replace x := x; simpa [Act.eval_put_ne] using x,
        fun p => by simp [hn] at p⟩
    · have hds : o.dst = some 111 := by (injection (show some _ = some o from ho) with e; rw [← e]; rfl)
      rw [hds] at hK
      injection (show some _ = some o from ho) with ho
      subst ho
      have hn : L 6 = false := by
        cases hx : L 6 with
        | false => rfl
        | true => have := h.o hx 2 (by decide); rw [hLi] at this; cases this
      have ht := h.t hn
      have a1 : L 1 = true := hd ⟨1, .data⟩ (Array.mem_of_getElem? (i := 0) rfl) rfl
      have d1 := h.l1 hn a1
      refine wp_callL 31 _ _ #[.agg #[.bool leaf, .slice AK K.length ck, .slice AV V.length cv, .slice AD D.length cd, .string high, .bool bnd, .int .i64 sl, .int .u64 ge]] rfl (by simp [d1]) Try.func31 (by kernel_rfl) (by kernel_rfl) ((hP w' ht).mono ?_)
      rintro e w2 ⟨B, c, rfl, hp⟩
      have tj := hp.tu
      have hg : Gp L0 w2 (.slice B L0.length c) := ⟨B, c, rfl, row_of_own hp.row⟩
      refine ⟨_, rfl, hK _ _ ?_⟩
      exact ⟨fun p => by simp [hn] at p,
        fun _ => ht.trans tj,
        fun p q => by have x := h.l0 hn (by simpa using q); simpa [Act.eval_put_ne] using x,
        fun p q => by have x := h.l1 hn (by simpa using q); simpa [Act.eval_put_ne] using x,
        fun _ _ _ => by rw [Act.eval_put_same _ _ _ (by rw [hf.1, hsz]; decide)]; exact hg,
        fun p q => by have x := h.l3 hn (by simpa using q); simpa [Act.eval_put_ne] using x,
        fun p q r => by have x := h.l4 hn (by simpa using q) (by simpa using r); replace x := x.no tj; simpa [Act.eval_put_ne] using x,
        fun p q => by have x := h.l5 hn (by simpa using q); replace x := x.no tj; simpa [Act.eval_put_ne] using x,
        fun p => by simp [hn] at p⟩
    · have hds : o.dst = some 112 := by (injection (show some _ = some o from ho) with e; rw [← e]; rfl)
      rw [hds] at hK
      injection (show some _ = some o from ho) with ho
      subst ho
      have hn : L 6 = false := by
        cases hx : L 6 with
        | false => rfl
        | true => have := h.o hx 3 (by decide); rw [hLi] at this; cases this
      have ht := h.t hn
      refine wp_mv (v := .string key) _ (Or.inl rfl) (by show a'.eval (.tmp 1) = _; rw [hf.2.2 1 (by decide)]; exact h1) (hK _ _ ?_)
      exact ⟨fun p => by simp [hn] at p,
        fun _ => ht,
        fun p q => by have x := h.l0 hn (by simpa using q); simpa [Act.eval_put_ne] using x,
        fun p q => by have x := h.l1 hn (by simpa using q); simpa [Act.eval_put_ne] using x,
        fun p q r => by have x := h.l2 hn (by simpa using q) (by simpa using r); replace x := x; simpa [Act.eval_put_ne] using x,
        fun _ _ => Act.eval_put_same _ _ _ (by rw [hf.1, hsz]; decide),
        fun p q r => by have x := h.l4 hn (by simpa using q) (by simpa using r); replace x := x; simpa [Act.eval_put_ne] using x,
        fun p q => by have x := h.l5 hn (by simpa using q); replace x := x; simpa [Act.eval_put_ne] using x,
        fun p => by simp [hn] at p⟩
    · have hds : o.dst = some 113 := by (injection (show some _ = some o from ho) with e; rw [← e]; rfl)
      rw [hds] at hK
      injection (show some _ = some o from ho) with ho
      subst ho
      have hn : L 6 = false := by
        cases hx : L 6 with
        | false => rfl
        | true => have := h.o hx 4 (by decide); rw [hLi] at this; cases this
      have ht := h.t hn
      have a2 : L 2 = true := hd ⟨2, .data⟩ (Array.mem_of_getElem? (i := 0) rfl) rfl
      have d2 := h.l2 hn a2 hLi
      have a3 : L 3 = true := hd ⟨3, .data⟩ (Array.mem_of_getElem? (i := 1) rfl) rfl
      have d3 := h.l3 hn a3
      obtain ⟨B0, c0, e0, hr0⟩ := d2
      refine wp_callL 34 _ _ #[.slice B0 L0.length c0, .string key] rfl (by simp [e0, d3]) Try.func34 (by kernel_rfl) (by kernel_rfl) ((hU w' B0 c0 hr0).mono ?_)
      rintro e w2 ⟨B, c, rfl, hp⟩
      have tj := hp.tu
      have hg : Gp L1 w2 (.slice B L1.length c) := ⟨B, c, rfl, row_of_own hp.row⟩
      refine ⟨_, rfl, hK _ _ ?_⟩
      exact ⟨fun p => by simp [hn] at p,
        fun _ => ht.trans tj,
        fun p q => by have x := h.l0 hn (by simpa using q); simpa [Act.eval_put_ne] using x,
        fun p q => by have x := h.l1 hn (by simpa using q); simpa [Act.eval_put_ne] using x,
        fun _ _ q => by simp at q,
        fun p q => by have x := h.l3 hn (by simpa using q); simpa [Act.eval_put_ne] using x,
        fun _ _ _ => by rw [Act.eval_put_same _ _ _ (by rw [hf.1, hsz]; decide)]; exact hg,
        fun p q => by have x := h.l5 hn (by simpa using q); replace x := x.no tj; simpa [Act.eval_put_ne] using x,
        fun p => by simp [hn] at p⟩
    · have hds : o.dst = some 114 := by (injection (show some _ = some o from ho) with e; rw [← e]; rfl)
      rw [hds] at hK
      injection (show some _ = some o from ho) with ho
      subst ho
      have hn : L 6 = false := by
        cases hx : L 6 with
        | false => rfl
        | true => have := h.o hx 5 (by decide); rw [hLi] at this; cases this
      have ht := h.t hn
      have a0 : L 0 = true := hd ⟨0, .data⟩ (Array.mem_of_getElem? (i := 0) rfl) rfl
      have d0 := h.l0 hn a0
      have a4 : L 4 = true := hd ⟨4, .data⟩ (Array.mem_of_getElem? (i := 1) rfl) rfl
      have d4 := h.l4 hn a4 hLi
      obtain ⟨B0, c0, e0, hr0⟩ := d4
      refine wp_callL 32 _ _ #[.agg #[.bool leaf, .slice AK K.length ck, .slice AV V.length cv, .slice AD D.length cd, .string high, .bool bnd, .int .i64 sl, .int .u64 ge], .slice B0 L1.length c0] rfl (by simp [e0, d0]) Try.func32 (by kernel_rfl) (by kernel_rfl) ((of_any leaf K.length V.length D.length high bnd sl ge AK AV AD ck cv cd L1 B0 c0 w' hr0 hL).mono ?_)
      rintro e w2 ⟨A, ca, B, cb, rfl, ho1, ho2, tj⟩
      have hg : Gn w leaf D high bnd sl ge AD cd L1 w2 _ := ⟨A, ca, B, cb, rfl, own_from ho1 ht.size, own_from ho2 ht.size⟩
      refine ⟨_, rfl, hK _ _ ?_⟩
      exact ⟨fun p => by simp [hn] at p,
        fun _ => ht.trans tj,
        fun p q => by have x := h.l0 hn (by simpa using q); simpa [Act.eval_put_ne] using x,
        fun p q => by have x := h.l1 hn (by simpa using q); simpa [Act.eval_put_ne] using x,
        fun p q r => by have x := h.l2 hn (by simpa using q) (by simpa using r); replace x := x.no tj; simpa [Act.eval_put_ne] using x,
        fun p q => by have x := h.l3 hn (by simpa using q); simpa [Act.eval_put_ne] using x,
        fun _ _ q => by simp at q,
        fun _ _ => by rw [Act.eval_put_same _ _ _ (by rw [hf.1, hsz]; decide)]; exact hg,
        fun p => by simp [hn] at p⟩
    · have hds : o.dst = none := by (injection (show some _ = some o from ho) with e; rw [← e]; rfl)
      rw [hds] at hK
      injection (show some _ = some o from ho) with ho
      subst ho
      have a5 : L 5 = true := hd ⟨5, .data⟩ (Array.mem_of_getElem? (i := 0) rfl) rfl
      have a0 : L 0 = true := hd ⟨0, .phase⟩ (Array.mem_of_getElem? (i := 2) rfl) rfl
      have a1 : L 1 = true := hd ⟨1, .phase⟩ (Array.mem_of_getElem? (i := 3) rfl) rfl
      have a2 : L 2 = true := hd ⟨2, .phase⟩ (Array.mem_of_getElem? (i := 4) rfl) rfl
      have a3 : L 3 = true := hd ⟨3, .phase⟩ (Array.mem_of_getElem? (i := 5) rfl) rfl
      have a4 : L 4 = true := hd ⟨4, .phase⟩ (Array.mem_of_getElem? (i := 6) rfl) rfl
      have ht := h.t hLi
      have d0 := h.l0 hLi a0
      have d1 := h.l1 hLi a1
      have d3 := h.l3 hLi a3
      have d5 := h.l5 hLi a5
      obtain ⟨A, ca, B, cb, e0, ho1, ho2⟩ := d5
      have hr := hR.no ht
      refine wp_store_row 29 _ _ rfl r _ (by show a'.eval (.tmp 21) = _; rw [hf.2.2 21 (by decide)]; exact hr20) e0 29 _ hr (by kernel_rfl) (by rw [hsz8]; rfl) (by simp [Value.oneCell']) (hK undef _ ?_)
      have tw := turn_row w' r #[.bool leaf, .slice A L1.length ca, .slice B L1.length cb, .slice AD D.length cd, .string high, .bool bnd, .int .i64 sl, .int .u64 ge]
      have hE : En w r leaf D high bnd sl ge AD cd L1 (w'.setRow r #[.bool leaf, .slice A L1.length ca, .slice B L1.length cb, .slice AD D.length cd, .string high, .bool bnd, .int .i64 sl, .int .u64 ge]) := ⟨(ht.mono fun _ _ h => h.elim).trans tw, A, ca, B, cb, setRow_heap w' r _ _ 29 (0, 0) hr, own_grown ho1 tw (fun k hk e => own_neG ho1 hr (by decide) (by rw [← e]; exact hk)), own_grown ho2 tw (fun k hk e => own_neG ho2 hr (by decide) (by rw [← e]; exact hk))⟩
      exact ⟨fun _ j hj => by rcases j with _ | _ | _ | _ | _ | _ | j; rotate_left 6; omega; all_goals simp [*], fun p => by simp at p, fun p => by simp at p, fun p => by simp at p, fun p => by simp at p, fun p => by simp at p, fun p => by simp at p, fun p => by simp at p, fun _ => hE⟩
  · intro L a' w' hall hf h
    have he := hf.eq (by intro s hs; rw [hsz]; simp at hs; omega)
    simp only [List.map_cons, List.map_nil] at he
    rw [he]
    exact hQ _ _ _ _ _ _ w' (h.e (hall 6 (by decide)))
end Go.Proofs.Ytengbkopihiiaaa
