/-
  The region of BlnodeWrites that makes three blocks, whatever its order.
-/
import Derived.Test.YtengbkopihiiaaaRs
namespace Go.Proofs.Ytengbkopihiiaaa
open Go.RowKit Go.Lib
set_option linter.unusedVariables false
set_option maxRecDepth 20000
set_option linter.unusedSimpArgs false

/-- While three blocks are made and written. -/
structure T3c (w : World) (N : Array Value) (L : Nat → Bool) (b : Act) (wx : World) : Prop where
  t : Turn No w wx
  l0 : L 0 = true → b.eval (.tmp 98) = .agg N
  l1 : L 1 = true → b.eval (.tmp 99) = .agg N
  l2 : L 2 = true → b.eval (.tmp 100) = .agg N
  m0 : L 3 = true → Bx w wx (b.eval (.tmp 20)) (L 6) (b.eval (.tmp 98))
  m1 : L 4 = true → Bx w wx (b.eval (.tmp 21)) (L 7) (b.eval (.tmp 99))
  m2 : L 5 = true → Bx w wx (b.eval (.tmp 22)) (L 8) (b.eval (.tmp 100))
  n01 : L 3 = true → L 4 = true → b.eval (.tmp 20) ≠ b.eval (.tmp 21)
  n02 : L 3 = true → L 5 = true → b.eval (.tmp 20) ≠ b.eval (.tmp 22)
  n12 : L 4 = true → L 5 = true → b.eval (.tmp 21) ≠ b.eval (.tmp 22)
  o0 : L 6 = true → L 0 = true ∧ L 3 = true
  o1 : L 7 = true → L 1 = true ∧ L 4 = true
  o2 : L 8 = true → L 2 = true ∧ L 5 = true
def ops16 : Array Oper := #[{ dst := some 98, op := Go.Op.load 29 (Go.Operand.tmp 4), type := 29, pos := "law.go:173", after := #[], guard := none }, { dst := some 99, op := Go.Op.load 29 (Go.Operand.tmp 4), type := 29, pos := "law.go:173", after := #[{ on := 6, ground := Go.Ground.gcOnly Go.Departure.lateStores }], guard := none }, { dst := some 100, op := Go.Op.load 29 (Go.Operand.tmp 4), type := 29, pos := "law.go:173", after := #[{ on := 7, ground := Go.Ground.gcOnly Go.Departure.lateStores }], guard := none }, { dst := some 20, op := Go.Op.alloc 29, type := 0, pos := "law.go:173", after := #[], guard := none }, { dst := some 21, op := Go.Op.alloc 29, type := 0, pos := "law.go:173", after := #[], guard := none }, { dst := some 22, op := Go.Op.alloc 29, type := 0, pos := "law.go:173", after := #[], guard := none }, { dst := none, op := Go.Op.store 29 (Go.Operand.tmp 20) (Go.Operand.tmp 98), type := 0, pos := "law.go:173", after := #[{ on := 3, ground := Go.Ground.data }, { on := 0, ground := Go.Ground.data }, { on := 0, ground := Go.Ground.phase }, { on := 1, ground := Go.Ground.textOnly Go.Departure.lateStores }, { on := 2, ground := Go.Ground.textOnly Go.Departure.lateStores }, { on := 3, ground := Go.Ground.phase }, { on := 4, ground := Go.Ground.phase }, { on := 5, ground := Go.Ground.phase }], guard := none }, { dst := none, op := Go.Op.store 29 (Go.Operand.tmp 21) (Go.Operand.tmp 99), type := 0, pos := "law.go:173", after := #[{ on := 4, ground := Go.Ground.data }, { on := 1, ground := Go.Ground.data }, { on := 6, ground := Go.Ground.chain }, { on := 0, ground := Go.Ground.phase }, { on := 1, ground := Go.Ground.phase }, { on := 2, ground := Go.Ground.textOnly Go.Departure.lateStores }, { on := 3, ground := Go.Ground.phase }, { on := 4, ground := Go.Ground.phase }, { on := 5, ground := Go.Ground.phase }, { on := 6, ground := Go.Ground.phase }], guard := none }, { dst := none, op := Go.Op.store 29 (Go.Operand.tmp 22) (Go.Operand.tmp 100), type := 0, pos := "law.go:173", after := #[{ on := 5, ground := Go.Ground.data }, { on := 2, ground := Go.Ground.data }, { on := 7, ground := Go.Ground.chain }, { on := 0, ground := Go.Ground.phase }, { on := 1, ground := Go.Ground.phase }, { on := 2, ground := Go.Ground.phase }, { on := 3, ground := Go.Ground.phase }, { on := 4, ground := Go.Ground.phase }, { on := 5, ground := Go.Ground.phase }, { on := 6, ground := Go.Ground.phase }, { on := 7, ground := Go.Ground.phase }], guard := none }]
theorem T3c.no {w : World} {N : Array Value} {L : Nat → Bool} {b : Act} {wx w2 : World} (h : T3c w N L b wx) (t : Turn No wx w2) : T3c w N L b w2 :=
  ⟨h.t.trans t, h.l0, h.l1, h.l2, fun p => (h.m0 p).no t, fun p => (h.m1 p).no t, fun p => (h.m2 p).no t, h.n01, h.n02, h.n12, h.o0, h.o1, h.o2⟩
set_option maxRecDepth 100000 in
set_option maxHeartbeats 8000000 in
theorem three_blocks {Q : Exit → Act → World → Prop} {a : Act} {w : World} {g : Nat} {leaf : Bool} {K V : List ByteArray} {D : List Hn} {high : ByteArray} {bnd : Bool} {sl ge : Int} {AK AV AD : Option Addr} {ck cv cd : Nat}
    (hsz : a.tmps.size = 197) (h4 : a.eval (.tmp 4) = .pointer (some ⟨g, 0, none⟩)) (hA : At w g (.cells #[.bool leaf, .slice AK K.length ck, .slice AV V.length cv, .slice AD D.length cd, .string high, .bool bnd, .int .i64 sl, .int .u64 ge] 29 (0, 0)))
    (hQ : ∀ v98 v99 v100 r20 r21 r22 w', Turn No w w' → At w' r20 (.cells #[.bool leaf, .slice AK K.length ck, .slice AV V.length cv, .slice AD D.length cd, .string high, .bool bnd, .int .i64 sl, .int .u64 ge] 29 (0, 0)) → At w' r21 (.cells #[.bool leaf, .slice AK K.length ck, .slice AV V.length cv, .slice AD D.length cd, .string high, .bool bnd, .int .i64 sl, .int .u64 ge] 29 (0, 0)) → At w' r22 (.cells #[.bool leaf, .slice AK K.length ck, .slice AV V.length cv, .slice AD D.length cd, .string high, .bool bnd, .int .i64 sl, .int .u64 ge] 29 (0, 0)) → w.heap.size ≤ r20 ∧ w.heap.size ≤ r21 ∧ w.heap.size ≤ r22 → r20 ≠ r21 ∧ r20 ≠ r22 ∧ r21 ≠ r22 →
      Q .normal (puts a [(98, v98), (99, v99), (100, v100), (20, .pointer (some ⟨r20, 0, none⟩)), (21, .pointer (some ⟨r21, 0, none⟩)), (22, .pointer (some ⟨r22, 0, none⟩))]) w') : (Code.region 16 ops16 true).wp Try.prog Q a w := by
  refine region_J (by kernel_rfl) [98, 99, 100, 20, 21, 22] (T3c w #[.bool leaf, .slice AK K.length ck, .slice AV V.length cv, .slice AD D.length cd, .string high, .bool bnd, .int .i64 sl, .int .u64 ge]) ?_ ?_ ?_ ?_
  · refine ⟨(Turn.refl No w).drew, ?_, ?_, ?_, ?_, ?_, ?_, ?_, ?_, ?_, ?_, ?_, ?_⟩ <;> intro p <;> first | cases p | (intro q; cases q)
  · intro i o ho
    have hall : (ops16.toList.zipIdx.all fun q => q.1.guard.isNone && (q.1.after.toList.all fun e => Nat.blt e.on q.2 || !Region.binds .any e) && (match q.1.dst with | none => true | some s => [98, 99, 100, 20, 21, 22].contains s)) = true := by kernel_rfl
    have hm := List.all_eq_true.1 hall (o, i) (by
      rw [List.mem_iff_getElem?]
      refine ⟨i, ?_⟩
      rw [List.getElem?_zipIdx, Array.getElem?_toList, ho]
      simp)
    simp only [Bool.and_eq_true, List.all_eq_true, Option.isNone_iff_eq_none] at hm
    refine ⟨hm.1.1, fun e he hb => by have := hm.1.2 e (Array.mem_toList_iff.2 he); simpa [hb] using this, fun s hs => ?_⟩
    have := hm.2
    rw [hs] at this
    simpa using this
  · intro i o ho L a' w' hf h hLi hd K2 hK
    have hin : i < 9 := (Array.getElem?_eq_some_iff.1 ho).1
    rcases i with _ | _ | _ | _ | _ | _ | _ | _ | _ | i
    rotate_left 9
    · omega
    · have hds : o.dst = some 98 := by (injection (show some _ = some o from ho) with e; rw [← e]; rfl)
      rw [hds] at hK
      injection (show some _ = some o from ho) with ho
      subst ho
      have hno : L 6 = false := by
        cases hx : L 6 with
        | false => rfl
        | true => have := (h.o0 hx).1; rw [hLi] at this; cases this
      refine wp_load_row 29 _ rfl g (by show a'.eval (.tmp 4) = _; rw [hf.2.2 4 (by decide)]; exact h4) 29 _ (0, 0) _ (hA.no h.t) Try.underlying29 rfl (by kernel_rfl) (hK _ _ ?_)
      exact ⟨h.t,
        fun _ => Act.eval_put_same _ _ _ (by rw [hf.1, hsz]; decide),
        fun p => by have := h.l1 (by simpa using p); simpa [Act.eval_put_ne] using this,
        fun p => by have := h.l2 (by simpa using p); simpa [Act.eval_put_ne] using this,
        fun p => by obtain ⟨r, c, h1, h2, h3, h4, h5⟩ := h.m0 (by simpa using p); refine ⟨r, c, by simpa [Act.eval_put_ne] using h1, h2, h3, h4, fun q => ?_⟩; simp [hno] at q,
        fun p => by have := h.m1 (by simpa using p); simpa [Act.eval_put_ne] using this,
        fun p => by have := h.m2 (by simpa using p); simpa [Act.eval_put_ne] using this,
        fun p q => by have := h.n01 (by simpa using p) (by simpa using q); simpa [Act.eval_put_ne] using this,
        fun p q => by have := h.n02 (by simpa using p) (by simpa using q); simpa [Act.eval_put_ne] using this,
        fun p q => by have := h.n12 (by simpa using p) (by simpa using q); simpa [Act.eval_put_ne] using this,
        fun p => by simp [hno] at p,
        fun p => by have := h.o1 (by simpa using p); simp [this.1, this.2],
        fun p => by have := h.o2 (by simpa using p); simp [this.1, this.2]⟩
    · have hds : o.dst = some 99 := by (injection (show some _ = some o from ho) with e; rw [← e]; rfl)
      rw [hds] at hK
      injection (show some _ = some o from ho) with ho
      subst ho
      have hno : L 7 = false := by
        cases hx : L 7 with
        | false => rfl
        | true => have := (h.o1 hx).1; rw [hLi] at this; cases this
      refine wp_load_row 29 _ rfl g (by show a'.eval (.tmp 4) = _; rw [hf.2.2 4 (by decide)]; exact h4) 29 _ (0, 0) _ (hA.no h.t) Try.underlying29 rfl (by kernel_rfl) (hK _ _ ?_)
      exact ⟨h.t,
        fun p => by have := h.l0 (by simpa using p); simpa [Act.eval_put_ne] using this,
        fun _ => Act.eval_put_same _ _ _ (by rw [hf.1, hsz]; decide),
        fun p => by have := h.l2 (by simpa using p); simpa [Act.eval_put_ne] using this,
        fun p => by have := h.m0 (by simpa using p); simpa [Act.eval_put_ne] using this,
        fun p => by obtain ⟨r, c, h1, h2, h3, h4, h5⟩ := h.m1 (by simpa using p); refine ⟨r, c, by simpa [Act.eval_put_ne] using h1, h2, h3, h4, fun q => ?_⟩; simp [hno] at q,
        fun p => by have := h.m2 (by simpa using p); simpa [Act.eval_put_ne] using this,
        fun p q => by have := h.n01 (by simpa using p) (by simpa using q); simpa [Act.eval_put_ne] using this,
        fun p q => by have := h.n02 (by simpa using p) (by simpa using q); simpa [Act.eval_put_ne] using this,
        fun p q => by have := h.n12 (by simpa using p) (by simpa using q); simpa [Act.eval_put_ne] using this,
        fun p => by have := h.o0 (by simpa using p); simp [this.1, this.2],
        fun p => by simp [hno] at p,
        fun p => by have := h.o2 (by simpa using p); simp [this.1, this.2]⟩
    · have hds : o.dst = some 100 := by (injection (show some _ = some o from ho) with e; rw [← e]; rfl)
      rw [hds] at hK
      injection (show some _ = some o from ho) with ho
      subst ho
      have hno : L 8 = false := by
        cases hx : L 8 with
        | false => rfl
        | true => have := (h.o2 hx).1; rw [hLi] at this; cases this
      refine wp_load_row 29 _ rfl g (by show a'.eval (.tmp 4) = _; rw [hf.2.2 4 (by decide)]; exact h4) 29 _ (0, 0) _ (hA.no h.t) Try.underlying29 rfl (by kernel_rfl) (hK _ _ ?_)
      exact ⟨h.t,
        fun p => by have := h.l0 (by simpa using p); simpa [Act.eval_put_ne] using this,
        fun p => by have := h.l1 (by simpa using p); simpa [Act.eval_put_ne] using this,
        fun _ => Act.eval_put_same _ _ _ (by rw [hf.1, hsz]; decide),
        fun p => by have := h.m0 (by simpa using p); simpa [Act.eval_put_ne] using this,
        fun p => by have := h.m1 (by simpa using p); simpa [Act.eval_put_ne] using this,
        fun p => by obtain ⟨r, c, h1, h2, h3, h4, h5⟩ := h.m2 (by simpa using p); refine ⟨r, c, by simpa [Act.eval_put_ne] using h1, h2, h3, h4, fun q => ?_⟩; simp [hno] at q,
        fun p q => by have := h.n01 (by simpa using p) (by simpa using q); simpa [Act.eval_put_ne] using this,
        fun p q => by have := h.n02 (by simpa using p) (by simpa using q); simpa [Act.eval_put_ne] using this,
        fun p q => by have := h.n12 (by simpa using p) (by simpa using q); simpa [Act.eval_put_ne] using this,
        fun p => by have := h.o0 (by simpa using p); simp [this.1, this.2],
        fun p => by have := h.o1 (by simpa using p); simp [this.1, this.2],
        fun p => by simp [hno] at p⟩
    · have hds : o.dst = some 20 := by (injection (show some _ = some o from ho) with e; rw [← e]; rfl)
      rw [hds] at hK
      injection (show some _ = some o from ho) with ho
      subst ho
      have hno : L 6 = false := by
        cases hx : L 6 with
        | false => rfl
        | true => have := (h.o0 hx).2; rw [hLi] at this; cases this
      refine wp_new 29 (.agg #[.bool false, .slice none 0 0, .slice none 0 0, .slice none 0 0, .string ⟨#[]⟩, .bool false, .int .i64 0, .int .u64 0]) rfl (by kernel_rfl) (cells := #[.bool false, .slice none 0 0, .slice none 0 0, .slice none 0 0, .string ⟨#[]⟩, .bool false, .int .i64 0, .int .u64 0]) rfl (hK _ _ ?_)
      have tj : Turn No w' (w'.alloc (.cells #[.bool false, .slice none 0 0, .slice none 0 0, .slice none 0 0, .string ⟨#[]⟩, .bool false, .int .i64 0, .int .u64 0] 29)) := (Turn.refl _ _).alloc _
      have hz := h.t.size
      have hnew := At.new w' (.cells #[.bool false, .slice none 0 0, .slice none 0 0, .slice none 0 0, .string ⟨#[]⟩, .bool false, .int .i64 0, .int .u64 0] 29)
      have hb : Bx w (w'.alloc (.cells #[.bool false, .slice none 0 0, .slice none 0 0, .slice none 0 0, .string ⟨#[]⟩, .bool false, .int .i64 0, .int .u64 0] 29)) (.pointer (some ⟨w'.heap.size, 0, none⟩)) (L 6) (a'.eval (.tmp 98)) := ⟨_, _, rfl, hz, hnew, rfl, fun q => by rw [hno] at q; cases q⟩
      have hne1 : L 4 = true → ∀ r : Value, r = .pointer (some ⟨w'.heap.size, 0, none⟩) → r ≠ a'.eval (.tmp 21) := fun q r hr => by
        obtain ⟨r2, c, h1, h2, h3, h4, h5⟩ := h.m1 q
        rw [hr, h1]
        intro e
        injection e with e
        injection e with e
        injection e with e
        have := h3.lt
        omega
      have hne2 : L 5 = true → ∀ r : Value, r = .pointer (some ⟨w'.heap.size, 0, none⟩) → r ≠ a'.eval (.tmp 22) := fun q r hr => by
        obtain ⟨r2, c, h1, h2, h3, h4, h5⟩ := h.m2 q
        rw [hr, h1]
        intro e
        injection e with e
        injection e with e
        injection e with e
        have := h3.lt
        omega
      replace h := h.no tj
      exact ⟨h.t,
        fun p => by have := h.l0 (by simpa using p); simpa [Act.eval_put_ne] using this,
        fun p => by have := h.l1 (by simpa using p); simpa [Act.eval_put_ne] using this,
        fun p => by have := h.l2 (by simpa using p); simpa [Act.eval_put_ne] using this,
        fun p => by rw [Act.eval_put_same _ _ _ (by rw [hf.1, hsz]; decide)]; simpa [Act.eval_put_ne] using hb,
        fun p => by have := h.m1 (by simpa using p); simpa [Act.eval_put_ne] using this,
        fun p => by have := h.m2 (by simpa using p); simpa [Act.eval_put_ne] using this,
        fun p q => by rw [Act.eval_put_same _ _ _ (by rw [hf.1, hsz]; decide), Act.eval_put_ne _ _ _ _ (by decide)]; exact hne1 (by simpa using q) _ rfl,
        fun p q => by rw [Act.eval_put_same _ _ _ (by rw [hf.1, hsz]; decide), Act.eval_put_ne _ _ _ _ (by decide)]; exact hne2 (by simpa using q) _ rfl,
        fun p q => by have := h.n12 (by simpa using p) (by simpa using q); simpa [Act.eval_put_ne] using this,
        fun p => by simp [hno] at p,
        fun p => by have := h.o1 (by simpa using p); simp [this.1, this.2],
        fun p => by have := h.o2 (by simpa using p); simp [this.1, this.2]⟩
    · have hds : o.dst = some 21 := by (injection (show some _ = some o from ho) with e; rw [← e]; rfl)
      rw [hds] at hK
      injection (show some _ = some o from ho) with ho
      subst ho
      have hno : L 7 = false := by
        cases hx : L 7 with
        | false => rfl
        | true => have := (h.o1 hx).2; rw [hLi] at this; cases this
      refine wp_new 29 (.agg #[.bool false, .slice none 0 0, .slice none 0 0, .slice none 0 0, .string ⟨#[]⟩, .bool false, .int .i64 0, .int .u64 0]) rfl (by kernel_rfl) (cells := #[.bool false, .slice none 0 0, .slice none 0 0, .slice none 0 0, .string ⟨#[]⟩, .bool false, .int .i64 0, .int .u64 0]) rfl (hK _ _ ?_)
      have tj : Turn No w' (w'.alloc (.cells #[.bool false, .slice none 0 0, .slice none 0 0, .slice none 0 0, .string ⟨#[]⟩, .bool false, .int .i64 0, .int .u64 0] 29)) := (Turn.refl _ _).alloc _
      have hz := h.t.size
      have hnew := At.new w' (.cells #[.bool false, .slice none 0 0, .slice none 0 0, .slice none 0 0, .string ⟨#[]⟩, .bool false, .int .i64 0, .int .u64 0] 29)
      have hb : Bx w (w'.alloc (.cells #[.bool false, .slice none 0 0, .slice none 0 0, .slice none 0 0, .string ⟨#[]⟩, .bool false, .int .i64 0, .int .u64 0] 29)) (.pointer (some ⟨w'.heap.size, 0, none⟩)) (L 7) (a'.eval (.tmp 99)) := ⟨_, _, rfl, hz, hnew, rfl, fun q => by rw [hno] at q; cases q⟩
      have hne0 : L 3 = true → ∀ r : Value, r = .pointer (some ⟨w'.heap.size, 0, none⟩) → r ≠ a'.eval (.tmp 20) := fun q r hr => by
        obtain ⟨r2, c, h1, h2, h3, h4, h5⟩ := h.m0 q
        rw [hr, h1]
        intro e
        injection e with e
        injection e with e
        injection e with e
        have := h3.lt
        omega
      have hne2 : L 5 = true → ∀ r : Value, r = .pointer (some ⟨w'.heap.size, 0, none⟩) → r ≠ a'.eval (.tmp 22) := fun q r hr => by
        obtain ⟨r2, c, h1, h2, h3, h4, h5⟩ := h.m2 q
        rw [hr, h1]
        intro e
        injection e with e
        injection e with e
        injection e with e
        have := h3.lt
        omega
      replace h := h.no tj
      exact ⟨h.t,
        fun p => by have := h.l0 (by simpa using p); simpa [Act.eval_put_ne] using this,
        fun p => by have := h.l1 (by simpa using p); simpa [Act.eval_put_ne] using this,
        fun p => by have := h.l2 (by simpa using p); simpa [Act.eval_put_ne] using this,
        fun p => by have := h.m0 (by simpa using p); simpa [Act.eval_put_ne] using this,
        fun p => by rw [Act.eval_put_same _ _ _ (by rw [hf.1, hsz]; decide)]; simpa [Act.eval_put_ne] using hb,
        fun p => by have := h.m2 (by simpa using p); simpa [Act.eval_put_ne] using this,
        fun p q => by rw [Act.eval_put_same _ _ _ (by rw [hf.1, hsz]; decide), Act.eval_put_ne _ _ _ _ (by decide)]; exact fun e => hne0 (by simpa using p) _ rfl e.symm,
        fun p q => by have := h.n02 (by simpa using p) (by simpa using q); simpa [Act.eval_put_ne] using this,
        fun p q => by rw [Act.eval_put_same _ _ _ (by rw [hf.1, hsz]; decide), Act.eval_put_ne _ _ _ _ (by decide)]; exact hne2 (by simpa using q) _ rfl,
        fun p => by have := h.o0 (by simpa using p); simp [this.1, this.2],
        fun p => by simp [hno] at p,
        fun p => by have := h.o2 (by simpa using p); simp [this.1, this.2]⟩
    · have hds : o.dst = some 22 := by (injection (show some _ = some o from ho) with e; rw [← e]; rfl)
      rw [hds] at hK
      injection (show some _ = some o from ho) with ho
      subst ho
      have hno : L 8 = false := by
        cases hx : L 8 with
        | false => rfl
        | true => have := (h.o2 hx).2; rw [hLi] at this; cases this
      refine wp_new 29 (.agg #[.bool false, .slice none 0 0, .slice none 0 0, .slice none 0 0, .string ⟨#[]⟩, .bool false, .int .i64 0, .int .u64 0]) rfl (by kernel_rfl) (cells := #[.bool false, .slice none 0 0, .slice none 0 0, .slice none 0 0, .string ⟨#[]⟩, .bool false, .int .i64 0, .int .u64 0]) rfl (hK _ _ ?_)
      have tj : Turn No w' (w'.alloc (.cells #[.bool false, .slice none 0 0, .slice none 0 0, .slice none 0 0, .string ⟨#[]⟩, .bool false, .int .i64 0, .int .u64 0] 29)) := (Turn.refl _ _).alloc _
      have hz := h.t.size
      have hnew := At.new w' (.cells #[.bool false, .slice none 0 0, .slice none 0 0, .slice none 0 0, .string ⟨#[]⟩, .bool false, .int .i64 0, .int .u64 0] 29)
      have hb : Bx w (w'.alloc (.cells #[.bool false, .slice none 0 0, .slice none 0 0, .slice none 0 0, .string ⟨#[]⟩, .bool false, .int .i64 0, .int .u64 0] 29)) (.pointer (some ⟨w'.heap.size, 0, none⟩)) (L 8) (a'.eval (.tmp 100)) := ⟨_, _, rfl, hz, hnew, rfl, fun q => by rw [hno] at q; cases q⟩
      have hne0 : L 3 = true → ∀ r : Value, r = .pointer (some ⟨w'.heap.size, 0, none⟩) → r ≠ a'.eval (.tmp 20) := fun q r hr => by
        obtain ⟨r2, c, h1, h2, h3, h4, h5⟩ := h.m0 q
        rw [hr, h1]
        intro e
        injection e with e
        injection e with e
        injection e with e
        have := h3.lt
        omega
      have hne1 : L 4 = true → ∀ r : Value, r = .pointer (some ⟨w'.heap.size, 0, none⟩) → r ≠ a'.eval (.tmp 21) := fun q r hr => by
        obtain ⟨r2, c, h1, h2, h3, h4, h5⟩ := h.m1 q
        rw [hr, h1]
        intro e
        injection e with e
        injection e with e
        injection e with e
        have := h3.lt
        omega
      replace h := h.no tj
      exact ⟨h.t,
        fun p => by have := h.l0 (by simpa using p); simpa [Act.eval_put_ne] using this,
        fun p => by have := h.l1 (by simpa using p); simpa [Act.eval_put_ne] using this,
        fun p => by have := h.l2 (by simpa using p); simpa [Act.eval_put_ne] using this,
        fun p => by have := h.m0 (by simpa using p); simpa [Act.eval_put_ne] using this,
        fun p => by have := h.m1 (by simpa using p); simpa [Act.eval_put_ne] using this,
        fun p => by rw [Act.eval_put_same _ _ _ (by rw [hf.1, hsz]; decide)]; simpa [Act.eval_put_ne] using hb,
        fun p q => by have := h.n01 (by simpa using p) (by simpa using q); simpa [Act.eval_put_ne] using this,
        fun p q => by rw [Act.eval_put_same _ _ _ (by rw [hf.1, hsz]; decide), Act.eval_put_ne _ _ _ _ (by decide)]; exact fun e => hne0 (by simpa using p) _ rfl e.symm,
        fun p q => by rw [Act.eval_put_same _ _ _ (by rw [hf.1, hsz]; decide), Act.eval_put_ne _ _ _ _ (by decide)]; exact fun e => hne1 (by simpa using p) _ rfl e.symm,
        fun p => by have := h.o0 (by simpa using p); simp [this.1, this.2],
        fun p => by have := h.o1 (by simpa using p); simp [this.1, this.2],
        fun p => by simp [hno] at p⟩
    · have hds : o.dst = none := by (injection (show some _ = some o from ho) with e; rw [← e]; rfl)
      rw [hds] at hK
      injection (show some _ = some o from ho) with ho
      subst ho
      have hb : L 3 = true := hd ⟨3, .data⟩ (Array.mem_of_getElem? (i := 0) rfl) rfl
      have hc : L 0 = true := hd ⟨0, .data⟩ (Array.mem_of_getElem? (i := 1) rfl) rfl
      obtain ⟨r, c, h1, h2, h3, h4, h5⟩ := h.m0 hb
      have e1 := h.l0 hc
      refine wp_store_row 29 _ _ rfl r _ h1 e1 29 c h3 (by kernel_rfl) (by rw [h4]; rfl) (by simp [Value.oneCell']) (hK undef _ ?_)
      have hx : ∀ x, (a'.put none undef).eval x = a'.eval x := fun x => rfl
      exact ⟨h.t.then (turn_row w' r _) fun k hk e => by omega,
        fun p => h.l0 (by simpa using p),
        fun p => h.l1 (by simpa using p),
        fun p => h.l2 (by simpa using p),
        fun p => by rw [hx, hx]; exact ⟨r, _, h1, h2, setRow_heap w' r c _ 29 (0, 0) h3, rfl, fun _ => e1⟩,
        fun p => by have q : L 4 = true := (by simpa using p); rw [hx, hx]; have := (h.m1 q).row (g := r) (cs := #[.bool leaf, .slice AK K.length ck, .slice AV V.length cv, .slice AD D.length cd, .string high, .bool bnd, .int .i64 sl, .int .u64 ge]) (fun e => h.n01 hb q (by rw [h1, e])); simpa using this,
        fun p => by have q : L 5 = true := (by simpa using p); rw [hx, hx]; have := (h.m2 q).row (g := r) (cs := #[.bool leaf, .slice AK K.length ck, .slice AV V.length cv, .slice AD D.length cd, .string high, .bool bnd, .int .i64 sl, .int .u64 ge]) (fun e => h.n02 hb q (by rw [h1, e])); simpa using this,
        fun p q => h.n01 (by simpa using p) (by simpa using q),
        fun p q => h.n02 (by simpa using p) (by simpa using q),
        fun p q => h.n12 (by simpa using p) (by simpa using q),
        fun p => ⟨by simp [hc], by simp [hb]⟩,
        fun p => by have := h.o1 (by simpa using p); exact ⟨by simp [this.1], by simp [this.2]⟩,
        fun p => by have := h.o2 (by simpa using p); exact ⟨by simp [this.1], by simp [this.2]⟩⟩
    · have hds : o.dst = none := by (injection (show some _ = some o from ho) with e; rw [← e]; rfl)
      rw [hds] at hK
      injection (show some _ = some o from ho) with ho
      subst ho
      have hb : L 4 = true := hd ⟨4, .data⟩ (Array.mem_of_getElem? (i := 0) rfl) rfl
      have hc : L 1 = true := hd ⟨1, .data⟩ (Array.mem_of_getElem? (i := 1) rfl) rfl
      obtain ⟨r, c, h1, h2, h3, h4, h5⟩ := h.m1 hb
      have e1 := h.l1 hc
      refine wp_store_row 29 _ _ rfl r _ h1 e1 29 c h3 (by kernel_rfl) (by rw [h4]; rfl) (by simp [Value.oneCell']) (hK undef _ ?_)
      have hx : ∀ x, (a'.put none undef).eval x = a'.eval x := fun x => rfl
      exact ⟨h.t.then (turn_row w' r _) fun k hk e => by omega,
        fun p => h.l0 (by simpa using p),
        fun p => h.l1 (by simpa using p),
        fun p => h.l2 (by simpa using p),
        fun p => by have q : L 3 = true := (by simpa using p); rw [hx, hx]; have := (h.m0 q).row (g := r) (cs := #[.bool leaf, .slice AK K.length ck, .slice AV V.length cv, .slice AD D.length cd, .string high, .bool bnd, .int .i64 sl, .int .u64 ge]) (fun e => h.n01 q hb (by rw [h1, e])); simpa using this,
        fun p => by rw [hx, hx]; exact ⟨r, _, h1, h2, setRow_heap w' r c _ 29 (0, 0) h3, rfl, fun _ => e1⟩,
        fun p => by have q : L 5 = true := (by simpa using p); rw [hx, hx]; have := (h.m2 q).row (g := r) (cs := #[.bool leaf, .slice AK K.length ck, .slice AV V.length cv, .slice AD D.length cd, .string high, .bool bnd, .int .i64 sl, .int .u64 ge]) (fun e => h.n12 hb q (by rw [h1, e])); simpa using this,
        fun p q => h.n01 (by simpa using p) (by simpa using q),
        fun p q => h.n02 (by simpa using p) (by simpa using q),
        fun p q => h.n12 (by simpa using p) (by simpa using q),
        fun p => by have := h.o0 (by simpa using p); exact ⟨by simp [this.1], by simp [this.2]⟩,
        fun p => ⟨by simp [hc], by simp [hb]⟩,
        fun p => by have := h.o2 (by simpa using p); exact ⟨by simp [this.1], by simp [this.2]⟩⟩
    · have hds : o.dst = none := by (injection (show some _ = some o from ho) with e; rw [← e]; rfl)
      rw [hds] at hK
      injection (show some _ = some o from ho) with ho
      subst ho
      have hb : L 5 = true := hd ⟨5, .data⟩ (Array.mem_of_getElem? (i := 0) rfl) rfl
      have hc : L 2 = true := hd ⟨2, .data⟩ (Array.mem_of_getElem? (i := 1) rfl) rfl
      obtain ⟨r, c, h1, h2, h3, h4, h5⟩ := h.m2 hb
      have e1 := h.l2 hc
      refine wp_store_row 29 _ _ rfl r _ h1 e1 29 c h3 (by kernel_rfl) (by rw [h4]; rfl) (by simp [Value.oneCell']) (hK undef _ ?_)
      have hx : ∀ x, (a'.put none undef).eval x = a'.eval x := fun x => rfl
      exact ⟨h.t.then (turn_row w' r _) fun k hk e => by omega,
        fun p => h.l0 (by simpa using p),
        fun p => h.l1 (by simpa using p),
        fun p => h.l2 (by simpa using p),
        fun p => by have q : L 3 = true := (by simpa using p); rw [hx, hx]; have := (h.m0 q).row (g := r) (cs := #[.bool leaf, .slice AK K.length ck, .slice AV V.length cv, .slice AD D.length cd, .string high, .bool bnd, .int .i64 sl, .int .u64 ge]) (fun e => h.n02 q hb (by rw [h1, e])); simpa using this,
        fun p => by have q : L 4 = true := (by simpa using p); rw [hx, hx]; have := (h.m1 q).row (g := r) (cs := #[.bool leaf, .slice AK K.length ck, .slice AV V.length cv, .slice AD D.length cd, .string high, .bool bnd, .int .i64 sl, .int .u64 ge]) (fun e => h.n12 q hb (by rw [h1, e])); simpa using this,
        fun p => by rw [hx, hx]; exact ⟨r, _, h1, h2, setRow_heap w' r c _ 29 (0, 0) h3, rfl, fun _ => e1⟩,
        fun p q => h.n01 (by simpa using p) (by simpa using q),
        fun p q => h.n02 (by simpa using p) (by simpa using q),
        fun p q => h.n12 (by simpa using p) (by simpa using q),
        fun p => by have := h.o0 (by simpa using p); exact ⟨by simp [this.1], by simp [this.2]⟩,
        fun p => by have := h.o1 (by simpa using p); exact ⟨by simp [this.1], by simp [this.2]⟩,
        fun p => ⟨by simp [hc], by simp [hb]⟩⟩
  · intro L a' w' hall hf h
    obtain ⟨r20, c0, h1, h2, h3, h4', h5⟩ := h.m0 (hall 3 (by decide))
    obtain ⟨r21, c1, i1, i2, i3, i4, i5⟩ := h.m1 (hall 4 (by decide))
    obtain ⟨r22, c2, j1, j2, j3, j4, j5⟩ := h.m2 (hall 5 (by decide))
    have e0 := h5 (hall 6 (by decide))
    have e1 := i5 (hall 7 (by decide))
    have e2 := j5 (hall 8 (by decide))
    rw [h.l0 (hall 0 (by decide))] at e0
    rw [h.l1 (hall 1 (by decide))] at e1
    rw [h.l2 (hall 2 (by decide))] at e2
    injection e0 with e0
    injection e1 with e1
    injection e2 with e2
    subst e0 e1 e2
    have he := hf.eq (by intro s hs; rw [hsz]; simp at hs; omega)
    simp only [List.map_cons, List.map_nil] at he
    rw [h1, i1, j1] at he
    rw [he]
    exact hQ _ _ _ r20 r21 r22 w' h.t h3 i3 j3 ⟨h2, i2, j2⟩ ⟨fun e => h.n01 (hall 3 (by decide)) (hall 4 (by decide)) (by rw [h1, i1, e]), fun e => h.n02 (hall 3 (by decide)) (hall 5 (by decide)) (by rw [h1, j1, e]), fun e => h.n12 (hall 4 (by decide)) (hall 5 (by decide)) (by rw [i1, j1, e])⟩
end Go.Proofs.Ytengbkopihiiaaa
