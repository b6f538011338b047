/-
  The region of BlnodeSplits that makes two copies, whatever its order.
-/
import Derived.Test.YtengbkopihiiaaaRk
import Derived.Test.YtengbkopihiiaaaSps
namespace Go.Proofs.Ytengbkopihiiaaa
open Go.RowKit Go.Lib
set_option linter.unusedVariables false
set_option maxRecDepth 20000
set_option linter.unusedSimpArgs false

/-- A copy: a node of its own. -/
def Cpv (w wx : World) (leaf : Bool) (K V : List ByteArray) (D : List Hn) (high : ByteArray) (bnd : Bool) (sl ge : Int) (v : Value) : Prop :=
  ∃ X1 x1 X2 x2 X3 x3, v = .agg #[.bool leaf, .slice X1 K.length x1, .slice X2 V.length x2, .slice X3 D.length x3, .string high, .bool bnd, .int .i64 sl, .int .u64 ge] ∧ Own w.heap.size wx K V D X1 x1 X2 x2 X3 x3
/-- A block for a node; written or not. -/
def Bx (w wx : World) (v : Value) (done : Bool) (u : Value) : Prop :=
  ∃ r c, v = .pointer (some ⟨r, 0, none⟩) ∧ w.heap.size ≤ r ∧ At wx r (.cells c 29 (0, 0)) ∧ c.size = 8 ∧ (done = true → u = .agg c)
theorem Bx.no {w wx w2 : World} {v u : Value} {d : Bool} (h : Bx w wx v d u) (t : Turn No wx w2) : Bx w w2 v d u := by
  obtain ⟨r, c, h1, h2, h3, h4, h5⟩ := h
  exact ⟨r, c, h1, h2, h3.no t, h4, h5⟩
theorem Bx.row {w wx : World} {v u : Value} {d : Bool} (h : Bx w wx v d u) {g : Nat} {cs : Array Value} (hg : v ≠ .pointer (some ⟨g, 0, none⟩)) : Bx w (wx.setRow g cs) v d u := by
  obtain ⟨r, c, h1, h2, h3, h4, h5⟩ := h
  exact ⟨r, c, h1, h2, h3.turn (turn_row wx g cs) (fun e => hg (by rw [h1, e])), h4, h5⟩
section
variable {w wx : World} {leaf : Bool} {K V : List ByteArray} {D : List Hn} {high : ByteArray} {bnd : Bool} {sl ge : Int} {v : Value}
theorem Cpv.no (h : Cpv w wx leaf K V D high bnd sl ge v) {w2 : World} (t : Turn No wx w2) : Cpv w w2 leaf K V D high bnd sl ge v := by
  obtain ⟨X1, x1, X2, x2, X3, x3, h1, h2⟩ := h
  exact ⟨X1, x1, X2, x2, X3, x3, h1, h2.no t⟩
theorem Cpv.row (h : Cpv w wx leaf K V D high bnd sl ge v) {g : Nat} {cs c : Array Value} (hg : At wx g (.cells c 29 (0, 0))) : Cpv w (wx.setRow g cs) leaf K V D high bnd sl ge v := by
  obtain ⟨X1, x1, X2, x2, X3, x3, h1, h2⟩ := h
  exact ⟨X1, x1, X2, x2, X3, x3, h1, h2.wr hg (turn_row wx g cs)⟩
end
/-- While the two copies are made. -/
structure Tc (w : World) (N : Array Value) (C : World → Value → Prop) (L : Nat → Bool) (b : Act) (wx : World) : Prop where
  t : Turn No w wx
  l0 : L 0 = true → b.eval (.tmp 59) = .agg N
  l2 : L 2 = true → b.eval (.tmp 61) = .agg N
  l1 : L 1 = true → C wx (b.eval (.tmp 60))
  l3 : L 3 = true → C wx (b.eval (.tmp 62))
  l4 : L 4 = true → Bx w wx (b.eval (.tmp 11)) (L 6) (b.eval (.tmp 60))
  l5 : L 5 = true → Bx w wx (b.eval (.tmp 12)) (L 7) (b.eval (.tmp 62))
  ne : L 4 = true → L 5 = true → b.eval (.tmp 11) ≠ b.eval (.tmp 12)
  o6 : L 6 = true → L 1 = true ∧ L 4 = true
  o7 : L 7 = true → L 3 = true ∧ L 5 = true
def ops11 : Array Oper := #[{ dst := some 59, op := Go.Op.load 29 (Go.Operand.tmp 2), type := 29, pos := "law.go:208", after := #[], guard := none }, { dst := some 60, op := Go.Op.call { callee := Go.Callee.value (Go.Operand.func 29), args := #[Go.Operand.tmp 59], argTypes := #[29] }, type := 29, pos := "law.go:208", after := #[{ on := 0, ground := Go.Ground.data }], guard := none }, { dst := some 61, op := Go.Op.load 29 (Go.Operand.tmp 2), type := 29, pos := "law.go:208", after := #[], guard := none }, { dst := some 62, op := Go.Op.call { callee := Go.Callee.value (Go.Operand.func 29), args := #[Go.Operand.tmp 61], argTypes := #[29] }, type := 29, pos := "law.go:208", after := #[{ on := 2, ground := Go.Ground.data }, { on := 1, ground := Go.Ground.chain }], guard := none }, { dst := some 11, op := Go.Op.alloc 29, type := 0, pos := "law.go:208", after := #[], guard := none }, { dst := some 12, op := Go.Op.alloc 29, type := 0, pos := "law.go:208", after := #[], guard := none }, { dst := none, op := Go.Op.store 29 (Go.Operand.tmp 11) (Go.Operand.tmp 60), type := 0, pos := "law.go:208", after := #[{ on := 4, ground := Go.Ground.data }, { on := 1, ground := Go.Ground.data }, { on := 3, ground := Go.Ground.chain }, { on := 0, ground := Go.Ground.phase }, { on := 1, ground := Go.Ground.phase }, { on := 2, ground := Go.Ground.textOnly Go.Departure.lateStores }, { on := 3, ground := Go.Ground.textOnly Go.Departure.lateStoresUnsure }, { on := 4, ground := Go.Ground.phase }, { on := 5, ground := Go.Ground.phase }], guard := none }, { dst := none, op := Go.Op.store 29 (Go.Operand.tmp 12) (Go.Operand.tmp 62), type := 0, pos := "law.go:208", after := #[{ on := 5, ground := Go.Ground.data }, { on := 3, ground := Go.Ground.data }, { on := 6, ground := Go.Ground.chain }, { on := 0, ground := Go.Ground.phase }, { on := 1, ground := Go.Ground.phase }, { on := 2, ground := Go.Ground.phase }, { on := 3, ground := Go.Ground.phase }, { on := 4, ground := Go.Ground.phase }, { on := 5, ground := Go.Ground.phase }, { on := 6, ground := Go.Ground.phase }], guard := none }]
theorem Tc.no {w : World} {N : Array Value} {C : World → Value → Prop} {L : Nat → Bool} {b : Act} {wx w2 : World} (hC : ∀ v, C wx v → C w2 v) (h : Tc w N C L b wx) (t : Turn No wx w2) : Tc w N C L b w2 :=
  ⟨h.t.trans t, h.l0, h.l2, fun p => hC _ (h.l1 p), fun p => hC _ (h.l3 p), fun p => (h.l4 p).no t, fun p => (h.l5 p).no t, h.ne, h.o6, h.o7⟩
set_option maxRecDepth 100000 in
set_option maxHeartbeats 8000000 in
theorem two_copies {Q : Exit → Act → World → Prop} {a : Act} {w : World} {g : Nat} {leaf : Bool} {K V : List ByteArray} {D : List Hn} {high : ByteArray} {bnd : Bool} {sl ge : Int} {AK AV AD : Option Addr} {ck cv cd : Nat}
    (hsz : a.tmps.size = 162) (h2 : a.eval (.tmp 2) = .pointer (some ⟨g, 0, none⟩)) (hA : At w g (.cells #[.bool leaf, .slice AK K.length ck, .slice AV V.length cv, .slice AD D.length cd, .string high, .bool bnd, .int .i64 sl, .int .u64 ge] 29 (0, 0)))
    (hC0 : ∀ W, Turn No w W → Calls Try.prog 29 #[.agg #[.bool leaf, .slice AK K.length ck, .slice AV V.length cv, .slice AD D.length cd, .string high, .bool bnd, .int .i64 sl, .int .u64 ge]] W fun e w' => CopyRes leaf K V D high bnd sl ge W e w')
    (hQ : ∀ v59 v60 v61 v62 r11 r12 X1 x1 X2 x2 X3 x3 Y1 y1 Y2 y2 Y3 y3 w', Turn No w w' → At w' r11 (.cells #[.bool leaf, .slice X1 K.length x1, .slice X2 V.length x2, .slice X3 D.length x3, .string high, .bool bnd, .int .i64 sl, .int .u64 ge] 29 (0, 0)) → At w' r12 (.cells #[.bool leaf, .slice Y1 K.length y1, .slice Y2 V.length y2, .slice Y3 D.length y3, .string high, .bool bnd, .int .i64 sl, .int .u64 ge] 29 (0, 0)) → Own w.heap.size w' K V D X1 x1 X2 x2 X3 x3 → Own w.heap.size w' K V D Y1 y1 Y2 y2 Y3 y3 → w.heap.size ≤ r11 → w.heap.size ≤ r12 → r11 ≠ r12 →
      Q .normal (puts a [(59, v59), (60, v60), (61, v61), (62, v62), (11, .pointer (some ⟨r11, 0, none⟩)), (12, .pointer (some ⟨r12, 0, none⟩))]) w') : (Code.region 11 ops11 true).wp Try.prog Q a w := by
  have h0t : Turn No w w := Turn.refl _ _
  have hC : ∀ W, Turn No w W → Calls Try.prog 29 #[.agg #[.bool leaf, .slice AK K.length ck, .slice AV V.length cv, .slice AD D.length cd, .string high, .bool bnd, .int .i64 sl, .int .u64 ge]] W fun e w' => CopyRes leaf K V D high bnd sl ge W e w' := hC0
  refine region_J (by kernel_rfl) [59, 60, 61, 62, 11, 12] (Tc w #[.bool leaf, .slice AK K.length ck, .slice AV V.length cv, .slice AD D.length cd, .string high, .bool bnd, .int .i64 sl, .int .u64 ge] (fun wx v => Cpv w wx leaf K V D high bnd sl ge v)) ?_ ?_ ?_ ?_
  · refine ⟨(Turn.refl No w).drew, ?_, ?_, ?_, ?_, ?_, ?_, ?_, ?_, ?_⟩ <;> intro p <;> first | cases p | (intro q; cases q)
  · intro i o ho
    have hall : (ops11.toList.zipIdx.all fun q => q.1.guard.isNone && (q.1.after.toList.all fun e => Nat.blt e.on q.2) && (match q.1.dst with | none => true | some s => [59, 60, 61, 62, 11, 12].contains s)) = true := by kernel_rfl
    have hm := List.all_eq_true.1 hall (o, i) (by
      rw [List.mem_iff_getElem?]
      refine ⟨i, ?_⟩
      rw [List.getElem?_zipIdx, Array.getElem?_toList, ho]
      simp)
    simp only [Bool.and_eq_true, List.all_eq_true, Option.isNone_iff_eq_none] at hm
    refine ⟨hm.1.1, fun e he _ => by have := hm.1.2 e (Array.mem_toList_iff.2 he); simpa using this, fun s hs => ?_⟩
    have := hm.2
    rw [hs] at this
    simpa using this
  · intro i o ho L a' w' hf h hLi hd K2 hK
    have hin : i < 8 := (Array.getElem?_eq_some_iff.1 ho).1
    rcases i with _ | _ | _ | _ | _ | _ | _ | _ | i
    rotate_left 8
    · omega
    · have hds : o.dst = some 59 := by (injection (show some _ = some o from ho) with e; rw [← e]; rfl)
      rw [hds] at hK
      injection (show some _ = some o from ho) with ho
      subst ho
      refine wp_load_row 29 _ rfl g (by show a'.eval (.tmp 2) = _; rw [hf.2.2 2 (by decide)]; exact h2) 29 _ (0, 0) _ (hA.no h.t) Try.underlying29 rfl (by kernel_rfl) (hK _ _ ?_)
      exact ⟨h.t,
        fun _ => Act.eval_put_same _ _ _ (by rw [hf.1, hsz]; decide),
        fun p => by have := h.l2 (by simpa using p); simpa [Act.eval_put_ne] using this,
        fun p => by have := h.l1 (by simpa using p); simpa [Act.eval_put_ne] using this,
        fun p => by have := h.l3 (by simpa using p); simpa [Act.eval_put_ne] using this,
        fun p => by have := h.l4 (by simpa using p); simpa [Act.eval_put_ne] using this,
        fun p => by have := h.l5 (by simpa using p); simpa [Act.eval_put_ne] using this,
        fun p q => by have := h.ne (by simpa using p) (by simpa using q); simpa [Act.eval_put_ne] using this,
        fun p => by have := h.o6 (by simpa using p); simp [this.1, this.2],
        fun p => by have := h.o7 (by simpa using p); simp [this.1, this.2]⟩
    · have hds : o.dst = some 60 := by (injection (show some _ = some o from ho) with e; rw [← e]; rfl)
      rw [hds] at hK
      injection (show some _ = some o from ho) with ho
      subst ho
      have hl : L 0 = true := hd ⟨0, .data⟩ (Array.mem_of_getElem? (i := 0) rfl) rfl
      refine wp_callF 29 _ _ _ rfl (h.l0 hl) Try.func29 (by kernel_rfl) (by kernel_rfl) ((hC w' h.t).mono ?_)
      rintro e w2 ⟨X1, x1, X2, x2, X3, x3, rfl, ho, ht⟩
      have hzz := h.t.size
      replace h := h.no (fun _ q => Cpv.no q ht) ht
      have hno : L 6 = false := by
        cases hx : L 6 with
        | false => rfl
        | true => have := (h.o6 hx).1; rw [hLi] at this; cases this
      refine ⟨_, rfl, hK _ _ ?_⟩
      exact ⟨h.t,
        fun p => by have := h.l0 (by simpa using p); simpa [Act.eval_put_ne] using this,
        fun p => by have := h.l2 (by simpa using p); simpa [Act.eval_put_ne] using this,
        fun _ => by rw [Act.eval_put_same _ _ _ (by rw [hf.1, hsz]; decide)]; exact ⟨X1, x1, X2, x2, X3, x3, rfl, ho.from hzz⟩,
        fun p => by have := h.l3 (by simpa using p); simpa [Act.eval_put_ne] using this,
        fun p => by obtain ⟨r, c, h1, h2, h3, h4, h5⟩ := h.l4 (by simpa using p); refine ⟨r, c, by simpa [Act.eval_put_ne] using h1, h2, h3, h4, fun q => ?_⟩; simp [hno] at q,
        fun p => by have := h.l5 (by simpa using p); simpa [Act.eval_put_ne] using this,
        fun p q => by have := h.ne (by simpa using p) (by simpa using q); simpa [Act.eval_put_ne] using this,
        fun p => by simp [hno] at p,
        fun p => by have := h.o7 (by simpa using p); simp [this.1, this.2]⟩
    · have hds : o.dst = some 61 := by (injection (show some _ = some o from ho) with e; rw [← e]; rfl)
      rw [hds] at hK
      injection (show some _ = some o from ho) with ho
      subst ho
      refine wp_load_row 29 _ rfl g (by show a'.eval (.tmp 2) = _; rw [hf.2.2 2 (by decide)]; exact h2) 29 _ (0, 0) _ (hA.no h.t) Try.underlying29 rfl (by kernel_rfl) (hK _ _ ?_)
      exact ⟨h.t,
        fun p => by have := h.l0 (by simpa using p); simpa [Act.eval_put_ne] using this,
        fun _ => Act.eval_put_same _ _ _ (by rw [hf.1, hsz]; decide),
        fun p => by have := h.l1 (by simpa using p); simpa [Act.eval_put_ne] using this,
        fun p => by have := h.l3 (by simpa using p); simpa [Act.eval_put_ne] using this,
        fun p => by have := h.l4 (by simpa using p); simpa [Act.eval_put_ne] using this,
        fun p => by have := h.l5 (by simpa using p); simpa [Act.eval_put_ne] using this,
        fun p q => by have := h.ne (by simpa using p) (by simpa using q); simpa [Act.eval_put_ne] using this,
        fun p => by have := h.o6 (by simpa using p); simp [this.1, this.2],
        fun p => by have := h.o7 (by simpa using p); simp [this.1, this.2]⟩
    · have hds : o.dst = some 62 := by (injection (show some _ = some o from ho) with e; rw [← e]; rfl)
      rw [hds] at hK
      injection (show some _ = some o from ho) with ho
      subst ho
      have hl : L 2 = true := hd ⟨2, .data⟩ (Array.mem_of_getElem? (i := 0) rfl) rfl
      refine wp_callF 29 _ _ _ rfl (h.l2 hl) Try.func29 (by kernel_rfl) (by kernel_rfl) ((hC w' h.t).mono ?_)
      rintro e w2 ⟨X1, x1, X2, x2, X3, x3, rfl, ho, ht⟩
      have hzz := h.t.size
      replace h := h.no (fun _ q => Cpv.no q ht) ht
      have hno : L 7 = false := by
        cases hx : L 7 with
        | false => rfl
        | true => have := (h.o7 hx).1; rw [hLi] at this; cases this
      refine ⟨_, rfl, hK _ _ ?_⟩
      exact ⟨h.t,
        fun p => by have := h.l0 (by simpa using p); simpa [Act.eval_put_ne] using this,
        fun p => by have := h.l2 (by simpa using p); simpa [Act.eval_put_ne] using this,
        fun p => by have := h.l1 (by simpa using p); simpa [Act.eval_put_ne] using this,
        fun _ => by rw [Act.eval_put_same _ _ _ (by rw [hf.1, hsz]; decide)]; exact ⟨X1, x1, X2, x2, X3, x3, rfl, ho.from hzz⟩,
        fun p => by have := h.l4 (by simpa using p); simpa [Act.eval_put_ne] using this,
        fun p => by obtain ⟨r, c, h1, h2, h3, h4, h5⟩ := h.l5 (by simpa using p); refine ⟨r, c, by simpa [Act.eval_put_ne] using h1, h2, h3, h4, fun q => ?_⟩; simp [hno] at q,
        fun p q => by have := h.ne (by simpa using p) (by simpa using q); simpa [Act.eval_put_ne] using this,
        fun p => by have := h.o6 (by simpa using p); simp [this.1, this.2],
        fun p => by simp [hno] at p⟩
    · have hds : o.dst = some 11 := by (injection (show some _ = some o from ho) with e; rw [← e]; rfl)
      rw [hds] at hK
      injection (show some _ = some o from ho) with ho
      subst ho
      have hno : L 6 = false := by
        cases hx : L 6 with
        | false => rfl
        | true => have := (h.o6 hx).2; rw [hLi] at this; cases this
      refine wp_new 29 (.agg #[.bool false, .slice none 0 0, .slice none 0 0, .slice none 0 0, .string ⟨#[]⟩, .bool false, .int .i64 0, .int .u64 0]) rfl (by kernel_rfl) (cells := #[.bool false, .slice none 0 0, .slice none 0 0, .slice none 0 0, .string ⟨#[]⟩, .bool false, .int .i64 0, .int .u64 0]) rfl (hK _ _ ?_)
      have tj : Turn No w' (w'.alloc (.cells #[.bool false, .slice none 0 0, .slice none 0 0, .slice none 0 0, .string ⟨#[]⟩, .bool false, .int .i64 0, .int .u64 0] 29)) := (Turn.refl _ _).alloc _
      have hz := h.t.size
      have hnew := At.new w' (.cells #[.bool false, .slice none 0 0, .slice none 0 0, .slice none 0 0, .string ⟨#[]⟩, .bool false, .int .i64 0, .int .u64 0] 29)
      have hb : Bx w (w'.alloc (.cells #[.bool false, .slice none 0 0, .slice none 0 0, .slice none 0 0, .string ⟨#[]⟩, .bool false, .int .i64 0, .int .u64 0] 29)) (.pointer (some ⟨w'.heap.size, 0, none⟩)) (L 6) (a'.eval (.tmp 60)) := ⟨_, _, rfl, hz, hnew, rfl, fun q => by rw [hno] at q; cases q⟩
      have hne : L 5 = true → ∀ r : Value, r = .pointer (some ⟨w'.heap.size, 0, none⟩) → r ≠ a'.eval (.tmp 12) := fun q r hr => by
        obtain ⟨r2, c, h1, h2, h3, h4, h5⟩ := h.l5 q
        rw [hr, h1]
        intro e
        injection e with e
        injection e with e
        injection e with e
        have := h3.lt
        omega
      replace h := h.no (fun _ q => Cpv.no q tj) tj
      exact ⟨h.t,
        fun p => by have := h.l0 (by simpa using p); simpa [Act.eval_put_ne] using this,
        fun p => by have := h.l2 (by simpa using p); simpa [Act.eval_put_ne] using this,
        fun p => by have := h.l1 (by simpa using p); simpa [Act.eval_put_ne] using this,
        fun p => by have := h.l3 (by simpa using p); simpa [Act.eval_put_ne] using this,
        fun p => by rw [Act.eval_put_same _ _ _ (by rw [hf.1, hsz]; decide)]; simpa [Act.eval_put_ne] using hb,
        fun p => by have := h.l5 (by simpa using p); simpa [Act.eval_put_ne] using this,
        fun p q => by rw [Act.eval_put_same _ _ _ (by rw [hf.1, hsz]; decide), Act.eval_put_ne _ _ _ _ (by decide)]; exact hne (by simpa using q) _ rfl,
        fun p => by simp [hno] at p,
        fun p => by have := h.o7 (by simpa using p); simp [this.1, this.2]⟩
    · have hds : o.dst = some 12 := by (injection (show some _ = some o from ho) with e; rw [← e]; rfl)
      rw [hds] at hK
      injection (show some _ = some o from ho) with ho
      subst ho
      have hno : L 7 = false := by
        cases hx : L 7 with
        | false => rfl
        | true => have := (h.o7 hx).2; rw [hLi] at this; cases this
      refine wp_new 29 (.agg #[.bool false, .slice none 0 0, .slice none 0 0, .slice none 0 0, .string ⟨#[]⟩, .bool false, .int .i64 0, .int .u64 0]) rfl (by kernel_rfl) (cells := #[.bool false, .slice none 0 0, .slice none 0 0, .slice none 0 0, .string ⟨#[]⟩, .bool false, .int .i64 0, .int .u64 0]) rfl (hK _ _ ?_)
      have tj : Turn No w' (w'.alloc (.cells #[.bool false, .slice none 0 0, .slice none 0 0, .slice none 0 0, .string ⟨#[]⟩, .bool false, .int .i64 0, .int .u64 0] 29)) := (Turn.refl _ _).alloc _
      have hz := h.t.size
      have hnew := At.new w' (.cells #[.bool false, .slice none 0 0, .slice none 0 0, .slice none 0 0, .string ⟨#[]⟩, .bool false, .int .i64 0, .int .u64 0] 29)
      have hb : Bx w (w'.alloc (.cells #[.bool false, .slice none 0 0, .slice none 0 0, .slice none 0 0, .string ⟨#[]⟩, .bool false, .int .i64 0, .int .u64 0] 29)) (.pointer (some ⟨w'.heap.size, 0, none⟩)) (L 7) (a'.eval (.tmp 62)) := ⟨_, _, rfl, hz, hnew, rfl, fun q => by rw [hno] at q; cases q⟩
      have hne : L 4 = true → ∀ r : Value, r = .pointer (some ⟨w'.heap.size, 0, none⟩) → r ≠ a'.eval (.tmp 11) := fun q r hr => by
        obtain ⟨r2, c, h1, h2, h3, h4, h5⟩ := h.l4 q
        rw [hr, h1]
        intro e
        injection e with e
        injection e with e
        injection e with e
        have := h3.lt
        omega
      replace h := h.no (fun _ q => Cpv.no q tj) tj
      exact ⟨h.t,
        fun p => by have := h.l0 (by simpa using p); simpa [Act.eval_put_ne] using this,
        fun p => by have := h.l2 (by simpa using p); simpa [Act.eval_put_ne] using this,
        fun p => by have := h.l1 (by simpa using p); simpa [Act.eval_put_ne] using this,
        fun p => by have := h.l3 (by simpa using p); simpa [Act.eval_put_ne] using this,
        fun p => by have := h.l4 (by simpa using p); simpa [Act.eval_put_ne] using this,
        fun p => by rw [Act.eval_put_same _ _ _ (by rw [hf.1, hsz]; decide)]; simpa [Act.eval_put_ne] using hb,
        fun p q => by rw [Act.eval_put_same _ _ _ (by rw [hf.1, hsz]; decide), Act.eval_put_ne _ _ _ _ (by decide)]; exact fun e => hne (by simpa using p) _ rfl e.symm,
        fun p => by have := h.o6 (by simpa using p); simp [this.1, this.2],
        fun p => by simp [hno] at p⟩
    · have hds : o.dst = none := by (injection (show some _ = some o from ho) with e; rw [← e]; rfl)
      rw [hds] at hK
      injection (show some _ = some o from ho) with ho
      subst ho
      have hb4 : L 4 = true := hd ⟨4, .data⟩ (Array.mem_of_getElem? (i := 0) rfl) rfl
      have hc1 : L 1 = true := hd ⟨1, .data⟩ (Array.mem_of_getElem? (i := 1) rfl) rfl
      obtain ⟨r, c, h1, h2', h3, h4, h5⟩ := h.l4 hb4
      obtain ⟨X1, x1, X2, x2, X3, x3, e1, ho⟩ := h.l1 hc1
      refine wp_store_row 29 _ _ rfl r _ h1 e1 29 c h3 (by kernel_rfl) (by rw [h4]; rfl) (by simp [Value.oneCell']) (hK undef _ ?_)
      have hx : ∀ x, (a'.put none undef).eval x = a'.eval x := fun x => rfl
      refine ⟨h.t.then (turn_row w' r _) fun k hk e => by omega, fun p => h.l0 (by simpa using p), fun p => h.l2 (by simpa using p), fun p => (h.l1 (by simpa using p)).row h3, fun p => (h.l3 (by simpa using p)).row h3, ?_, ?_, fun p q => h.ne (by simpa using p) (by simpa using q), ?_, ?_⟩
      · intro p
        rw [hx, hx]
        exact ⟨r, _, h1, h2', setRow_heap w' r c _ 29 (0, 0) h3, rfl, fun _ => e1⟩
      · intro p
        have p : L 5 = true := by simpa using p
        rw [hx, hx]
        have := (h.l5 p).row (g := r) (cs := #[.bool leaf, .slice X1 K.length x1, .slice X2 V.length x2, .slice X3 D.length x3, .string high, .bool bnd, .int .i64 sl, .int .u64 ge]) (fun e => h.ne hb4 p (by rw [h1, e]))
        simpa using this
      · intro p
        exact ⟨by simp [hc1], by simp [hb4]⟩
      · intro p
        have := h.o7 (by simpa using p)
        exact ⟨by simp [this.1], by simp [this.2]⟩
    · have hds : o.dst = none := by (injection (show some _ = some o from ho) with e; rw [← e]; rfl)
      rw [hds] at hK
      injection (show some _ = some o from ho) with ho
      subst ho
      have hb5 : L 5 = true := hd ⟨5, .data⟩ (Array.mem_of_getElem? (i := 0) rfl) rfl
      have hc3 : L 3 = true := hd ⟨3, .data⟩ (Array.mem_of_getElem? (i := 1) rfl) rfl
      obtain ⟨r, c, h1, h2', h3, h4, h5⟩ := h.l5 hb5
      obtain ⟨X1, x1, X2, x2, X3, x3, e1, ho⟩ := h.l3 hc3
      refine wp_store_row 29 _ _ rfl r _ h1 e1 29 c h3 (by kernel_rfl) (by rw [h4]; rfl) (by simp [Value.oneCell']) (hK undef _ ?_)
      have hx : ∀ x, (a'.put none undef).eval x = a'.eval x := fun x => rfl
      refine ⟨h.t.then (turn_row w' r _) fun k hk e => by omega, fun p => h.l0 (by simpa using p), fun p => h.l2 (by simpa using p), fun p => (h.l1 (by simpa using p)).row h3, fun p => (h.l3 (by simpa using p)).row h3, ?_, ?_, fun p q => h.ne (by simpa using p) (by simpa using q), ?_, ?_⟩
      · intro p
        have p : L 4 = true := by simpa using p
        rw [hx, hx]
        have := (h.l4 p).row (g := r) (cs := #[.bool leaf, .slice X1 K.length x1, .slice X2 V.length x2, .slice X3 D.length x3, .string high, .bool bnd, .int .i64 sl, .int .u64 ge]) (fun e => h.ne p hb5 (by rw [h1, e]))
        simpa using this
      · intro p
        rw [hx, hx]
        exact ⟨r, _, h1, h2', setRow_heap w' r c _ 29 (0, 0) h3, rfl, fun _ => e1⟩
      · intro p
        have := h.o6 (by simpa using p)
        exact ⟨by simp [this.1], by simp [this.2]⟩
      · intro p
        exact ⟨by simp [hc3], by simp [hb5]⟩
  · intro L a' w' hall hf h
    obtain ⟨X1, x1, X2, x2, X3, x3, e60, ho⟩ := h.l1 (hall 1 (by decide))
    obtain ⟨Y1, y1, Y2, y2, Y3, y3, e62, ho2⟩ := h.l3 (hall 3 (by decide))
    obtain ⟨r11, c, h1, h2, h3, h4, h5⟩ := h.l4 (hall 4 (by decide))
    obtain ⟨r12, c2, k1, k2, k3, k4, k5⟩ := h.l5 (hall 5 (by decide))
    have e1 := h5 (hall 6 (by decide))
    have e2 := k5 (hall 7 (by decide))
    rw [e60] at e1
    rw [e62] at e2
    injection e1 with e1
    injection e2 with e2
    subst e1 e2
    have he := hf.eq (by intro s hs; rw [hsz]; simp at hs; omega)
    simp only [List.map_cons, List.map_nil] at he
    rw [h1, k1] at he
    rw [he]
    exact hQ _ _ _ _ r11 r12 _ _ _ _ _ _ _ _ _ _ _ _ w' h.t h3 k3 ho ho2 h2 k2 fun e => h.ne (hall 4 (by decide)) (hall 5 (by decide)) (by rw [h1, k1, e])
end Go.Proofs.Ytengbkopihiiaaa
