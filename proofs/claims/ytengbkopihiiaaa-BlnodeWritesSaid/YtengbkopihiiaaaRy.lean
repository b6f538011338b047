/-
  The regions of BlnodeWrites that put a key and a kid between, whatever their order.
-/
import Derived.Test.YtengbkopihiiaaaRx
namespace Go.Proofs.Ytengbkopihiiaaa
open Go.RowKit Go.Lib
set_option linter.unusedVariables false
set_option maxRecDepth 20000
set_option linter.unusedSimpArgs false

theorem op_fa (f : Nat) (p : Nat) {o : Oper} {a : Act} {w : World} {g : Nat} (ho : o.op = .fieldAddr 29 (.tmp p) f) (hf : f = 1 ∨ f = 3) (h : a.eval (.tmp p) = .pointer (some ⟨g, 0, none⟩)) : (execOp a.eval o).run Try.prog w = .ok (.value (.pointer (some ⟨g, f, none⟩))) w := by
  rcases hf with rfl | rfl
  · simp only [execOp, ho, h]
    go_simp
  · simp only [execOp, ho, h]
    go_simp
theorem op_ld (t : Nat) (p : Nat) {o : Oper} {a : Act} {w : World} {g f n c : Nat} {A : Option Addr} (ho : o.op = .load t (.tmp p)) (ht : t = 23 ∨ t = 24) (h : a.eval (.tmp p) = .pointer (some ⟨g, f, none⟩)) (hc : w.cell? ⟨g, f, none⟩ = some (.slice A n c)) : (execOp a.eval o).run Try.prog w = .ok (.value (.slice A n c)) w := by
  rcases ht with rfl | rfl
  · simp only [execOp, ho, h]
    go_simp
  · simp only [execOp, ho, h]
    go_simp
theorem op_e0 (t e : Nat) {o : Oper} {a : Act} {w : World} (ho : o.op = .buildSlice t 0 #[]) (ht : t = 23 ∧ e = 9 ∨ t = 24 ∧ e = 27) : (execOp a.eval o).run Try.prog w = .ok (.value (.slice (some ⟨w.heap.size, 0, none⟩) 0 0)) (w.alloc (.cells #[] e)) := by
  rcases ht with ⟨rfl, rfl⟩ | ⟨rfl, rfl⟩
  · simp only [execOp, ho]
    kernel_rfl
  · simp only [execOp, ho]
    kernel_rfl
theorem op_kb (p : Nat) {o : Oper} {a : Act} {w : World} {x : ByteArray} (ho : o.op = .buildSlice 23 1 #[(0, .tmp p)]) (h : a.eval (.tmp p) = .string x) : (execOp a.eval o).run Try.prog w = .ok (.value (.slice (some ⟨w.heap.size, 0, none⟩) 1 1)) (w.alloc (.cells #[.string x] 9)) := by
  simp only [execOp, ho, h, List.map_toArray, List.map_cons, List.map_nil]
  kernel_rfl
theorem op_kbH (p : Nat) {o : Oper} {a : Act} {w : World} {x y : Int} (ho : o.op = .buildSlice 24 1 #[(0, .tmp p)]) (h : a.eval (.tmp p) = .agg #[.int .i64 x, .int .u64 y]) : (execOp a.eval o).run Try.prog w = .ok (.value (.slice (some ⟨w.heap.size, 0, none⟩) 1 1)) (w.alloc (.cells #[.int .i64 x, .int .u64 y] 27)) := by
  simp only [execOp, ho, h, List.map_toArray, List.map_cons, List.map_nil]
  kernel_rfl
theorem op_sT (t p q : Nat) {o : Oper} {a : Act} {w : World} {A : Option Addr} {n c P : Nat} (ho : o.op = .slice t (.tmp p) none (some (.tmp q)) none) (ht : t = 23 ∨ t = 24) (h1 : P ≤ c) (h3 : a.eval (.tmp p) = .slice A n c) (h4 : a.eval (.tmp q) = .int .i64 (P : Int)) : (execOp a.eval o).run Try.prog w = .ok (.value (.slice A P c)) w := by
  have q1 : (0 : Int) ≤ (P : Int) := by omega
  have q2 : (P : Int) ≤ (c : Int) := by omega
  rcases ht with rfl | rfl
  · simp only [execOp, ho, h3, h4, Option.map_some, Option.map_none]
    go_simp
  · simp only [execOp, ho, h3, h4, Option.map_some, Option.map_none]
    go_simp
theorem op_sB (t p q : Nat) {o : Oper} {a : Act} {w : World} {u v : Value} {P : Nat} (ho : o.op = .slice t (.tmp p) (some (.tmp q)) none none) (h3 : a.eval (.tmp p) = u) (h4 : a.eval (.tmp q) = .int .i64 (P : Int)) (hr : (Instr.sliceAt t u (some (.int .i64 (P : Int))) none none).run Try.prog w = .ok v w) : (execOp a.eval o).run Try.prog w = .ok (.value v) w := by
  simp only [execOp, ho, h3, h4, Option.map_some, Option.map_none, Sem.run_bind, hr, Result.andThen_ok]
  rfl
theorem op_add (p : Nat) {o : Oper} {a : Act} {w : World} {P : Nat} (h1 : P ≤ 1000000) (ho : o.op = .binOp .add 3 (.tmp p) (.const (.int .i64 1)) 3) (h4 : a.eval (.tmp p) = .int .i64 (P : Int)) : (execOp a.eval o).run Try.prog w = .ok (.value (.int .i64 ((P + 1 : Nat) : Int))) w := by
  have qw : IntKind.i64.wrap ((P : Int) + 1) = (P : Int) + 1 := IntWalk.i64_in _ ⟨by omega, by omega⟩
  have e1 : a.eval (.const (.int .i64 1)) = .int .i64 1 := rfl
  simp only [execOp, ho, h4, e1]
  go_simp
theorem op_st (t p q : Nat) {o : Oper} {a : Act} {w : World} {r f n c : Nat} {A : Option Addr} {x : Value} (ho : o.op = .store t (.tmp p) (.tmp q)) (ht : t = 23 ∨ t = 24) (h4 : a.eval (.tmp p) = .pointer (some ⟨r, f, none⟩)) (h5 : a.eval (.tmp q) = .slice A n c) (hc : w.cell? ⟨r, f, none⟩ = some x) (hz : w.frozen? ⟨r, f, none⟩ = false) : (execOp a.eval o).run Try.prog w = .ok .skip (w.setCell ⟨r, f, none⟩ (.slice A n c)) := by
  rcases ht with rfl | rfl
  · simp only [execOp, ho, h4, h5]
    go_simp
  · simp only [execOp, ho, h4, h5]
    go_simp
theorem wp_run {o : Oper} {a : Act} {w w' : World} {K : Act → World → Prop} {Q : Exit → Act → World → Prop} {v : Value} (h : (execOp a.eval o).run Try.prog w = .ok (.value v) w') (hk : K (a.put o.dst v) w') : o.wp Try.prog a w K Q := by
  unfold Oper.wp
  rw [h, Oper.upon_value]
  exact hk
theorem wp_run0 {o : Oper} {a : Act} {w w' : World} {K : Act → World → Prop} {Q : Exit → Act → World → Prop} (h : (execOp a.eval o).run Try.prog w = .ok .skip w') (hk : K (a.put o.dst undef) w') : o.wp Try.prog a w K Q := by
  unfold Oper.wp
  rw [h, Oper.upon_skip]
  exact hk
theorem wp_app {o : Oper} {a : Act} {w w' : World} {K : Act → World → Prop} {Q : Exit → Act → World → Prop} (s x : Operand) (t : TypeId) (ho : o.op = .call { callee := .builtin .append, args := #[s, x], argTypes := #[t, t] }) (vs vx r : Value) (hs : a.eval s = vs) (hx : a.eval x = vx) (hrun : AppRun t o.type vs vx r w w')
    (h : K (a.put o.dst r) w') : o.wp Try.prog a w K Q := by
  unfold Oper.wp execOp
  simp only [ho, resolve, invoke, builtin, Sem.run_bind, Sem.run_pure, Result.andThen_ok, List.map_toArray, List.map_cons, List.map_nil, hs, hx, hrun.out]
  exact h
theorem run_sub (t : TypeId) (w W : World) {A : Option Addr} {n c P s : Nat} {xs : List Value} (hR : Row w A xs) (hx : xs.length = n * s) (hnil : A = none → n = 0) (h1 : P ≤ n) (h2 : n ≤ c) (hu : t = 23 ∧ s = 1 ∨ t = 24 ∧ s = 2) :
    ∃ A', (Instr.sliceAt t (.slice A n c) (some (.int .i64 (P : Int))) none none).run Try.prog W = .ok (.slice A' (n - P) (c - P)) W ∧ ∀ W2, Turn No w W2 → Row W2 A' (xs.drop (P * s)) := by
  have q1 : (0 : Int) ≤ (P : Int) := by omega
  have q2 : (P : Int) ≤ (n : Int) := by omega
  cases A with
  | none =>
    obtain rfl := hnil rfl
    obtain rfl : P = 0 := by omega
    have hx0 : xs = [] := List.eq_nil_of_length_eq_zero (by omega)
    subst hx0
    refine ⟨none, ?_, fun W _ => by simpa using Row.nil W none⟩
    rcases hu with ⟨rfl, rfl⟩ | ⟨rfl, rfl⟩ <;> go_simp
  | some b =>
    obtain ⟨b, off, cc⟩ := b
    by_cases hc : c = P
    · have hP : P = n := by omega
      subst hP
      have hd : xs.drop (P * s) = [] := List.drop_eq_nil_of_le (by omega)
      rw [hd]
      subst hc
      refine ⟨some ⟨b, off, cc⟩, ?_, fun W _ => Row.nil W _⟩
      rcases hu with ⟨rfl, rfl⟩ | ⟨rfl, rfl⟩ <;> go_simp
    · have q3 : ¬ c - P = 0 := by omega
      by_cases hn : xs = []
      · subst hn
        have hn0 : n = 0 := by
          rw [List.length_nil] at hx
          rcases hu with ⟨_, rfl⟩ | ⟨_, rfl⟩ <;> omega
        subst hn0
        obtain rfl : P = 0 := by omega
        refine ⟨some ⟨b, off, cc⟩, ?_, fun W _ => by rw [List.drop_nil]; exact Row.nil W _⟩
        rcases hu with ⟨rfl, rfl⟩ | ⟨rfl, rfl⟩ <;> go_simp
      · obtain ⟨x, l, rfl⟩ := List.exists_cons_of_ne_nil hn
        obtain ⟨b', o', hA, _, _⟩ := hR 0 x rfl
        injection hA with hA
        injection hA with e1 e2 e3
        subst e1 e2 e3
        have hdr := fun W (t : Turn No w W) => row_drop (hR.no t) (P * s)
        rcases hu with ⟨rfl, rfl⟩ | ⟨rfl, rfl⟩
        · rw [Nat.mul_one] at hdr ⊢
          exact ⟨some ⟨b, off + P, none⟩, by go_simp, hdr⟩
        · exact ⟨some ⟨b, off + P * 2, none⟩, by go_simp, hdr⟩
theorem own_empty {w : World} {Z g e s : Nat} (h : At w g (.cells #[] e (0, 0))) (hz : Z ≤ g) : w.ownsRow Z e s (.slice (some ⟨g, 0, none⟩) 0 0) 0 [] := ⟨by simp, .inr ⟨g, 0, #[], rfl, hz, h, Nat.le_refl _, Nat.zero_le _, by simp, by simp⟩⟩
/-- An append of a row that is read to one of one's own. -/
theorem app_row {t e size bytes : Nat} {z : Value} (ht : Try.prog.underlying t = some (.slice e)) (hinf : (Try.prog.info? e).map (fun i => (i.zero, i.size, i.bytes)) = some (some z, size, bytes)) (hzs : z.cells.size = size) (hsz : 0 < size) (hby : bytes ≤ 1000)
    {w : World} {Z n cb : Nat} {B : Option Addr} {xs : List Value} (h : w.ownsRow Z e size (.slice B n cb) n xs) (hz : Z ≤ w.heap.size) {m : Nat} {A : Option Addr} {c : Nat} {ys : List Value} (hy : ys.length = m * size) (hR : Row w A ys) (h1 : ∀ u ∈ ys, u.oneCell' = true) (hnm : n + m ≤ 1000000) (ty : TypeId) :
    ∃ B' c' w', AppRun t ty (.slice B n cb) (.slice A m c) (.slice B' (n + m) c') w w' ∧ w'.ownsRow Z e size (.slice B' (n + m) c') (n + m) (xs ++ ys) ∧ Turn (fun i => ablk B = some i) w w' := by
  cases A with
  | none =>
    have hx0 : ys = [] := by
      cases ys with
      | nil => rfl
      | cons a l => obtain ⟨b, o, hA, _⟩ := hR 0 a rfl; cases hA
    subst hx0
    have hn0 : m = 0 := by
      cases m with
      | zero => rfl
      | succ k =>
        rw [List.length_nil] at hy
        have h2 := Nat.mul_pos (Nat.succ_pos k) hsz
        rw [Nat.succ_eq_add_one, ← hy] at h2
        exact absurd h2 (Nat.lt_irrefl 0)
    subst hn0
    obtain ⟨i0, hi, _, hs, _⟩ := info_parts hinf
    exact ⟨B, cb, w, ⟨run_append_nothing (P := Try.prog) w t t ty e i0 ht hi B n cb (own_capN h) _ (Src.ofNil (w := w) ht c)⟩, by simpa using h, Turn.refl _ _⟩
  | some a =>
    have hnw : ∀ j u, ys[j]? = some u → w.cell? (a.add j) = some u := by
      intro j u hj
      obtain ⟨b, o, hA, _, hc⟩ := hR j u hj
      injection hA with hA
      subst hA
      rwa [Addr.add_lit]
    obtain ⟨B', c', w', q, ho, ht2, _⟩ := app_gen ht hinf hzs hsz hby h a m c ys hy hnw h1 hnm hz ty
    exact ⟨B', c', w', q, ho, ht2.mono fun k _ hk => by rw [own_ablk] at hk; exact hk⟩
def Ge (w : World) (e : Nat) (wx : World) (v : Value) : Prop := ∃ g, v = .slice (some ⟨g, 0, none⟩) 0 0 ∧ At wx g (.cells #[] e (0, 0)) ∧ w.heap.size ≤ g
def Gk (e : Nat) (cs : Array Value) (wx : World) (v : Value) : Prop := ∃ g, v = .slice (some ⟨g, 0, none⟩) 1 1 ∧ At wx g (.cells cs e (0, 0))
def Gr (w : World) (e s n : Nat) (xs : List Value) (wx : World) (v : Value) : Prop := ∃ B c, v = .slice B n c ∧ wx.ownsRow w.heap.size e s (.slice B n c) n xs
def Gs (w : World) (n : Nat) (xs : List Value) (v : Value) : Prop := ∃ A c, v = .slice A n c ∧ ∀ W, Turn No w W → Row W A xs
theorem Ge.no {w : World} {e : Nat} {wx w2 : World} {v : Value} (h : Ge w e wx v) (t : Turn No wx w2) : Ge w e w2 v := by
  obtain ⟨g, h1, h2, h3⟩ := h
  exact ⟨g, h1, h2.no t, h3⟩
theorem Gk.no {e : Nat} {cs : Array Value} {wx w2 : World} {v : Value} (h : Gk e cs wx v) (t : Turn No wx w2) : Gk e cs w2 v := by
  obtain ⟨g, h1, h2⟩ := h
  exact ⟨g, h1, h2.no t⟩
theorem Gk.past {e : Nat} {cs : Array Value} {wx w2 : World} {v : Value} (h : Gk e cs wx v) (hne : cs ≠ #[]) {g : Nat} (hg : At wx g (.cells #[] e (0, 0))) (t : Turn (fun i => ablk (some ⟨g, 0, none⟩) = some i) wx w2) : Gk e cs w2 v := by
  obtain ⟨g2, h1, h2⟩ := h
  refine ⟨g2, h1, h2.turn t fun e => ?_⟩
  injection e with e
  have e : g = g2 := e
  subst e
  have := h2.eq hg
  injection this with e2 _ _
  exact hne e2
theorem Gr.no {w : World} {e s n : Nat} {xs : List Value} {wx w2 : World} {v : Value} (h : Gr w e s n xs wx v) (t : Turn No wx w2) : Gr w e s n xs w2 v := by
  obtain ⟨B, c, h1, h2⟩ := h
  exact ⟨B, c, h1, own_grown h2 t fun _ _ h => h⟩
theorem no_own {w wx w2 : World} {e s n c : Nat} {B : Option Addr} {xs : List Value} (ht : Turn No w wx) (h : wx.ownsRow w.heap.size e s (.slice B n c) n xs) (t : Turn (fun i => ablk B = some i) wx w2) : Turn No w w2 := ht.then t fun i hi hb => by
  have := (own_at h hb).1
  omega
/-- Behind the region: the block's cell i is a row of one's own. -/
def Er (w : World) (r e s n : Nat) (xs : List Value) (mk : Value → Array Value) (wx : World) : Prop := Turn (fun k => k = r) w wx ∧ ∃ B c, At wx r (.cells (mk (.slice B n c)) 29 (0, 0)) ∧ wx.ownsRow w.heap.size e s (.slice B n c) n xs
structure JK23 (w : World) (r g n c P : Nat) (A : Option Addr) (xT xD : List Value) (key : ByteArray) (mk : Value → Array Value) (L : Nat → Bool) (b : Act) (wx : World) : Prop where
  o : L 15 = true → ∀ j, j < 15 → L j = true
  t : L 15 = false → Turn No w wx
  l0 : L 15 = false → L 0 = true → L 5 = false → Ge w 9 wx (b.eval (.tmp 140))
  l1 : L 15 = false → L 1 = true → (b.eval (.tmp 141)) = .pointer (some ⟨g, 1, none⟩)
  l2 : L 15 = false → L 2 = true → (b.eval (.tmp 142)) = .slice A n c
  l3 : L 15 = false → L 3 = true → (b.eval (.tmp 143)) = .int .i64 (P : Int)
  l4 : L 15 = false → L 4 = true → Gs w P xT (b.eval (.tmp 144))
  l5 : L 15 = false → L 5 = true → L 8 = false → Gr w 9 1 P xT wx (b.eval (.tmp 145))
  l6 : L 15 = false → L 6 = true → (b.eval (.tmp 146)) = .string key
  l7 : L 15 = false → L 7 = true → L 8 = false → Gk 9 #[.string key] wx (b.eval (.tmp 147))
  l8 : L 15 = false → L 8 = true → L 13 = false → Gr w 9 1 (P + 1) (xT ++ [.string key]) wx (b.eval (.tmp 148))
  l9 : L 15 = false → L 9 = true → (b.eval (.tmp 149)) = .pointer (some ⟨g, 1, none⟩)
  l10 : L 15 = false → L 10 = true → (b.eval (.tmp 150)) = .slice A n c
  l11 : L 15 = false → L 11 = true → (b.eval (.tmp 151)) = .int .i64 (P : Int)
  l12 : L 15 = false → L 12 = true → Gs w (n - P) xD (b.eval (.tmp 152))
  l13 : L 15 = false → L 13 = true → Gr w 9 1 (P + 1 + (n - P)) (xT ++ [.string key] ++ xD) wx (b.eval (.tmp 153))
  l14 : L 15 = false → L 14 = true → (b.eval (.tmp 154)) = .pointer (some ⟨r, 1, none⟩)
  k8_5 : L 8 = true → L 5 = true
  k13_8 : L 13 = true → L 8 = true
  e : L 15 = true → Er w r 9 1 (P + 1 + (n - P)) (xT ++ [.string key] ++ xD) mk wx
def opsK23 : Array Oper := #[{ dst := some 140, op := Go.Op.buildSlice 23 0 #[], type := 23, pos := "law.go:181", after := #[], guard := none }, { dst := some 141, op := Go.Op.fieldAddr 29 (Go.Operand.tmp 4) 1, type := 0, pos := "law.go:181", after := #[], guard := none }, { dst := some 142, op := Go.Op.load 23 (Go.Operand.tmp 141), type := 23, pos := "law.go:181", after := #[{ on := 1, ground := Go.Ground.data }], guard := none }, { dst := some 143, op := Go.Op.move (Go.Operand.tmp 23), type := 3, pos := "law.go:181", after := #[], guard := none }, { dst := some 144, op := Go.Op.slice 23 (Go.Operand.tmp 142) none (some (Go.Operand.tmp 143)) none, type := 23, pos := "law.go:181", after := #[{ on := 2, ground := Go.Ground.data }, { on := 3, ground := Go.Ground.data }], guard := none }, { dst := some 145, op := Go.Op.call { callee := Go.Callee.builtin Go.Builtin.append, args := #[Go.Operand.tmp 140, Go.Operand.tmp 144], argTypes := #[23, 23] }, type := 23, pos := "law.go:181", after := #[{ on := 0, ground := Go.Ground.data }, { on := 4, ground := Go.Ground.data }], guard := none }, { dst := some 146, op := Go.Op.move (Go.Operand.tmp 1), type := 9, pos := "law.go:181", after := #[], guard := none }, { dst := some 147, op := Go.Op.buildSlice 23 1 #[(0, Go.Operand.tmp 146)], type := 23, pos := "law.go:181", after := #[{ on := 6, ground := Go.Ground.data }], guard := none }, { dst := some 148, op := Go.Op.call { callee := Go.Callee.builtin Go.Builtin.append, args := #[Go.Operand.tmp 145, Go.Operand.tmp 147], argTypes := #[23, 23] }, type := 23, pos := "law.go:181", after := #[{ on := 5, ground := Go.Ground.data }, { on := 7, ground := Go.Ground.data }, { on := 5, ground := Go.Ground.chain }], guard := none }, { dst := some 149, op := Go.Op.fieldAddr 29 (Go.Operand.tmp 4) 1, type := 0, pos := "law.go:181", after := #[], guard := none }, { dst := some 150, op := Go.Op.load 23 (Go.Operand.tmp 149), type := 23, pos := "law.go:181", after := #[{ on := 9, ground := Go.Ground.data }], guard := none }, { dst := some 151, op := Go.Op.move (Go.Operand.tmp 23), type := 3, pos := "law.go:181", after := #[], guard := none }, { dst := some 152, op := Go.Op.slice 23 (Go.Operand.tmp 150) (some (Go.Operand.tmp 151)) none none, type := 23, pos := "law.go:181", after := #[{ on := 10, ground := Go.Ground.data }, { on := 11, ground := Go.Ground.data }], guard := none }, { dst := some 153, op := Go.Op.call { callee := Go.Callee.builtin Go.Builtin.append, args := #[Go.Operand.tmp 148, Go.Operand.tmp 152], argTypes := #[23, 23] }, type := 23, pos := "law.go:181", after := #[{ on := 8, ground := Go.Ground.data }, { on := 12, ground := Go.Ground.data }, { on := 8, ground := Go.Ground.chain }], guard := none }, { dst := some 154, op := Go.Op.fieldAddr 29 (Go.Operand.tmp 22) 1, type := 0, pos := "law.go:181", after := #[{ on := 0, ground := Go.Ground.phase }, { on := 1, ground := Go.Ground.phase }, { on := 2, ground := Go.Ground.phase }, { on := 3, ground := Go.Ground.phase }, { on := 4, ground := Go.Ground.phase }, { on := 5, ground := Go.Ground.phase }, { on := 6, ground := Go.Ground.phase }, { on := 7, ground := Go.Ground.phase }, { on := 8, ground := Go.Ground.phase }, { on := 9, ground := Go.Ground.phase }, { on := 10, ground := Go.Ground.phase }, { on := 11, ground := Go.Ground.phase }, { on := 12, ground := Go.Ground.phase }, { on := 13, ground := Go.Ground.phase }], guard := none }, { dst := none, op := Go.Op.store 23 (Go.Operand.tmp 154) (Go.Operand.tmp 153), type := 0, pos := "law.go:181", after := #[{ on := 14, ground := Go.Ground.data }, { on := 13, ground := Go.Ground.data }, { on := 13, ground := Go.Ground.chain }, { on := 0, ground := Go.Ground.phase }, { on := 1, ground := Go.Ground.phase }, { on := 2, ground := Go.Ground.phase }, { on := 3, ground := Go.Ground.phase }, { on := 4, ground := Go.Ground.phase }, { on := 5, ground := Go.Ground.phase }, { on := 6, ground := Go.Ground.phase }, { on := 7, ground := Go.Ground.phase }, { on := 8, ground := Go.Ground.phase }, { on := 9, ground := Go.Ground.phase }, { on := 10, ground := Go.Ground.phase }, { on := 11, ground := Go.Ground.phase }, { on := 12, ground := Go.Ground.phase }, { on := 13, ground := Go.Ground.phase }], guard := none }]
set_option maxRecDepth 100000 in
set_option maxHeartbeats 8000000 in
theorem regK23 {Q : Exit → Act → World → Prop} {a : Act} {w : World} {r g n c P : Nat} {A : Option Addr} {xs xT xD : List Value} {key : ByteArray} (h1 : a.eval (.tmp 1) = .string key) {cells : Array Value} {v0 v1 v2 v3 v4 v5 v6 v7 : Value} (h4 : a.eval (.tmp 4) = .pointer (some ⟨g, 0, none⟩)) (h22 : a.eval (.tmp 22) = .pointer (some ⟨r, 0, none⟩)) (h23 : a.eval (.tmp 23) = .int .i64 (P : Int)) (hA : At w g (.cells cells 29 (0, 0))) (hcell : cells[1]? = some (.slice A n c)) (hR : At w r (.cells #[v0, v1, v2, v3, v4, v5, v6, v7] 29 (0, 0)))
    (hR0 : Row w A xs) (hxl : xs.length = n * 1) (hnil : A = none → n = 0) (hP : P ≤ n) (hnc : n ≤ c) (hn : n ≤ 100000) (hone : ∀ u ∈ xs, u.oneCell' = true) (hxT : xs.take (P * 1) = xT) (hxD : xs.drop (P * 1) = xD)
    (hsz : a.tmps.size = 197)
    (hQ : ∀ v140 v141 v142 v143 v144 v145 v146 v147 v148 v149 v150 v151 v152 v153 v154 (w' : World), Er w r 9 1 (P + 1 + (n - P)) (xT ++ [.string key] ++ xD) (fun x => #[v0, x, v2, v3, v4, v5, v6, v7]) w' → Q .normal (puts a [(140, v140), (141, v141), (142, v142), (143, v143), (144, v144), (145, v145), (146, v146), (147, v147), (148, v148), (149, v149), (150, v150), (151, v151), (152, v152), (153, v153), (154, v154)]) w') : (Code.region 23 opsK23 true).wp Try.prog Q a w := by
  have hlT : xT.length = P * 1 := by rw [← hxT, List.length_take, hxl]; exact Nat.min_eq_left (Nat.mul_le_mul_right _ hP)
  have hlD : xD.length = (n - P) * 1 := by rw [← hxD, List.length_drop, hxl, Nat.sub_mul]
  have h1T : ∀ u ∈ xT, u.oneCell' = true := fun u hu => hone u (by rw [← hxT] at hu; exact List.mem_of_mem_take hu)
  have h1D : ∀ u ∈ xD, u.oneCell' = true := fun u hu => hone u (by rw [← hxD] at hu; exact List.mem_of_mem_drop hu)
  have hsub : ∀ W, ∃ A', (Instr.sliceAt 23 (.slice A n c) (some (.int .i64 ((P : Nat) : Int))) none none).run Try.prog W = .ok (.slice A' (n - P) (c - P)) W ∧ ∀ W2, Turn No w W2 → Row W2 A' xD := fun W => by
    rw [← hxD]
    exact run_sub 23 w W hR0 hxl hnil hP hnc (Or.inl ⟨rfl, rfl⟩)
  refine region_J (by kernel_rfl) [140, 141, 142, 143, 144, 145, 146, 147, 148, 149, 150, 151, 152, 153, 154] (JK23 w r g n c P A xT xD key (fun x => #[v0, x, v2, v3, v4, v5, v6, v7])) ?_ ?_ ?_ ?_
  · refine ⟨fun p => (by cases p), fun _ => (Turn.refl No w).drew, ?_, ?_, ?_, ?_, ?_, ?_, ?_, ?_, ?_, ?_, ?_, ?_, ?_, ?_, ?_, fun p => (by cases p), fun p => (by cases p), fun p => (by cases p)⟩ <;> intro p q <;> cases q
  · intro i o ho
    have hall : (opsK23.toList.zipIdx.all fun q => q.1.guard.isNone && (q.1.after.toList.all fun e => Nat.blt e.on q.2 || !Region.binds .any e) && (match q.1.dst with | none => true | some s => [140, 141, 142, 143, 144, 145, 146, 147, 148, 149, 150, 151, 152, 153, 154].contains s)) = true := by kernel_rfl
    have hm := List.all_eq_true.1 hall (o, i) (by
      rw [List.mem_iff_getElem?]
      refine ⟨i, ?_⟩
      rw [List.getElem?_zipIdx, Array.getElem?_toList, ho]
      simp)
    simp only [Bool.and_eq_true, List.all_eq_true, Option.isNone_iff_eq_none] at hm
    refine ⟨hm.1.1, fun e he hb => by have := hm.1.2 e (Array.mem_toList_iff.2 he); simpa [hb] using this, fun s hs => ?_⟩
    have := hm.2
    rw [hs] at this
    simpa using this
  · intro i o ho L a' w' hf h hLi hd K2 hK
    have hin : i < 16 := (Array.getElem?_eq_some_iff.1 ho).1
    rcases i with _ | _ | _ | _ | _ | _ | _ | _ | _ | _ | _ | _ | _ | _ | _ | _ | i
    rotate_left 16
    · omega
    · have hds : o.dst = some 140 := by (injection (show some _ = some o from ho) with e; rw [← e]; rfl)
      rw [hds] at hK
      injection (show some _ = some o from ho) with ho
      subst ho
      have hn : L 15 = false := by
        cases hx : L 15 with
        | false => rfl
        | true => have := h.o hx 0 (by decide); rw [hLi] at this; cases this
      have ht := h.t hn
      have tj : Turn No w' (w'.alloc (.cells #[] 9)) := (Turn.refl _ _).alloc _
      have hg : Ge w 9 (w'.alloc (.cells #[] 9)) (.slice (some ⟨w'.heap.size, 0, none⟩) 0 0) := ⟨_, rfl, At.new _ _, ht.size⟩
      refine wp_run (v := .slice (some ⟨w'.heap.size, 0, none⟩) 0 0) (w' := w'.alloc (.cells #[] 9)) (op_e0 23 9 rfl (by decide)) (hK _ _ ?_)
      exact ⟨fun p => by simp [hn] at p,
        fun _ => ht.trans tj,
        fun _ _ _ => by rw [Act.eval_put_same _ _ _ (by rw [hf.1, hsz]; decide)]; exact hg,
        fun p q => by have x := h.l1 hn (by simpa using q); simpa [Act.eval_put_ne] using x,
        fun p q => by have x := h.l2 hn (by simpa using q); simpa [Act.eval_put_ne] using x,
        fun p q => by have x := h.l3 hn (by simpa using q); simpa [Act.eval_put_ne] using x,
        fun p q => by have x := h.l4 hn (by simpa using q); simpa [Act.eval_put_ne] using x,
        fun p q r => by have x := h.l5 hn (by simpa using q) (by simpa using r); replace x := x.no tj; simpa [Act.eval_put_ne] using x,
        fun p q => by have x := h.l6 hn (by simpa using q); simpa [Act.eval_put_ne] using x,
        fun p q r => by have x := h.l7 hn (by simpa using q) (by simpa using r); replace x := x.no tj; simpa [Act.eval_put_ne] using x,
        fun p q r => by have x := h.l8 hn (by simpa using q) (by simpa using r); replace x := x.no tj; simpa [Act.eval_put_ne] using x,
        fun p q => by have x := h.l9 hn (by simpa using q); simpa [Act.eval_put_ne] using x,
        fun p q => by have x := h.l10 hn (by simpa using q); simpa [Act.eval_put_ne] using x,
        fun p q => by have x := h.l11 hn (by simpa using q); simpa [Act.eval_put_ne] using x,
        fun p q => by have x := h.l12 hn (by simpa using q); simpa [Act.eval_put_ne] using x,
        fun p q => by have x := h.l13 hn (by simpa using q); replace x := x.no tj; simpa [Act.eval_put_ne] using x,
        fun p q => by have x := h.l14 hn (by simpa using q); simpa [Act.eval_put_ne] using x,
        fun p => by have := h.k8_5 (by simpa using p); simp [this],
        fun p => by have := h.k13_8 (by simpa using p); simp [this],
        fun p => by simp [hn] at p⟩
    · have hds : o.dst = some 141 := by (injection (show some _ = some o from ho) with e; rw [← e]; rfl)
      rw [hds] at hK
      injection (show some _ = some o from ho) with ho
      subst ho
      have hn : L 15 = false := by
        cases hx : L 15 with
        | false => rfl
        | true => have := h.o hx 1 (by decide); rw [hLi] at this; cases this
      have ht := h.t hn
      have e0 := (show a'.eval (.tmp 4) = _ by rw [hf.2.2 4 (by decide), h4])
      refine wp_run (v := .pointer (some ⟨g, 1, none⟩)) (w' := w') (op_fa 1 4 rfl (by decide) e0) (hK _ _ ?_)
      exact ⟨fun p => by simp [hn] at p,
        fun _ => ht,
        fun p q r => by have x := h.l0 hn (by simpa using q) (by simpa using r); replace x := x; simpa [Act.eval_put_ne] using x,
        fun _ _ => Act.eval_put_same _ _ _ (by rw [hf.1, hsz]; decide),
        fun p q => by have x := h.l2 hn (by simpa using q); simpa [Act.eval_put_ne] using x,
        fun p q => by have x := h.l3 hn (by simpa using q); simpa [Act.eval_put_ne] using x,
        fun p q => by have x := h.l4 hn (by simpa using q); simpa [Act.eval_put_ne] using x,
        fun p q r => by have x := h.l5 hn (by simpa using q) (by simpa using r); replace x := x; simpa [Act.eval_put_ne] using x,
        fun p q => by have x := h.l6 hn (by simpa using q); simpa [Act.eval_put_ne] using x,
        fun p q r => by have x := h.l7 hn (by simpa using q) (by simpa using r); replace x := x; simpa [Act.eval_put_ne] using x,
        fun p q r => by have x := h.l8 hn (by simpa using q) (by simpa using r); replace x := x; simpa [Act.eval_put_ne] using x,
        fun p q => by have x := h.l9 hn (by simpa using q); simpa [Act.eval_put_ne] using x,
        fun p q => by have x := h.l10 hn (by simpa using q); simpa [Act.eval_put_ne] using x,
        fun p q => by have x := h.l11 hn (by simpa using q); simpa [Act.eval_put_ne] using x,
        fun p q => by have x := h.l12 hn (by simpa using q); simpa [Act.eval_put_ne] using x,
        fun p q => by have x := h.l13 hn (by simpa using q); replace x := x; simpa [Act.eval_put_ne] using x,
        fun p q => by have x := h.l14 hn (by simpa using q); simpa [Act.eval_put_ne] using x,
        fun p => by have := h.k8_5 (by simpa using p); simp [this],
        fun p => by have := h.k13_8 (by simpa using p); simp [this],
        fun p => by simp [hn] at p⟩
    · have hds : o.dst = some 142 := by (injection (show some _ = some o from ho) with e; rw [← e]; rfl)
      rw [hds] at hK
      injection (show some _ = some o from ho) with ho
      subst ho
      have hn : L 15 = false := by
        cases hx : L 15 with
        | false => rfl
        | true => have := h.o hx 2 (by decide); rw [hLi] at this; cases this
      have ht := h.t hn
      have a1 : L 1 = true := hd ⟨1, .data⟩ (Array.mem_of_getElem? (i := 0) rfl) rfl
      have d1 := h.l1 hn a1
      have e1 := (hA.no ht).cell 1
      have e1 : w'.cell? ⟨g, 1, none⟩ = some (.slice A n c) := by rw [e1, hcell]
      refine wp_run (v := .slice A n c) (w' := w') (op_ld 23 _ rfl (by decide) d1 e1) (hK _ _ ?_)
      exact ⟨fun p => by simp [hn] at p,
        fun _ => ht,
        fun p q r => by have x := h.l0 hn (by simpa using q) (by simpa using r); replace x := x; simpa [Act.eval_put_ne] using x,
        fun p q => by have x := h.l1 hn (by simpa using q); simpa [Act.eval_put_ne] using x,
        fun _ _ => Act.eval_put_same _ _ _ (by rw [hf.1, hsz]; decide),
        fun p q => by have x := h.l3 hn (by simpa using q); simpa [Act.eval_put_ne] using x,
        fun p q => by have x := h.l4 hn (by simpa using q); simpa [Act.eval_put_ne] using x,
        fun p q r => by have x := h.l5 hn (by simpa using q) (by simpa using r); replace x := x; simpa [Act.eval_put_ne] using x,
        fun p q => by have x := h.l6 hn (by simpa using q); simpa [Act.eval_put_ne] using x,
        fun p q r => by have x := h.l7 hn (by simpa using q) (by simpa using r); replace x := x; simpa [Act.eval_put_ne] using x,
        fun p q r => by have x := h.l8 hn (by simpa using q) (by simpa using r); replace x := x; simpa [Act.eval_put_ne] using x,
        fun p q => by have x := h.l9 hn (by simpa using q); simpa [Act.eval_put_ne] using x,
        fun p q => by have x := h.l10 hn (by simpa using q); simpa [Act.eval_put_ne] using x,
        fun p q => by have x := h.l11 hn (by simpa using q); simpa [Act.eval_put_ne] using x,
        fun p q => by have x := h.l12 hn (by simpa using q); simpa [Act.eval_put_ne] using x,
        fun p q => by have x := h.l13 hn (by simpa using q); replace x := x; simpa [Act.eval_put_ne] using x,
        fun p q => by have x := h.l14 hn (by simpa using q); simpa [Act.eval_put_ne] using x,
        fun p => by have := h.k8_5 (by simpa using p); simp [this],
        fun p => by have := h.k13_8 (by simpa using p); simp [this],
        fun p => by simp [hn] at p⟩
    · have hds : o.dst = some 143 := by (injection (show some _ = some o from ho) with e; rw [← e]; rfl)
      rw [hds] at hK
      injection (show some _ = some o from ho) with ho
      subst ho
      have hn : L 15 = false := by
        cases hx : L 15 with
        | false => rfl
        | true => have := h.o hx 3 (by decide); rw [hLi] at this; cases this
      have ht := h.t hn
      refine wp_mv (v := .int .i64 (P : Int)) _ (Or.inl rfl) (show a'.eval (.tmp 23) = _ by rw [hf.2.2 23 (by decide), h23]) (hK _ _ ?_)
      exact ⟨fun p => by simp [hn] at p,
        fun _ => ht,
        fun p q r => by have x := h.l0 hn (by simpa using q) (by simpa using r); replace x := x; simpa [Act.eval_put_ne] using x,
        fun p q => by have x := h.l1 hn (by simpa using q); simpa [Act.eval_put_ne] using x,
        fun p q => by have x := h.l2 hn (by simpa using q); simpa [Act.eval_put_ne] using x,
        fun _ _ => Act.eval_put_same _ _ _ (by rw [hf.1, hsz]; decide),
        fun p q => by have x := h.l4 hn (by simpa using q); simpa [Act.eval_put_ne] using x,
        fun p q r => by have x := h.l5 hn (by simpa using q) (by simpa using r); replace x := x; simpa [Act.eval_put_ne] using x,
        fun p q => by have x := h.l6 hn (by simpa using q); simpa [Act.eval_put_ne] using x,
        fun p q r => by have x := h.l7 hn (by simpa using q) (by simpa using r); replace x := x; simpa [Act.eval_put_ne] using x,
        fun p q r => by have x := h.l8 hn (by simpa using q) (by simpa using r); replace x := x; simpa [Act.eval_put_ne] using x,
        fun p q => by have x := h.l9 hn (by simpa using q); simpa [Act.eval_put_ne] using x,
        fun p q => by have x := h.l10 hn (by simpa using q); simpa [Act.eval_put_ne] using x,
        fun p q => by have x := h.l11 hn (by simpa using q); simpa [Act.eval_put_ne] using x,
        fun p q => by have x := h.l12 hn (by simpa using q); simpa [Act.eval_put_ne] using x,
        fun p q => by have x := h.l13 hn (by simpa using q); replace x := x; simpa [Act.eval_put_ne] using x,
        fun p q => by have x := h.l14 hn (by simpa using q); simpa [Act.eval_put_ne] using x,
        fun p => by have := h.k8_5 (by simpa using p); simp [this],
        fun p => by have := h.k13_8 (by simpa using p); simp [this],
        fun p => by simp [hn] at p⟩
    · have hds : o.dst = some 144 := by (injection (show some _ = some o from ho) with e; rw [← e]; rfl)
      rw [hds] at hK
      injection (show some _ = some o from ho) with ho
      subst ho
      have hn : L 15 = false := by
        cases hx : L 15 with
        | false => rfl
        | true => have := h.o hx 4 (by decide); rw [hLi] at this; cases this
      have ht := h.t hn
      have a2 : L 2 = true := hd ⟨2, .data⟩ (Array.mem_of_getElem? (i := 0) rfl) rfl
      have d2 := h.l2 hn a2
      have a3 : L 3 = true := hd ⟨3, .data⟩ (Array.mem_of_getElem? (i := 1) rfl) rfl
      have d3 := h.l3 hn a3
      have q1 : (0 : Int) ≤ ((P : Nat) : Int) := by omega
      have q2 : ((P : Nat) : Int) ≤ (c : Int) := by omega
      have q3 : P ≤ c := by omega
      have hg : Gs w P xT (.slice A P c) := ⟨A, c, rfl, fun W t => by rw [← hxT]; exact row_take (hR0.no t) _⟩
      refine wp_run (v := .slice A P c) (w' := w') (op_sT 23 _ _ rfl (by decide) q3 d2 d3) (hK _ _ ?_)
      exact ⟨fun p => by simp [hn] at p,
        fun _ => ht,
        fun p q r => by have x := h.l0 hn (by simpa using q) (by simpa using r); replace x := x; simpa [Act.eval_put_ne] using x,
        fun p q => by have x := h.l1 hn (by simpa using q); simpa [Act.eval_put_ne] using x,
        fun p q => by have x := h.l2 hn (by simpa using q); simpa [Act.eval_put_ne] using x,
        fun p q => by have x := h.l3 hn (by simpa using q); simpa [Act.eval_put_ne] using x,
        fun _ _ => by rw [Act.eval_put_same _ _ _ (by rw [hf.1, hsz]; decide)]; exact hg,
        fun p q r => by have x := h.l5 hn (by simpa using q) (by simpa using r); replace x := x; simpa [Act.eval_put_ne] using x,
        fun p q => by have x := h.l6 hn (by simpa using q); simpa [Act.eval_put_ne] using x,
        fun p q r => by have x := h.l7 hn (by simpa using q) (by simpa using r); replace x := x; simpa [Act.eval_put_ne] using x,
        fun p q r => by have x := h.l8 hn (by simpa using q) (by simpa using r); replace x := x; simpa [Act.eval_put_ne] using x,
        fun p q => by have x := h.l9 hn (by simpa using q); simpa [Act.eval_put_ne] using x,
        fun p q => by have x := h.l10 hn (by simpa using q); simpa [Act.eval_put_ne] using x,
        fun p q => by have x := h.l11 hn (by simpa using q); simpa [Act.eval_put_ne] using x,
        fun p q => by have x := h.l12 hn (by simpa using q); simpa [Act.eval_put_ne] using x,
        fun p q => by have x := h.l13 hn (by simpa using q); replace x := x; simpa [Act.eval_put_ne] using x,
        fun p q => by have x := h.l14 hn (by simpa using q); simpa [Act.eval_put_ne] using x,
        fun p => by have := h.k8_5 (by simpa using p); simp [this],
        fun p => by have := h.k13_8 (by simpa using p); simp [this],
        fun p => by simp [hn] at p⟩
    · have hds : o.dst = some 145 := by (injection (show some _ = some o from ho) with e; rw [← e]; rfl)
      rw [hds] at hK
      injection (show some _ = some o from ho) with ho
      subst ho
      have hn : L 15 = false := by
        cases hx : L 15 with
        | false => rfl
        | true => have := h.o hx 5 (by decide); rw [hLi] at this; cases this
      have ht := h.t hn
      have a0 : L 0 = true := hd ⟨0, .data⟩ (Array.mem_of_getElem? (i := 0) rfl) rfl
      have d0 := h.l0 hn a0 hLi
      have a4 : L 4 = true := hd ⟨4, .data⟩ (Array.mem_of_getElem? (i := 1) rfl) rfl
      have d4 := h.l4 hn a4
      obtain ⟨g1, e1, hat, hz⟩ := d0
      obtain ⟨A1, c1, e2, hr1⟩ := d4
      obtain ⟨B, cb, w2, q, ho, tj⟩ := app_row (t := 23) Try.underlying23 infw9 rfl (by decide) (by decide) (own_empty (s := 1) hat hz) ht.size (m := P) (c := c1) hlT (hr1 w' ht) h1T (by omega) 23
      have tw := no_own ht (own_empty (s := 1) hat hz) tj
      rw [Nat.zero_add, List.nil_append] at ho
      rw [Nat.zero_add] at q
      have hg : Gr w 9 1 P xT w2 (.slice B P cb) := ⟨B, cb, rfl, ho⟩
      refine wp_app _ _ 23 rfl _ _ _ e1 e2 q (hK _ _ ?_)
      exact ⟨fun p => by simp [hn] at p,
        fun _ => tw,
        fun _ _ q => by simp at q,
        fun p q => by have x := h.l1 hn (by simpa using q); simpa [Act.eval_put_ne] using x,
        fun p q => by have x := h.l2 hn (by simpa using q); simpa [Act.eval_put_ne] using x,
        fun p q => by have x := h.l3 hn (by simpa using q); simpa [Act.eval_put_ne] using x,
        fun p q => by have x := h.l4 hn (by simpa using q); simpa [Act.eval_put_ne] using x,
        fun _ _ _ => by rw [Act.eval_put_same _ _ _ (by rw [hf.1, hsz]; decide)]; exact hg,
        fun p q => by have x := h.l6 hn (by simpa using q); simpa [Act.eval_put_ne] using x,
        fun p q r => by have x := h.l7 hn (by simpa using q) (by simpa using r); replace x := x.past (by simp) hat tj; simpa [Act.eval_put_ne] using x,
        fun p q r => (by have := h.k8_5 (by simpa using q); rw [hLi] at this; cases this),
        fun p q => by have x := h.l9 hn (by simpa using q); simpa [Act.eval_put_ne] using x,
        fun p q => by have x := h.l10 hn (by simpa using q); simpa [Act.eval_put_ne] using x,
        fun p q => by have x := h.l11 hn (by simpa using q); simpa [Act.eval_put_ne] using x,
        fun p q => by have x := h.l12 hn (by simpa using q); simpa [Act.eval_put_ne] using x,
        fun p q => (by have := h.k8_5 (h.k13_8 (by simpa using q)); rw [hLi] at this; cases this),
        fun p q => by have x := h.l14 hn (by simpa using q); simpa [Act.eval_put_ne] using x,
        fun p => by have := h.k8_5 (by simpa using p); simp [this],
        fun p => by have := h.k13_8 (by simpa using p); simp [this],
        fun p => by simp [hn] at p⟩
    · have hds : o.dst = some 146 := by (injection (show some _ = some o from ho) with e; rw [← e]; rfl)
      rw [hds] at hK
      injection (show some _ = some o from ho) with ho
      subst ho
      have hn : L 15 = false := by
        cases hx : L 15 with
        | false => rfl
        | true => have := h.o hx 6 (by decide); rw [hLi] at this; cases this
      have ht := h.t hn
      refine wp_mv (v := .string key) _ (Or.inl rfl) (show a'.eval (.tmp 1) = _ by rw [hf.2.2 1 (by decide), h1]) (hK _ _ ?_)
      exact ⟨fun p => by simp [hn] at p,
        fun _ => ht,
        fun p q r => by have x := h.l0 hn (by simpa using q) (by simpa using r); replace x := x; simpa [Act.eval_put_ne] using x,
        fun p q => by have x := h.l1 hn (by simpa using q); simpa [Act.eval_put_ne] using x,
        fun p q => by have x := h.l2 hn (by simpa using q); simpa [Act.eval_put_ne] using x,
        fun p q => by have x := h.l3 hn (by simpa using q); simpa [Act.eval_put_ne] using x,
        fun p q => by have x := h.l4 hn (by simpa using q); simpa [Act.eval_put_ne] using x,
        fun p q r => by have x := h.l5 hn (by simpa using q) (by simpa using r); replace x := x; simpa [Act.eval_put_ne] using x,
        fun _ _ => Act.eval_put_same _ _ _ (by rw [hf.1, hsz]; decide),
        fun p q r => by have x := h.l7 hn (by simpa using q) (by simpa using r); replace x := x; simpa [Act.eval_put_ne] using x,
        fun p q r => by have x := h.l8 hn (by simpa using q) (by simpa using r); replace x := x; simpa [Act.eval_put_ne] using x,
        fun p q => by have x := h.l9 hn (by simpa using q); simpa [Act.eval_put_ne] using x,
        fun p q => by have x := h.l10 hn (by simpa using q); simpa [Act.eval_put_ne] using x,
        fun p q => by have x := h.l11 hn (by simpa using q); simpa [Act.eval_put_ne] using x,
        fun p q => by have x := h.l12 hn (by simpa using q); simpa [Act.eval_put_ne] using x,
        fun p q => by have x := h.l13 hn (by simpa using q); replace x := x; simpa [Act.eval_put_ne] using x,
        fun p q => by have x := h.l14 hn (by simpa using q); simpa [Act.eval_put_ne] using x,
        fun p => by have := h.k8_5 (by simpa using p); simp [this],
        fun p => by have := h.k13_8 (by simpa using p); simp [this],
        fun p => by simp [hn] at p⟩
    · have hds : o.dst = some 147 := by (injection (show some _ = some o from ho) with e; rw [← e]; rfl)
      rw [hds] at hK
      injection (show some _ = some o from ho) with ho
      subst ho
      have hn : L 15 = false := by
        cases hx : L 15 with
        | false => rfl
        | true => have := h.o hx 7 (by decide); rw [hLi] at this; cases this
      have ht := h.t hn
      have a6 : L 6 = true := hd ⟨6, .data⟩ (Array.mem_of_getElem? (i := 0) rfl) rfl
      have d6 := h.l6 hn a6
      have tj : Turn No w' (w'.alloc (.cells #[.string key] 9)) := (Turn.refl _ _).alloc _
      have hg : Gk 9 #[.string key] (w'.alloc (.cells #[.string key] 9)) (.slice (some ⟨w'.heap.size, 0, none⟩) 1 1) := ⟨_, rfl, At.new _ _⟩
      refine wp_run (v := .slice (some ⟨w'.heap.size, 0, none⟩) 1 1) (w' := w'.alloc (.cells #[.string key] 9)) (op_kb _ rfl d6) (hK _ _ ?_)
      exact ⟨fun p => by simp [hn] at p,
        fun _ => ht.trans tj,
        fun p q r => by have x := h.l0 hn (by simpa using q) (by simpa using r); replace x := x.no tj; simpa [Act.eval_put_ne] using x,
        fun p q => by have x := h.l1 hn (by simpa using q); simpa [Act.eval_put_ne] using x,
        fun p q => by have x := h.l2 hn (by simpa using q); simpa [Act.eval_put_ne] using x,
        fun p q => by have x := h.l3 hn (by simpa using q); simpa [Act.eval_put_ne] using x,
        fun p q => by have x := h.l4 hn (by simpa using q); simpa [Act.eval_put_ne] using x,
        fun p q r => by have x := h.l5 hn (by simpa using q) (by simpa using r); replace x := x.no tj; simpa [Act.eval_put_ne] using x,
        fun p q => by have x := h.l6 hn (by simpa using q); simpa [Act.eval_put_ne] using x,
        fun _ _ _ => by rw [Act.eval_put_same _ _ _ (by rw [hf.1, hsz]; decide)]; exact hg,
        fun p q r => by have x := h.l8 hn (by simpa using q) (by simpa using r); replace x := x.no tj; simpa [Act.eval_put_ne] using x,
        fun p q => by have x := h.l9 hn (by simpa using q); simpa [Act.eval_put_ne] using x,
        fun p q => by have x := h.l10 hn (by simpa using q); simpa [Act.eval_put_ne] using x,
        fun p q => by have x := h.l11 hn (by simpa using q); simpa [Act.eval_put_ne] using x,
        fun p q => by have x := h.l12 hn (by simpa using q); simpa [Act.eval_put_ne] using x,
        fun p q => by have x := h.l13 hn (by simpa using q); replace x := x.no tj; simpa [Act.eval_put_ne] using x,
        fun p q => by have x := h.l14 hn (by simpa using q); simpa [Act.eval_put_ne] using x,
        fun p => by have := h.k8_5 (by simpa using p); simp [this],
        fun p => by have := h.k13_8 (by simpa using p); simp [this],
        fun p => by simp [hn] at p⟩
    · have hds : o.dst = some 148 := by (injection (show some _ = some o from ho) with e; rw [← e]; rfl)
      rw [hds] at hK
      injection (show some _ = some o from ho) with ho
      subst ho
      have hn : L 15 = false := by
        cases hx : L 15 with
        | false => rfl
        | true => have := h.o hx 8 (by decide); rw [hLi] at this; cases this
      have ht := h.t hn
      have a5 : L 5 = true := hd ⟨5, .data⟩ (Array.mem_of_getElem? (i := 0) rfl) rfl
      have d5 := h.l5 hn a5 hLi
      have a7 : L 7 = true := hd ⟨7, .data⟩ (Array.mem_of_getElem? (i := 1) rfl) rfl
      have d7 := h.l7 hn a7 hLi
      obtain ⟨B0, c0, e1, hown⟩ := d5
      obtain ⟨g2, e2, hat⟩ := d7
      obtain ⟨B, cb, w2, q, ho, tj⟩ := app_row (t := 23) Try.underlying23 infw9 rfl (by decide) (by decide) hown ht.size (m := 1) (A := some ⟨g2, 0, none⟩) (c := 1) (ys := [.string key]) rfl
        (fun j u hj => ⟨g2, 0, rfl, hat.lt, by rw [Nat.zero_add, hat.cell]; simpa using hj⟩) (by intro u hu; simp at hu; subst hu; rfl) (by omega) 23
      have tw := no_own ht hown tj
      have hg : Gr w 9 1 (P + 1) (xT ++ [.string key]) w2 (.slice B (P + 1) cb) := ⟨B, cb, rfl, ho⟩
      refine wp_app _ _ 23 rfl _ _ _ e1 e2 q (hK _ _ ?_)
      exact ⟨fun p => by simp [hn] at p,
        fun _ => tw,
        fun p q r => by simp [a5] at r,
        fun p q => by have x := h.l1 hn (by simpa using q); simpa [Act.eval_put_ne] using x,
        fun p q => by have x := h.l2 hn (by simpa using q); simpa [Act.eval_put_ne] using x,
        fun p q => by have x := h.l3 hn (by simpa using q); simpa [Act.eval_put_ne] using x,
        fun p q => by have x := h.l4 hn (by simpa using q); simpa [Act.eval_put_ne] using x,
        fun _ _ q => by simp at q,
        fun p q => by have x := h.l6 hn (by simpa using q); simpa [Act.eval_put_ne] using x,
        fun _ _ q => by simp at q,
        fun _ _ _ => by rw [Act.eval_put_same _ _ _ (by rw [hf.1, hsz]; decide)]; exact hg,
        fun p q => by have x := h.l9 hn (by simpa using q); simpa [Act.eval_put_ne] using x,
        fun p q => by have x := h.l10 hn (by simpa using q); simpa [Act.eval_put_ne] using x,
        fun p q => by have x := h.l11 hn (by simpa using q); simpa [Act.eval_put_ne] using x,
        fun p q => by have x := h.l12 hn (by simpa using q); simpa [Act.eval_put_ne] using x,
        fun p q => (by have := h.k13_8 (by simpa using q); rw [hLi] at this; cases this),
        fun p q => by have x := h.l14 hn (by simpa using q); simpa [Act.eval_put_ne] using x,
        fun _ => by simp [a5],
        fun p => by have := h.k13_8 (by simpa using p); simp [this],
        fun p => by simp [hn] at p⟩
    · have hds : o.dst = some 149 := by (injection (show some _ = some o from ho) with e; rw [← e]; rfl)
      rw [hds] at hK
      injection (show some _ = some o from ho) with ho
      subst ho
      have hn : L 15 = false := by
        cases hx : L 15 with
        | false => rfl
        | true => have := h.o hx 9 (by decide); rw [hLi] at this; cases this
      have ht := h.t hn
      have e0 := (show a'.eval (.tmp 4) = _ by rw [hf.2.2 4 (by decide), h4])
      refine wp_run (v := .pointer (some ⟨g, 1, none⟩)) (w' := w') (op_fa 1 4 rfl (by decide) e0) (hK _ _ ?_)
      exact ⟨fun p => by simp [hn] at p,
        fun _ => ht,
        fun p q r => by have x := h.l0 hn (by simpa using q) (by simpa using r); replace x := x; simpa [Act.eval_put_ne] using x,
        fun p q => by have x := h.l1 hn (by simpa using q); simpa [Act.eval_put_ne] using x,
        fun p q => by have x := h.l2 hn (by simpa using q); simpa [Act.eval_put_ne] using x,
        fun p q => by have x := h.l3 hn (by simpa using q); simpa [Act.eval_put_ne] using x,
        fun p q => by have x := h.l4 hn (by simpa using q); simpa [Act.eval_put_ne] using x,
        fun p q r => by have x := h.l5 hn (by simpa using q) (by simpa using r); replace x := x; simpa [Act.eval_put_ne] using x,
        fun p q => by have x := h.l6 hn (by simpa using q); simpa [Act.eval_put_ne] using x,
        fun p q r => by have x := h.l7 hn (by simpa using q) (by simpa using r); replace x := x; simpa [Act.eval_put_ne] using x,
        fun p q r => by have x := h.l8 hn (by simpa using q) (by simpa using r); replace x := x; simpa [Act.eval_put_ne] using x,
        fun _ _ => Act.eval_put_same _ _ _ (by rw [hf.1, hsz]; decide),
        fun p q => by have x := h.l10 hn (by simpa using q); simpa [Act.eval_put_ne] using x,
        fun p q => by have x := h.l11 hn (by simpa using q); simpa [Act.eval_put_ne] using x,
        fun p q => by have x := h.l12 hn (by simpa using q); simpa [Act.eval_put_ne] using x,
        fun p q => by have x := h.l13 hn (by simpa using q); replace x := x; simpa [Act.eval_put_ne] using x,
        fun p q => by have x := h.l14 hn (by simpa using q); simpa [Act.eval_put_ne] using x,
        fun p => by have := h.k8_5 (by simpa using p); simp [this],
        fun p => by have := h.k13_8 (by simpa using p); simp [this],
        fun p => by simp [hn] at p⟩
    · have hds : o.dst = some 150 := by (injection (show some _ = some o from ho) with e; rw [← e]; rfl)
      rw [hds] at hK
      injection (show some _ = some o from ho) with ho
      subst ho
      have hn : L 15 = false := by
        cases hx : L 15 with
        | false => rfl
        | true => have := h.o hx 10 (by decide); rw [hLi] at this; cases this
      have ht := h.t hn
      have a9 : L 9 = true := hd ⟨9, .data⟩ (Array.mem_of_getElem? (i := 0) rfl) rfl
      have d9 := h.l9 hn a9
      have e1 := (hA.no ht).cell 1
      have e1 : w'.cell? ⟨g, 1, none⟩ = some (.slice A n c) := by rw [e1, hcell]
      refine wp_run (v := .slice A n c) (w' := w') (op_ld 23 _ rfl (by decide) d9 e1) (hK _ _ ?_)
      exact ⟨fun p => by simp [hn] at p,
        fun _ => ht,
        fun p q r => by have x := h.l0 hn (by simpa using q) (by simpa using r); replace x := x; simpa [Act.eval_put_ne] using x,
        fun p q => by have x := h.l1 hn (by simpa using q); simpa [Act.eval_put_ne] using x,
        fun p q => by have x := h.l2 hn (by simpa using q); simpa [Act.eval_put_ne] using x,
        fun p q => by have x := h.l3 hn (by simpa using q); simpa [Act.eval_put_ne] using x,
        fun p q => by have x := h.l4 hn (by simpa using q); simpa [Act.eval_put_ne] using x,
        fun p q r => by have x := h.l5 hn (by simpa using q) (by simpa using r); replace x := x; simpa [Act.eval_put_ne] using x,
        fun p q => by have x := h.l6 hn (by simpa using q); simpa [Act.eval_put_ne] using x,
        fun p q r => by have x := h.l7 hn (by simpa using q) (by simpa using r); replace x := x; simpa [Act.eval_put_ne] using x,
        fun p q r => by have x := h.l8 hn (by simpa using q) (by simpa using r); replace x := x; simpa [Act.eval_put_ne] using x,
        fun p q => by have x := h.l9 hn (by simpa using q); simpa [Act.eval_put_ne] using x,
        fun _ _ => Act.eval_put_same _ _ _ (by rw [hf.1, hsz]; decide),
        fun p q => by have x := h.l11 hn (by simpa using q); simpa [Act.eval_put_ne] using x,
        fun p q => by have x := h.l12 hn (by simpa using q); simpa [Act.eval_put_ne] using x,
        fun p q => by have x := h.l13 hn (by simpa using q); replace x := x; simpa [Act.eval_put_ne] using x,
        fun p q => by have x := h.l14 hn (by simpa using q); simpa [Act.eval_put_ne] using x,
        fun p => by have := h.k8_5 (by simpa using p); simp [this],
        fun p => by have := h.k13_8 (by simpa using p); simp [this],
        fun p => by simp [hn] at p⟩
    · have hds : o.dst = some 151 := by (injection (show some _ = some o from ho) with e; rw [← e]; rfl)
      rw [hds] at hK
      injection (show some _ = some o from ho) with ho
      subst ho
      have hn : L 15 = false := by
        cases hx : L 15 with
        | false => rfl
        | true => have := h.o hx 11 (by decide); rw [hLi] at this; cases this
      have ht := h.t hn
      refine wp_mv (v := .int .i64 (P : Int)) _ (Or.inl rfl) (show a'.eval (.tmp 23) = _ by rw [hf.2.2 23 (by decide), h23]) (hK _ _ ?_)
      exact ⟨fun p => by simp [hn] at p,
        fun _ => ht,
        fun p q r => by have x := h.l0 hn (by simpa using q) (by simpa using r); replace x := x; simpa [Act.eval_put_ne] using x,
        fun p q => by have x := h.l1 hn (by simpa using q); simpa [Act.eval_put_ne] using x,
        fun p q => by have x := h.l2 hn (by simpa using q); simpa [Act.eval_put_ne] using x,
        fun p q => by have x := h.l3 hn (by simpa using q); simpa [Act.eval_put_ne] using x,
        fun p q => by have x := h.l4 hn (by simpa using q); simpa [Act.eval_put_ne] using x,
        fun p q r => by have x := h.l5 hn (by simpa using q) (by simpa using r); replace x := x; simpa [Act.eval_put_ne] using x,
        fun p q => by have x := h.l6 hn (by simpa using q); simpa [Act.eval_put_ne] using x,
        fun p q r => by have x := h.l7 hn (by simpa using q) (by simpa using r); replace x := x; simpa [Act.eval_put_ne] using x,
        fun p q r => by have x := h.l8 hn (by simpa using q) (by simpa using r); replace x := x; simpa [Act.eval_put_ne] using x,
        fun p q => by have x := h.l9 hn (by simpa using q); simpa [Act.eval_put_ne] using x,
        fun p q => by have x := h.l10 hn (by simpa using q); simpa [Act.eval_put_ne] using x,
        fun _ _ => Act.eval_put_same _ _ _ (by rw [hf.1, hsz]; decide),
        fun p q => by have x := h.l12 hn (by simpa using q); simpa [Act.eval_put_ne] using x,
        fun p q => by have x := h.l13 hn (by simpa using q); replace x := x; simpa [Act.eval_put_ne] using x,
        fun p q => by have x := h.l14 hn (by simpa using q); simpa [Act.eval_put_ne] using x,
        fun p => by have := h.k8_5 (by simpa using p); simp [this],
        fun p => by have := h.k13_8 (by simpa using p); simp [this],
        fun p => by simp [hn] at p⟩
    · have hds : o.dst = some 152 := by (injection (show some _ = some o from ho) with e; rw [← e]; rfl)
      rw [hds] at hK
      injection (show some _ = some o from ho) with ho
      subst ho
      have hn : L 15 = false := by
        cases hx : L 15 with
        | false => rfl
        | true => have := h.o hx 12 (by decide); rw [hLi] at this; cases this
      have ht := h.t hn
      have a10 : L 10 = true := hd ⟨10, .data⟩ (Array.mem_of_getElem? (i := 0) rfl) rfl
      have d10 := h.l10 hn a10
      have a11 : L 11 = true := hd ⟨11, .data⟩ (Array.mem_of_getElem? (i := 1) rfl) rfl
      have d11 := h.l11 hn a11
      obtain ⟨A2, e2, hr2⟩ := hsub w'
      have hg : Gs w (n - P) xD (.slice A2 (n - P) (c - P)) := ⟨A2, _, rfl, hr2⟩
      refine wp_run (v := .slice A2 (n - P) (c - P)) (w' := w') (op_sB 23 _ _ rfl d10 d11 e2) (hK _ _ ?_)
      exact ⟨fun p => by simp [hn] at p,
        fun _ => ht,
        fun p q r => by have x := h.l0 hn (by simpa using q) (by simpa using r); replace x := x; simpa [Act.eval_put_ne] using x,
        fun p q => by have x := h.l1 hn (by simpa using q); simpa [Act.eval_put_ne] using x,
        fun p q => by have x := h.l2 hn (by simpa using q); simpa [Act.eval_put_ne] using x,
        fun p q => by have x := h.l3 hn (by simpa using q); simpa [Act.eval_put_ne] using x,
        fun p q => by have x := h.l4 hn (by simpa using q); simpa [Act.eval_put_ne] using x,
        fun p q r => by have x := h.l5 hn (by simpa using q) (by simpa using r); replace x := x; simpa [Act.eval_put_ne] using x,
        fun p q => by have x := h.l6 hn (by simpa using q); simpa [Act.eval_put_ne] using x,
        fun p q r => by have x := h.l7 hn (by simpa using q) (by simpa using r); replace x := x; simpa [Act.eval_put_ne] using x,
        fun p q r => by have x := h.l8 hn (by simpa using q) (by simpa using r); replace x := x; simpa [Act.eval_put_ne] using x,
        fun p q => by have x := h.l9 hn (by simpa using q); simpa [Act.eval_put_ne] using x,
        fun p q => by have x := h.l10 hn (by simpa using q); simpa [Act.eval_put_ne] using x,
        fun p q => by have x := h.l11 hn (by simpa using q); simpa [Act.eval_put_ne] using x,
        fun _ _ => by rw [Act.eval_put_same _ _ _ (by rw [hf.1, hsz]; decide)]; exact hg,
        fun p q => by have x := h.l13 hn (by simpa using q); replace x := x; simpa [Act.eval_put_ne] using x,
        fun p q => by have x := h.l14 hn (by simpa using q); simpa [Act.eval_put_ne] using x,
        fun p => by have := h.k8_5 (by simpa using p); simp [this],
        fun p => by have := h.k13_8 (by simpa using p); simp [this],
        fun p => by simp [hn] at p⟩
    · have hds : o.dst = some 153 := by (injection (show some _ = some o from ho) with e; rw [← e]; rfl)
      rw [hds] at hK
      injection (show some _ = some o from ho) with ho
      subst ho
      have hn : L 15 = false := by
        cases hx : L 15 with
        | false => rfl
        | true => have := h.o hx 13 (by decide); rw [hLi] at this; cases this
      have ht := h.t hn
      have a8 : L 8 = true := hd ⟨8, .data⟩ (Array.mem_of_getElem? (i := 0) rfl) rfl
      have d8 := h.l8 hn a8 hLi
      have a12 : L 12 = true := hd ⟨12, .data⟩ (Array.mem_of_getElem? (i := 1) rfl) rfl
      have d12 := h.l12 hn a12
      obtain ⟨B0, c0, e1, hown⟩ := d8
      obtain ⟨A1, c1, e2, hr1⟩ := d12
      obtain ⟨B, cb, w2, q, ho, tj⟩ := app_row (t := 23) Try.underlying23 infw9 rfl (by decide) (by decide) hown ht.size (m := n - P) (c := c1) hlD (hr1 w' ht) h1D (by omega) 23
      have tw := no_own ht hown tj
      have hg : Gr w 9 1 (P + 1 + (n - P)) (xT ++ [.string key] ++ xD) w2 (.slice B (P + 1 + (n - P)) cb) := ⟨B, cb, rfl, ho⟩
      refine wp_app _ _ 23 rfl _ _ _ e1 e2 q (hK _ _ ?_)
      exact ⟨fun p => by simp [hn] at p,
        fun _ => tw,
        fun p q r => by have := h.k8_5 a8; simp [this] at r,
        fun p q => by have x := h.l1 hn (by simpa using q); simpa [Act.eval_put_ne] using x,
        fun p q => by have x := h.l2 hn (by simpa using q); simpa [Act.eval_put_ne] using x,
        fun p q => by have x := h.l3 hn (by simpa using q); simpa [Act.eval_put_ne] using x,
        fun p q => by have x := h.l4 hn (by simpa using q); simpa [Act.eval_put_ne] using x,
        fun p q r => by simp [a8] at r,
        fun p q => by have x := h.l6 hn (by simpa using q); simpa [Act.eval_put_ne] using x,
        fun p q r => by simp [a8] at r,
        fun _ _ q => by simp at q,
        fun p q => by have x := h.l9 hn (by simpa using q); simpa [Act.eval_put_ne] using x,
        fun p q => by have x := h.l10 hn (by simpa using q); simpa [Act.eval_put_ne] using x,
        fun p q => by have x := h.l11 hn (by simpa using q); simpa [Act.eval_put_ne] using x,
        fun p q => by have x := h.l12 hn (by simpa using q); simpa [Act.eval_put_ne] using x,
        fun _ _ => by rw [Act.eval_put_same _ _ _ (by rw [hf.1, hsz]; decide)]; exact hg,
        fun p q => by have x := h.l14 hn (by simpa using q); simpa [Act.eval_put_ne] using x,
        fun p => by have := h.k8_5 (by simpa using p); simp [this],
        fun _ => by simp [a8],
        fun p => by simp [hn] at p⟩
    · have hds : o.dst = some 154 := by (injection (show some _ = some o from ho) with e; rw [← e]; rfl)
      rw [hds] at hK
      injection (show some _ = some o from ho) with ho
      subst ho
      have hn : L 15 = false := by
        cases hx : L 15 with
        | false => rfl
        | true => have := h.o hx 14 (by decide); rw [hLi] at this; cases this
      have ht := h.t hn
      have e0 := (show a'.eval (.tmp 22) = _ by rw [hf.2.2 22 (by decide), h22])
      refine wp_run (v := .pointer (some ⟨r, 1, none⟩)) (w' := w') (op_fa 1 22 rfl (by decide) e0) (hK _ _ ?_)
      exact ⟨fun p => by simp [hn] at p,
        fun _ => ht,
        fun p q r => by have x := h.l0 hn (by simpa using q) (by simpa using r); replace x := x; simpa [Act.eval_put_ne] using x,
        fun p q => by have x := h.l1 hn (by simpa using q); simpa [Act.eval_put_ne] using x,
        fun p q => by have x := h.l2 hn (by simpa using q); simpa [Act.eval_put_ne] using x,
        fun p q => by have x := h.l3 hn (by simpa using q); simpa [Act.eval_put_ne] using x,
        fun p q => by have x := h.l4 hn (by simpa using q); simpa [Act.eval_put_ne] using x,
        fun p q r => by have x := h.l5 hn (by simpa using q) (by simpa using r); replace x := x; simpa [Act.eval_put_ne] using x,
        fun p q => by have x := h.l6 hn (by simpa using q); simpa [Act.eval_put_ne] using x,
        fun p q r => by have x := h.l7 hn (by simpa using q) (by simpa using r); replace x := x; simpa [Act.eval_put_ne] using x,
        fun p q r => by have x := h.l8 hn (by simpa using q) (by simpa using r); replace x := x; simpa [Act.eval_put_ne] using x,
        fun p q => by have x := h.l9 hn (by simpa using q); simpa [Act.eval_put_ne] using x,
        fun p q => by have x := h.l10 hn (by simpa using q); simpa [Act.eval_put_ne] using x,
        fun p q => by have x := h.l11 hn (by simpa using q); simpa [Act.eval_put_ne] using x,
        fun p q => by have x := h.l12 hn (by simpa using q); simpa [Act.eval_put_ne] using x,
        fun p q => by have x := h.l13 hn (by simpa using q); replace x := x; simpa [Act.eval_put_ne] using x,
        fun _ _ => Act.eval_put_same _ _ _ (by rw [hf.1, hsz]; decide),
        fun p => by have := h.k8_5 (by simpa using p); simp [this],
        fun p => by have := h.k13_8 (by simpa using p); simp [this],
        fun p => by simp [hn] at p⟩
    · have hds : o.dst = none := by (injection (show some _ = some o from ho) with e; rw [← e]; rfl)
      rw [hds] at hK
      injection (show some _ = some o from ho) with ho
      subst ho
      have a14 : L 14 = true := hd ⟨14, .data⟩ (Array.mem_of_getElem? (i := 0) rfl) rfl
      have a13 : L 13 = true := hd ⟨13, .data⟩ (Array.mem_of_getElem? (i := 1) rfl) rfl
      have a0 : L 0 = true := hd ⟨0, .phase⟩ (Array.mem_of_getElem? (i := 3) rfl) rfl
      have a1 : L 1 = true := hd ⟨1, .phase⟩ (Array.mem_of_getElem? (i := 4) rfl) rfl
      have a2 : L 2 = true := hd ⟨2, .phase⟩ (Array.mem_of_getElem? (i := 5) rfl) rfl
      have a3 : L 3 = true := hd ⟨3, .phase⟩ (Array.mem_of_getElem? (i := 6) rfl) rfl
      have a4 : L 4 = true := hd ⟨4, .phase⟩ (Array.mem_of_getElem? (i := 7) rfl) rfl
      have a5 : L 5 = true := hd ⟨5, .phase⟩ (Array.mem_of_getElem? (i := 8) rfl) rfl
      have a6 : L 6 = true := hd ⟨6, .phase⟩ (Array.mem_of_getElem? (i := 9) rfl) rfl
      have a7 : L 7 = true := hd ⟨7, .phase⟩ (Array.mem_of_getElem? (i := 10) rfl) rfl
      have a8 : L 8 = true := hd ⟨8, .phase⟩ (Array.mem_of_getElem? (i := 11) rfl) rfl
      have a9 : L 9 = true := hd ⟨9, .phase⟩ (Array.mem_of_getElem? (i := 12) rfl) rfl
      have a10 : L 10 = true := hd ⟨10, .phase⟩ (Array.mem_of_getElem? (i := 13) rfl) rfl
      have a11 : L 11 = true := hd ⟨11, .phase⟩ (Array.mem_of_getElem? (i := 14) rfl) rfl
      have a12 : L 12 = true := hd ⟨12, .phase⟩ (Array.mem_of_getElem? (i := 15) rfl) rfl
      have ht := h.t hLi
      have d1 := h.l1 hLi a1
      have d2 := h.l2 hLi a2
      have d3 := h.l3 hLi a3
      have d4 := h.l4 hLi a4
      have d6 := h.l6 hLi a6
      have d9 := h.l9 hLi a9
      have d10 := h.l10 hLi a10
      have d11 := h.l11 hLi a11
      have d12 := h.l12 hLi a12
      have d13 := h.l13 hLi a13
      have d14 := h.l14 hLi a14
      obtain ⟨B, cb, e0, ho⟩ := d13
      have hr := hR.no ht
      have e1 := hr.cell 1
      have e2 := hr.thawed 1
      simp at e1
      have tw := Turn.set1 w' r 1 (.slice B (P + 1 + (n - P)) cb)
      have hE : Er w r 9 1 (P + 1 + (n - P)) (xT ++ [.string key] ++ xD) (fun x => #[v0, x, v2, v3, v4, v5, v6, v7]) (w'.setCell ⟨r, 1, none⟩ (.slice B (P + 1 + (n - P)) cb)) := ⟨(ht.mono fun _ _ h => h.elim).trans tw, B, cb, by simpa using hr.set 1 (.slice B (P + 1 + (n - P)) cb), own_grown ho tw (fun k hk e => own_neG ho hr (by decide) (by rw [← e]; exact hk))⟩
      refine wp_run0 (w' := w'.setCell ⟨r, 1, none⟩ (.slice B (P + 1 + (n - P)) cb)) (op_st 23 _ _ rfl (by decide) d14 e0 e1 e2) (hK undef _ ?_)
      exact ⟨fun _ j hj => by rcases j with _ | _ | _ | _ | _ | _ | _ | _ | _ | _ | _ | _ | _ | _ | _ | j; rotate_left 15; omega; all_goals simp [*], fun p => by simp at p, fun p => by simp at p, fun p => by simp at p, fun p => by simp at p, fun p => by simp at p, fun p => by simp at p, fun p => by simp at p, fun p => by simp at p, fun p => by simp at p, fun p => by simp at p, fun p => by simp at p, fun p => by simp at p, fun p => by simp at p, fun p => by simp at p, fun p => by simp at p, fun p => by simp at p, fun _ => by simp [a5], fun _ => by simp [a8], fun _ => hE⟩
  · intro L a' w' hall hf h
    have he := hf.eq (by intro s hs; rw [hsz]; simp at hs; omega)
    simp only [List.map_cons, List.map_nil] at he
    rw [he]
    exact hQ _ _ _ _ _ _ _ _ _ _ _ _ _ _ _ w' (h.e (hall 15 (by decide)))
structure JH24 (w : World) (r g n c P : Nat) (A : Option Addr) (xT xD : List Value) (kid : Hn) (mk : Value → Array Value) (L : Nat → Bool) (b : Act) (wx : World) : Prop where
  o : L 17 = true → ∀ j, j < 17 → L j = true
  t : L 17 = false → Turn No w wx
  l0 : L 17 = false → L 0 = true → L 6 = false → Ge w 27 wx (b.eval (.tmp 155))
  l1 : L 17 = false → L 1 = true → (b.eval (.tmp 156)) = .pointer (some ⟨g, 3, none⟩)
  l2 : L 17 = false → L 2 = true → (b.eval (.tmp 157)) = .slice A n c
  l3 : L 17 = false → L 3 = true → (b.eval (.tmp 158)) = .int .i64 (P : Int)
  l4 : L 17 = false → L 4 = true → (b.eval (.tmp 159)) = .int .i64 ((P + 1 : Nat) : Int)
  l5 : L 17 = false → L 5 = true → Gs w (P + 1) xT (b.eval (.tmp 160))
  l6 : L 17 = false → L 6 = true → L 9 = false → Gr w 27 2 (P + 1) xT wx (b.eval (.tmp 161))
  l7 : L 17 = false → L 7 = true → (b.eval (.tmp 162)) = .agg #[.int .i64 kid.slot, .int .u64 kid.gen]
  l8 : L 17 = false → L 8 = true → L 9 = false → Gk 27 #[.int .i64 kid.slot, .int .u64 kid.gen] wx (b.eval (.tmp 163))
  l9 : L 17 = false → L 9 = true → L 15 = false → Gr w 27 2 ((P + 1) + 1) (xT ++ [.int .i64 kid.slot, .int .u64 kid.gen]) wx (b.eval (.tmp 164))
  l10 : L 17 = false → L 10 = true → (b.eval (.tmp 165)) = .pointer (some ⟨g, 3, none⟩)
  l11 : L 17 = false → L 11 = true → (b.eval (.tmp 166)) = .slice A n c
  l12 : L 17 = false → L 12 = true → (b.eval (.tmp 167)) = .int .i64 (P : Int)
  l13 : L 17 = false → L 13 = true → (b.eval (.tmp 168)) = .int .i64 ((P + 1 : Nat) : Int)
  l14 : L 17 = false → L 14 = true → Gs w (n - (P + 1)) xD (b.eval (.tmp 169))
  l15 : L 17 = false → L 15 = true → Gr w 27 2 ((P + 1) + 1 + (n - (P + 1))) (xT ++ [.int .i64 kid.slot, .int .u64 kid.gen] ++ xD) wx (b.eval (.tmp 170))
  l16 : L 17 = false → L 16 = true → (b.eval (.tmp 171)) = .pointer (some ⟨r, 3, none⟩)
  k9_6 : L 9 = true → L 6 = true
  k15_9 : L 15 = true → L 9 = true
  e : L 17 = true → Er w r 27 2 ((P + 1) + 1 + (n - (P + 1))) (xT ++ [.int .i64 kid.slot, .int .u64 kid.gen] ++ xD) mk wx
def opsH24 : Array Oper := #[{ dst := some 155, op := Go.Op.buildSlice 24 0 #[], type := 24, pos := "law.go:182", after := #[], guard := none }, { dst := some 156, op := Go.Op.fieldAddr 29 (Go.Operand.tmp 4) 3, type := 0, pos := "law.go:182", after := #[], guard := none }, { dst := some 157, op := Go.Op.load 24 (Go.Operand.tmp 156), type := 24, pos := "law.go:182", after := #[{ on := 1, ground := Go.Ground.data }], guard := none }, { dst := some 158, op := Go.Op.move (Go.Operand.tmp 23), type := 3, pos := "law.go:182", after := #[], guard := none }, { dst := some 159, op := Go.Op.binOp Go.BinOp.add 3 (Go.Operand.tmp 158) (Go.Operand.const (Go.Value.int Go.IntKind.i64 1)) 3, type := 3, pos := "law.go:182", after := #[{ on := 3, ground := Go.Ground.data }], guard := none }, { dst := some 160, op := Go.Op.slice 24 (Go.Operand.tmp 157) none (some (Go.Operand.tmp 159)) none, type := 24, pos := "law.go:182", after := #[{ on := 2, ground := Go.Ground.data }, { on := 4, ground := Go.Ground.data }], guard := none }, { dst := some 161, op := Go.Op.call { callee := Go.Callee.builtin Go.Builtin.append, args := #[Go.Operand.tmp 155, Go.Operand.tmp 160], argTypes := #[24, 24] }, type := 24, pos := "law.go:182", after := #[{ on := 0, ground := Go.Ground.data }, { on := 5, ground := Go.Ground.data }], guard := none }, { dst := some 162, op := Go.Op.load 27 (Go.Operand.tmp 7), type := 27, pos := "law.go:182", after := #[], guard := none }, { dst := some 163, op := Go.Op.buildSlice 24 1 #[(0, Go.Operand.tmp 162)], type := 24, pos := "law.go:182", after := #[{ on := 7, ground := Go.Ground.data }], guard := none }, { dst := some 164, op := Go.Op.call { callee := Go.Callee.builtin Go.Builtin.append, args := #[Go.Operand.tmp 161, Go.Operand.tmp 163], argTypes := #[24, 24] }, type := 24, pos := "law.go:182", after := #[{ on := 6, ground := Go.Ground.data }, { on := 8, ground := Go.Ground.data }, { on := 6, ground := Go.Ground.chain }], guard := none }, { dst := some 165, op := Go.Op.fieldAddr 29 (Go.Operand.tmp 4) 3, type := 0, pos := "law.go:182", after := #[], guard := none }, { dst := some 166, op := Go.Op.load 24 (Go.Operand.tmp 165), type := 24, pos := "law.go:182", after := #[{ on := 10, ground := Go.Ground.data }], guard := none }, { dst := some 167, op := Go.Op.move (Go.Operand.tmp 23), type := 3, pos := "law.go:182", after := #[], guard := none }, { dst := some 168, op := Go.Op.binOp Go.BinOp.add 3 (Go.Operand.tmp 167) (Go.Operand.const (Go.Value.int Go.IntKind.i64 1)) 3, type := 3, pos := "law.go:182", after := #[{ on := 12, ground := Go.Ground.data }], guard := none }, { dst := some 169, op := Go.Op.slice 24 (Go.Operand.tmp 166) (some (Go.Operand.tmp 168)) none none, type := 24, pos := "law.go:182", after := #[{ on := 11, ground := Go.Ground.data }, { on := 13, ground := Go.Ground.data }], guard := none }, { dst := some 170, op := Go.Op.call { callee := Go.Callee.builtin Go.Builtin.append, args := #[Go.Operand.tmp 164, Go.Operand.tmp 169], argTypes := #[24, 24] }, type := 24, pos := "law.go:182", after := #[{ on := 9, ground := Go.Ground.data }, { on := 14, ground := Go.Ground.data }, { on := 9, ground := Go.Ground.chain }], guard := none }, { dst := some 171, op := Go.Op.fieldAddr 29 (Go.Operand.tmp 22) 3, type := 0, pos := "law.go:182", after := #[{ on := 0, ground := Go.Ground.phase }, { on := 1, ground := Go.Ground.phase }, { on := 2, ground := Go.Ground.phase }, { on := 3, ground := Go.Ground.phase }, { on := 4, ground := Go.Ground.phase }, { on := 5, ground := Go.Ground.phase }, { on := 6, ground := Go.Ground.phase }, { on := 7, ground := Go.Ground.phase }, { on := 8, ground := Go.Ground.phase }, { on := 9, ground := Go.Ground.phase }, { on := 10, ground := Go.Ground.phase }, { on := 11, ground := Go.Ground.phase }, { on := 12, ground := Go.Ground.phase }, { on := 13, ground := Go.Ground.phase }, { on := 14, ground := Go.Ground.phase }, { on := 15, ground := Go.Ground.phase }], guard := none }, { dst := none, op := Go.Op.store 24 (Go.Operand.tmp 171) (Go.Operand.tmp 170), type := 0, pos := "law.go:182", after := #[{ on := 16, ground := Go.Ground.data }, { on := 15, ground := Go.Ground.data }, { on := 15, ground := Go.Ground.chain }, { on := 0, ground := Go.Ground.phase }, { on := 1, ground := Go.Ground.phase }, { on := 2, ground := Go.Ground.phase }, { on := 3, ground := Go.Ground.phase }, { on := 4, ground := Go.Ground.phase }, { on := 5, ground := Go.Ground.phase }, { on := 6, ground := Go.Ground.phase }, { on := 7, ground := Go.Ground.phase }, { on := 8, ground := Go.Ground.phase }, { on := 9, ground := Go.Ground.phase }, { on := 10, ground := Go.Ground.phase }, { on := 11, ground := Go.Ground.phase }, { on := 12, ground := Go.Ground.phase }, { on := 13, ground := Go.Ground.phase }, { on := 14, ground := Go.Ground.phase }, { on := 15, ground := Go.Ground.phase }], guard := none }]
set_option maxRecDepth 100000 in
set_option maxHeartbeats 8000000 in
theorem regH24 {Q : Exit → Act → World → Prop} {a : Act} {w : World} {r g n c P : Nat} {A : Option Addr} {xs xT xD : List Value} {kid : Hn} {g7 : Nat} (h7 : a.eval (.tmp 7) = .pointer (some ⟨g7, 0, none⟩)) (hA7 : At w g7 (.cells #[.int .i64 kid.slot, .int .u64 kid.gen] 27 (0, 0))) {cells : Array Value} {v0 v1 v2 v3 v4 v5 v6 v7 : Value} (h4 : a.eval (.tmp 4) = .pointer (some ⟨g, 0, none⟩)) (h22 : a.eval (.tmp 22) = .pointer (some ⟨r, 0, none⟩)) (h23 : a.eval (.tmp 23) = .int .i64 (P : Int)) (hA : At w g (.cells cells 29 (0, 0))) (hcell : cells[3]? = some (.slice A n c)) (hR : At w r (.cells #[v0, v1, v2, v3, v4, v5, v6, v7] 29 (0, 0)))
    (hR0 : Row w A xs) (hxl : xs.length = n * 2) (hnil : A = none → n = 0) (hP : (P + 1) ≤ n) (hnc : n ≤ c) (hn : n ≤ 100000) (hone : ∀ u ∈ xs, u.oneCell' = true) (hxT : xs.take ((P + 1) * 2) = xT) (hxD : xs.drop ((P + 1) * 2) = xD)
    (hsz : a.tmps.size = 197)
    (hQ : ∀ v155 v156 v157 v158 v159 v160 v161 v162 v163 v164 v165 v166 v167 v168 v169 v170 v171 (w' : World), Er w r 27 2 ((P + 1) + 1 + (n - (P + 1))) (xT ++ [.int .i64 kid.slot, .int .u64 kid.gen] ++ xD) (fun x => #[v0, v1, v2, x, v4, v5, v6, v7]) w' → Q .normal (puts a [(155, v155), (156, v156), (157, v157), (158, v158), (159, v159), (160, v160), (161, v161), (162, v162), (163, v163), (164, v164), (165, v165), (166, v166), (167, v167), (168, v168), (169, v169), (170, v170), (171, v171)]) w') : (Code.region 24 opsH24 true).wp Try.prog Q a w := by
  have hlT : xT.length = (P + 1) * 2 := by rw [← hxT, List.length_take, hxl]; exact Nat.min_eq_left (Nat.mul_le_mul_right _ hP)
  have hlD : xD.length = (n - (P + 1)) * 2 := by rw [← hxD, List.length_drop, hxl, Nat.sub_mul]
  have h1T : ∀ u ∈ xT, u.oneCell' = true := fun u hu => hone u (by rw [← hxT] at hu; exact List.mem_of_mem_take hu)
  have h1D : ∀ u ∈ xD, u.oneCell' = true := fun u hu => hone u (by rw [← hxD] at hu; exact List.mem_of_mem_drop hu)
  have hsub : ∀ W, ∃ A', (Instr.sliceAt 24 (.slice A n c) (some (.int .i64 (((P + 1) : Nat) : Int))) none none).run Try.prog W = .ok (.slice A' (n - (P + 1)) (c - (P + 1))) W ∧ ∀ W2, Turn No w W2 → Row W2 A' xD := fun W => by
    rw [← hxD]
    exact run_sub 24 w W hR0 hxl hnil hP hnc (Or.inr ⟨rfl, rfl⟩)
  refine region_J (by kernel_rfl) [155, 156, 157, 158, 159, 160, 161, 162, 163, 164, 165, 166, 167, 168, 169, 170, 171] (JH24 w r g n c P A xT xD kid (fun x => #[v0, v1, v2, x, v4, v5, v6, v7])) ?_ ?_ ?_ ?_
  · refine ⟨fun p => (by cases p), fun _ => (Turn.refl No w).drew, ?_, ?_, ?_, ?_, ?_, ?_, ?_, ?_, ?_, ?_, ?_, ?_, ?_, ?_, ?_, ?_, ?_, fun p => (by cases p), fun p => (by cases p), fun p => (by cases p)⟩ <;> intro p q <;> cases q
  · intro i o ho
    have hall : (opsH24.toList.zipIdx.all fun q => q.1.guard.isNone && (q.1.after.toList.all fun e => Nat.blt e.on q.2 || !Region.binds .any e) && (match q.1.dst with | none => true | some s => [155, 156, 157, 158, 159, 160, 161, 162, 163, 164, 165, 166, 167, 168, 169, 170, 171].contains s)) = true := by kernel_rfl
    have hm := List.all_eq_true.1 hall (o, i) (by
      rw [List.mem_iff_getElem?]
      refine ⟨i, ?_⟩
      rw [List.getElem?_zipIdx, Array.getElem?_toList, ho]
      simp)
    simp only [Bool.and_eq_true, List.all_eq_true, Option.isNone_iff_eq_none] at hm
    refine ⟨hm.1.1, fun e he hb => by have := hm.1.2 e (Array.mem_toList_iff.2 he); simpa [hb] using this, fun s hs => ?_⟩
    have := hm.2
    rw [hs] at this
    simpa using this
  · intro i o ho L a' w' hf h hLi hd K2 hK
    have hin : i < 18 := (Array.getElem?_eq_some_iff.1 ho).1
    rcases i with _ | _ | _ | _ | _ | _ | _ | _ | _ | _ | _ | _ | _ | _ | _ | _ | _ | _ | i
    rotate_left 18
    · omega
    · have hds : o.dst = some 155 := by (injection (show some _ = some o from ho) with e; rw [← e]; rfl)
      rw [hds] at hK
      injection (show some _ = some o from ho) with ho
      subst ho
      have hn : L 17 = false := by
        cases hx : L 17 with
        | false => rfl
        | true => have := h.o hx 0 (by decide); rw [hLi] at this; cases this
      have ht := h.t hn
      have tj : Turn No w' (w'.alloc (.cells #[] 27)) := (Turn.refl _ _).alloc _
      have hg : Ge w 27 (w'.alloc (.cells #[] 27)) (.slice (some ⟨w'.heap.size, 0, none⟩) 0 0) := ⟨_, rfl, At.new _ _, ht.size⟩
      refine wp_run (v := .slice (some ⟨w'.heap.size, 0, none⟩) 0 0) (w' := w'.alloc (.cells #[] 27)) (op_e0 24 27 rfl (by decide)) (hK _ _ ?_)
      exact ⟨fun p => by simp [hn] at p,
        fun _ => ht.trans tj,
        fun _ _ _ => by rw [Act.eval_put_same _ _ _ (by rw [hf.1, hsz]; decide)]; exact hg,
        fun p q => by have x := h.l1 hn (by simpa using q); simpa [Act.eval_put_ne] using x,
        fun p q => by have x := h.l2 hn (by simpa using q); simpa [Act.eval_put_ne] using x,
        fun p q => by have x := h.l3 hn (by simpa using q); simpa [Act.eval_put_ne] using x,
        fun p q => by have x := h.l4 hn (by simpa using q); simpa [Act.eval_put_ne] using x,
        fun p q => by have x := h.l5 hn (by simpa using q); simpa [Act.eval_put_ne] using x,
        fun p q r => by have x := h.l6 hn (by simpa using q) (by simpa using r); replace x := x.no tj; simpa [Act.eval_put_ne] using x,
        fun p q => by have x := h.l7 hn (by simpa using q); simpa [Act.eval_put_ne] using x,
        fun p q r => by have x := h.l8 hn (by simpa using q) (by simpa using r); replace x := x.no tj; simpa [Act.eval_put_ne] using x,
        fun p q r => by have x := h.l9 hn (by simpa using q) (by simpa using r); replace x := x.no tj; simpa [Act.eval_put_ne] using x,
        fun p q => by have x := h.l10 hn (by simpa using q); simpa [Act.eval_put_ne] using x,
        fun p q => by have x := h.l11 hn (by simpa using q); simpa [Act.eval_put_ne] using x,
        fun p q => by have x := h.l12 hn (by simpa using q); simpa [Act.eval_put_ne] using x,
        fun p q => by have x := h.l13 hn (by simpa using q); simpa [Act.eval_put_ne] using x,
        fun p q => by have x := h.l14 hn (by simpa using q); simpa [Act.eval_put_ne] using x,
        fun p q => by have x := h.l15 hn (by simpa using q); replace x := x.no tj; simpa [Act.eval_put_ne] using x,
        fun p q => by have x := h.l16 hn (by simpa using q); simpa [Act.eval_put_ne] using x,
        fun p => by have := h.k9_6 (by simpa using p); simp [this],
        fun p => by have := h.k15_9 (by simpa using p); simp [this],
        fun p => by simp [hn] at p⟩
    · have hds : o.dst = some 156 := by (injection (show some _ = some o from ho) with e; rw [← e]; rfl)
      rw [hds] at hK
      injection (show some _ = some o from ho) with ho
      subst ho
      have hn : L 17 = false := by
        cases hx : L 17 with
        | false => rfl
        | true => have := h.o hx 1 (by decide); rw [hLi] at this; cases this
      have ht := h.t hn
      have e0 := (show a'.eval (.tmp 4) = _ by rw [hf.2.2 4 (by decide), h4])
      refine wp_run (v := .pointer (some ⟨g, 3, none⟩)) (w' := w') (op_fa 3 4 rfl (by decide) e0) (hK _ _ ?_)
      exact ⟨fun p => by simp [hn] at p,
        fun _ => ht,
        fun p q r => by have x := h.l0 hn (by simpa using q) (by simpa using r); replace x := x; simpa [Act.eval_put_ne] using x,
        fun _ _ => Act.eval_put_same _ _ _ (by rw [hf.1, hsz]; decide),
        fun p q => by have x := h.l2 hn (by simpa using q); simpa [Act.eval_put_ne] using x,
        fun p q => by have x := h.l3 hn (by simpa using q); simpa [Act.eval_put_ne] using x,
        fun p q => by have x := h.l4 hn (by simpa using q); simpa [Act.eval_put_ne] using x,
        fun p q => by have x := h.l5 hn (by simpa using q); simpa [Act.eval_put_ne] using x,
        fun p q r => by have x := h.l6 hn (by simpa using q) (by simpa using r); replace x := x; simpa [Act.eval_put_ne] using x,
        fun p q => by have x := h.l7 hn (by simpa using q); simpa [Act.eval_put_ne] using x,
        fun p q r => by have x := h.l8 hn (by simpa using q) (by simpa using r); replace x := x; simpa [Act.eval_put_ne] using x,
        fun p q r => by have x := h.l9 hn (by simpa using q) (by simpa using r); replace x := x; simpa [Act.eval_put_ne] using x,
        fun p q => by have x := h.l10 hn (by simpa using q); simpa [Act.eval_put_ne] using x,
        fun p q => by have x := h.l11 hn (by simpa using q); simpa [Act.eval_put_ne] using x,
        fun p q => by have x := h.l12 hn (by simpa using q); simpa [Act.eval_put_ne] using x,
        fun p q => by have x := h.l13 hn (by simpa using q); simpa [Act.eval_put_ne] using x,
        fun p q => by have x := h.l14 hn (by simpa using q); simpa [Act.eval_put_ne] using x,
        fun p q => by have x := h.l15 hn (by simpa using q); replace x := x; simpa [Act.eval_put_ne] using x,
        fun p q => by have x := h.l16 hn (by simpa using q); simpa [Act.eval_put_ne] using x,
        fun p => by have := h.k9_6 (by simpa using p); simp [this],
        fun p => by have := h.k15_9 (by simpa using p); simp [this],
        fun p => by simp [hn] at p⟩
    · have hds : o.dst = some 157 := by (injection (show some _ = some o from ho) with e; rw [← e]; rfl)
      rw [hds] at hK
      injection (show some _ = some o from ho) with ho
      subst ho
      have hn : L 17 = false := by
        cases hx : L 17 with
        | false => rfl
        | true => have := h.o hx 2 (by decide); rw [hLi] at this; cases this
      have ht := h.t hn
      have a1 : L 1 = true := hd ⟨1, .data⟩ (Array.mem_of_getElem? (i := 0) rfl) rfl
      have d1 := h.l1 hn a1
      have e1 := (hA.no ht).cell 3
      have e1 : w'.cell? ⟨g, 3, none⟩ = some (.slice A n c) := by rw [e1, hcell]
      refine wp_run (v := .slice A n c) (w' := w') (op_ld 24 _ rfl (by decide) d1 e1) (hK _ _ ?_)
      exact ⟨fun p => by simp [hn] at p,
        fun _ => ht,
        fun p q r => by have x := h.l0 hn (by simpa using q) (by simpa using r); replace x := x; simpa [Act.eval_put_ne] using x,
        fun p q => by have x := h.l1 hn (by simpa using q); simpa [Act.eval_put_ne] using x,
        fun _ _ => Act.eval_put_same _ _ _ (by rw [hf.1, hsz]; decide),
        fun p q => by have x := h.l3 hn (by simpa using q); simpa [Act.eval_put_ne] using x,
        fun p q => by have x := h.l4 hn (by simpa using q); simpa [Act.eval_put_ne] using x,
        fun p q => by have x := h.l5 hn (by simpa using q); simpa [Act.eval_put_ne] using x,
        fun p q r => by have x := h.l6 hn (by simpa using q) (by simpa using r); replace x := x; simpa [Act.eval_put_ne] using x,
        fun p q => by have x := h.l7 hn (by simpa using q); simpa [Act.eval_put_ne] using x,
        fun p q r => by have x := h.l8 hn (by simpa using q) (by simpa using r); replace x := x; simpa [Act.eval_put_ne] using x,
        fun p q r => by have x := h.l9 hn (by simpa using q) (by simpa using r); replace x := x; simpa [Act.eval_put_ne] using x,
        fun p q => by have x := h.l10 hn (by simpa using q); simpa [Act.eval_put_ne] using x,
        fun p q => by have x := h.l11 hn (by simpa using q); simpa [Act.eval_put_ne] using x,
        fun p q => by have x := h.l12 hn (by simpa using q); simpa [Act.eval_put_ne] using x,
        fun p q => by have x := h.l13 hn (by simpa using q); simpa [Act.eval_put_ne] using x,
        fun p q => by have x := h.l14 hn (by simpa using q); simpa [Act.eval_put_ne] using x,
        fun p q => by have x := h.l15 hn (by simpa using q); replace x := x; simpa [Act.eval_put_ne] using x,
        fun p q => by have x := h.l16 hn (by simpa using q); simpa [Act.eval_put_ne] using x,
        fun p => by have := h.k9_6 (by simpa using p); simp [this],
        fun p => by have := h.k15_9 (by simpa using p); simp [this],
        fun p => by simp [hn] at p⟩
    · have hds : o.dst = some 158 := by (injection (show some _ = some o from ho) with e; rw [← e]; rfl)
      rw [hds] at hK
      injection (show some _ = some o from ho) with ho
      subst ho
      have hn : L 17 = false := by
        cases hx : L 17 with
        | false => rfl
        | true => have := h.o hx 3 (by decide); rw [hLi] at this; cases this
      have ht := h.t hn
      refine wp_mv (v := .int .i64 (P : Int)) _ (Or.inl rfl) (show a'.eval (.tmp 23) = _ by rw [hf.2.2 23 (by decide), h23]) (hK _ _ ?_)
      exact ⟨fun p => by simp [hn] at p,
        fun _ => ht,
        fun p q r => by have x := h.l0 hn (by simpa using q) (by simpa using r); replace x := x; simpa [Act.eval_put_ne] using x,
        fun p q => by have x := h.l1 hn (by simpa using q); simpa [Act.eval_put_ne] using x,
        fun p q => by have x := h.l2 hn (by simpa using q); simpa [Act.eval_put_ne] using x,
        fun _ _ => Act.eval_put_same _ _ _ (by rw [hf.1, hsz]; decide),
        fun p q => by have x := h.l4 hn (by simpa using q); simpa [Act.eval_put_ne] using x,
        fun p q => by have x := h.l5 hn (by simpa using q); simpa [Act.eval_put_ne] using x,
        fun p q r => by have x := h.l6 hn (by simpa using q) (by simpa using r); replace x := x; simpa [Act.eval_put_ne] using x,
        fun p q => by have x := h.l7 hn (by simpa using q); simpa [Act.eval_put_ne] using x,
        fun p q r => by have x := h.l8 hn (by simpa using q) (by simpa using r); replace x := x; simpa [Act.eval_put_ne] using x,
        fun p q r => by have x := h.l9 hn (by simpa using q) (by simpa using r); replace x := x; simpa [Act.eval_put_ne] using x,
        fun p q => by have x := h.l10 hn (by simpa using q); simpa [Act.eval_put_ne] using x,
        fun p q => by have x := h.l11 hn (by simpa using q); simpa [Act.eval_put_ne] using x,
        fun p q => by have x := h.l12 hn (by simpa using q); simpa [Act.eval_put_ne] using x,
        fun p q => by have x := h.l13 hn (by simpa using q); simpa [Act.eval_put_ne] using x,
        fun p q => by have x := h.l14 hn (by simpa using q); simpa [Act.eval_put_ne] using x,
        fun p q => by have x := h.l15 hn (by simpa using q); replace x := x; simpa [Act.eval_put_ne] using x,
        fun p q => by have x := h.l16 hn (by simpa using q); simpa [Act.eval_put_ne] using x,
        fun p => by have := h.k9_6 (by simpa using p); simp [this],
        fun p => by have := h.k15_9 (by simpa using p); simp [this],
        fun p => by simp [hn] at p⟩
    · have hds : o.dst = some 159 := by (injection (show some _ = some o from ho) with e; rw [← e]; rfl)
      rw [hds] at hK
      injection (show some _ = some o from ho) with ho
      subst ho
      have hn : L 17 = false := by
        cases hx : L 17 with
        | false => rfl
        | true => have := h.o hx 4 (by decide); rw [hLi] at this; cases this
      have ht := h.t hn
      have a3 : L 3 = true := hd ⟨3, .data⟩ (Array.mem_of_getElem? (i := 0) rfl) rfl
      have d3 := h.l3 hn a3
      refine wp_run (v := .int .i64 ((P + 1 : Nat) : Int)) (w' := w') (op_add _ (by omega) rfl d3) (hK _ _ ?_)
      exact ⟨fun p => by simp [hn] at p,
        fun _ => ht,
        fun p q r => by have x := h.l0 hn (by simpa using q) (by simpa using r); replace x := x; simpa [Act.eval_put_ne] using x,
        fun p q => by have x := h.l1 hn (by simpa using q); simpa [Act.eval_put_ne] using x,
        fun p q => by have x := h.l2 hn (by simpa using q); simpa [Act.eval_put_ne] using x,
        fun p q => by have x := h.l3 hn (by simpa using q); simpa [Act.eval_put_ne] using x,
        fun _ _ => Act.eval_put_same _ _ _ (by rw [hf.1, hsz]; decide),
        fun p q => by have x := h.l5 hn (by simpa using q); simpa [Act.eval_put_ne] using x,
        fun p q r => by have x := h.l6 hn (by simpa using q) (by simpa using r); replace x := x; simpa [Act.eval_put_ne] using x,
        fun p q => by have x := h.l7 hn (by simpa using q); simpa [Act.eval_put_ne] using x,
        fun p q r => by have x := h.l8 hn (by simpa using q) (by simpa using r); replace x := x; simpa [Act.eval_put_ne] using x,
        fun p q r => by have x := h.l9 hn (by simpa using q) (by simpa using r); replace x := x; simpa [Act.eval_put_ne] using x,
        fun p q => by have x := h.l10 hn (by simpa using q); simpa [Act.eval_put_ne] using x,
        fun p q => by have x := h.l11 hn (by simpa using q); simpa [Act.eval_put_ne] using x,
        fun p q => by have x := h.l12 hn (by simpa using q); simpa [Act.eval_put_ne] using x,
        fun p q => by have x := h.l13 hn (by simpa using q); simpa [Act.eval_put_ne] using x,
        fun p q => by have x := h.l14 hn (by simpa using q); simpa [Act.eval_put_ne] using x,
        fun p q => by have x := h.l15 hn (by simpa using q); replace x := x; simpa [Act.eval_put_ne] using x,
        fun p q => by have x := h.l16 hn (by simpa using q); simpa [Act.eval_put_ne] using x,
        fun p => by have := h.k9_6 (by simpa using p); simp [this],
        fun p => by have := h.k15_9 (by simpa using p); simp [this],
        fun p => by simp [hn] at p⟩
    · have hds : o.dst = some 160 := by (injection (show some _ = some o from ho) with e; rw [← e]; rfl)
      rw [hds] at hK
      injection (show some _ = some o from ho) with ho
      subst ho
      have hn : L 17 = false := by
        cases hx : L 17 with
        | false => rfl
        | true => have := h.o hx 5 (by decide); rw [hLi] at this; cases this
      have ht := h.t hn
      have a2 : L 2 = true := hd ⟨2, .data⟩ (Array.mem_of_getElem? (i := 0) rfl) rfl
      have d2 := h.l2 hn a2
      have a4 : L 4 = true := hd ⟨4, .data⟩ (Array.mem_of_getElem? (i := 1) rfl) rfl
      have d4 := h.l4 hn a4
      have q1 : (0 : Int) ≤ (((P + 1) : Nat) : Int) := by omega
      have q2 : (((P + 1) : Nat) : Int) ≤ (c : Int) := by omega
      have q3 : (P + 1) ≤ c := by omega
      have hg : Gs w (P + 1) xT (.slice A (P + 1) c) := ⟨A, c, rfl, fun W t => by rw [← hxT]; exact row_take (hR0.no t) _⟩
      refine wp_run (v := .slice A (P + 1) c) (w' := w') (op_sT 24 _ _ rfl (by decide) q3 d2 d4) (hK _ _ ?_)
      exact ⟨fun p => by simp [hn] at p,
        fun _ => ht,
        fun p q r => by have x := h.l0 hn (by simpa using q) (by simpa using r); replace x := x; simpa [Act.eval_put_ne] using x,
        fun p q => by have x := h.l1 hn (by simpa using q); simpa [Act.eval_put_ne] using x,
        fun p q => by have x := h.l2 hn (by simpa using q); simpa [Act.eval_put_ne] using x,
        fun p q => by have x := h.l3 hn (by simpa using q); simpa [Act.eval_put_ne] using x,
        fun p q => by have x := h.l4 hn (by simpa using q); simpa [Act.eval_put_ne] using x,
        fun _ _ => by rw [Act.eval_put_same _ _ _ (by rw [hf.1, hsz]; decide)]; exact hg,
        fun p q r => by have x := h.l6 hn (by simpa using q) (by simpa using r); replace x := x; simpa [Act.eval_put_ne] using x,
        fun p q => by have x := h.l7 hn (by simpa using q); simpa [Act.eval_put_ne] using x,
        fun p q r => by have x := h.l8 hn (by simpa using q) (by simpa using r); replace x := x; simpa [Act.eval_put_ne] using x,
        fun p q r => by have x := h.l9 hn (by simpa using q) (by simpa using r); replace x := x; simpa [Act.eval_put_ne] using x,
        fun p q => by have x := h.l10 hn (by simpa using q); simpa [Act.eval_put_ne] using x,
        fun p q => by have x := h.l11 hn (by simpa using q); simpa [Act.eval_put_ne] using x,
        fun p q => by have x := h.l12 hn (by simpa using q); simpa [Act.eval_put_ne] using x,
        fun p q => by have x := h.l13 hn (by simpa using q); simpa [Act.eval_put_ne] using x,
        fun p q => by have x := h.l14 hn (by simpa using q); simpa [Act.eval_put_ne] using x,
        fun p q => by have x := h.l15 hn (by simpa using q); replace x := x; simpa [Act.eval_put_ne] using x,
        fun p q => by have x := h.l16 hn (by simpa using q); simpa [Act.eval_put_ne] using x,
        fun p => by have := h.k9_6 (by simpa using p); simp [this],
        fun p => by have := h.k15_9 (by simpa using p); simp [this],
        fun p => by simp [hn] at p⟩
    · have hds : o.dst = some 161 := by (injection (show some _ = some o from ho) with e; rw [← e]; rfl)
      rw [hds] at hK
      injection (show some _ = some o from ho) with ho
      subst ho
      have hn : L 17 = false := by
        cases hx : L 17 with
        | false => rfl
        | true => have := h.o hx 6 (by decide); rw [hLi] at this; cases this
      have ht := h.t hn
      have a0 : L 0 = true := hd ⟨0, .data⟩ (Array.mem_of_getElem? (i := 0) rfl) rfl
      have d0 := h.l0 hn a0 hLi
      have a5 : L 5 = true := hd ⟨5, .data⟩ (Array.mem_of_getElem? (i := 1) rfl) rfl
      have d5 := h.l5 hn a5
      obtain ⟨g1, e1, hat, hz⟩ := d0
      obtain ⟨A1, c1, e2, hr1⟩ := d5
      obtain ⟨B, cb, w2, q, ho, tj⟩ := app_row (t := 24) Try.underlying24 info27 rfl (by decide) (by decide) (own_empty (s := 2) hat hz) ht.size (m := (P + 1)) (c := c1) hlT (hr1 w' ht) h1T (by omega) 24
      have tw := no_own ht (own_empty (s := 2) hat hz) tj
      rw [Nat.zero_add, List.nil_append] at ho
      rw [Nat.zero_add] at q
      have hg : Gr w 27 2 (P + 1) xT w2 (.slice B (P + 1) cb) := ⟨B, cb, rfl, ho⟩
      refine wp_app _ _ 24 rfl _ _ _ e1 e2 q (hK _ _ ?_)
      exact ⟨fun p => by simp [hn] at p,
        fun _ => tw,
        fun _ _ q => by simp at q,
        fun p q => by have x := h.l1 hn (by simpa using q); simpa [Act.eval_put_ne] using x,
        fun p q => by have x := h.l2 hn (by simpa using q); simpa [Act.eval_put_ne] using x,
        fun p q => by have x := h.l3 hn (by simpa using q); simpa [Act.eval_put_ne] using x,
        fun p q => by have x := h.l4 hn (by simpa using q); simpa [Act.eval_put_ne] using x,
        fun p q => by have x := h.l5 hn (by simpa using q); simpa [Act.eval_put_ne] using x,
        fun _ _ _ => by rw [Act.eval_put_same _ _ _ (by rw [hf.1, hsz]; decide)]; exact hg,
        fun p q => by have x := h.l7 hn (by simpa using q); simpa [Act.eval_put_ne] using x,
        fun p q r => by have x := h.l8 hn (by simpa using q) (by simpa using r); replace x := x.past (by simp) hat tj; simpa [Act.eval_put_ne] using x,
        fun p q r => (by have := h.k9_6 (by simpa using q); rw [hLi] at this; cases this),
        fun p q => by have x := h.l10 hn (by simpa using q); simpa [Act.eval_put_ne] using x,
        fun p q => by have x := h.l11 hn (by simpa using q); simpa [Act.eval_put_ne] using x,
        fun p q => by have x := h.l12 hn (by simpa using q); simpa [Act.eval_put_ne] using x,
        fun p q => by have x := h.l13 hn (by simpa using q); simpa [Act.eval_put_ne] using x,
        fun p q => by have x := h.l14 hn (by simpa using q); simpa [Act.eval_put_ne] using x,
        fun p q => (by have := h.k9_6 (h.k15_9 (by simpa using q)); rw [hLi] at this; cases this),
        fun p q => by have x := h.l16 hn (by simpa using q); simpa [Act.eval_put_ne] using x,
        fun p => by have := h.k9_6 (by simpa using p); simp [this],
        fun p => by have := h.k15_9 (by simpa using p); simp [this],
        fun p => by simp [hn] at p⟩
    · have hds : o.dst = some 162 := by (injection (show some _ = some o from ho) with e; rw [← e]; rfl)
      rw [hds] at hK
      injection (show some _ = some o from ho) with ho
      subst ho
      have hn : L 17 = false := by
        cases hx : L 17 with
        | false => rfl
        | true => have := h.o hx 7 (by decide); rw [hLi] at this; cases this
      have ht := h.t hn
      refine wp_load_row 27 _ rfl g7 (show a'.eval (.tmp 7) = _ by rw [hf.2.2 7 (by decide), h7]) 27 _ (0, 0) _ (hA7.no ht) Try.underlying27 rfl (by kernel_rfl) (hK _ _ ?_)
      exact ⟨fun p => by simp [hn] at p,
        fun _ => ht,
        fun p q r => by have x := h.l0 hn (by simpa using q) (by simpa using r); replace x := x; simpa [Act.eval_put_ne] using x,
        fun p q => by have x := h.l1 hn (by simpa using q); simpa [Act.eval_put_ne] using x,
        fun p q => by have x := h.l2 hn (by simpa using q); simpa [Act.eval_put_ne] using x,
        fun p q => by have x := h.l3 hn (by simpa using q); simpa [Act.eval_put_ne] using x,
        fun p q => by have x := h.l4 hn (by simpa using q); simpa [Act.eval_put_ne] using x,
        fun p q => by have x := h.l5 hn (by simpa using q); simpa [Act.eval_put_ne] using x,
        fun p q r => by have x := h.l6 hn (by simpa using q) (by simpa using r); replace x := x; simpa [Act.eval_put_ne] using x,
        fun _ _ => Act.eval_put_same _ _ _ (by rw [hf.1, hsz]; decide),
        fun p q r => by have x := h.l8 hn (by simpa using q) (by simpa using r); replace x := x; simpa [Act.eval_put_ne] using x,
        fun p q r => by have x := h.l9 hn (by simpa using q) (by simpa using r); replace x := x; simpa [Act.eval_put_ne] using x,
        fun p q => by have x := h.l10 hn (by simpa using q); simpa [Act.eval_put_ne] using x,
        fun p q => by have x := h.l11 hn (by simpa using q); simpa [Act.eval_put_ne] using x,
        fun p q => by have x := h.l12 hn (by simpa using q); simpa [Act.eval_put_ne] using x,
        fun p q => by have x := h.l13 hn (by simpa using q); simpa [Act.eval_put_ne] using x,
        fun p q => by have x := h.l14 hn (by simpa using q); simpa [Act.eval_put_ne] using x,
        fun p q => by have x := h.l15 hn (by simpa using q); replace x := x; simpa [Act.eval_put_ne] using x,
        fun p q => by have x := h.l16 hn (by simpa using q); simpa [Act.eval_put_ne] using x,
        fun p => by have := h.k9_6 (by simpa using p); simp [this],
        fun p => by have := h.k15_9 (by simpa using p); simp [this],
        fun p => by simp [hn] at p⟩
    · have hds : o.dst = some 163 := by (injection (show some _ = some o from ho) with e; rw [← e]; rfl)
      rw [hds] at hK
      injection (show some _ = some o from ho) with ho
      subst ho
      have hn : L 17 = false := by
        cases hx : L 17 with
        | false => rfl
        | true => have := h.o hx 8 (by decide); rw [hLi] at this; cases this
      have ht := h.t hn
      have a7 : L 7 = true := hd ⟨7, .data⟩ (Array.mem_of_getElem? (i := 0) rfl) rfl
      have d7 := h.l7 hn a7
      have tj : Turn No w' (w'.alloc (.cells #[.int .i64 kid.slot, .int .u64 kid.gen] 27)) := (Turn.refl _ _).alloc _
      have hg : Gk 27 #[.int .i64 kid.slot, .int .u64 kid.gen] (w'.alloc (.cells #[.int .i64 kid.slot, .int .u64 kid.gen] 27)) (.slice (some ⟨w'.heap.size, 0, none⟩) 1 1) := ⟨_, rfl, At.new _ _⟩
      refine wp_run (v := .slice (some ⟨w'.heap.size, 0, none⟩) 1 1) (w' := w'.alloc (.cells #[.int .i64 kid.slot, .int .u64 kid.gen] 27)) (op_kbH _ rfl d7) (hK _ _ ?_)
      exact ⟨fun p => by simp [hn] at p,
        fun _ => ht.trans tj,
        fun p q r => by have x := h.l0 hn (by simpa using q) (by simpa using r); replace x := x.no tj; simpa [Act.eval_put_ne] using x,
        fun p q => by have x := h.l1 hn (by simpa using q); simpa [Act.eval_put_ne] using x,
        fun p q => by have x := h.l2 hn (by simpa using q); simpa [Act.eval_put_ne] using x,
        fun p q => by have x := h.l3 hn (by simpa using q); simpa [Act.eval_put_ne] using x,
        fun p q => by have x := h.l4 hn (by simpa using q); simpa [Act.eval_put_ne] using x,
        fun p q => by have x := h.l5 hn (by simpa using q); simpa [Act.eval_put_ne] using x,
        fun p q r => by have x := h.l6 hn (by simpa using q) (by simpa using r); replace x := x.no tj; simpa [Act.eval_put_ne] using x,
        fun p q => by have x := h.l7 hn (by simpa using q); simpa [Act.eval_put_ne] using x,
        fun _ _ _ => by rw [Act.eval_put_same _ _ _ (by rw [hf.1, hsz]; decide)]; exact hg,
        fun p q r => by have x := h.l9 hn (by simpa using q) (by simpa using r); replace x := x.no tj; simpa [Act.eval_put_ne] using x,
        fun p q => by have x := h.l10 hn (by simpa using q); simpa [Act.eval_put_ne] using x,
        fun p q => by have x := h.l11 hn (by simpa using q); simpa [Act.eval_put_ne] using x,
        fun p q => by have x := h.l12 hn (by simpa using q); simpa [Act.eval_put_ne] using x,
        fun p q => by have x := h.l13 hn (by simpa using q); simpa [Act.eval_put_ne] using x,
        fun p q => by have x := h.l14 hn (by simpa using q); simpa [Act.eval_put_ne] using x,
        fun p q => by have x := h.l15 hn (by simpa using q); replace x := x.no tj; simpa [Act.eval_put_ne] using x,
        fun p q => by have x := h.l16 hn (by simpa using q); simpa [Act.eval_put_ne] using x,
        fun p => by have := h.k9_6 (by simpa using p); simp [this],
        fun p => by have := h.k15_9 (by simpa using p); simp [this],
        fun p => by simp [hn] at p⟩
    · have hds : o.dst = some 164 := by (injection (show some _ = some o from ho) with e; rw [← e]; rfl)
      rw [hds] at hK
      injection (show some _ = some o from ho) with ho
      subst ho
      have hn : L 17 = false := by
        cases hx : L 17 with
        | false => rfl
        | true => have := h.o hx 9 (by decide); rw [hLi] at this; cases this
      have ht := h.t hn
      have a6 : L 6 = true := hd ⟨6, .data⟩ (Array.mem_of_getElem? (i := 0) rfl) rfl
      have d6 := h.l6 hn a6 hLi
      have a8 : L 8 = true := hd ⟨8, .data⟩ (Array.mem_of_getElem? (i := 1) rfl) rfl
      have d8 := h.l8 hn a8 hLi
      obtain ⟨B0, c0, e1, hown⟩ := d6
      obtain ⟨g2, e2, hat⟩ := d8
      obtain ⟨B, cb, w2, q, ho, tj⟩ := app_row (t := 24) Try.underlying24 info27 rfl (by decide) (by decide) hown ht.size (m := 1) (A := some ⟨g2, 0, none⟩) (c := 1) (ys := [.int .i64 kid.slot, .int .u64 kid.gen]) rfl
        (fun j u hj => ⟨g2, 0, rfl, hat.lt, by rw [Nat.zero_add, hat.cell]; simpa using hj⟩) (by intro u hu; simp at hu; rcases hu with rfl | rfl <;> rfl) (by omega) 24
      have tw := no_own ht hown tj
      have hg : Gr w 27 2 ((P + 1) + 1) (xT ++ [.int .i64 kid.slot, .int .u64 kid.gen]) w2 (.slice B ((P + 1) + 1) cb) := ⟨B, cb, rfl, ho⟩
      refine wp_app _ _ 24 rfl _ _ _ e1 e2 q (hK _ _ ?_)
      exact ⟨fun p => by simp [hn] at p,
        fun _ => tw,
        fun p q r => by simp [a6] at r,
        fun p q => by have x := h.l1 hn (by simpa using q); simpa [Act.eval_put_ne] using x,
        fun p q => by have x := h.l2 hn (by simpa using q); simpa [Act.eval_put_ne] using x,
        fun p q => by have x := h.l3 hn (by simpa using q); simpa [Act.eval_put_ne] using x,
        fun p q => by have x := h.l4 hn (by simpa using q); simpa [Act.eval_put_ne] using x,
        fun p q => by have x := h.l5 hn (by simpa using q); simpa [Act.eval_put_ne] using x,
        fun _ _ q => by simp at q,
        fun p q => by have x := h.l7 hn (by simpa using q); simpa [Act.eval_put_ne] using x,
        fun _ _ q => by simp at q,
        fun _ _ _ => by rw [Act.eval_put_same _ _ _ (by rw [hf.1, hsz]; decide)]; exact hg,
        fun p q => by have x := h.l10 hn (by simpa using q); simpa [Act.eval_put_ne] using x,
        fun p q => by have x := h.l11 hn (by simpa using q); simpa [Act.eval_put_ne] using x,
        fun p q => by have x := h.l12 hn (by simpa using q); simpa [Act.eval_put_ne] using x,
        fun p q => by have x := h.l13 hn (by simpa using q); simpa [Act.eval_put_ne] using x,
        fun p q => by have x := h.l14 hn (by simpa using q); simpa [Act.eval_put_ne] using x,
        fun p q => (by have := h.k15_9 (by simpa using q); rw [hLi] at this; cases this),
        fun p q => by have x := h.l16 hn (by simpa using q); simpa [Act.eval_put_ne] using x,
        fun _ => by simp [a6],
        fun p => by have := h.k15_9 (by simpa using p); simp [this],
        fun p => by simp [hn] at p⟩
    · have hds : o.dst = some 165 := by (injection (show some _ = some o from ho) with e; rw [← e]; rfl)
      rw [hds] at hK
      injection (show some _ = some o from ho) with ho
      subst ho
      have hn : L 17 = false := by
        cases hx : L 17 with
        | false => rfl
        | true => have := h.o hx 10 (by decide); rw [hLi] at this; cases this
      have ht := h.t hn
      have e0 := (show a'.eval (.tmp 4) = _ by rw [hf.2.2 4 (by decide), h4])
      refine wp_run (v := .pointer (some ⟨g, 3, none⟩)) (w' := w') (op_fa 3 4 rfl (by decide) e0) (hK _ _ ?_)
      exact ⟨fun p => by simp [hn] at p,
        fun _ => ht,
        fun p q r => by have x := h.l0 hn (by simpa using q) (by simpa using r); replace x := x; simpa [Act.eval_put_ne] using x,
        fun p q => by have x := h.l1 hn (by simpa using q); simpa [Act.eval_put_ne] using x,
        fun p q => by have x := h.l2 hn (by simpa using q); simpa [Act.eval_put_ne] using x,
        fun p q => by have x := h.l3 hn (by simpa using q); simpa [Act.eval_put_ne] using x,
        fun p q => by have x := h.l4 hn (by simpa using q); simpa [Act.eval_put_ne] using x,
        fun p q => by have x := h.l5 hn (by simpa using q); simpa [Act.eval_put_ne] using x,
        fun p q r => by have x := h.l6 hn (by simpa using q) (by simpa using r); replace x := x; simpa [Act.eval_put_ne] using x,
        fun p q => by have x := h.l7 hn (by simpa using q); simpa [Act.eval_put_ne] using x,
        fun p q r => by have x := h.l8 hn (by simpa using q) (by simpa using r); replace x := x; simpa [Act.eval_put_ne] using x,
        fun p q r => by have x := h.l9 hn (by simpa using q) (by simpa using r); replace x := x; simpa [Act.eval_put_ne] using x,
        fun _ _ => Act.eval_put_same _ _ _ (by rw [hf.1, hsz]; decide),
        fun p q => by have x := h.l11 hn (by simpa using q); simpa [Act.eval_put_ne] using x,
        fun p q => by have x := h.l12 hn (by simpa using q); simpa [Act.eval_put_ne] using x,
        fun p q => by have x := h.l13 hn (by simpa using q); simpa [Act.eval_put_ne] using x,
        fun p q => by have x := h.l14 hn (by simpa using q); simpa [Act.eval_put_ne] using x,
        fun p q => by have x := h.l15 hn (by simpa using q); replace x := x; simpa [Act.eval_put_ne] using x,
        fun p q => by have x := h.l16 hn (by simpa using q); simpa [Act.eval_put_ne] using x,
        fun p => by have := h.k9_6 (by simpa using p); simp [this],
        fun p => by have := h.k15_9 (by simpa using p); simp [this],
        fun p => by simp [hn] at p⟩
    · have hds : o.dst = some 166 := by (injection (show some _ = some o from ho) with e; rw [← e]; rfl)
      rw [hds] at hK
      injection (show some _ = some o from ho) with ho
      subst ho
      have hn : L 17 = false := by
        cases hx : L 17 with
        | false => rfl
        | true => have := h.o hx 11 (by decide); rw [hLi] at this; cases this
      have ht := h.t hn
      have a10 : L 10 = true := hd ⟨10, .data⟩ (Array.mem_of_getElem? (i := 0) rfl) rfl
      have d10 := h.l10 hn a10
      have e1 := (hA.no ht).cell 3
      have e1 : w'.cell? ⟨g, 3, none⟩ = some (.slice A n c) := by rw [e1, hcell]
      refine wp_run (v := .slice A n c) (w' := w') (op_ld 24 _ rfl (by decide) d10 e1) (hK _ _ ?_)
      exact ⟨fun p => by simp [hn] at p,
        fun _ => ht,
        fun p q r => by have x := h.l0 hn (by simpa using q) (by simpa using r); replace x := x; simpa [Act.eval_put_ne] using x,
        fun p q => by have x := h.l1 hn (by simpa using q); simpa [Act.eval_put_ne] using x,
        fun p q => by have x := h.l2 hn (by simpa using q); simpa [Act.eval_put_ne] using x,
        fun p q => by have x := h.l3 hn (by simpa using q); simpa [Act.eval_put_ne] using x,
        fun p q => by have x := h.l4 hn (by simpa using q); simpa [Act.eval_put_ne] using x,
        fun p q => by have x := h.l5 hn (by simpa using q); simpa [Act.eval_put_ne] using x,
        fun p q r => by have x := h.l6 hn (by simpa using q) (by simpa using r); replace x := x; simpa [Act.eval_put_ne] using x,
        fun p q => by have x := h.l7 hn (by simpa using q); simpa [Act.eval_put_ne] using x,
        fun p q r => by have x := h.l8 hn (by simpa using q) (by simpa using r); replace x := x; simpa [Act.eval_put_ne] using x,
        fun p q r => by have x := h.l9 hn (by simpa using q) (by simpa using r); replace x := x; simpa [Act.eval_put_ne] using x,
        fun p q => by have x := h.l10 hn (by simpa using q); simpa [Act.eval_put_ne] using x,
        fun _ _ => Act.eval_put_same _ _ _ (by rw [hf.1, hsz]; decide),
        fun p q => by have x := h.l12 hn (by simpa using q); simpa [Act.eval_put_ne] using x,
        fun p q => by have x := h.l13 hn (by simpa using q); simpa [Act.eval_put_ne] using x,
        fun p q => by have x := h.l14 hn (by simpa using q); simpa [Act.eval_put_ne] using x,
        fun p q => by have x := h.l15 hn (by simpa using q); replace x := x; simpa [Act.eval_put_ne] using x,
        fun p q => by have x := h.l16 hn (by simpa using q); simpa [Act.eval_put_ne] using x,
        fun p => by have := h.k9_6 (by simpa using p); simp [this],
        fun p => by have := h.k15_9 (by simpa using p); simp [this],
        fun p => by simp [hn] at p⟩
    · have hds : o.dst = some 167 := by (injection (show some _ = some o from ho) with e; rw [← e]; rfl)
      rw [hds] at hK
      injection (show some _ = some o from ho) with ho
      subst ho
      have hn : L 17 = false := by
        cases hx : L 17 with
        | false => rfl
        | true => have := h.o hx 12 (by decide); rw [hLi] at this; cases this
      have ht := h.t hn
      refine wp_mv (v := .int .i64 (P : Int)) _ (Or.inl rfl) (show a'.eval (.tmp 23) = _ by rw [hf.2.2 23 (by decide), h23]) (hK _ _ ?_)
      exact ⟨fun p => by simp [hn] at p,
        fun _ => ht,
        fun p q r => by have x := h.l0 hn (by simpa using q) (by simpa using r); replace x := x; simpa [Act.eval_put_ne] using x,
        fun p q => by have x := h.l1 hn (by simpa using q); simpa [Act.eval_put_ne] using x,
        fun p q => by have x := h.l2 hn (by simpa using q); simpa [Act.eval_put_ne] using x,
        fun p q => by have x := h.l3 hn (by simpa using q); simpa [Act.eval_put_ne] using x,
        fun p q => by have x := h.l4 hn (by simpa using q); simpa [Act.eval_put_ne] using x,
        fun p q => by have x := h.l5 hn (by simpa using q); simpa [Act.eval_put_ne] using x,
        fun p q r => by have x := h.l6 hn (by simpa using q) (by simpa using r); replace x := x; simpa [Act.eval_put_ne] using x,
        fun p q => by have x := h.l7 hn (by simpa using q); simpa [Act.eval_put_ne] using x,
        fun p q r => by have x := h.l8 hn (by simpa using q) (by simpa using r); replace x := x; simpa [Act.eval_put_ne] using x,
        fun p q r => by have x := h.l9 hn (by simpa using q) (by simpa using r); replace x := x; simpa [Act.eval_put_ne] using x,
        fun p q => by have x := h.l10 hn (by simpa using q); simpa [Act.eval_put_ne] using x,
        fun p q => by have x := h.l11 hn (by simpa using q); simpa [Act.eval_put_ne] using x,
        fun _ _ => Act.eval_put_same _ _ _ (by rw [hf.1, hsz]; decide),
        fun p q => by have x := h.l13 hn (by simpa using q); simpa [Act.eval_put_ne] using x,
        fun p q => by have x := h.l14 hn (by simpa using q); simpa [Act.eval_put_ne] using x,
        fun p q => by have x := h.l15 hn (by simpa using q); replace x := x; simpa [Act.eval_put_ne] using x,
        fun p q => by have x := h.l16 hn (by simpa using q); simpa [Act.eval_put_ne] using x,
        fun p => by have := h.k9_6 (by simpa using p); simp [this],
        fun p => by have := h.k15_9 (by simpa using p); simp [this],
        fun p => by simp [hn] at p⟩
    · have hds : o.dst = some 168 := by (injection (show some _ = some o from ho) with e; rw [← e]; rfl)
      rw [hds] at hK
      injection (show some _ = some o from ho) with ho
      subst ho
      have hn : L 17 = false := by
        cases hx : L 17 with
        | false => rfl
        | true => have := h.o hx 13 (by decide); rw [hLi] at this; cases this
      have ht := h.t hn
      have a12 : L 12 = true := hd ⟨12, .data⟩ (Array.mem_of_getElem? (i := 0) rfl) rfl
      have d12 := h.l12 hn a12
      refine wp_run (v := .int .i64 ((P + 1 : Nat) : Int)) (w' := w') (op_add _ (by omega) rfl d12) (hK _ _ ?_)
      exact ⟨fun p => by simp [hn] at p,
        fun _ => ht,
        fun p q r => by have x := h.l0 hn (by simpa using q) (by simpa using r); replace x := x; simpa [Act.eval_put_ne] using x,
        fun p q => by have x := h.l1 hn (by simpa using q); simpa [Act.eval_put_ne] using x,
        fun p q => by have x := h.l2 hn (by simpa using q); simpa [Act.eval_put_ne] using x,
        fun p q => by have x := h.l3 hn (by simpa using q); simpa [Act.eval_put_ne] using x,
        fun p q => by have x := h.l4 hn (by simpa using q); simpa [Act.eval_put_ne] using x,
        fun p q => by have x := h.l5 hn (by simpa using q); simpa [Act.eval_put_ne] using x,
        fun p q r => by have x := h.l6 hn (by simpa using q) (by simpa using r); replace x := x; simpa [Act.eval_put_ne] using x,
        fun p q => by have x := h.l7 hn (by simpa using q); simpa [Act.eval_put_ne] using x,
        fun p q r => by have x := h.l8 hn (by simpa using q) (by simpa using r); replace x := x; simpa [Act.eval_put_ne] using x,
        fun p q r => by have x := h.l9 hn (by simpa using q) (by simpa using r); replace x := x; simpa [Act.eval_put_ne] using x,
        fun p q => by have x := h.l10 hn (by simpa using q); simpa [Act.eval_put_ne] using x,
        fun p q => by have x := h.l11 hn (by simpa using q); simpa [Act.eval_put_ne] using x,
        fun p q => by have x := h.l12 hn (by simpa using q); simpa [Act.eval_put_ne] using x,
        fun _ _ => Act.eval_put_same _ _ _ (by rw [hf.1, hsz]; decide),
        fun p q => by have x := h.l14 hn (by simpa using q); simpa [Act.eval_put_ne] using x,
        fun p q => by have x := h.l15 hn (by simpa using q); replace x := x; simpa [Act.eval_put_ne] using x,
        fun p q => by have x := h.l16 hn (by simpa using q); simpa [Act.eval_put_ne] using x,
        fun p => by have := h.k9_6 (by simpa using p); simp [this],
        fun p => by have := h.k15_9 (by simpa using p); simp [this],
        fun p => by simp [hn] at p⟩
    · have hds : o.dst = some 169 := by (injection (show some _ = some o from ho) with e; rw [← e]; rfl)
      rw [hds] at hK
      injection (show some _ = some o from ho) with ho
      subst ho
      have hn : L 17 = false := by
        cases hx : L 17 with
        | false => rfl
        | true => have := h.o hx 14 (by decide); rw [hLi] at this; cases this
      have ht := h.t hn
      have a11 : L 11 = true := hd ⟨11, .data⟩ (Array.mem_of_getElem? (i := 0) rfl) rfl
      have d11 := h.l11 hn a11
      have a13 : L 13 = true := hd ⟨13, .data⟩ (Array.mem_of_getElem? (i := 1) rfl) rfl
      have d13 := h.l13 hn a13
      obtain ⟨A2, e2, hr2⟩ := hsub w'
      have hg : Gs w (n - (P + 1)) xD (.slice A2 (n - (P + 1)) (c - (P + 1))) := ⟨A2, _, rfl, hr2⟩
      refine wp_run (v := .slice A2 (n - (P + 1)) (c - (P + 1))) (w' := w') (op_sB 24 _ _ rfl d11 d13 e2) (hK _ _ ?_)
      exact ⟨fun p => by simp [hn] at p,
        fun _ => ht,
        fun p q r => by have x := h.l0 hn (by simpa using q) (by simpa using r); replace x := x; simpa [Act.eval_put_ne] using x,
        fun p q => by have x := h.l1 hn (by simpa using q); simpa [Act.eval_put_ne] using x,
        fun p q => by have x := h.l2 hn (by simpa using q); simpa [Act.eval_put_ne] using x,
        fun p q => by have x := h.l3 hn (by simpa using q); simpa [Act.eval_put_ne] using x,
        fun p q => by have x := h.l4 hn (by simpa using q); simpa [Act.eval_put_ne] using x,
        fun p q => by have x := h.l5 hn (by simpa using q); simpa [Act.eval_put_ne] using x,
        fun p q r => by have x := h.l6 hn (by simpa using q) (by simpa using r); replace x := x; simpa [Act.eval_put_ne] using x,
        fun p q => by have x := h.l7 hn (by simpa using q); simpa [Act.eval_put_ne] using x,
        fun p q r => by have x := h.l8 hn (by simpa using q) (by simpa using r); replace x := x; simpa [Act.eval_put_ne] using x,
        fun p q r => by have x := h.l9 hn (by simpa using q) (by simpa using r); replace x := x; simpa [Act.eval_put_ne] using x,
        fun p q => by have x := h.l10 hn (by simpa using q); simpa [Act.eval_put_ne] using x,
        fun p q => by have x := h.l11 hn (by simpa using q); simpa [Act.eval_put_ne] using x,
        fun p q => by have x := h.l12 hn (by simpa using q); simpa [Act.eval_put_ne] using x,
        fun p q => by have x := h.l13 hn (by simpa using q); simpa [Act.eval_put_ne] using x,
        fun _ _ => by rw [Act.eval_put_same _ _ _ (by rw [hf.1, hsz]; decide)]; exact hg,
        fun p q => by have x := h.l15 hn (by simpa using q); replace x := x; simpa [Act.eval_put_ne] using x,
        fun p q => by have x := h.l16 hn (by simpa using q); simpa [Act.eval_put_ne] using x,
        fun p => by have := h.k9_6 (by simpa using p); simp [this],
        fun p => by have := h.k15_9 (by simpa using p); simp [this],
        fun p => by simp [hn] at p⟩
    · have hds : o.dst = some 170 := by (injection (show some _ = some o from ho) with e; rw [← e]; rfl)
      rw [hds] at hK
      injection (show some _ = some o from ho) with ho
      subst ho
      have hn : L 17 = false := by
        cases hx : L 17 with
        | false => rfl
        | true => have := h.o hx 15 (by decide); rw [hLi] at this; cases this
      have ht := h.t hn
      have a9 : L 9 = true := hd ⟨9, .data⟩ (Array.mem_of_getElem? (i := 0) rfl) rfl
      have d9 := h.l9 hn a9 hLi
      have a14 : L 14 = true := hd ⟨14, .data⟩ (Array.mem_of_getElem? (i := 1) rfl) rfl
      have d14 := h.l14 hn a14
      obtain ⟨B0, c0, e1, hown⟩ := d9
      obtain ⟨A1, c1, e2, hr1⟩ := d14
      obtain ⟨B, cb, w2, q, ho, tj⟩ := app_row (t := 24) Try.underlying24 info27 rfl (by decide) (by decide) hown ht.size (m := n - (P + 1)) (c := c1) hlD (hr1 w' ht) h1D (by omega) 24
      have tw := no_own ht hown tj
      have hg : Gr w 27 2 ((P + 1) + 1 + (n - (P + 1))) (xT ++ [.int .i64 kid.slot, .int .u64 kid.gen] ++ xD) w2 (.slice B ((P + 1) + 1 + (n - (P + 1))) cb) := ⟨B, cb, rfl, ho⟩
      refine wp_app _ _ 24 rfl _ _ _ e1 e2 q (hK _ _ ?_)
      exact ⟨fun p => by simp [hn] at p,
        fun _ => tw,
        fun p q r => by have := h.k9_6 a9; simp [this] at r,
        fun p q => by have x := h.l1 hn (by simpa using q); simpa [Act.eval_put_ne] using x,
        fun p q => by have x := h.l2 hn (by simpa using q); simpa [Act.eval_put_ne] using x,
        fun p q => by have x := h.l3 hn (by simpa using q); simpa [Act.eval_put_ne] using x,
        fun p q => by have x := h.l4 hn (by simpa using q); simpa [Act.eval_put_ne] using x,
        fun p q => by have x := h.l5 hn (by simpa using q); simpa [Act.eval_put_ne] using x,
        fun p q r => by simp [a9] at r,
        fun p q => by have x := h.l7 hn (by simpa using q); simpa [Act.eval_put_ne] using x,
        fun p q r => by simp [a9] at r,
        fun _ _ q => by simp at q,
        fun p q => by have x := h.l10 hn (by simpa using q); simpa [Act.eval_put_ne] using x,
        fun p q => by have x := h.l11 hn (by simpa using q); simpa [Act.eval_put_ne] using x,
        fun p q => by have x := h.l12 hn (by simpa using q); simpa [Act.eval_put_ne] using x,
        fun p q => by have x := h.l13 hn (by simpa using q); simpa [Act.eval_put_ne] using x,
        fun p q => by have x := h.l14 hn (by simpa using q); simpa [Act.eval_put_ne] using x,
        fun _ _ => by rw [Act.eval_put_same _ _ _ (by rw [hf.1, hsz]; decide)]; exact hg,
        fun p q => by have x := h.l16 hn (by simpa using q); simpa [Act.eval_put_ne] using x,
        fun p => by have := h.k9_6 (by simpa using p); simp [this],
        fun _ => by simp [a9],
        fun p => by simp [hn] at p⟩
    · have hds : o.dst = some 171 := by (injection (show some _ = some o from ho) with e; rw [← e]; rfl)
      rw [hds] at hK
      injection (show some _ = some o from ho) with ho
      subst ho
      have hn : L 17 = false := by
        cases hx : L 17 with
        | false => rfl
        | true => have := h.o hx 16 (by decide); rw [hLi] at this; cases this
      have ht := h.t hn
      have e0 := (show a'.eval (.tmp 22) = _ by rw [hf.2.2 22 (by decide), h22])
      refine wp_run (v := .pointer (some ⟨r, 3, none⟩)) (w' := w') (op_fa 3 22 rfl (by decide) e0) (hK _ _ ?_)
      exact ⟨fun p => by simp [hn] at p,
        fun _ => ht,
        fun p q r => by have x := h.l0 hn (by simpa using q) (by simpa using r); replace x := x; simpa [Act.eval_put_ne] using x,
        fun p q => by have x := h.l1 hn (by simpa using q); simpa [Act.eval_put_ne] using x,
        fun p q => by have x := h.l2 hn (by simpa using q); simpa [Act.eval_put_ne] using x,
        fun p q => by have x := h.l3 hn (by simpa using q); simpa [Act.eval_put_ne] using x,
        fun p q => by have x := h.l4 hn (by simpa using q); simpa [Act.eval_put_ne] using x,
        fun p q => by have x := h.l5 hn (by simpa using q); simpa [Act.eval_put_ne] using x,
        fun p q r => by have x := h.l6 hn (by simpa using q) (by simpa using r); replace x := x; simpa [Act.eval_put_ne] using x,
        fun p q => by have x := h.l7 hn (by simpa using q); simpa [Act.eval_put_ne] using x,
        fun p q r => by have x := h.l8 hn (by simpa using q) (by simpa using r); replace x := x; simpa [Act.eval_put_ne] using x,
        fun p q r => by have x := h.l9 hn (by simpa using q) (by simpa using r); replace x := x; simpa [Act.eval_put_ne] using x,
        fun p q => by have x := h.l10 hn (by simpa using q); simpa [Act.eval_put_ne] using x,
        fun p q => by have x := h.l11 hn (by simpa using q); simpa [Act.eval_put_ne] using x,
        fun p q => by have x := h.l12 hn (by simpa using q); simpa [Act.eval_put_ne] using x,
        fun p q => by have x := h.l13 hn (by simpa using q); simpa [Act.eval_put_ne] using x,
        fun p q => by have x := h.l14 hn (by simpa using q); simpa [Act.eval_put_ne] using x,
        fun p q => by have x := h.l15 hn (by simpa using q); replace x := x; simpa [Act.eval_put_ne] using x,
        fun _ _ => Act.eval_put_same _ _ _ (by rw [hf.1, hsz]; decide),
        fun p => by have := h.k9_6 (by simpa using p); simp [this],
        fun p => by have := h.k15_9 (by simpa using p); simp [this],
        fun p => by simp [hn] at p⟩
    · have hds : o.dst = none := by (injection (show some _ = some o from ho) with e; rw [← e]; rfl)
      rw [hds] at hK
      injection (show some _ = some o from ho) with ho
      subst ho
      have a16 : L 16 = true := hd ⟨16, .data⟩ (Array.mem_of_getElem? (i := 0) rfl) rfl
      have a15 : L 15 = true := hd ⟨15, .data⟩ (Array.mem_of_getElem? (i := 1) rfl) rfl
      have a0 : L 0 = true := hd ⟨0, .phase⟩ (Array.mem_of_getElem? (i := 3) rfl) rfl
      have a1 : L 1 = true := hd ⟨1, .phase⟩ (Array.mem_of_getElem? (i := 4) rfl) rfl
      have a2 : L 2 = true := hd ⟨2, .phase⟩ (Array.mem_of_getElem? (i := 5) rfl) rfl
      have a3 : L 3 = true := hd ⟨3, .phase⟩ (Array.mem_of_getElem? (i := 6) rfl) rfl
      have a4 : L 4 = true := hd ⟨4, .phase⟩ (Array.mem_of_getElem? (i := 7) rfl) rfl
      have a5 : L 5 = true := hd ⟨5, .phase⟩ (Array.mem_of_getElem? (i := 8) rfl) rfl
      have a6 : L 6 = true := hd ⟨6, .phase⟩ (Array.mem_of_getElem? (i := 9) rfl) rfl
      have a7 : L 7 = true := hd ⟨7, .phase⟩ (Array.mem_of_getElem? (i := 10) rfl) rfl
      have a8 : L 8 = true := hd ⟨8, .phase⟩ (Array.mem_of_getElem? (i := 11) rfl) rfl
      have a9 : L 9 = true := hd ⟨9, .phase⟩ (Array.mem_of_getElem? (i := 12) rfl) rfl
      have a10 : L 10 = true := hd ⟨10, .phase⟩ (Array.mem_of_getElem? (i := 13) rfl) rfl
      have a11 : L 11 = true := hd ⟨11, .phase⟩ (Array.mem_of_getElem? (i := 14) rfl) rfl
      have a12 : L 12 = true := hd ⟨12, .phase⟩ (Array.mem_of_getElem? (i := 15) rfl) rfl
      have a13 : L 13 = true := hd ⟨13, .phase⟩ (Array.mem_of_getElem? (i := 16) rfl) rfl
      have a14 : L 14 = true := hd ⟨14, .phase⟩ (Array.mem_of_getElem? (i := 17) rfl) rfl
      have ht := h.t hLi
      have d1 := h.l1 hLi a1
      have d2 := h.l2 hLi a2
      have d3 := h.l3 hLi a3
      have d4 := h.l4 hLi a4
      have d5 := h.l5 hLi a5
      have d7 := h.l7 hLi a7
      have d10 := h.l10 hLi a10
      have d11 := h.l11 hLi a11
      have d12 := h.l12 hLi a12
      have d13 := h.l13 hLi a13
      have d14 := h.l14 hLi a14
      have d15 := h.l15 hLi a15
      have d16 := h.l16 hLi a16
      obtain ⟨B, cb, e0, ho⟩ := d15
      have hr := hR.no ht
      have e1 := hr.cell 3
      have e2 := hr.thawed 3
      simp at e1
      have tw := Turn.set1 w' r 3 (.slice B ((P + 1) + 1 + (n - (P + 1))) cb)
      have hE : Er w r 27 2 ((P + 1) + 1 + (n - (P + 1))) (xT ++ [.int .i64 kid.slot, .int .u64 kid.gen] ++ xD) (fun x => #[v0, v1, v2, x, v4, v5, v6, v7]) (w'.setCell ⟨r, 3, none⟩ (.slice B ((P + 1) + 1 + (n - (P + 1))) cb)) := ⟨(ht.mono fun _ _ h => h.elim).trans tw, B, cb, by simpa using hr.set 3 (.slice B ((P + 1) + 1 + (n - (P + 1))) cb), own_grown ho tw (fun k hk e => own_neG ho hr (by decide) (by rw [← e]; exact hk))⟩
      refine wp_run0 (w' := w'.setCell ⟨r, 3, none⟩ (.slice B ((P + 1) + 1 + (n - (P + 1))) cb)) (op_st 24 _ _ rfl (by decide) d16 e0 e1 e2) (hK undef _ ?_)
      exact ⟨fun _ j hj => by rcases j with _ | _ | _ | _ | _ | _ | _ | _ | _ | _ | _ | _ | _ | _ | _ | _ | _ | j; rotate_left 17; omega; all_goals simp [*], fun p => by simp at p, fun p => by simp at p, fun p => by simp at p, fun p => by simp at p, fun p => by simp at p, fun p => by simp at p, fun p => by simp at p, fun p => by simp at p, fun p => by simp at p, fun p => by simp at p, fun p => by simp at p, fun p => by simp at p, fun p => by simp at p, fun p => by simp at p, fun p => by simp at p, fun p => by simp at p, fun p => by simp at p, fun p => by simp at p, fun _ => by simp [a6], fun _ => by simp [a9], fun _ => hE⟩
  · intro L a' w' hall hf h
    have he := hf.eq (by intro s hs; rw [hsz]; simp at hs; omega)
    simp only [List.map_cons, List.map_nil] at he
    rw [he]
    exact hQ _ _ _ _ _ _ _ _ _ _ _ _ _ _ _ _ _ w' (h.e (hall 17 (by decide)))
end Go.Proofs.Ytengbkopihiiaaa
