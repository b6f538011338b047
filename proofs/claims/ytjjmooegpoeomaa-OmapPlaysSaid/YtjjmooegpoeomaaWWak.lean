/-
  Equality of answers and of pairs; wakes.
-/
import Derived.Test.YtjjmooegpoeomaaWCln
import Derived.Laws.StructEq
namespace Go.Proofs.Ytjjmooegpoeomaa
open Go.RowKit Go.Lib
set_option linter.unusedVariables false
set_option linter.unusedSimpArgs false

theorem eqf_cons {P : Program} {d : Nat} {xs ys : Array Value} {f : Field} {fs : List Field} {w : World} {a b : Value} {r : Bool} (hne : f.name ≠ "_") (ha : (part f.type xs f.offset).run P w = .ok a w) (hb : (part f.type ys f.offset).run P w = .ok b w)
    (h : (Op.equalIn d f.type a b).run P w = .ok r w) : (Op.eqFields d xs ys (f :: fs)).run P w = if r then (Op.eqFields d xs ys fs).run P w else .ok false w := by
  rw [Op.eqFields, if_pos hne]
  simp only [Sem.run_bind, ha, hb, h, Result.andThen_ok]
  cases r <;> simp
theorem eqf_nil {P : Program} {d : Nat} {xs ys : Array Value} {w : World} : (Op.eqFields d xs ys []).run P w = .ok true w := rfl
def ansEq (c1 c2 : Int) (f1 f2 : Bool) (k1 k2 v1 v2 : ByteArray) : Bool := decide (c1 = c2) && decide (f1 = f2) && decide (k1 = k2) && decide (v1 = v2)
theorem ansEq_same (c : Int) (f : Bool) (k v : ByteArray) : ansEq c c f f k k v v = true := by simp [ansEq]
theorem ansEq_iff {c1 c2 : Int} {f1 f2 : Bool} {k1 k2 v1 v2 : ByteArray} : ansEq c1 c2 f1 f2 k1 k2 v1 v2 = true ↔ (⟨c1, f1, k1, v1⟩ : Ans) = ⟨c2, f2, k2, v2⟩ := by
  simp [ansEq, and_assoc]
set_option maxRecDepth 10000 in
theorem eql_ans (c1 c2 : Int) (f1 f2 : Bool) (k1 k2 v1 v2 : ByteArray) (w : World) : (binOp .eql 35 (.agg #[.int .i64 c1, .bool f1, .string k1, .string v1]) (.agg #[.int .i64 c2, .bool f2, .string k2, .string v2])).run Try.prog w = .ok (.bool (ansEq c1 c2 f1 f2 k1 k2 v1 v2)) w := by
  rw [run_eql_struct]
  rw [show (10000 : Nat) = 9998 + 1 + 1 from rfl, run_equalIn_struct (P := Try.prog) w (9998 + 1) 35 #[.int .i64 c1, .bool f1, .string k1, .string v1] #[.int .i64 c2, .bool f2, .string k2, .string v2] (by kernel_rfl) (by kernel_rfl)]
  simp only [Program.fieldsOf, Try.underlying35]
  rw [eqf_cons (by decide) (by rfl) (by rfl) (run_equalIn_int w 9998 33 .i64 .i64 c1 c2 (by kernel_rfl)),
    eqf_cons (by decide) (by rfl) (by rfl) (run_equalIn_bool' w 9998 4 f1 f2 (by kernel_rfl)),
    eqf_cons (by decide) (by rfl) (by rfl) (run_equalIn_string w 9998 9 k1 k2 (by kernel_rfl)),
    eqf_cons (by decide) (by rfl) (by rfl) (run_equalIn_string w 9998 9 v1 v2 (by kernel_rfl)), eqf_nil]
  rw [bytes_beq, bytes_beq]
  unfold ansEq
  by_cases a1 : c1 = c2 <;> by_cases a2 : f1 = f2 <;> by_cases a3 : k1 = k2 <;> by_cases a4 : v1 = v2 <;> simp [a1, a2, a3, a4, Result.andThen]
set_option maxRecDepth 10000 in
theorem neq_ans (c1 c2 : Int) (f1 f2 : Bool) (k1 k2 v1 v2 : ByteArray) (w : World) : (binOp .neq 35 (.agg #[.int .i64 c1, .bool f1, .string k1, .string v1]) (.agg #[.int .i64 c2, .bool f2, .string k2, .string v2])).run Try.prog w = .ok (.bool (!ansEq c1 c2 f1 f2 k1 k2 v1 v2)) w := by
  rw [run_neq_struct]
  rw [show (10000 : Nat) = 9998 + 1 + 1 from rfl, run_equalIn_struct (P := Try.prog) w (9998 + 1) 35 #[.int .i64 c1, .bool f1, .string k1, .string v1] #[.int .i64 c2, .bool f2, .string k2, .string v2] (by kernel_rfl) (by kernel_rfl)]
  simp only [Program.fieldsOf, Try.underlying35]
  rw [eqf_cons (by decide) (by rfl) (by rfl) (run_equalIn_int w 9998 33 .i64 .i64 c1 c2 (by kernel_rfl)),
    eqf_cons (by decide) (by rfl) (by rfl) (run_equalIn_bool' w 9998 4 f1 f2 (by kernel_rfl)),
    eqf_cons (by decide) (by rfl) (by rfl) (run_equalIn_string w 9998 9 k1 k2 (by kernel_rfl)),
    eqf_cons (by decide) (by rfl) (by rfl) (run_equalIn_string w 9998 9 v1 v2 (by kernel_rfl)), eqf_nil]
  rw [bytes_beq, bytes_beq]
  unfold ansEq
  by_cases a1 : c1 = c2 <;> by_cases a2 : f1 = f2 <;> by_cases a3 : k1 = k2 <;> by_cases a4 : v1 = v2 <;> simp [a1, a2, a3, a4, Result.andThen]
def prEq (k1 k2 v1 v2 : ByteArray) : Bool := decide (k1 = k2) && decide (v1 = v2)
theorem prEq_iff {p q : Pr} : prEq p.k q.k p.v q.v = true ↔ p = q := by
  obtain ⟨a, b⟩ := p
  obtain ⟨c, d⟩ := q
  simp [prEq]
set_option maxRecDepth 10000 in
theorem eql_pr (k1 k2 v1 v2 : ByteArray) (w : World) : (binOp .eql 50 (.agg #[.string k1, .string v1]) (.agg #[.string k2, .string v2])).run Try.prog w = .ok (.bool (prEq k1 k2 v1 v2)) w := by
  rw [run_eql_struct]
  rw [show (10000 : Nat) = 9998 + 1 + 1 from rfl, run_equalIn_struct (P := Try.prog) w (9998 + 1) 50 #[.string k1, .string v1] #[.string k2, .string v2] (by kernel_rfl) (by kernel_rfl)]
  simp only [Program.fieldsOf, Try.underlying50]
  rw [eqf_cons (by decide) (by rfl) (by rfl) (run_equalIn_string w 9998 9 k1 k2 (by kernel_rfl)),
    eqf_cons (by decide) (by rfl) (by rfl) (run_equalIn_string w 9998 9 v1 v2 (by kernel_rfl)), eqf_nil]
  rw [bytes_beq, bytes_beq]
  unfold prEq
  by_cases a3 : k1 = k2 <;> by_cases a4 : v1 = v2 <;> simp [a3, a4, Result.andThen]
set_option maxRecDepth 10000 in
theorem neq_pr (k1 k2 v1 v2 : ByteArray) (w : World) : (binOp .neq 50 (.agg #[.string k1, .string v1]) (.agg #[.string k2, .string v2])).run Try.prog w = .ok (.bool (!prEq k1 k2 v1 v2)) w := by
  rw [run_neq_struct]
  rw [show (10000 : Nat) = 9998 + 1 + 1 from rfl, run_equalIn_struct (P := Try.prog) w (9998 + 1) 50 #[.string k1, .string v1] #[.string k2, .string v2] (by kernel_rfl) (by kernel_rfl)]
  simp only [Program.fieldsOf, Try.underlying50]
  rw [eqf_cons (by decide) (by rfl) (by rfl) (run_equalIn_string w 9998 9 k1 k2 (by kernel_rfl)),
    eqf_cons (by decide) (by rfl) (by rfl) (run_equalIn_string w 9998 9 v1 v2 (by kernel_rfl)), eqf_nil]
  rw [bytes_beq, bytes_beq]
  unfold prEq
  by_cases a3 : k1 = k2 <;> by_cases a4 : v1 = v2 <;> simp [a3, a4, Result.andThen]

/-- Blocks of other types are no part of a map. -/
theorem Om.apart {w : World} {Z mb g : Nat} {rb : Option Nat} {l : List Pr} {c : Array Value} {t : TypeId} {f : Nat × Nat} (h : Om w Z mb rb l) (hg : At w g (.cells c t f)) (h1 : t ≠ 65) (h2 : t ≠ 50) : g ≠ mb ∧ rb ≠ some g := by
  obtain ⟨A, cap, hm, hr, hb⟩ := h.rowed
  refine ⟨At.ne hg hm (fun e => by injection e with _ e; exact h1 e), fun e => ?_⟩
  rcases hr.2 with ⟨hv, _⟩ | ⟨g', c', cur, hv, _, hg', _⟩
  · rw [hv, e] at hb; cases hb
  · rw [hv, e] at hb
    injection hb with hb
    exact At.ne hg hg' (fun e => by injection e with _ e; exact h2 e) hb.symm
/-- A map that is new since w, and answers in cells of their own. -/
structure Wk (w wr : World) (mb : Nat) (rb : Option Nat) (l : List Pr) (acs : List (Nat × Ans)) : Prop where
  om : Om wr w.heap.size mb rb l
  tu : Turn No w wr
  cells : ∀ x ∈ acs, At wr x.1 (.cells x.2.ar 35 (0, 0))
section
variable {w wr w2 : World} {mb : Nat} {rb : Option Nat} {l : List Pr} {acs : List (Nat × Ans)}
theorem Wk.no (h : Wk w wr mb rb l acs) (t : Turn No wr w2) : Wk w w2 mb rb l acs := ⟨h.om.no t, h.tu.trans t, fun x hx => (h.cells x hx).no t⟩
theorem Wk.step (h : Wk w wr mb rb l acs) {rb2 : Option Nat} {l2 : List Pr} (om : Om w2 w.heap.size mb rb2 l2) (t : Turn (fun k => k = mb ∨ rb = some k) wr w2) : Wk w w2 mb rb2 l2 acs := by
  refine ⟨om, h.tu.then t (fun i hi e => ?_), fun x hx => ?_⟩
  · rcases e with e | e
    · have := h.om.mb_new; omega
    · have := (h.om.rb_lt e).1; omega
  · have := h.om.apart (h.cells x hx) (by decide) (by decide)
    exact (h.cells x hx).turn t (fun e => e.elim this.1 this.2)
theorem Wk.push (h : Wk w wr mb rb l acs) (a : Ans) : Wk w (wr.alloc (.cells a.ar 35)) mb rb l (acs ++ [(wr.heap.size, a)]) := by
  have t : Turn No wr (wr.alloc (.cells a.ar 35)) := (Turn.refl _ _).alloc _
  refine ⟨h.om.no t, h.tu.trans t, fun x hx => ?_⟩
  rcases List.mem_append.1 hx with h1 | h1
  · exact (h.cells x h1).no t
  · obtain rfl := List.mem_singleton.1 h1
    exact At.new _ _
/-- An operation without writes. -/
theorem do_wk (h : Wk w wr mb rb l acs) (kind : Int) (k v o : ByteArray) (had aft : Bool) (hk : Fit k) (hv : Fit v) (ho : Fit o) (hn : l.length < 40000) {a : Ans} {l2 : List Pr} (ha : doA l kind k v o had aft [] = a) (hl : doM l kind k v o had aft [] = l2) :
    Calls Try.prog 16 #[.pointer (some ⟨mb, 0, none⟩), .agg #[.int .u8 kind, .string k, .string v, .string o, .bool had, .bool aft, .slice none 0 0]] wr fun e w' => e = .returned (.agg #[.int .i64 a.code, .bool a.found, .string a.k, .string a.v]) ∧ ∃ rb', Wk w w' mb rb' l2 acs := by
  refine (do_any h.om kind k v o had aft none 0 [] (Row.nil _ _) (by intro b o hA; cases hA) ⟨hk, hv, by simp⟩ ho h.tu.size (by simpa using hn)).mono ?_
  rintro e w' ⟨rfl, rb', om, _, t⟩
  rw [ha]
  rw [hl] at om
  exact ⟨rfl, rb', h.step om t⟩
end
theorem fitS (a : ByteArray) (h : a.size ≤ 1000) : Fit a := Nat.le_trans h (by decide)

set_option maxHeartbeats 2000000 in
theorem wakes_any (w : World) : Calls Try.prog 10 #[] w fun e w' => e = .returned (.bool true) ∧ Turn No w w' := by
  have CN : Hid (Calls Try.prog 11 #[.slice none 0 0] w fun e w' => ∃ mb rb, e = .returned (.pointer (some ⟨mb, 0, none⟩)) ∧ Wk w w' mb rb [] []) := Lib.hid (by
    refine (new_nil w (Nat.le_refl _)).mono ?_
    rintro e w' ⟨mb, rb, rfl, om, _, _, t⟩
    exact ⟨mb, some rb, rfl, om, t, by simp⟩)
  have C0 : Hid (∀ wr mb rb acs, Wk w wr mb rb [] acs → Calls Try.prog 16 #[.pointer (some ⟨mb, 0, none⟩), .agg #[.int .u8 2, .string ⟨#[98]⟩, .string ⟨#[49]⟩, .string ⟨#[]⟩, .bool false, .bool false, .slice none 0 0]] wr fun e w' => e = .returned (.agg #[.int .i64 0, .bool false, .string ⟨#[]⟩, .string ⟨#[]⟩]) ∧ ∃ rb', Wk w w' mb rb' [⟨⟨#[98]⟩, ⟨#[49]⟩⟩] acs) := Lib.hid fun wr mb rb acs h =>
    do_wk h 2 ⟨#[98]⟩ ⟨#[49]⟩ ⟨#[]⟩ false false (fitS _ (by decide)) (fitS _ (by decide)) (fitS _ (by decide)) (by decide) (a := ⟨0, false, ⟨#[]⟩, ⟨#[]⟩⟩) (by kernel_rfl) (by kernel_rfl)
  have C1 : Hid (∀ wr mb rb acs, Wk w wr mb rb [⟨⟨#[98]⟩, ⟨#[49]⟩⟩] acs → Calls Try.prog 16 #[.pointer (some ⟨mb, 0, none⟩), .agg #[.int .u8 2, .string ⟨#[98]⟩, .string ⟨#[50]⟩, .string ⟨#[]⟩, .bool false, .bool false, .slice none 0 0]] wr fun e w' => e = .returned (.agg #[.int .i64 0, .bool true, .string ⟨#[]⟩, .string ⟨#[49]⟩]) ∧ ∃ rb', Wk w w' mb rb' [⟨⟨#[98]⟩, ⟨#[50]⟩⟩] acs) := Lib.hid fun wr mb rb acs h =>
    do_wk h 2 ⟨#[98]⟩ ⟨#[50]⟩ ⟨#[]⟩ false false (fitS _ (by decide)) (fitS _ (by decide)) (fitS _ (by decide)) (by decide) (a := ⟨0, true, ⟨#[]⟩, ⟨#[49]⟩⟩) (by kernel_rfl) (by kernel_rfl)
  have C2 : Hid (∀ wr mb rb acs, Wk w wr mb rb [⟨⟨#[98]⟩, ⟨#[50]⟩⟩] acs → Calls Try.prog 16 #[.pointer (some ⟨mb, 0, none⟩), .agg #[.int .u8 5, .string ⟨#[97]⟩, .string ⟨#[]⟩, .string ⟨#[]⟩, .bool false, .bool false, .slice none 0 0]] wr fun e w' => e = .returned (.agg #[.int .i64 0, .bool true, .string ⟨#[98]⟩, .string ⟨#[50]⟩]) ∧ ∃ rb', Wk w w' mb rb' [⟨⟨#[98]⟩, ⟨#[50]⟩⟩] acs) := Lib.hid fun wr mb rb acs h =>
    do_wk h 5 ⟨#[97]⟩ ⟨#[]⟩ ⟨#[]⟩ false false (fitS _ (by decide)) (fitS _ (by decide)) (fitS _ (by decide)) (by decide) (a := ⟨0, true, ⟨#[98]⟩, ⟨#[50]⟩⟩) (by kernel_rfl) (by kernel_rfl)
  have C3 : Hid (∀ wr mb rb acs, Wk w wr mb rb [⟨⟨#[98]⟩, ⟨#[50]⟩⟩] acs → Calls Try.prog 16 #[.pointer (some ⟨mb, 0, none⟩), .agg #[.int .u8 5, .string ⟨#[98]⟩, .string ⟨#[]⟩, .string ⟨#[]⟩, .bool false, .bool true, .slice none 0 0]] wr fun e w' => e = .returned (.agg #[.int .i64 0, .bool false, .string ⟨#[]⟩, .string ⟨#[]⟩]) ∧ ∃ rb', Wk w w' mb rb' [⟨⟨#[98]⟩, ⟨#[50]⟩⟩] acs) := Lib.hid fun wr mb rb acs h =>
    do_wk h 5 ⟨#[98]⟩ ⟨#[]⟩ ⟨#[]⟩ false true (fitS _ (by decide)) (fitS _ (by decide)) (fitS _ (by decide)) (by decide) (a := ⟨0, false, ⟨#[]⟩, ⟨#[]⟩⟩) (by kernel_rfl) (by kernel_rfl)
  have q1 := fun W => eql_ans 0 0 false false ⟨#[]⟩ ⟨#[]⟩ ⟨#[]⟩ ⟨#[]⟩ W
  have q2 := fun W => eql_ans 0 0 true true ⟨#[]⟩ ⟨#[]⟩ ⟨#[49]⟩ ⟨#[49]⟩ W
  have q3 := fun W => eql_ans 0 0 true true ⟨#[98]⟩ ⟨#[98]⟩ ⟨#[50]⟩ ⟨#[50]⟩ W
  rw [ansEq_same] at q1 q2 q3
  go_enter Try.func10, Try.ntmps10
  go_upto_region 2 with (go_at_call 11; refine CN.out.mono ?_; rintro e w1 ⟨mb, rb, rfl, h1⟩; have H1 := Lib.hid h1; clear h1)
  go_upto_region 3 with (go_at_call 16; refine (C0.out _ _ _ _ H1.out).mono ?_; rintro e v0 ⟨rfl, rb1, hw⟩; have G0 := Lib.hid (hw.push ⟨0, false, ⟨#[]⟩, ⟨#[]⟩⟩); clear hw)
  clear H1
  unfold Ans.ar at G0
  generalize v0.alloc (.cells #[.int .i64 0, .bool false, .string ⟨#[]⟩, .string ⟨#[]⟩] 35) = w2 at G0 ⊢
  generalize v0.heap.size = g0 at G0 ⊢
  have H2 : Hid (Wk w w2 mb rb1 [⟨⟨#[98]⟩, ⟨#[49]⟩⟩] [(g0, ⟨0, false, ⟨#[]⟩, ⟨#[]⟩⟩)]) := G0
  clear G0
  go_upto_region 4 with (go_at_call 16; refine (C1.out _ _ _ _ H2.out).mono ?_; rintro e v1 ⟨rfl, rb2, hw⟩; have G1 := Lib.hid (hw.push ⟨0, true, ⟨#[]⟩, ⟨#[49]⟩⟩); clear hw)
  clear H2
  unfold Ans.ar at G1
  generalize v1.alloc (.cells #[.int .i64 0, .bool true, .string ⟨#[]⟩, .string ⟨#[49]⟩] 35) = w3 at G1 ⊢
  generalize v1.heap.size = g1 at G1 ⊢
  have H3 : Hid (Wk w w3 mb rb2 [⟨⟨#[98]⟩, ⟨#[50]⟩⟩] [(g0, ⟨0, false, ⟨#[]⟩, ⟨#[]⟩⟩), (g1, ⟨0, true, ⟨#[]⟩, ⟨#[49]⟩⟩)]) := G1
  clear G1
  go_upto_region 5 with (go_at_call 16; refine (C2.out _ _ _ _ H3.out).mono ?_; rintro e v2 ⟨rfl, rb3, hw⟩; have G2 := Lib.hid (hw.push ⟨0, true, ⟨#[98]⟩, ⟨#[50]⟩⟩); clear hw)
  clear H3
  unfold Ans.ar at G2
  generalize v2.alloc (.cells #[.int .i64 0, .bool true, .string ⟨#[98]⟩, .string ⟨#[50]⟩] 35) = w4 at G2 ⊢
  generalize v2.heap.size = g2 at G2 ⊢
  have H4 : Hid (Wk w w4 mb rb3 [⟨⟨#[98]⟩, ⟨#[50]⟩⟩] [(g0, ⟨0, false, ⟨#[]⟩, ⟨#[]⟩⟩), (g1, ⟨0, true, ⟨#[]⟩, ⟨#[49]⟩⟩), (g2, ⟨0, true, ⟨#[98]⟩, ⟨#[50]⟩⟩)]) := G2
  clear G2
  go_upto_region 6 with (go_at_call 16; refine (C3.out _ _ _ _ H4.out).mono ?_; rintro e v3 ⟨rfl, rb4, hw⟩; have G3 := Lib.hid (hw.push ⟨0, false, ⟨#[]⟩, ⟨#[]⟩⟩); clear hw)
  clear H4
  unfold Ans.ar at G3
  generalize v3.alloc (.cells #[.int .i64 0, .bool false, .string ⟨#[]⟩, .string ⟨#[]⟩] 35) = w5 at G3 ⊢
  generalize v3.heap.size = g3 at G3 ⊢
  have H5 : Hid (Wk w w5 mb rb4 [⟨⟨#[98]⟩, ⟨#[50]⟩⟩] [(g0, ⟨0, false, ⟨#[]⟩, ⟨#[]⟩⟩), (g1, ⟨0, true, ⟨#[]⟩, ⟨#[49]⟩⟩), (g2, ⟨0, true, ⟨#[98]⟩, ⟨#[50]⟩⟩), (g3, ⟨0, false, ⟨#[]⟩, ⟨#[]⟩⟩)]) := G3
  clear G3
  have A0 : At w5 g0 (.cells #[.int .i64 0, .bool false, .string ⟨#[]⟩, .string ⟨#[]⟩] 35 (0, 0)) := H5.out.cells (g0, ⟨0, false, ⟨#[]⟩, ⟨#[]⟩⟩) (by simp)
  have c00 := A0.cell 0
  have c01 := A0.cell 1
  have c02 := A0.cell 2
  have c03 := A0.cell 3
  have A1 : At w5 g1 (.cells #[.int .i64 0, .bool true, .string ⟨#[]⟩, .string ⟨#[49]⟩] 35 (0, 0)) := H5.out.cells (g1, ⟨0, true, ⟨#[]⟩, ⟨#[49]⟩⟩) (by simp)
  have c10 := A1.cell 0
  have c11 := A1.cell 1
  have c12 := A1.cell 2
  have c13 := A1.cell 3
  have A2 : At w5 g2 (.cells #[.int .i64 0, .bool true, .string ⟨#[98]⟩, .string ⟨#[50]⟩] 35 (0, 0)) := H5.out.cells (g2, ⟨0, true, ⟨#[98]⟩, ⟨#[50]⟩⟩) (by simp)
  have c20 := A2.cell 0
  have c21 := A2.cell 1
  have c22 := A2.cell 2
  have c23 := A2.cell 3
  have A3 : At w5 g3 (.cells #[.int .i64 0, .bool false, .string ⟨#[]⟩, .string ⟨#[]⟩] 35 (0, 0)) := H5.out.cells (g3, ⟨0, false, ⟨#[]⟩, ⟨#[]⟩⟩) (by simp)
  have c30 := A3.cell 0
  have c31 := A3.cell 1
  have c32 := A3.cell 2
  have c33 := A3.cell 3
  simp at c00 c01 c02 c03 c10 c11 c12 c13 c20 c21 c22 c23 c30 c31 c32 c33
  have CL : Hid (Calls Try.prog 20 #[.pointer (some ⟨mb, 0, none⟩)] w5 fun e w' => e = .returned (.int .i64 1) ∧ w' = w5) := Lib.hid (len_any H5.out.om)
  have HT := Lib.hid H5.out.tu
  clear H5 A0 A1 A2 A3
  go_wp2_with (go_at_call 20; refine CL.out.mono ?_; rintro e w' ⟨rfl, rfl⟩)
  go_ret
  exact ⟨rfl, HT.out⟩
end Go.Proofs.Ytjjmooegpoeomaa
