/-
  Equality of answers and of writes, as the machine tells it.
-/
import Derived.Test.YthopiamiipmobaaMp
import Derived.Laws.StructEq
namespace Go.Proofs.Ythopiamiipmobaa
open Go.RowKit Go.Lib
theorem bytes_beq (a b : ByteArray) : (a.toList == b.toList) = decide (a = b) := by
  rw [ByteArray.toList_eq, ByteArray.toList_eq]
  obtain ⟨⟨x⟩⟩ := a
  obtain ⟨⟨y⟩⟩ := b
  by_cases h : x = y
  · subst h; simp
  · simp [h]
theorem eqf_cons {P : Program} {d : Nat} {xs ys : Array Value} {f : Field} {fs : List Field} {w : World} {a b : Value} {r : Bool} (hne : f.name ≠ "_") (ha : (part f.type xs f.offset).run P w = .ok a w) (hb : (part f.type ys f.offset).run P w = .ok b w)
    (h : (Op.equalIn d f.type a b).run P w = .ok r w) : (Op.eqFields d xs ys (f :: fs)).run P w = if r then (Op.eqFields d xs ys fs).run P w else .ok false w := by
  rw [Op.eqFields, if_pos hne]
  simp only [Sem.run_bind, ha, hb, h, Result.andThen_ok]
  cases r <;> simp
theorem eqf_nil {P : Program} {d : Nat} {xs ys : Array Value} {w : World} : (Op.eqFields d xs ys []).run P w = .ok true w := rfl
set_option maxRecDepth 10000 in
theorem eql_ans (c1 c2 : Int) (f1 f2 : Bool) (k1 k2 v1 v2 : ByteArray) (w : World) : (binOp .eql 32 (.agg #[.int .i64 c1, .bool f1, .string k1, .string v1]) (.agg #[.int .i64 c2, .bool f2, .string k2, .string v2])).run Try.prog w = .ok (.bool (decide ((⟨c1, f1, k1, v1⟩ : Ans) = ⟨c2, f2, k2, v2⟩))) w := by
  rw [run_eql_struct]
  rw [show (10000 : Nat) = 9998 + 1 + 1 from rfl, run_equalIn_struct (P := Try.prog) w (9998 + 1) 32 #[.int .i64 c1, .bool f1, .string k1, .string v1] #[.int .i64 c2, .bool f2, .string k2, .string v2] (by kernel_rfl) (by kernel_rfl)]
  simp only [Program.fieldsOf, Try.underlying32]
  rw [eqf_cons (by decide) (by rfl) (by rfl) (run_equalIn_int w 9998 30 .i64 .i64 c1 c2 (by kernel_rfl)),
    eqf_cons (by decide) (by rfl) (by rfl) (run_equalIn_bool' w 9998 4 f1 f2 (by kernel_rfl)),
    eqf_cons (by decide) (by rfl) (by rfl) (run_equalIn_string w 9998 9 k1 k2 (by kernel_rfl)),
    eqf_cons (by decide) (by rfl) (by rfl) (run_equalIn_string w 9998 9 v1 v2 (by kernel_rfl)), eqf_nil]
  rw [bytes_beq, bytes_beq]
  by_cases a1 : c1 = c2 <;> by_cases a2 : f1 = f2 <;> by_cases a3 : k1 = k2 <;> by_cases a4 : v1 = v2 <;> simp [a1, a2, a3, a4, Result.andThen]
set_option maxRecDepth 10000 in
theorem neq_ans (c1 c2 : Int) (f1 f2 : Bool) (k1 k2 v1 v2 : ByteArray) (w : World) : (binOp .neq 32 (.agg #[.int .i64 c1, .bool f1, .string k1, .string v1]) (.agg #[.int .i64 c2, .bool f2, .string k2, .string v2])).run Try.prog w = .ok (.bool (!decide ((⟨c1, f1, k1, v1⟩ : Ans) = ⟨c2, f2, k2, v2⟩))) w := by
  rw [run_neq_struct]
  rw [show (10000 : Nat) = 9998 + 1 + 1 from rfl, run_equalIn_struct (P := Try.prog) w (9998 + 1) 32 #[.int .i64 c1, .bool f1, .string k1, .string v1] #[.int .i64 c2, .bool f2, .string k2, .string v2] (by kernel_rfl) (by kernel_rfl)]
  simp only [Program.fieldsOf, Try.underlying32]
  rw [eqf_cons (by decide) (by rfl) (by rfl) (run_equalIn_int w 9998 30 .i64 .i64 c1 c2 (by kernel_rfl)),
    eqf_cons (by decide) (by rfl) (by rfl) (run_equalIn_bool' w 9998 4 f1 f2 (by kernel_rfl)),
    eqf_cons (by decide) (by rfl) (by rfl) (run_equalIn_string w 9998 9 k1 k2 (by kernel_rfl)),
    eqf_cons (by decide) (by rfl) (by rfl) (run_equalIn_string w 9998 9 v1 v2 (by kernel_rfl)), eqf_nil]
  rw [bytes_beq, bytes_beq]
  by_cases a1 : c1 = c2 <;> by_cases a2 : f1 = f2 <;> by_cases a3 : k1 = k2 <;> by_cases a4 : v1 = v2 <;> simp [a1, a2, a3, a4, Result.andThen]
set_option maxRecDepth 10000 in
theorem neq_wr (k v : ByteArray) (g : Bool) (w : World) : (binOp .neq 53 (.agg #[.string k, .string v, .bool g]) (.agg #[.string k, .string v, .bool g])).run Try.prog w = .ok (.bool false) w := by
  rw [run_neq_struct]
  rw [show (10000 : Nat) = 9998 + 1 + 1 from rfl, run_equalIn_struct (P := Try.prog) w (9998 + 1) 53 #[.string k, .string v, .bool g] #[.string k, .string v, .bool g] (by kernel_rfl) (by kernel_rfl)]
  simp only [Program.fieldsOf, Try.underlying53]
  rw [eqf_cons (by decide) (by rfl) (by rfl) (run_equalIn_string w 9998 9 k k (by kernel_rfl)),
    eqf_cons (by decide) (by rfl) (by rfl) (run_equalIn_string w 9998 9 v v (by kernel_rfl)),
    eqf_cons (by decide) (by rfl) (by rfl) (run_equalIn_bool' w 9998 4 g g (by kernel_rfl)), eqf_nil]
  simp [Result.andThen]
end Go.Proofs.Ythopiamiipmobaa
