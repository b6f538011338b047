/-
  Equality of answers and of writes, as the machine tells it.
  fits: whether an event may stand behind a right row.
  cloneEvent: the same event, its writes in a row of its own; it makes new memory alone.
  note; a history in memory.
  add: what it answers, and the history behind it.
  add: the history behind an event that fits.
  add: an event that fits.
  A history as plain data: its events but for where their writes lie; what add makes of it.
  New, Begin, Mark, End.
  Rows of events: as they are read; rows of the program's own, made one event behind the other.
-/
import Derived.Test.YtllppkfeiifklaaJ1
import Derived.Test.YtllppkfeiifklaaJ8
import Derived.Test.YtllppkfeiifklaaJ19
import Derived.Laws.StructEq
import Derived.IntWalk
import Derived.Deep.DeepCutAuto
import Derived.Laws.Tables
import Derived.Laws.OwnMore
namespace Go.Proofs.Ytllppkfeiifklaa
open Go.RowKit Go.Lib
set_option maxRecDepth 10000 in
theorem eql_ansH (c1 c2 : Int) (f1 f2 : Bool) (k1 k2 v1 v2 : ByteArray) (w : World) : (binOp .eql 38 (.agg #[.int .i64 c1, .bool f1, .string k1, .string v1]) (.agg #[.int .i64 c2, .bool f2, .string k2, .string v2])).run Try.prog w = .ok (.bool (decide ((⟨c1, f1, k1, v1⟩ : Ans) = ⟨c2, f2, k2, v2⟩))) w := by
  rw [run_eql_struct]
  rw [show (10000 : Nat) = 9998 + 1 + 1 from rfl, run_equalIn_struct (P := Try.prog) w (9998 + 1) 38 #[.int .i64 c1, .bool f1, .string k1, .string v1] #[.int .i64 c2, .bool f2, .string k2, .string v2] (by kernel_rfl) (by kernel_rfl)]
  simp only [Program.fieldsOf, Try.underlying38]
  rw [eqf_cons (by decide) (by rfl) (by rfl) (run_equalIn_int w 9998 26 .i64 .i64 c1 c2 (by kernel_rfl)),
    eqf_cons (by decide) (by rfl) (by rfl) (run_equalIn_bool' w 9998 4 f1 f2 (by kernel_rfl)),
    eqf_cons (by decide) (by rfl) (by rfl) (run_equalIn_string w 9998 9 k1 k2 (by kernel_rfl)),
    eqf_cons (by decide) (by rfl) (by rfl) (run_equalIn_string w 9998 9 v1 v2 (by kernel_rfl)), eqf_nil]
  rw [bytes_beq, bytes_beq]
  by_cases a1 : c1 = c2 <;> by_cases a2 : f1 = f2 <;> by_cases a3 : k1 = k2 <;> by_cases a4 : v1 = v2 <;> simp [a1, a2, a3, a4, Result.andThen]
set_option maxRecDepth 10000 in
theorem neq_ansH (c1 c2 : Int) (f1 f2 : Bool) (k1 k2 v1 v2 : ByteArray) (w : World) : (binOp .neq 38 (.agg #[.int .i64 c1, .bool f1, .string k1, .string v1]) (.agg #[.int .i64 c2, .bool f2, .string k2, .string v2])).run Try.prog w = .ok (.bool (!decide ((⟨c1, f1, k1, v1⟩ : Ans) = ⟨c2, f2, k2, v2⟩))) w := by
  rw [run_neq_struct]
  rw [show (10000 : Nat) = 9998 + 1 + 1 from rfl, run_equalIn_struct (P := Try.prog) w (9998 + 1) 38 #[.int .i64 c1, .bool f1, .string k1, .string v1] #[.int .i64 c2, .bool f2, .string k2, .string v2] (by kernel_rfl) (by kernel_rfl)]
  simp only [Program.fieldsOf, Try.underlying38]
  rw [eqf_cons (by decide) (by rfl) (by rfl) (run_equalIn_int w 9998 26 .i64 .i64 c1 c2 (by kernel_rfl)),
    eqf_cons (by decide) (by rfl) (by rfl) (run_equalIn_bool' w 9998 4 f1 f2 (by kernel_rfl)),
    eqf_cons (by decide) (by rfl) (by rfl) (run_equalIn_string w 9998 9 k1 k2 (by kernel_rfl)),
    eqf_cons (by decide) (by rfl) (by rfl) (run_equalIn_string w 9998 9 v1 v2 (by kernel_rfl)), eqf_nil]
  rw [bytes_beq, bytes_beq]
  by_cases a1 : c1 = c2 <;> by_cases a2 : f1 = f2 <;> by_cases a3 : k1 = k2 <;> by_cases a4 : v1 = v2 <;> simp [a1, a2, a3, a4, Result.andThen]
set_option maxRecDepth 10000 in
theorem neq_wr (k v : ByteArray) (g : Bool) (w : World) : (binOp .neq 68 (.agg #[.string k, .string v, .bool g]) (.agg #[.string k, .string v, .bool g])).run Try.prog w = .ok (.bool false) w := by
  rw [run_neq_struct]
  rw [show (10000 : Nat) = 9998 + 1 + 1 from rfl, run_equalIn_struct (P := Try.prog) w (9998 + 1) 68 #[.string k, .string v, .bool g] #[.string k, .string v, .bool g] (by kernel_rfl) (by kernel_rfl)]
  simp only [Program.fieldsOf, Try.underlying68]
  rw [eqf_cons (by decide) (by rfl) (by rfl) (run_equalIn_string w 9998 9 k k (by kernel_rfl)),
    eqf_cons (by decide) (by rfl) (by rfl) (run_equalIn_string w 9998 9 v v (by kernel_rfl)),
    eqf_cons (by decide) (by rfl) (by rfl) (run_equalIn_bool' w 9998 4 g g (by kernel_rfl)), eqf_nil]
  simp [Result.andThen]
end Go.Proofs.Ytllppkfeiifklaa
namespace Go.Proofs.Ytllppkfeiifklaa
open Go.RowKit Go.Lib
set_option linter.unusedVariables false
set_option maxRecDepth 20000
set_option linter.unusedSimpArgs false

@[reducible] def Ev.valH (e : Ev) : Value := .agg #[.int .u8 e.kind, .int .i64 e.id, .int .u8 e.op.kind, .string e.op.k, .string e.op.v, .string e.op.o, .bool e.op.had, .bool e.op.aft, .slice e.op.A e.op.len e.op.cap, .int .i64 e.an.code, .bool e.an.found, .string e.an.k, .string e.an.v]

set_option maxHeartbeats 1000000 in
set_option maxRecDepth 100000 in
theorem fits_any (l : List Ev) (hr : Right l) (m : Option Nat) (e : Ev) (hid : In64 e.id) (w : World) (hm : MpH w m l) :
    Calls Try.prog 50 #[.map m, e.valH] w fun r w' => r = .returned (.bool (fits l e)) ∧ Turn No w w' := by
  obtain ⟨kind, id, ⟨ok, k, v, o, had, aft, A, len, cap⟩, ⟨code, found, ak, av⟩⟩ := e
  have hlk : (Instr.lookup 82 (.map m) (.int .i64 id) false).run Try.prog (w.alloc (.cells #[.int .u8 kind, .int .i64 id, .int .u8 ok, .string k, .string v, .string o, .bool had, .bool aft, .slice A len cap, .int .i64 code, .bool found, .string ak, .string av] 40)) = _ := (hm.no ((Turn.refl _ _).alloc _)).look hr id hid
  have hlast := hr.last id
  simp only [Kn.valH] at hlk
  unfold fits
  dsimp only
  generalize kn l id = K at hlk hlast ⊢
  obtain ⟨last, kc, kf, kk, kv⟩ := K
  dsimp only at hlk hlast
  go_enter Try.func50, Try.ntmps50
  by_cases h1 : id < 1
  · have hR : fitsK ⟨last, ⟨kc, kf, kk, kv⟩⟩ ⟨kind, id, ⟨ok, k, v, o, had, aft, A, len, cap⟩, ⟨code, found, ak, av⟩⟩ = false := by unfold fitsK; rw [if_pos (show id < 1 from h1)]
    rw [hR]
    go_wp2_with fail
    go_ret
    exact ⟨rfl, ((Turn.refl _ _).alloc _).alloc _⟩
  have hw : IntKind.u8.wrap (last + 1) = last + 1 := IntWalk.u8_in _ (by omega)
  by_cases h2 : kind = last + 1
  · by_cases k1 : kind = 1
    · have hR : fitsK ⟨last, ⟨kc, kf, kk, kv⟩⟩ ⟨kind, id, ⟨ok, k, v, o, had, aft, A, len, cap⟩, ⟨code, found, ak, av⟩⟩ = decide ((⟨code, found, ak, av⟩ : Ans) = ⟨0, false, ⟨#[]⟩, ⟨#[]⟩⟩) := by unfold fitsK; rw [if_neg (show ¬ id < 1 from h1), if_neg (by simpa using h2), if_pos (show kind = 1 from k1)]; rfl
      rw [hR]
      have q := eql_ansH code 0 found false ak ⟨#[]⟩ av ⟨#[]⟩
      generalize decide ((⟨code, found, ak, av⟩ : Ans) = ⟨0, false, ⟨#[]⟩, ⟨#[]⟩⟩) = b at q ⊢
      clear hR
      obtain rfl : last = 0 := by omega
      subst k1
      clear h2 hw hlast
      have hw : IntKind.u8.wrap (0 + 1) = 1 := rfl
      go_wp2_with fail
      go_ret
      exact ⟨rfl, ((Turn.refl _ _).alloc _).alloc _⟩
    have HB : Hid (At ((w.alloc (.cells #[.int .u8 kind, .int .i64 id, .int .u8 ok, .string k, .string v, .string o, .bool had, .bool aft, .slice A len cap, .int .i64 code, .bool found, .string ak, .string av] 40)).alloc (.cells #[.int .u8 last, .int .i64 kc, .bool kf, .string kk, .string kv] 119)) w.heap.size (.cells #[.int .u8 kind, .int .i64 id, .int .u8 ok, .string k, .string v, .string o, .bool had, .bool aft, .slice A len cap, .int .i64 code, .bool found, .string ak, .string av] 40 (0, 0)) ∧
        At ((w.alloc (.cells #[.int .u8 kind, .int .i64 id, .int .u8 ok, .string k, .string v, .string o, .bool had, .bool aft, .slice A len cap, .int .i64 code, .bool found, .string ak, .string av] 40)).alloc (.cells #[.int .u8 last, .int .i64 kc, .bool kf, .string kk, .string kv] 119)) (w.heap.size + 1) (.cells #[.int .u8 last, .int .i64 kc, .bool kf, .string kk, .string kv] 119 (0, 0)) ∧
        Turn No w ((w.alloc (.cells #[.int .u8 kind, .int .i64 id, .int .u8 ok, .string k, .string v, .string o, .bool had, .bool aft, .slice A len cap, .int .i64 code, .bool found, .string ak, .string av] 40)).alloc (.cells #[.int .u8 last, .int .i64 kc, .bool kf, .string kk, .string kv] 119))) :=
      Lib.hid ⟨(At.new _ _).turn ((Turn.refl No _).alloc _) (fun h => h), by simpa using At.new (w.alloc (.cells #[.int .u8 kind, .int .i64 id, .int .u8 ok, .string k, .string v, .string o, .bool had, .bool aft, .slice A len cap, .int .i64 code, .bool found, .string ak, .string av] 40)) (.cells #[.int .u8 last, .int .i64 kc, .bool kf, .string kk, .string kv] 119), ((Turn.refl _ _).alloc _).alloc _⟩
    have CZ : Hid (∀ W, Calls Try.prog 87 #[.agg #[.int .u8 ok, .string k, .string v, .string o, .bool had, .bool aft, .slice A len cap]] W fun e w' => e = .returned (.bool (zeroB ok k v o had aft len)) ∧ Turn No W w') := Lib.hid fun W => iszero_any ok k v o had aft A len cap W
    by_cases k2 : kind = 2
    · have hR : fitsK ⟨last, ⟨kc, kf, kk, kv⟩⟩ ⟨kind, id, ⟨ok, k, v, o, had, aft, A, len, cap⟩, ⟨code, found, ak, av⟩⟩ = zeroB ok k v o had aft len := by unfold fitsK; rw [if_neg (show ¬ id < 1 from h1), if_neg (by simpa using h2), if_neg (show ¬ kind = 1 from k1), if_pos (show kind = 2 from k2)]; rfl
      rw [hR]
      clear hR
      obtain rfl : last = 1 := by omega
      subst k2
      clear h2 hw hlast k1
      have hw : IntKind.u8.wrap (1 + 1) = 2 := rfl
      go_wp2_with (go_at_call 87; refine (CZ.out _).mono ?_; rintro e w2 ⟨rfl, ht2⟩; replace ht2 := Lib.hid ht2)
      go_ret
      exact ⟨rfl, HB.out.2.2.trans ht2.out⟩
    by_cases k3 : kind = 3
    · have hR : fitsK ⟨last, ⟨kc, kf, kk, kv⟩⟩ ⟨kind, id, ⟨ok, k, v, o, had, aft, A, len, cap⟩, ⟨code, found, ak, av⟩⟩ = (zeroB ok k v o had aft len && decide ((⟨code, found, ak, av⟩ : Ans) = ⟨kc, kf, kk, kv⟩)) := by unfold fitsK; rw [if_neg (show ¬ id < 1 from h1), if_neg (by simpa using h2), if_neg (show ¬ kind = 1 from k1), if_neg (show ¬ kind = 2 from k2), if_pos (show kind = 3 from k3)]; rfl
      rw [hR]
      have q := eql_ansH code kc found kf ak kk av kv
      generalize decide ((⟨code, found, ak, av⟩ : Ans) = ⟨kc, kf, kk, kv⟩) = b at q ⊢
      clear hR
      obtain rfl : last = 2 := by omega
      subst k3
      clear h2 hw hlast k1 k2
      have hw : IntKind.u8.wrap (2 + 1) = 3 := rfl
      generalize zeroB ok k v o had aft len = z at CZ ⊢
      cases z
      · go_wp2_with (go_at_call 87; refine (CZ.out _).mono ?_; rintro e w2 ⟨rfl, ht2⟩; replace ht2 := Lib.hid ht2)
        go_ret
        exact ⟨rfl, HB.out.2.2.trans ht2.out⟩
      · go_wp2_with (go_at_call 87; refine (CZ.out _).mono ?_; rintro e w2 ⟨rfl, ht2⟩; replace ht2 := Lib.hid ht2; have f9 := (HB.out.1.no ht2.out).cell 9; have f10 := (HB.out.1.no ht2.out).cell 10; have f11 := (HB.out.1.no ht2.out).cell 11; have f12 := (HB.out.1.no ht2.out).cell 12; have g1 := (HB.out.2.1.no ht2.out).cell 1; have g2 := (HB.out.2.1.no ht2.out).cell 2; have g3 := (HB.out.2.1.no ht2.out).cell 3; have g4 := (HB.out.2.1.no ht2.out).cell 4; simp at f9 f10 f11 f12 g1 g2 g3 g4)
        go_ret
        exact ⟨by simp, HB.out.2.2.trans ht2.out⟩
    · have hR : fitsK ⟨last, ⟨kc, kf, kk, kv⟩⟩ ⟨kind, id, ⟨ok, k, v, o, had, aft, A, len, cap⟩, ⟨code, found, ak, av⟩⟩ = false := by unfold fitsK; rw [if_neg (show ¬ id < 1 from h1), if_neg (by simpa using h2), if_neg (show ¬ kind = 1 from k1), if_neg (show ¬ kind = 2 from k2), if_neg (show ¬ kind = 3 from k3)]
      rw [hR]
      clear hR
      obtain rfl : last = 3 := by omega
      obtain rfl : kind = 4 := by omega
      clear h2 hw hlast k1 k2 k3
      have hw : IntKind.u8.wrap (3 + 1) = 4 := rfl
      go_wp2_with fail
      go_ret
      exact ⟨rfl, HB.out.2.2⟩
  · have hR : fitsK ⟨last, ⟨kc, kf, kk, kv⟩⟩ ⟨kind, id, ⟨ok, k, v, o, had, aft, A, len, cap⟩, ⟨code, found, ak, av⟩⟩ = false := by unfold fitsK; rw [if_neg (show ¬ id < 1 from h1), if_pos (show kind ≠ last + 1 from h2)]
    rw [hR]
    have h2' : (kind != last + 1) = true := by simpa using h2
    go_wp2_with fail
    go_ret
    exact ⟨rfl, ((Turn.refl _ _).alloc _).alloc _⟩
end Go.Proofs.Ytllppkfeiifklaa
namespace Go.Proofs.Ytllppkfeiifklaa
open Go.RowKit Go.Lib
set_option linter.unusedVariables false
set_option maxRecDepth 20000

/-- Stores into a block, one behind the other. -/
def puts (w : World) (g : Nat) : Nat → List Value → World
  | _, [] => w
  | i, v :: vs => puts (w.setCell ⟨g, i, none⟩ v) g (i + 1) vs
def cputs (c : Array Value) : Nat → List Value → Array Value
  | _, [] => c
  | i, v :: vs => cputs (c.setIfInBounds i v) (i + 1) vs
theorem At.puts {t : TypeId} {f : Nat × Nat} {g : Nat} : ∀ (vs : List Value) (i : Nat) {w : World} {c : Array Value}, At w g (.cells c t f) → At (puts w g i vs) g (.cells (cputs c i vs) t f)
  | [], _, _, _, h => h
  | v :: vs, i, _, _, h => At.puts vs (i + 1) (h.set i v)
theorem turn_puts (g : Nat) : ∀ (vs : List Value) (i : Nat) (w : World), Turn (· = g) w (puts w g i vs)
  | [], _, w => Turn.refl _ w
  | v :: vs, i, w => (set_turn w g i v).trans (turn_puts g vs (i + 1) _)

theorem Bx.other {w wr wr' : World} {g : Nat} {c d c' : Array Value} {t : TypeId} (h : Bx w wr g c d t) (k : Turn (· = g) wr wr') (hb : At wr' g (.cells c' t (0, 0))) : Bx w wr' g c' d t :=
  ⟨h.tu.then k fun i hi e => by have := h.old; omega, h.old, hb, h.r.turn k (by omega)⟩

def evc (kind id ok : Int) (k v o : ByteArray) (had aft : Bool) (A : Option Addr) (len cap : Nat) (code : Int) (found : Bool) (ak av : ByteArray) : Array Value :=
  #[.int .u8 kind, .int .i64 id, .int .u8 ok, .string k, .string v, .string o, .bool had, .bool aft, .slice A len cap, .int .i64 code, .bool found, .string ak, .string av]
def ev0 : Array Value := #[.int .u8 0, .int .i64 0, .int .u8 0, .string ⟨#[]⟩, .string ⟨#[]⟩, .string ⟨#[]⟩, .bool false, .bool false, .slice none 0 0, .int .i64 0, .bool false, .string ⟨#[]⟩, .string ⟨#[]⟩]

section
variable {kind id ok : Int} {k v o : ByteArray} {had aft : Bool} {A B : Option Addr} {len cap c : Nat} {code : Int} {found : Bool} {ak av : ByteArray}
theorem cputs_op : cputs (evc kind id ok k v o had aft A len cap code found ak av) 2 [.int .u8 ok, .string k, .string v, .string o, .bool had, .bool aft, .slice B len c] = evc kind id ok k v o had aft B len c code found ak av := by
  simp [cputs, evc]
theorem cputs_an : cputs (evc kind id ok k v o had aft A len cap code found ak av) 9 [.int .i64 code, .bool found, .string ak, .string av] = evc kind id ok k v o had aft A len cap code found ak av := by
  simp [cputs, evc]
theorem cputs_ev : cputs ev0 0 [.int .u8 kind, .int .i64 id, .int .u8 ok, .string k, .string v, .string o, .bool had, .bool aft, .slice A len cap, .int .i64 code, .bool found, .string ak, .string av] =
    #[.int .u8 kind, .int .i64 id, .int .u8 ok, .string k, .string v, .string o, .bool had, .bool aft, .slice A len cap, .int .i64 code, .bool found, .string ak, .string av] := by
  simp [cputs, ev0]
end

end Go.Proofs.Ytllppkfeiifklaa
namespace Go.Proofs.Ytllppkfeiifklaa
open Go.RowKit Go.Lib
set_option linter.unusedVariables false
set_option maxRecDepth 20000

set_option maxHeartbeats 1000000 in
theorem note_any (l : List Ev) (b : Nat) (e : Ev) (hf : fits l e = true) (hid : In64 e.id) (hl : l.length < 1000000) (w : World) (hm : MpH w (some b) l) :
    Calls Try.prog 51 #[.map (some b), e.valH] w fun r w' => r = .returned (.tuple #[]) ∧ MpH w' (some b) (l ++ [e]) ∧ Turn (· = b) w w' := by
  have hm2 := hm.no (((Turn.refl No w).alloc (.cells e.cs.toArray 40)))
  obtain ⟨w2, q, hM, ht⟩ := hm2.note e hf hid hl
  have hT : Hid (MpH w2 (some b) (l ++ [e]) ∧ Turn (· = b) w w2) := Lib.hid ⟨hM, ((Turn.refl (· = b) w).alloc _).trans ht⟩
  clear hM ht hm2 hm hf
  obtain ⟨kind, id, ⟨ok, k, v, o, had, aft, A, len, cap⟩, ⟨code, found, ak, av⟩⟩ := e
  simp only [Ev.cs, Opx.cs, Ans.cs, Kn.valH, List.cons_append, List.nil_append] at q
  go_enter Try.func51, Try.ntmps51
  go_wp2_with fail
  go_end0
  exact ⟨rfl, hT.out⟩

def Ev.on (e : Ev) (A : Option Addr) (cap : Nat) : Ev := ⟨e.kind, e.id, ⟨e.op.kind, e.op.k, e.op.v, e.op.o, e.op.had, e.op.aft, A, e.op.len, cap⟩, e.an⟩
/-- An event within reach; ws are its writes. -/
structure Ev.fit (e : Ev) (ws : List Wr) : Prop where
  id : In64 e.id
  k : Fit e.op.k
  v : Fit e.op.v
  o : Fit e.op.o
  ak : Fit e.an.k
  av : Fit e.an.v
  wf : ∀ x ∈ ws, x.fit
  n : ws.length = e.op.len
  few : e.op.len ≤ 100000
theorem Ev.fit.on {e : Ev} {ws : List Wr} (h : e.fit ws) (A : Option Addr) (cap : Nat) : (e.on A cap).fit ws := ⟨h.id, h.k, h.v, h.o, h.ak, h.av, h.wf, h.n, h.few⟩

def ablk (A : Option Addr) : Option Nat := A.map (·.block)
theorem own_ablk (A : Option Addr) (n c : Nat) : (Value.slice A n c).ownBlock = ablk A := by cases A <;> rfl

/-- The writes of the events of a row lie in rows of their own, from block Z on. -/
structure Wss (w : World) (Z : Nat) (l : List Ev) (ps : List (List Wr)) : Prop where
  len : ps.length = l.length
  own : ∀ (j : Nat) (e : Ev) (ws : List Wr), l[j]? = some e → ps[j]? = some ws → w.ownsRow Z 68 3 (.slice e.op.A e.op.len e.op.cap) e.op.len (wcs ws) ∧ e.fit ws
theorem Wss.nil (w : World) (Z : Nat) : Wss w Z [] [] := ⟨rfl, fun j e ws h => by simp at h⟩
def Wb (l : List Ev) (i : Nat) : Prop := ∃ e ∈ l, ablk e.op.A = some i
theorem Wss.turn {X : Nat → Prop} {w w' : World} {Z : Nat} {l : List Ev} {ps : List (List Wr)} (h : Wss w Z l ps) (t : Turn X w w') (hX : ∀ i, Wb l i → ¬ X i) : Wss w' Z l ps :=
  ⟨h.len, fun j e ws he hw => ⟨own_grown (h.own j e ws he hw).1 t fun k hk => hX k ⟨e, List.mem_of_getElem? he, (own_ablk ..).symm.trans hk⟩, (h.own j e ws he hw).2⟩⟩
theorem Wss.get {w : World} {Z : Nat} {l : List Ev} {ps : List (List Wr)} (h : Wss w Z l ps) {j : Nat} {e : Ev} (he : l[j]? = some e) : ∃ ws, ps[j]? = some ws ∧ w.ownsRow Z 68 3 (.slice e.op.A e.op.len e.op.cap) e.op.len (wcs ws) ∧ e.fit ws := by
  have hj : j < ps.length := by rw [h.len]; exact (List.getElem?_eq_some_iff.1 he).1
  exact ⟨ps[j], List.getElem?_eq_getElem hj, h.own j e _ he (List.getElem?_eq_getElem hj)⟩
theorem own_at {w : World} {Z : Nat} {t : TypeId} {s n : Nat} {A : Option Addr} {c : Nat} {xs : List Value} {i : Nat} (h : w.ownsRow Z t s (.slice A n c) n xs) (hi : ablk A = some i) : Z ≤ i ∧ ∃ cur, At w i (.cells cur t (0, 0)) := by
  rcases h.2 with ⟨hv, _⟩ | ⟨rb, cp, cur, hv, hb, hg, _⟩
  · injection hv with hA; subst hA; cases hi
  · injection hv with hA
    subst hA
    injection hi with hi
    subst hi
    exact ⟨hb, cur, hg⟩
theorem Wss.at_ {w : World} {Z : Nat} {l : List Ev} {ps : List (List Wr)} (h : Wss w Z l ps) {i : Nat} (hi : Wb l i) : Z ≤ i ∧ ∃ cur, At w i (.cells cur 68 (0, 0)) := by
  obtain ⟨e, he, hA⟩ := hi
  obtain ⟨j, hj⟩ := List.mem_iff_getElem?.1 he
  obtain ⟨ws, _, ho, _⟩ := h.get hj
  exact own_at ho hA
theorem Wss.snoc {w' : World} {Z : Nat} {l : List Ev} {ps : List (List Wr)} (h : Wss w' Z l ps) {e : Ev} {ws : List Wr} (ho : w'.ownsRow Z 68 3 (.slice e.op.A e.op.len e.op.cap) e.op.len (wcs ws)) (hf : e.fit ws) : Wss w' Z (l ++ [e]) (ps ++ [ws]) := by
  refine ⟨by simp [h.len], fun j e' ws' he hw => ?_⟩
  by_cases hj : j < l.length
  · rw [List.getElem?_append_left hj] at he
    rw [List.getElem?_append_left (by rw [h.len]; exact hj)] at hw
    exact h.own j e' ws' he hw
  · rw [List.getElem?_append_right (by omega)] at he
    rw [List.getElem?_append_right (by rw [h.len]; omega), h.len] at hw
    obtain ⟨q, rfl⟩ : j - l.length = 0 ∧ e' = e := by
      rcases Nat.eq_zero_or_pos (j - l.length) with h0 | h0
      · rw [h0] at he; simp at he; exact ⟨h0, he.symm⟩
      · rw [List.getElem?_eq_none (by simp; omega)] at he; cases he
    rw [q] at hw
    simp at hw
    subst hw
    exact ⟨ho, hf⟩

/-- The blocks that a history writes. -/
def HxH (hb : Nat) (A : Option Addr) (m : Option Nat) (i : Nat) : Prop := i = hb ∨ ablk A = some i ∨ m = some i
section
variable {w w' : World} {Z hb : Nat} {l : List Ev} {ps : List (List Wr)} {A : Option Addr} {cap : Nat} {m : Option Nat}
theorem MpH.at_ {w : World} {b : Nat} {l : List Ev} (h : MpH w (some b) l) : ∃ es clock, At w b (.map es clock) := by
  rcases h with ⟨h, _⟩ | ⟨b', n, hm, hn, hI⟩
  · cases h
  · cases hm; exact hI.obj
end
end Go.Proofs.Ytllppkfeiifklaa
namespace Go.Proofs.Ytllppkfeiifklaa
open Go.RowKit Go.Lib
set_option linter.unusedVariables false
set_option maxRecDepth 20000
set_option linter.unusedSimpArgs false

section
variable {w wr w2 : World} {Z hb : Nat} {l : List Ev} {ps : List (List Wr)} {A : Option Addr} {cap : Nat} {m : Option Nat} {g : Nat} {c : Array Value}
end

end Go.Proofs.Ytllppkfeiifklaa
namespace Go.Proofs.Ytllppkfeiifklaa
open Go.RowKit Go.Lib
set_option linter.unusedVariables false
set_option maxRecDepth 20000
set_option linter.unusedSimpArgs false

theorem cells_ne {c c' : Array Value} {t t' : TypeId} {f f' : Nat × Nat} (h : t ≠ t') : Obj.cells c t f ≠ Obj.cells c' t' f' := fun e => h (by injection e)
section
variable {w wr w2 : World} {Z hb : Nat} {l : List Ev} {ps : List (List Wr)} {A : Option Addr} {cap : Nat} {m : Option Nat} {mb g : Nat} {c c' : Array Value}
end

section
variable {w wr w2 : World} {Z hb : Nat} {l : List Ev} {ps : List (List Wr)} {A : Option Addr} {cap : Nat} {m : Option Nat} {mb g : Nat} {e : Ev} {ws : List Wr} {rB : Option Addr} {rd : Nat}
theorem own_from {w : World} {Z Z' : Nat} {t : TypeId} {s n : Nat} {v : Value} {xs : List Value} (h : w.ownsRow Z t s v n xs) (hz : Z' ≤ Z) : w.ownsRow Z' t s v n xs := by
  refine ⟨h.1, ?_⟩
  rcases h.2 with hn | ⟨g, cap, cur, rfl, hb, r⟩
  · exact .inl hn
  · exact .inr ⟨g, cap, cur, rfl, Nat.le_trans hz hb, r⟩
end
end Go.Proofs.Ytllppkfeiifklaa
namespace Go.Proofs.Ytllppkfeiifklaa
open Go.RowKit Go.Lib
set_option linter.unusedVariables false
set_option maxRecDepth 20000
set_option linter.unusedSimpArgs false

theorem Row.turn2 {X : Nat → Prop} {w w' : World} {A : Option Addr} {ws : List Wr} (h : Row w A (wcs ws)) (t : Turn X w w') (hX : ws ≠ [] → ∀ b o, A = some ⟨b, o, none⟩ → ¬ X b) : Row w' A (wcs ws) := by
  by_cases hw : ws = []
  · subst hw; exact Row.nil w' A
  · exact h.turn t (hX hw)
theorem cputs13 {c0 c1 c2 c3 c4 c5 c6 c7 c8 c9 c10 c11 c12 v0 v1 v2 v3 v4 v5 v6 v7 v8 v9 v10 v11 v12 : Value} : cputs #[c0, c1, c2, c3, c4, c5, c6, c7, c8, c9, c10, c11, c12] 0 [v0, v1, v2, v3, v4, v5, v6, v7, v8, v9, v10, v11, v12] = #[v0, v1, v2, v3, v4, v5, v6, v7, v8, v9, v10, v11, v12] := by
  simp [cputs]

end Go.Proofs.Ytllppkfeiifklaa
namespace Go.Proofs.Ytllppkfeiifklaa
open Go.RowKit Go.Lib
set_option linter.unusedVariables false
set_option maxRecDepth 20000
set_option linter.unusedSimpArgs false

def Ev.pure (e : Ev) : Ev := e.on none 0
def pl (l : List Ev) : List Ev := l.map Ev.pure
theorem Ev.pure_on (e : Ev) (A : Option Addr) (c : Nat) : (e.on A c).pure = e.pure := rfl
theorem Ev.pure_pure (e : Ev) : e.pure.pure = e.pure := rfl
theorem pl_length (l : List Ev) : (pl l).length = l.length := by simp [pl]
theorem pl_snoc (l : List Ev) (e : Ev) : pl (l ++ [e]) = pl l ++ [e.pure] := by simp [pl]
theorem upd_pure (m : Int → Kn) (e : Ev) : upd m e.pure = upd m e := rfl
theorem kn_pl (l : List Ev) : kn (pl l) = kn l := by
  unfold kn pl
  rw [List.foldl_map]
  rfl
theorem fitsK_pure (k : Kn) (e : Ev) : fitsK k e.pure = fitsK k e := rfl
theorem fits_pl (l : List Ev) (e : Ev) : fits (pl l) e = fits l e := by unfold fits; rw [kn_pl]
theorem fits_pure (l : List Ev) (e : Ev) : fits l e.pure = fits l e := rfl
theorem right_pl {l : List Ev} (h : Right l) : Right (pl l) := by
  induction h with
  | nil => exact .nil
  | snoc hl hf ih => rw [pl_snoc]; exact .snoc ih (by rw [fits_pl, fits_pure]; exact hf)
theorem pl_get {l L : List Ev} (h : pl l = L) {j : Nat} {e : Ev} (he : l[j]? = some e) : L[j]? = some e.pure := by
  subst h
  simp [pl, he]

section
variable {w w' : World} {Z hb : Nat} {L : List Ev} {ps : List (List Wr)} {X Y : Nat → Prop}
end

end Go.Proofs.Ytllppkfeiifklaa
namespace Go.Proofs.Ytllppkfeiifklaa
open Go.RowKit Go.Lib
set_option linter.unusedVariables false
set_option maxRecDepth 20000
set_option linter.unusedSimpArgs false

def op00 : Opx := ⟨0, ⟨#[]⟩, ⟨#[]⟩, ⟨#[]⟩, false, false, none, 0, 0⟩
theorem fit0 : Fit ⟨#[]⟩ := by unfold Fit; decide
@[reducible] def Opx.valH (o : Opx) : Value := .agg #[.int .u8 o.kind, .string o.k, .string o.v, .string o.o, .bool o.had, .bool o.aft, .slice o.A o.len o.cap]
@[reducible] def Ans.valH (a : Ans) : Value := .agg #[.int .i64 a.code, .bool a.found, .string a.k, .string a.v]
/-- An operation within reach; an answer within reach. -/
structure Opx.fit (o : Opx) (ws : List Wr) : Prop where
  k : Fit o.k
  v : Fit o.v
  oo : Fit o.o
  wf : ∀ x ∈ ws, x.fit
  n : ws.length = o.len
  few : o.len ≤ 100000
structure Ans.fit (a : Ans) : Prop where
  k : Fit a.k
  v : Fit a.v
theorem ans00_fit : ans00.fit := ⟨fit0, fit0⟩
theorem op00_fit : op00.fit [] := ⟨fit0, fit0, fit0, (by simp), rfl, by decide⟩
theorem Ev.fit.mk' {kind id : Int} {o : Opx} {a : Ans} {ws : List Wr} (hi : In64 id) (ho : o.fit ws) (ha : a.fit) : Ev.fit ⟨kind, id, o, a⟩ ws := ⟨hi, ho.k, ho.v, ho.oo, ha.k, ha.v, ho.wf, ho.n, ho.few⟩
theorem Ev.fit.an' {e : Ev} {ws : List Wr} (h : e.fit ws) : e.an.fit := ⟨h.ak, h.av⟩
theorem Ev.fit.op' {e : Ev} {ws : List Wr} (h : e.fit ws) : e.op.fit ws := ⟨h.k, h.v, h.o, h.wf, h.n, h.few⟩
theorem kn_fit {l : List Ev} (h : ∀ e ∈ l, e.an.fit) (i : Int) : (kn l i).an.fit := by
  have : ∀ (l : List Ev) (m : Int → Kn), (∀ e ∈ l, e.an.fit) → (∀ i, (m i).an.fit) → ∀ i, (l.foldl upd m i).an.fit := by
    intro l
    induction l with
    | nil => intro m _ hm i; exact hm i
    | cons e l ih =>
      intro m hl hm i
      refine ih _ (fun e' h' => hl e' (List.mem_cons_of_mem _ h')) ?_ i
      intro j
      unfold upd
      split
      · exact hl e List.mem_cons_self
      · exact hm j
  exact this l _ h (fun _ => ans00_fit) i
section
variable {Z hb : Nat} {L : List Ev} {ps : List (List Wr)} {X : Nat → Prop}
end
end Go.Proofs.Ytllppkfeiifklaa
namespace Go.Proofs.Ytllppkfeiifklaa
open Go.RowKit Go.Lib
set_option linter.unusedVariables false
set_option maxRecDepth 20000
set_option linter.unusedSimpArgs false

/-- The event at place k of a row that is read. -/
theorem Row.ev {w : World} {A : Option Addr} {l : List Ev} (h : Row w A (ecs l)) {k : Nat} {e : Ev} (he : l[k]? = some e) :
    ∃ b o, A = some ⟨b, o, none⟩ ∧ b < w.heap.size ∧ ∀ i u, e.cs[i]? = some u → w.cell? ⟨b, o + k * 13 + i, none⟩ = some u := by
  have h0 := h (k * 13 + 0) (.int .u8 e.kind) (by rw [ecs_at he 0 (by omega)]; rfl)
  obtain ⟨b, o, hA, hb, _⟩ := h0
  refine ⟨b, o, hA, hb, fun i u hi => ?_⟩
  have hlt : i < 13 := (List.getElem?_eq_some_iff.1 hi).1
  obtain ⟨b', o', hA', _, hc⟩ := h (k * 13 + i) u (by rw [ecs_at he i hlt]; exact hi)
  rw [hA] at hA'
  injection hA' with hA'
  injection hA' with e1 e2
  subst e1 e2
  rwa [Nat.add_assoc]
theorem Row.wrH {w : World} {A : Option Addr} {l : List Wr} (h : Row w A (wcs l)) {k : Nat} {e : Wr} (he : l[k]? = some e) :
    ∃ b o, A = some ⟨b, o, none⟩ ∧ b < w.heap.size ∧ ∀ i u, e.cs[i]? = some u → w.cell? ⟨b, o + k * 3 + i, none⟩ = some u := by
  have h0 := h (k * 3 + 0) (.string e.k) (by rw [wcs_at he 0 (by omega)]; rfl)
  obtain ⟨b, o, hA, hb, _⟩ := h0
  refine ⟨b, o, hA, hb, fun i u hi => ?_⟩
  have hlt : i < 3 := (List.getElem?_eq_some_iff.1 hi).1
  obtain ⟨b', o', hA', _, hc⟩ := h (k * 3 + i) u (by rw [wcs_at he i hlt]; exact hi)
  rw [hA] at hA'
  injection hA' with hA'
  injection hA' with e1 e2
  subst e1 e2
  rwa [Nat.add_assoc]

/-- A row of events of the program's own. -/
structure Evs (w : World) (Z : Nat) (l : List Ev) (ps : List (List Wr)) (A : Option Addr) (c : Nat) : Prop where
  row : w.ownsRow Z 40 13 (.slice A l.length c) l.length (ecs l)
  wss : Wss w Z l ps
theorem Evs.turn {X : Nat → Prop} {w w' : World} {Z : Nat} {l : List Ev} {ps : List (List Wr)} {A : Option Addr} {c : Nat} (h : Evs w Z l ps A c) (t : Turn X w w') (h1 : ∀ i, ablk A = some i → ¬ X i) (h2 : ∀ i, Wb l i → ¬ X i) : Evs w' Z l ps A c :=
  ⟨own_grown h.row t fun k hk => h1 k ((own_ablk ..).symm.trans hk), h.wss.turn t h2⟩
theorem Evs.no {w w' : World} {Z : Nat} {l : List Ev} {ps : List (List Wr)} {A : Option Addr} {c : Nat} (h : Evs w Z l ps A c) (t : Turn No w w') : Evs w' Z l ps A c := h.turn t (fun _ _ h => h) (fun _ _ h => h)
/-- What lies below a bound is left alone. -/
theorem Evs.apart {X : Nat → Prop} {w w' : World} {Z : Nat} {l : List Ev} {ps : List (List Wr)} {A : Option Addr} {c : Nat} (h : Evs w Z l ps A c) (t : Turn X w w') (hX : ∀ i, X i → i < Z ∨ w.heap.size ≤ i) : Evs w' Z l ps A c := by
  refine h.turn t (fun i hi hx => ?_) (fun i hi hx => ?_)
  · obtain ⟨h1, cur, h2⟩ := own_at h.row hi
    have := h2.lt
    have := hX i hx
    omega
  · obtain ⟨h1, cur, h2⟩ := h.wss.at_ hi
    have := h2.lt
    have := hX i hx
    omega
theorem Evs.read {w : World} {Z : Nat} {l : List Ev} {ps : List (List Wr)} {A : Option Addr} {c : Nat} (h : Evs w Z l ps A c) : Row w A (ecs l) := row_of_own h.row
theorem cputs_size : ∀ (vs : List Value) (c : Array Value) (i : Nat), (cputs c i vs).size = c.size
  | [], _, _ => rfl
  | v :: vs, c, i => by rw [cputs, cputs_size vs]; simp
theorem cputs_get : ∀ (vs : List Value) (c : Array Value) (i j : Nat), i + vs.length ≤ c.size → (cputs c i vs)[j]? = if i ≤ j ∧ j < i + vs.length then vs[j - i]? else c[j]?
  | [], c, i, j, _ => by
    rw [if_neg (by simp)]
    rfl
  | v :: vs, c, i, j, h => by
    rw [List.length_cons] at h
    rw [cputs, cputs_get vs _ (i + 1) j (by simp; omega)]
    rw [List.length_cons]
    by_cases h1 : i + 1 ≤ j ∧ j < i + 1 + vs.length
    · rw [if_pos h1, if_pos (by omega)]
      obtain ⟨q, hq⟩ : ∃ q, j - i = q + 1 := ⟨j - i - 1, by omega⟩
      rw [hq, show j - (i + 1) = q by omega]
      simp
    · rw [if_neg h1]
      by_cases h2 : j = i
      · subst h2
        rw [if_pos (by omega), Array.getElem?_setIfInBounds, if_pos rfl, if_pos (by omega)]
        simp
      · rw [if_neg (by omega), Array.getElem?_setIfInBounds, if_neg (by omega)]

/-- A row of n events of which k are written. -/
structure Lv (w wr : World) (ps : List (List Wr)) (L : List Ev) (lb k : Nat) (l' : List Ev) : Prop where
  tu : Turn No w wr
  old : w.heap.size ≤ lb
  cur : ∃ cur, At wr lb (.cells cur 40 (0, 0)) ∧ cur.size = L.length * 13 ∧ ∀ (j : Nat) (u : Value), (ecs l')[j]? = some u → cur[j]? = some u
  len : l'.length = k
  pl : pl l' = L.take k
  wss : Wss wr w.heap.size l' (ps.take k)
section
variable {w wr w2 : World} {ps : List (List Wr)} {L : List Ev} {lb k : Nat} {l' : List Ev}
theorem Lv.no (h : Lv w wr ps L lb k l') (t : Turn No wr w2) : Lv w w2 ps L lb k l' := by
  obtain ⟨cur, h1, h2⟩ := h.cur
  exact ⟨h.tu.trans t, h.old, ⟨cur, h1.no t, h2⟩, h.len, h.pl, h.wss.turn t fun _ _ h => h⟩
theorem Lv.step (h : Lv w wr ps L lb k l') {e : Ev} {ws : List Wr} (he : L[k]? = some e.pure) (hw : ps[k]? = some ws) {B : Option Addr} {c : Nat} (ho : wr.ownsRow w.heap.size 68 3 (.slice B e.op.len c) e.op.len (wcs ws)) (hf : e.fit ws) :
    Lv w (puts wr lb (k * 13) (e.on B c).cs) ps L lb (k + 1) (l' ++ [e.on B c]) := by
  obtain ⟨cur, h1, h2, h3⟩ := h.cur
  have hk : k < L.length := (List.getElem?_eq_some_iff.1 he).1
  have hk2 : k < ps.length := (List.getElem?_eq_some_iff.1 hw).1
  have hcl : (e.on B c).cs.length = 13 := rfl
  have tp := turn_puts lb (e.on B c).cs (k * 13) wr
  have hs : k * 13 + (e.on B c).cs.length ≤ cur.size := by rw [hcl, h2]; omega
  refine ⟨h.tu.then tp fun i hi e => by have := h.old; omega, h.old, ⟨_, At.puts (e.on B c).cs (k * 13) h1, by rw [cputs_size, h2], fun j u hj => ?_⟩, by simp [h.len], ?_, ?_⟩
  · rw [cputs_get _ _ _ _ hs]
    have hel := ecs_length l'
    rw [h.len] at hel
    have e1 : ecs (l' ++ [e.on B c]) = ecs l' ++ (e.on B c).cs := by rw [ecs_append]; simp [ecs]
    rw [e1] at hj
    by_cases hq : j < k * 13
    · rw [if_neg (by omega)]
      rw [List.getElem?_append_left (by omega)] at hj
      exact h3 j u hj
    · rw [List.getElem?_append_right (by omega), hel] at hj
      have : j - k * 13 < 13 := by rw [← hcl]; exact (List.getElem?_eq_some_iff.1 hj).1
      rw [if_pos (by omega)]
      exact hj
  · rw [pl_snoc, h.pl, Ev.pure_on, List.take_add_one, he]
    rfl
  · rw [List.take_add_one, hw]
    have h4 := h.wss.snoc (e := e.on B c) ho (hf.on B c)
    refine Wss.turn h4 tp fun i hi e => ?_
    subst e
    obtain ⟨_, cur', h5⟩ := h4.at_ hi
    exact h1.ne h5 (cells_ne (by decide)) rfl
theorem Lv.done (h : Lv w wr ps L lb L.length l') (hp : ps.length = L.length) (hn : L.length ≤ 65536) : Evs wr w.heap.size l' ps (some ⟨lb, 0, none⟩) L.length ∧ Go.Proofs.Ytllppkfeiifklaa.pl l' = L := by
  obtain ⟨cur, h1, h2, h3⟩ := h.cur
  refine ⟨⟨⟨ecs_length l', .inr ⟨lb, L.length, cur, ?_, h.old, h1, ?_, ?_, h2, ?_⟩⟩, ?_⟩, ?_⟩
  · rw [h.len]
  · rw [h.len]; exact Nat.le_refl _
  · unfold maxLen; omega
  · have hel := ecs_length l'
    apply List.ext_getElem?
    intro j
    rw [List.getElem?_take]
    by_cases hj : j < l'.length * 13
    · rw [if_pos hj]
      have : (ecs l')[j]? = some (ecs l')[j] := List.getElem?_eq_getElem (by omega)
      rw [this]
      simpa using h3 j _ this
    · rw [if_neg hj, List.getElem?_eq_none (by omega)]
  · have := h.wss
    rwa [← hp, List.take_length] at this
  · rw [h.pl, List.take_length]
end
end Go.Proofs.Ytllppkfeiifklaa
