/-
  cloneEvent: the same event, its writes in a row of its own; it makes new memory alone.
-/
import Derived.Test.YthopiamiipmobaaWOp
namespace Go.Proofs.Ythopiamiipmobaa
open Go.RowKit Go.Lib
set_option linter.unusedVariables false

/-- Stores into a block, one behind the other. -/
def puts (w : World) (g : Nat) : Nat → List Value → World
  | _, [] => w
  | i, v :: vs => puts (w.setCell ⟨g, i, none⟩ v) g (i + 1) vs
def cputs (c : Array Value) : Nat → List Value → Array Value
  | _, [] => c
  | i, v :: vs => cputs (c.setIfInBounds i v) (i + 1) vs
theorem At.puts {t : TypeId} {f : Nat × Nat} {g : Nat} : ∀ (vs : List Value) (i : Nat) {w : World} {c : Array Value}, At w g (.cells c t f) → At (puts w g i vs) g (.cells (cputs c i vs) t f)
  | [], _, _, _, h => h
  | v :: vs, i, _, _, h => At.puts vs (i + 1) (h.set i v)
theorem turn_puts (g : Nat) : ∀ (vs : List Value) (i : Nat) (w : World), Turn (· = g) w (puts w g i vs)
  | [], _, w => Turn.refl _ w
  | v :: vs, i, w => (set_turn w g i v).trans (turn_puts g vs (i + 1) _)

theorem Bx.other {w wr wr' : World} {g : Nat} {c d c' : Array Value} {t : TypeId} (h : Bx w wr g c d t) (k : Turn (· = g) wr wr') (hb : At wr' g (.cells c' t (0, 0))) : Bx w wr' g c' d t :=
  ⟨h.tu.then k fun i hi e => by have := h.old; omega, h.old, hb, h.r.turn k (by omega)⟩

def evc (kind id ok : Int) (k v o : ByteArray) (had aft : Bool) (A : Option Addr) (len cap : Nat) (code : Int) (found : Bool) (ak av : ByteArray) : Array Value :=
  #[.int .u8 kind, .int .i64 id, .int .u8 ok, .string k, .string v, .string o, .bool had, .bool aft, .slice A len cap, .int .i64 code, .bool found, .string ak, .string av]
def ev0 : Array Value := #[.int .u8 0, .int .i64 0, .int .u8 0, .string ⟨#[]⟩, .string ⟨#[]⟩, .string ⟨#[]⟩, .bool false, .bool false, .slice none 0 0, .int .i64 0, .bool false, .string ⟨#[]⟩, .string ⟨#[]⟩]

section
variable {kind id ok : Int} {k v o : ByteArray} {had aft : Bool} {A B : Option Addr} {len cap c : Nat} {code : Int} {found : Bool} {ak av : ByteArray}
theorem cputs_op : cputs (evc kind id ok k v o had aft A len cap code found ak av) 2 [.int .u8 ok, .string k, .string v, .string o, .bool had, .bool aft, .slice B len c] = evc kind id ok k v o had aft B len c code found ak av := by
  simp [cputs, evc]
theorem cputs_an : cputs (evc kind id ok k v o had aft A len cap code found ak av) 9 [.int .i64 code, .bool found, .string ak, .string av] = evc kind id ok k v o had aft A len cap code found ak av := by
  simp [cputs, evc]
theorem cputs_ev : cputs ev0 0 [.int .u8 kind, .int .i64 id, .int .u8 ok, .string k, .string v, .string o, .bool had, .bool aft, .slice A len cap, .int .i64 code, .bool found, .string ak, .string av] =
    #[.int .u8 kind, .int .i64 id, .int .u8 ok, .string k, .string v, .string o, .bool had, .bool aft, .slice A len cap, .int .i64 code, .bool found, .string ak, .string av] := by
  simp [cputs, ev0]
end

set_option maxHeartbeats 2000000 in
theorem clev_any (kind id ok : Int) (k v o : ByteArray) (had aft : Bool) (A : Option Addr) (len cap : Nat) (code : Int) (found : Bool) (ak av : ByteArray) (ws : List Wr) (hk : Fit k) (hv : Fit v) (hof : Fit o) (hak : Fit ak) (hav : Fit av) (hws : ∀ x ∈ ws, x.fit) (hl : ws.length = len) (hlen : len ≤ 100000) (w : World) (hR : Row w A (wcs ws)) :
    Calls Try.prog 32 #[.agg #[.int .u8 kind, .int .i64 id, .int .u8 ok, .string k, .string v, .string o, .bool had, .bool aft, .slice A len cap, .int .i64 code, .bool found, .string ak, .string av]] w fun e w' =>
      ∃ B c, e = .returned (.agg #[.int .u8 kind, .int .i64 id, .int .u8 ok, .string k, .string v, .string o, .bool had, .bool aft, .slice B len c, .int .i64 code, .bool found, .string ak, .string av]) ∧ Turn No w w' ∧ w'.ownsRow w.heap.size 53 3 (.slice B len c) len (wcs ws) := by
  have HB := Lib.hid (Bx.start w (evc kind id ok k v o had aft A len cap code found ak av) ev0 34)
  have HC : Hid (∀ W, Turn No w W → Calls Try.prog 36 #[.agg #[.int .u8 ok, .string k, .string v, .string o, .bool had, .bool aft, .slice A len cap]] W fun e w' =>
      ∃ B c, e = .returned (.agg #[.int .u8 ok, .string k, .string v, .string o, .bool had, .bool aft, .slice B len c]) ∧ Turn No W w' ∧ w'.ownsRow w.heap.size 53 3 (.slice B len c) len (wcs ws)) :=
    Lib.hid fun W t => (clop_any ok k v o had aft A len cap ws hk hv hof hws hl hlen W (hR.turn t fun _ _ _ h => h)).mono fun e w' ⟨B, c, he, ht, a, b⟩ => ⟨B, c, he, ht, a, by
      rcases b with b | ⟨rb, cp, cur, q, hb, r⟩
      · exact .inl b
      · exact .inr ⟨rb, cp, cur, q, Nat.le_trans t.size hb, r⟩⟩
  have HD : Hid (∀ W, Calls Try.prog 37 #[.agg #[.int .i64 code, .bool found, .string ak, .string av]] W fun e w' => e = .returned (.agg #[.int .i64 code, .bool found, .string ak, .string av]) ∧ Turn No W w') := Lib.hid fun W => clans_any code found ak av hak hav W
  clear hR hws hl
  go_enter Try.func32, Try.ntmps32
  go_upto_region 1 with (fail)
  change Hid (Bx w ((w.alloc (.cells #[.int .u8 kind, .int .i64 id, .int .u8 ok, .string k, .string v, .string o, .bool had, .bool aft, .slice A len cap, .int .i64 code, .bool found, .string ak, .string av] 34)).alloc (.cells #[.int .u8 0, .int .i64 0, .int .u8 0, .string ⟨#[]⟩, .string ⟨#[]⟩, .string ⟨#[]⟩, .bool false, .bool false, .slice none 0 0, .int .i64 0, .bool false, .string ⟨#[]⟩, .string ⟨#[]⟩] 34)) w.heap.size (evc kind id ok k v o had aft A len cap code found ak av) ev0 34) at HB
  generalize (w.alloc (.cells #[.int .u8 kind, .int .i64 id, .int .u8 ok, .string k, .string v, .string o, .bool had, .bool aft, .slice A len cap, .int .i64 code, .bool found, .string ak, .string av] 34)).alloc (.cells #[.int .u8 0, .int .i64 0, .int .u8 0, .string ⟨#[]⟩, .string ⟨#[]⟩, .string ⟨#[]⟩, .bool false, .bool false, .slice none 0 0, .int .i64 0, .bool false, .string ⟨#[]⟩, .string ⟨#[]⟩] 34) = w1 at HB ⊢
  obtain ⟨g, hg⟩ : ∃ g, w.heap.size = g := ⟨_, rfl⟩
  have HG := Lib.hid hg
  rw [hg] at HB ⊢
  clear hg
  have C1 := HC.out w1 HB.out.tu
  have HC1 := Lib.hid C1
  clear C1 HC
  have e2 := HB.out.b.cell 2
  have e3 := HB.out.b.cell 3
  have e4 := HB.out.b.cell 4
  have e5 := HB.out.b.cell 5
  have e6 := HB.out.b.cell 6
  have e7 := HB.out.b.cell 7
  have e8 := HB.out.b.cell 8
  simp [evc] at e2 e3 e4 e5 e6 e7 e8
  go_upto_region 2 with (go_at_call 36; refine HC1.out.mono ?_; rintro e w2 ⟨B, c, rfl, ht2, ho2⟩; have HT2 := Lib.hid (And.intro ht2 ho2); clear ht2 ho2; have f2 := (HB.out.turn HT2.out.1).b.cell 2; have f3 := (HB.out.turn HT2.out.1).b.cell 3; have f4 := (HB.out.turn HT2.out.1).b.cell 4; have f5 := (HB.out.turn HT2.out.1).b.cell 5; have f6 := (HB.out.turn HT2.out.1).b.cell 6; have f7 := (HB.out.turn HT2.out.1).b.cell 7; have f8 := (HB.out.turn HT2.out.1).b.cell 8; simp [evc] at f2 f3 f4 f5 f6 f7 f8; have zz := (HB.out.turn HT2.out.1).b.thawed)
  have HS0 := (HB.out.turn HT2.out.1).other (turn_puts g [.int .u8 ok, .string k, .string v, .string o, .bool had, .bool aft, .slice B len c] 2 w2) (At.puts [.int .u8 ok, .string k, .string v, .string o, .bool had, .bool aft, .slice B len c] 2 (HB.out.turn HT2.out.1).b)
  have HO : Hid ((puts w2 g 2 [.int .u8 ok, .string k, .string v, .string o, .bool had, .bool aft, .slice B len c]).ownsRow w.heap.size 53 3 (.slice B len c) len (wcs ws)) := Lib.hid (own_grown HT2.out.2 (turn_puts _ _ _ _) fun kk hk e => by
    subst e
    rcases HT2.out.2.2 with ⟨hv, _⟩ | ⟨rb, cp, cur, hv, _, hg, _⟩
    · injection hv with hA; subst hA; cases hk
    · injection hv with hA
      subst hA
      injection hk with hk
      subst hk
      have := (HB.out.turn HT2.out.1).b.eq hg
      injection this with _ e
      cases e)
  simp only [puts, cputs_op] at HS0 HO
  have HS := Lib.hid HS0
  clear HS0 HB HT2 e2 e3 e4 e5 e6 e7 e8 f2 f3 f4 f5 f6 f7 f8 zz HC1
  generalize ((((((w2.setCell ⟨g, 2, none⟩ (.int .u8 ok)).setCell ⟨g, 3, none⟩ (.string k)).setCell ⟨g, 4, none⟩ (.string v)).setCell ⟨g, 5, none⟩ (.string o)).setCell ⟨g, 6, none⟩ (.bool had)).setCell ⟨g, 7, none⟩ (.bool aft)).setCell ⟨g, 8, none⟩ (.slice B len c) = w3 at HS HO ⊢
  have e9 := HS.out.b.cell 9
  have e10 := HS.out.b.cell 10
  have e11 := HS.out.b.cell 11
  have e12 := HS.out.b.cell 12
  simp [evc] at e9 e10 e11 e12
  go_upto_region 3 with (go_at_call 37; refine (HD.out _).mono ?_; rintro e w4 ⟨rfl, ht4⟩; replace ht4 := Lib.hid ht4; have f9 := (HS.out.turn ht4.out).b.cell 9; have f10 := (HS.out.turn ht4.out).b.cell 10; have f11 := (HS.out.turn ht4.out).b.cell 11; have f12 := (HS.out.turn ht4.out).b.cell 12; simp [evc] at f9 f10 f11 f12; have zz := (HS.out.turn ht4.out).b.thawed)
  have HU0 := (HS.out.turn ht4.out).other (turn_puts g [.int .i64 code, .bool found, .string ak, .string av] 9 w4) (At.puts [.int .i64 code, .bool found, .string ak, .string av] 9 (HS.out.turn ht4.out).b)
  have HV : Hid ((puts w4 g 9 [.int .i64 code, .bool found, .string ak, .string av]).ownsRow w.heap.size 53 3 (.slice B len c) len (wcs ws)) := Lib.hid (own_grown (own_grown HO.out ht4.out fun _ _ h => h) (turn_puts _ _ _ _) fun kk hk e => by
    subst e
    rcases HO.out.2 with ⟨hv, _⟩ | ⟨rb, cp, cur, hv, _, hg, _⟩
    · injection hv with hA; subst hA; cases hk
    · injection hv with hA
      subst hA
      injection hk with hk
      subst hk
      have := HS.out.b.eq hg
      injection this with _ e
      cases e)
  simp only [puts, cputs_an] at HU0 HV
  have HU := Lib.hid HU0
  clear HU0 HS HO ht4 zz
  clear e9 e10 e11 e12
  clear f9 f10 f11 f12
  generalize (((w4.setCell ⟨g, 9, none⟩ (.int .i64 code)).setCell ⟨g, 10, none⟩ (.bool found)).setCell ⟨g, 11, none⟩ (.string ak)).setCell ⟨g, 12, none⟩ (.string av) = w5 at HU HV ⊢
  have e0 := HU.out.b.cell 0
  have e1 := HU.out.b.cell 1
  have e2 := HU.out.b.cell 2
  have e3 := HU.out.b.cell 3
  have e4 := HU.out.b.cell 4
  have e5 := HU.out.b.cell 5
  have e6 := HU.out.b.cell 6
  have e7 := HU.out.b.cell 7
  have e8 := HU.out.b.cell 8
  have e9 := HU.out.b.cell 9
  have e10 := HU.out.b.cell 10
  have e11 := HU.out.b.cell 11
  have e12 := HU.out.b.cell 12
  simp [evc] at e0 e1 e2 e3 e4 e5 e6 e7 e8 e9 e10 e11 e12
  have r0 := HU.out.r.cell 0
  have r1 := HU.out.r.cell 1
  have r2 := HU.out.r.cell 2
  have r3 := HU.out.r.cell 3
  have r4 := HU.out.r.cell 4
  have r5 := HU.out.r.cell 5
  have r6 := HU.out.r.cell 6
  have r7 := HU.out.r.cell 7
  have r8 := HU.out.r.cell 8
  have r9 := HU.out.r.cell 9
  have r10 := HU.out.r.cell 10
  have r11 := HU.out.r.cell 11
  have r12 := HU.out.r.cell 12
  simp [ev0] at r0 r1 r2 r3 r4 r5 r6 r7 r8 r9 r10 r11 r12
  have z0 := HU.out.r.thawed 0
  have z1 := HU.out.r.thawed 1
  have z2 := HU.out.r.thawed 2
  have z3 := HU.out.r.thawed 3
  have z4 := HU.out.r.thawed 4
  have z5 := HU.out.r.thawed 5
  have z6 := HU.out.r.thawed 6
  have z7 := HU.out.r.thawed 7
  have z8 := HU.out.r.thawed 8
  have z9 := HU.out.r.thawed 9
  have z10 := HU.out.r.thawed 10
  have z11 := HU.out.r.thawed 11
  have z12 := HU.out.r.thawed 12
  go_wp2_with fail
  clear e0 e1 e2 e3 e4 e5 e6 e7 e8 e9 e10 e11 e12
  clear r0 r1 r2 r3 r4 r5 r6 r7 r8 r9 r10 r11 r12
  clear z0 z1 z2 z3 z4 z5 z6 z7 z8 z9 z10 z11 z12
  (try simp only [Exit.inBlock, Exit.then])
  have HE := At.puts [.int .u8 kind, .int .i64 id, .int .u8 ok, .string k, .string v, .string o, .bool had, .bool aft, .slice B len c, .int .i64 code, .bool found, .string ak, .string av] 0 HU.out.r
  have tE := turn_puts (g + 1) [.int .u8 kind, .int .i64 id, .int .u8 ok, .string k, .string v, .string o, .bool had, .bool aft, .slice B len c, .int .i64 code, .bool found, .string ak, .string av] 0 w5
  simp only [puts, cputs_ev] at HE tE
  refine bodyPost_ret (results_cell_row rfl _ _ (g + 1) 34 _ (0, 0) _ (by rfl) HE Try.underlying34 rfl (by kernel_rfl)) rfl ?_
  refine ⟨B, c, rfl, HU.out.tu.then tE fun i hi e => by have := HU.out.old; omega, own_grown HV.out tE fun kk hk e => ?_⟩
  subst e
  rcases HV.out.2 with ⟨hv, _⟩ | ⟨rb, cp, cur, hv, _, hg, _⟩
  · injection hv with hA; subst hA; cases hk
  · injection hv with hA
    subst hA
    injection hk with hk
    subst hk
    have := HU.out.r.eq hg
    injection this with _ e
    cases e
end Go.Proofs.Ythopiamiipmobaa
