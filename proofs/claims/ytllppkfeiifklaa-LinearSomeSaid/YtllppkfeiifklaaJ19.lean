/-
  Appends, as run equations: to rows of the program's own, whatever their elements.
  The map of what is known, in memory.
  The shelf, for both.
  strings.Clone, cloneAnswer: what they give, and that they make new memory alone.
  cloneAnswer: the same answer; it makes new memory alone.
  cloneOp: the same operation, its writes in a row of its own; it makes new memory alone.
  isZero and bare: whether an operation is none.
-/
import Derived.Test.YtllppkfeiifklaaJ1
import Derived.Test.YtllppkfeiifklaaJ2
import Derived.Test.YtllppkfeiifklaaJ18
import Derived.Test.YtllppkfeiifklaaJ9
import Derived.Test.YtllppkfeiifklaaProg
import Derived.Maps.AppendAt
import Derived.Laws.AppendOwnNone
import Derived.Deep.RegionLaw
import Derived.Deep.Upon
import Derived.Maps.Own
import Derived.Laws.EntriesVeiled
import Derived.WalkKit
import Derived.WalkSpells
import Derived.WalkLawsBesides
import Derived.Deep.QuietTactic
import Derived.Deep.RegionHeld3
import Derived.BigQuiet
import Derived.Deep.Cut
import Derived.Deep.CutBlock
import Derived.Lib.Hide
namespace Go.Proofs.Ytllppkfeiifklaa
open Go.RowKit Go.Lib
set_option linter.unusedVariables false
set_option maxRecDepth 20000

theorem app_gen {t e size bytes : Nat} {z : Value} (ht : Try.prog.underlying t = some (.slice e)) (hinf : (Try.prog.info? e).map (fun i => (i.zero, i.size, i.bytes)) = some (some z, size, bytes)) (hzs : z.cells.size = size) (hsz : 0 < size) (hby : bytes ≤ 1000)
    {w : World} {Z : Nat} {v : Value} {n : Nat} {xs : List Value} (h : w.ownsRow Z e size v n xs) (a : Addr) (m c : Nat) (news : List Value) (hl : news.length = m * size) (hnews : ∀ j u, news[j]? = some u → w.cell? (a.add j) = some u)
    (h1 : ∀ u ∈ news, u.oneCell' = true) (hnm : n + m ≤ 1000000) (hz : Z ≤ w.heap.size) (ty : TypeId) :
    ∃ B cap w', AppRun t ty v (.slice (some a) m c) (.slice B (n + m) cap) w w' ∧ w'.ownsRow Z e size (.slice B (n + m) cap) (n + m) (xs ++ news) ∧ Turn (fun i => v.ownBlock = some i) w w' ∧
      ((Value.slice B (n + m) cap).ownBlock = v.ownBlock ∨ (Value.slice B (n + m) cap).ownBlock = some w.heap.size) := by
  obtain ⟨i0, hi, hz0, hz1, hz2⟩ := info_parts hinf
  obtain ⟨v', w', hr, h2, h3, _, h5⟩ := run_append_own_at (P := Try.prog) w Z t ty e i0 z size bytes ht hi hz0 hz1 hz2 hzs hsz v n xs h a m c news hl hnews h1 (by unfold maxLen; omega)
    (Nat.le_trans (Nat.mul_le_mul hnm hby) (by decide)) hz
  obtain ⟨B, cap, rfl⟩ := own_form h2
  exact ⟨B, cap, w', ⟨hr⟩, h2, (Turn.refl _ w).grown h3 (fun k hk => Or.inl hk), h5⟩
theorem info53 : (Try.prog.info? 68).map (fun i => (i.zero, i.size, i.bytes)) = some (some (.agg #[.string ⟨#[]⟩, .string ⟨#[]⟩, .bool false]), 3, 40) := by kernel_rfl
theorem info34 : (Try.prog.info? 40).map (fun i => (i.zero, i.size, i.bytes)) = some (some (.agg #[.int .u8 0, .int .i64 0, .int .u8 0, .string ⟨#[]⟩, .string ⟨#[]⟩, .string ⟨#[]⟩, .bool false, .bool false, .slice none 0 0, .int .i64 0, .bool false, .string ⟨#[]⟩, .string ⟨#[]⟩]), 13, 152) := by kernel_rfl
theorem info3 : (Try.prog.info? 3).map (fun i => (i.zero, i.size, i.bytes)) = some (some (.int .i64 0), 1, 8) := by kernel_rfl

theorem one_wcs (ws : List Wr) : ∀ u ∈ wcs ws, u.oneCell' = true := by
  intro u hu
  obtain ⟨x, _, hx⟩ := List.mem_flatMap.1 hu
  simp only [Wr.cs, List.mem_cons, List.not_mem_nil, or_false] at hx
  rcases hx with rfl | rfl | rfl <;> rfl
theorem one_ev (e : Ev) : ∀ u ∈ e.cs, u.oneCell' = true := by
  intro u hx
  simp only [Ev.cs, Opx.cs, Ans.cs, List.cons_append, List.nil_append, List.mem_cons, List.not_mem_nil, or_false] at hx
  rcases hx with rfl | rfl | rfl | rfl | rfl | rfl | rfl | rfl | rfl | rfl | rfl | rfl | rfl <;> rfl

/-- append([]Write(nil), row...): a row of its own. -/
theorem app_writes (w : World) (A : Option Addr) (len cap : Nat) (xs : List Value) (hr : Row w A xs) (hl : xs.length = len * 3) (hlen : len ≤ 100000) (h1 : ∀ u ∈ xs, u.oneCell' = true) (ty : TypeId) :
    ∃ B c w', AppRun 32 ty (.slice none 0 0) (.slice A len cap) (.slice B len c) w w' ∧ w'.ownsRow w.heap.size 68 3 (.slice B len c) len xs ∧ Turn No w w' := by
  cases A with
  | none =>
    have h0 : len = 0 := by
      rcases Nat.eq_zero_or_pos len with h | h
      · exact h
      · have : 0 < xs.length := by omega
        obtain ⟨b, o, hA, _⟩ := hr 0 xs[0] (List.getElem?_eq_getElem this)
        cases hA
    subst h0
    have hx : xs = [] := List.eq_nil_of_length_eq_zero (by omega)
    subst hx
    obtain ⟨i0, hi, _⟩ := info_parts info53
    exact ⟨none, 0, w, ⟨run_append_nothing (P := Try.prog) w 32 32 ty 68 i0 Try.underlying32 hi none 0 0 (Nat.le_refl _) _ (Src.ofNil w Try.underlying32 cap)⟩, World.ownsRow_nil _ _ _ _, Turn.refl _ _⟩
  | some a =>
    have hn : ∀ j u, xs[j]? = some u → w.cell? (a.add j) = some u := by
      intro j u hj
      obtain ⟨b, o, hA, _, hc⟩ := hr j u hj
      injection hA with hA
      subst hA
      rwa [Addr.add_lit]
    obtain ⟨B, c, w', q, ho, ht, _⟩ := app_gen Try.underlying32 info53 rfl (by decide) (by decide) (World.ownsRow_nil w w.heap.size 68 3) a len cap xs hl hn h1 (by omega) (Nat.le_refl _) ty
    rw [Nat.zero_add] at q ho
    exact ⟨B, c, w', q, by simpa using ho, ht.mono fun k _ h => by cases h⟩
end Go.Proofs.Ytllppkfeiifklaa
namespace Go.Proofs.Ytllppkfeiifklaa
open Go.RowKit Go.Lib Go.Maps
set_option linter.unusedVariables false
set_option maxRecDepth 20000
theorem law3 : Keyed Try.prog 3 := int_keyed Try.underlying3
theorem u57 : Try.prog.underlying 82 = some (.map 3 119) := Try.underlying82
theorem zero62 (w : World) : (zeroValue 119).run Try.prog w = .ok kn0.valH w := by rfl

/-- The map m has what a right row tells. -/
def MpH (w : World) (m : Option Nat) (l : List Ev) : Prop :=
  (m = none ∧ l = []) ∨ ∃ b n, m = some b ∧ n ≤ l.length ∧ IMap Try.prog 3 w b (kmap l) n
def In64 (i : Int) : Prop := -9223372036854775808 ≤ i ∧ i ≤ 9223372036854775807
section
variable {w w' : World} {m : Option Nat} {l : List Ev}
theorem MpH.turn {X : Nat → Prop} (h : MpH w m l) (t : Turn X w w') (hX : ∀ b, m = some b → ¬ X b) : MpH w' m l := by
  rcases h with h | ⟨b, n, hm, hn, hI⟩
  · exact .inl h
  · exact .inr ⟨b, n, hm, hn, hI.turn t (hX b hm)⟩
theorem MpH.no (h : MpH w m l) (t : Turn No w w') : MpH w' m l := h.turn t fun _ _ h => h
theorem MpH.lt (h : MpH w m l) : ∀ b, m = some b → b < w.heap.size := by
  rintro b rfl
  rcases h with ⟨h, _⟩ | ⟨b', n, hm, hn, hI⟩
  · cases h
  · cases hm; exact hI.lt
theorem MpH.look (h : MpH w m l) (hr : Right l) (i : Int) (hi : In64 i) : (Instr.lookup 82 (.map m) (.int .i64 i) false).run Try.prog w = .ok (kn l i).valH w := by
  rcases h with ⟨rfl, rfl⟩ | ⟨b, n, rfl, _, hI⟩
  · rw [Maps.look_nil false law3 u57 (z := kn0.valH) (zero62 w) (keyOf_int_mk Try.underlying3 (wf64 hi.1 hi.2))]
    rfl
  · rw [hI.look1 law3 Try.underlying3 u57 (zero62 w) (wf64 hi.1 hi.2), kmap_getD hr]
theorem MpH.made (w : World) : MpH (w.alloc (.map #[] 0)) (some w.heap.size) [] := .inr ⟨_, 0, rfl, Nat.zero_le _, IMap.congr (fun i => rfl) (IMap.made Try.prog 3 w)⟩
theorem MpH.note {b : Nat} (h : MpH w (some b) l) (e : Ev) (hf : fits l e = true) (hi : In64 e.id) (hl : l.length < 1000000) :
    ∃ w', (Instr.mapUpdate 82 (.map (some b)) (.int .i64 e.id) (Kn.valH ⟨e.kind, e.an⟩)).run Try.prog w = .ok () w' ∧ MpH w' (some b) (l ++ [e]) ∧ Turn (· = b) w w' := by
  rcases h with ⟨h, _⟩ | ⟨b', n, hm, hn, hI⟩
  · cases h
  · cases hm
    obtain ⟨w', q, hI', t⟩ := hI.store law3 Try.underlying3 u57 (by omega) (wf64 hi.1 hi.2) (Kn.valH ⟨e.kind, e.an⟩)
    refine ⟨w', q, .inr ⟨b, _, rfl, ?_, IMap.congr (fun i => ?_) hI'⟩, t⟩
    · simp only [List.length_append, List.length_cons, List.length_nil]
      split <;> omega
    · rw [kmap_snoc hf]
      rfl
end
end Go.Proofs.Ytllppkfeiifklaa

namespace Go.Proofs.Ytllppkfeiifklaa
open Go.RowKit
set_option linter.unusedVariables false
set_option maxRecDepth 20000

theorem below_of_drewN {B : Nat} {w w' : World} {n : Nat} (h : Below B (w.drewN n) w') : Below B w w' := ⟨h.os, h.tape, h.output, h.size, h.block⟩
theorem below_drewN {B : Nat} {a w : World} (h : Below B a w) (n : Nat) : Below B a (w.drewN n) := ⟨h.os, h.tape, h.output, h.size, h.block⟩

/-- strings.Clone -/
theorem clone_anyH (a : ByteArray) (w : World) (h : a.size ≤ 140737488355328) :
    Calls Try.prog 79 #[.string a] w fun e w' => e = .returned (.string a) ∧ Below w.heap.size w w' := by
  go_enter Try.func79, Try.ntmps79
  go_wp2_with (go_at_call 101; refine (Try.stringslite_Clone _ _ (by omega)).mono ?_; rintro e w' ⟨rfl, hb⟩)
  go_ret
  exact ⟨rfl, hb⟩


theorem clone_turnH (a : ByteArray) (hf : Fit a) {X : Nat → Prop} {w0 : World} (w : World) (h : Turn X w0 w) :
    Calls Try.prog 79 #[.string a] w fun e w' => e = .returned (.string a) ∧ Turn (fun _ => False) w w' ∧ Turn X w0 w' := by
  refine (clone_anyH a w hf).mono ?_
  rintro e w' ⟨rfl, hb⟩
  exact ⟨rfl, Turn.of_below hb, h.trans (Turn.of_below hb)⟩
end Go.Proofs.Ytllppkfeiifklaa
namespace Go.Proofs.Ytllppkfeiifklaa
open Go.RowKit Go.Lib
set_option linter.unusedVariables false
set_option maxRecDepth 20000


theorem At.set_same {w : World} {g : Nat} {c : Array Value} {t : TypeId} {f : Nat × Nat} (h : At w g (.cells c t f)) (i : Nat) (u : Value) (hc : c[i]? = some u) : At (w.setCell ⟨g, i, none⟩ u) g (.cells c t f) := by
  have := h.set i u
  rwa [show c.setIfInBounds i u = c from ?_] at this
  apply Array.ext_getElem?
  intro j
  rw [Array.getElem?_setIfInBounds]
  split
  · rename_i e
    subst e
    split
    · exact hc.symm
    · rename_i h2
      rw [Array.getElem?_eq_none (by omega)] at hc
      cases hc
  · rfl

def ansc (c : Int) (f : Bool) (k v : ByteArray) : Array Value := #[.int .i64 c, .bool f, .string k, .string v]
/-- A box that holds c, and a fresh one for the result. -/
structure Bx (w wr : World) (g : Nat) (c d : Array Value) (t : TypeId) : Prop where
  tu : Turn No w wr
  old : w.heap.size ≤ g
  b : At wr g (.cells c t (0, 0))
  r : At wr (g + 1) (.cells d t (0, 0))
theorem Bx.start (w : World) (c d : Array Value) (t : TypeId) : Bx w ((w.alloc (.cells c t)).alloc (.cells d t)) w.heap.size c d t :=
  ⟨((Turn.refl _ _).alloc _).alloc _, Nat.le_refl _, (At.new _ _).turn ((Turn.refl No _).alloc _) (fun h => h), by simpa using At.new (w.alloc (.cells c t)) (.cells d t)⟩
theorem Bx.turn {w wr wr' : World} {g : Nat} {c d : Array Value} {t : TypeId} (h : Bx w wr g c d t) (k : Turn No wr wr') : Bx w wr' g c d t :=
  ⟨h.tu.trans k, h.old, h.b.no k, h.r.no k⟩
theorem Bx.same {w wr : World} {g : Nat} {c d : Array Value} {t : TypeId} (h : Bx w wr g c d t) (i : Nat) (u : Value) (hc : c[i]? = some u) : Bx w (wr.setCell ⟨g, i, none⟩ u) g c d t :=
  ⟨h.tu.setCell (p := ⟨g, i, none⟩) (Or.inr h.old) u, h.old, h.b.set_same i u hc, h.r.turn ((Turn.refl (· = g) wr).setCell (p := ⟨g, i, none⟩) (Or.inl rfl) u) (by omega)⟩

set_option maxHeartbeats 1000000 in
theorem clans_any (c : Int) (f : Bool) (k v : ByteArray) (hk : Fit k) (hv : Fit v) (w : World) :
    Calls Try.prog 54 #[.agg #[.int .i64 c, .bool f, .string k, .string v]] w fun e w' => e = .returned (.agg #[.int .i64 c, .bool f, .string k, .string v]) ∧ Turn No w w' := by
  have HB := Lib.hid (Bx.start w (ansc c f k v) ans0 38)
  unfold ansc ans0 at HB
  go_enter Try.func54, Try.ntmps54
  go_upto_region 1 with (fail)
  generalize (w.alloc (.cells #[.int .i64 c, .bool f, .string k, .string v] 38)).alloc (.cells #[.int .i64 0, .bool false, .string ⟨#[]⟩, .string ⟨#[]⟩] 38) = w1 at HB ⊢
  generalize w.heap.size = g at HB ⊢
  have hS0 : w1.drew.cell? ⟨g, 2, none⟩ = some (.string k) ∧ w1.drew.cell? ⟨g, 3, none⟩ = some (.string v) := ⟨by simpa using HB.out.b.cell 2, by simpa using HB.out.b.cell 3⟩
  have hS1 : Hid (∀ w2, Turn No w1 w2 → w2.cell? ⟨g, 2, none⟩ = some (.string k) ∧ w2.cell? ⟨g, 3, none⟩ = some (.string v)) := Lib.hid fun w2 t => ⟨by simpa using (HB.out.b.no t).cell 2, by simpa using (HB.out.b.no t).cell 3⟩
  have C1 : Hid (∀ W, Turn No w1 W → Calls Try.prog 79 #[.string k] W fun e w' => e = .returned (.string k) ∧ Turn No w1 w') := Lib.hid fun W t => (clone_turnH k hk W t).mono fun e w' h => ⟨h.1, h.2.2⟩
  have C2 : Hid (∀ W, Turn No w1 W → Calls Try.prog 79 #[.string v] W fun e w' => e = .returned (.string v) ∧ Turn No w1 w') := Lib.hid fun W t => (clone_turnH v hv W t).mono fun e w' h => ⟨h.1, h.2.2⟩
  have hS2 : Hid (∀ w2, Turn No w1 w2 → (w2.setCell ⟨g, 2, none⟩ (.string k)).cell? ⟨g, 2, none⟩ = some (.string k) ∧ (w2.setCell ⟨g, 2, none⟩ (.string k)).cell? ⟨g, 3, none⟩ = some (.string v)) := Lib.hid fun w2 t => ⟨by simpa using ((HB.out.turn t).same 2 (.string k) rfl).b.cell 2, by simpa using ((HB.out.turn t).same 2 (.string k) rfl).b.cell 3⟩
  have hS3 : Hid (∀ w2, Turn No w1 w2 → ((w2.setCell ⟨g, 2, none⟩ (.string k)).setCell ⟨g, 3, none⟩ (.string v)).cell? ⟨g, 2, none⟩ = some (.string k) ∧ ((w2.setCell ⟨g, 2, none⟩ (.string k)).setCell ⟨g, 3, none⟩ (.string v)).cell? ⟨g, 3, none⟩ = some (.string v)) := Lib.hid fun w2 t => ⟨by simpa using (((HB.out.turn t).same 2 (.string k) rfl).same 3 (.string v) rfl).b.cell 2, by simpa using (((HB.out.turn t).same 2 (.string k) rfl).same 3 (.string v) rfl).b.cell 3⟩
  go_region_held3 (fun W => W.cell? ⟨g, 2, none⟩ = some (.string k) ∧ W.cell? ⟨g, 3, none⟩ = some (.string v)) (first | exact hS0 | exact hS2.out _ hz.out | exact hS3.out _ hz.out | exact hS1.out _ hz.out | exact hS1.out _ hy.out) (first | (go_at_call 79; refine (C1.out _ ((Turn.refl _ _).drewN _)).mono ?_; rintro e wy ⟨rfl, hy⟩; replace hy := Lib.hid hy) | (go_at_call 79; refine (C2.out _ hy.out).mono ?_; rintro e wz ⟨rfl, hz⟩; replace hz := Lib.hid hz; have zf2 := (HB.out.b.no hz.out).thawed 2; have zf3 := (HB.out.b.no hz.out).thawed 3; have zc2 := (HB.out.b.no hz.out).cell 2; have zc3 := (HB.out.b.no hz.out).cell 3; simp at zc2 zc3))
  have HC := Lib.hid (((HB.out.turn hz.out).same 2 (.string k) rfl).same 3 (.string v) rfl)
  clear hS1 hS2 hS3 C1 C2 HB hz zf2 zf3 zc2 zc3
  generalize (wz.setCell ⟨g, 2, none⟩ (.string k)).setCell ⟨g, 3, none⟩ (.string v) = w3 at HC ⊢
  have d0 := HC.out.b.cell 0
  have d1 := HC.out.b.cell 1
  have d2 := HC.out.b.cell 2
  have d3 := HC.out.b.cell 3
  have r0 := HC.out.r.cell 0
  have r1 := HC.out.r.cell 1
  have r2 := HC.out.r.cell 2
  have r3 := HC.out.r.cell 3
  have z0 := HC.out.r.thawed 0
  have z1 := HC.out.r.thawed 1
  have z2 := HC.out.r.thawed 2
  have z3 := HC.out.r.thawed 3
  simp at d0 d1 d2 d3 r0 r1 r2 r3
  go_wp2_with fail
  have HE : Hid (Turn No w ((((w3.setCell ⟨g + 1, 0, none⟩ (.int .i64 c)).setCell ⟨g + 1, 1, none⟩ (.bool f)).setCell ⟨g + 1, 2, none⟩ (.string k)).setCell ⟨g + 1, 3, none⟩ (.string v)) ∧
      At ((((w3.setCell ⟨g + 1, 0, none⟩ (.int .i64 c)).setCell ⟨g + 1, 1, none⟩ (.bool f)).setCell ⟨g + 1, 2, none⟩ (.string k)).setCell ⟨g + 1, 3, none⟩ (.string v)) (g + 1) (.cells #[.int .i64 c, .bool f, .string k, .string v] 38 (0, 0))) := by
    have ho := HC.out.old
    refine Lib.hid ⟨(((HC.out.tu.setCell (Or.inr ?_) _).setCell (Or.inr ?_) _).setCell (Or.inr ?_) _).setCell (Or.inr ?_) _, ?_⟩
    any_goals (show _ ≤ g + 1; omega)
    simpa using (((HC.out.r.set 0 (.int .i64 c)).set 1 (.bool f)).set 2 (.string k)).set 3 (.string v)
  clear HC d0 d1 d2 d3 r0 r1 r2 r3 z0 z1 z2 z3
  generalize (((w3.setCell ⟨g + 1, 0, none⟩ (.int .i64 c)).setCell ⟨g + 1, 1, none⟩ (.bool f)).setCell ⟨g + 1, 2, none⟩ (.string k)).setCell ⟨g + 1, 3, none⟩ (.string v) = w4 at HE ⊢
  (try simp only [Exit.inBlock, Exit.then])
  refine bodyPost_ret (results_cell_row rfl _ _ (g + 1) 38 _ (0, 0) _ (by rfl) HE.out.2 Try.underlying38 rfl (by kernel_rfl)) rfl ?_
  exact ⟨rfl, HE.out.1⟩
end Go.Proofs.Ytllppkfeiifklaa
namespace Go.Proofs.Ytllppkfeiifklaa
open Go.RowKit Go.Lib
set_option linter.unusedVariables false
set_option maxRecDepth 20000

def opc (kind : Int) (k v o : ByteArray) (had aft : Bool) (A : Option Addr) (len cap : Nat) : Array Value := #[.int .u8 kind, .string k, .string v, .string o, .bool had, .bool aft, .slice A len cap]
def op0 : Array Value := #[.int .u8 0, .string ⟨#[]⟩, .string ⟨#[]⟩, .string ⟨#[]⟩, .bool false, .bool false, .slice none 0 0]

section
variable {kind : Int} {k v o : ByteArray} {had aft : Bool} {A : Option Addr} {len cap g : Nat} {w w1 : World}
theorem Bx.texts (h : Bx w w1 g (opc kind k v o had aft A len cap) op0 34) : w1.cell? ⟨g, 1, none⟩ = some (.string k) ∧ w1.cell? ⟨g, 2, none⟩ = some (.string v) ∧ w1.cell? ⟨g, 3, none⟩ = some (.string o) := by
  have h1 := h.b.cell 1
  have h2 := h.b.cell 2
  have h3 := h.b.cell 3
  simp [opc] at h1 h2 h3
  exact ⟨h1, h2, h3⟩
theorem Bx.put7 {c d : Array Value} {v0 v1 v2 v3 v4 v5 v6 : Value} (h : Bx w w1 g c d 34) (hd : d = op0) :
    Turn No w (((((((w1.setCell ⟨g + 1, 0, none⟩ v0).setCell ⟨g + 1, 1, none⟩ v1).setCell ⟨g + 1, 2, none⟩ v2).setCell ⟨g + 1, 3, none⟩ v3).setCell ⟨g + 1, 4, none⟩ v4).setCell ⟨g + 1, 5, none⟩ v5).setCell ⟨g + 1, 6, none⟩ v6) ∧
    Turn (· = g + 1) w1 (((((((w1.setCell ⟨g + 1, 0, none⟩ v0).setCell ⟨g + 1, 1, none⟩ v1).setCell ⟨g + 1, 2, none⟩ v2).setCell ⟨g + 1, 3, none⟩ v3).setCell ⟨g + 1, 4, none⟩ v4).setCell ⟨g + 1, 5, none⟩ v5).setCell ⟨g + 1, 6, none⟩ v6) ∧
    At (((((((w1.setCell ⟨g + 1, 0, none⟩ v0).setCell ⟨g + 1, 1, none⟩ v1).setCell ⟨g + 1, 2, none⟩ v2).setCell ⟨g + 1, 3, none⟩ v3).setCell ⟨g + 1, 4, none⟩ v4).setCell ⟨g + 1, 5, none⟩ v5).setCell ⟨g + 1, 6, none⟩ v6) (g + 1) (.cells #[v0, v1, v2, v3, v4, v5, v6] 34 (0, 0)) := by
  subst hd
  have ho := h.old
  have st : ∀ {u : World} {X : Nat → Prop} (i : Nat) (v : Value), X (g + 1) → Turn X w1 u → Turn X w1 (u.setCell ⟨g + 1, i, none⟩ v) := fun i v hx t => t.setCell (p := ⟨g + 1, i, none⟩) (Or.inl hx) v
  have tt : Turn (· = g + 1) w1 (((((((w1.setCell ⟨g + 1, 0, none⟩ v0).setCell ⟨g + 1, 1, none⟩ v1).setCell ⟨g + 1, 2, none⟩ v2).setCell ⟨g + 1, 3, none⟩ v3).setCell ⟨g + 1, 4, none⟩ v4).setCell ⟨g + 1, 5, none⟩ v5).setCell ⟨g + 1, 6, none⟩ v6) :=
    st 6 _ rfl (st 5 _ rfl (st 4 _ rfl (st 3 _ rfl (st 2 _ rfl (st 1 _ rfl (st 0 _ rfl (Turn.refl _ _)))))))
  refine ⟨h.tu.then tt fun i hi e => by omega, tt, ?_⟩
  simpa [op0] using ((((((h.r.set 0 v0).set 1 v1).set 2 v2).set 3 v3).set 4 v4).set 5 v5).set 6 v6
theorem Bx.s1 (h : Bx w w1 g (opc kind k v o had aft A len cap) op0 34) : Bx w (w1.setCell ⟨g, 1, none⟩ (.string k)) g (opc kind k v o had aft A len cap) op0 34 := h.same 1 _ rfl
theorem Bx.s2 (h : Bx w w1 g (opc kind k v o had aft A len cap) op0 34) : Bx w (w1.setCell ⟨g, 2, none⟩ (.string v)) g (opc kind k v o had aft A len cap) op0 34 := h.same 2 _ rfl
theorem Bx.s3 (h : Bx w w1 g (opc kind k v o had aft A len cap) op0 34) : Bx w (w1.setCell ⟨g, 3, none⟩ (.string o)) g (opc kind k v o had aft A len cap) op0 34 := h.same 3 _ rfl
end

theorem set_turn (w : World) (g i : Nat) (u : Value) : Turn (· = g) w (w.setCell ⟨g, i, none⟩ u) := (Turn.refl (· = g) w).setCell (p := ⟨g, i, none⟩) (Or.inl rfl) u
/-- Behind the append: the box, the result's cell, and the row that the clone owns. -/
structure Lp (w wr : World) (g : Nat) (c : Array Value) (B : Option Addr) (len cap : Nat) (xs : List Value) : Prop where
  bx : Bx w wr g c op0 34
  row : wr.ownsRow w.heap.size 68 3 (.slice B len cap) len xs
section
variable {c : Array Value} {B : Option Addr} {len cap g : Nat} {xs : List Value} {w w1 w2 : World}
theorem Lp.turn (h : Lp w w1 g c B len cap xs) (t : Turn No w1 w2) : Lp w w2 g c B len cap xs := ⟨h.bx.turn t, own_grown h.row t fun _ _ h => h⟩
/-- The row's block, where it has cells. -/
theorem Lp.blk (h : Lp w w1 g c B len cap xs) (hp : 0 < len) : ∃ rb cur, B = some ⟨rb, 0, none⟩ ∧ w.heap.size ≤ rb ∧ At w1 rb (.cells cur 68 (0, 0)) ∧ ∀ (j : Nat) (u : Value), xs[j]? = some u → cur[j]? = some u := by
  obtain ⟨hl, ⟨hv, hn⟩ | ⟨rb, cp, cur, hv, hb, hg, hn, hc, hs, ht⟩⟩ := h.row
  · omega
  · injection hv with hA _ _
    refine ⟨rb, cur, hA, hb, hg, fun j u hj => ?_⟩
    rw [← ht, List.getElem?_take] at hj
    split at hj
    · simpa using hj
    · cases hj
theorem Lp.same (h : Lp w w1 g c B len cap xs) {rb : Nat} (hB : B = some ⟨rb, 0, none⟩) (hp : 0 < len) (i : Nat) (u : Value) (hu : xs[i]? = some u) : Lp w (w1.setCell ⟨rb, i, none⟩ u) g c B len cap xs := by
  obtain ⟨rb', cur, hB', hb, ha, hc⟩ := h.blk hp
  obtain rfl : rb = rb' := by rw [hB] at hB'; injection hB' with e; injection e
  have t1 : Turn (· = rb) w1 (w1.setCell ⟨rb, i, none⟩ u) := set_turn _ _ _ _
  have n1 : g ≠ rb := h.bx.b.ne ha (by intro e; injection e with _ e; cases e)
  have n2 : g + 1 ≠ rb := h.bx.r.ne ha (by intro e; injection e with _ e; cases e)
  refine ⟨⟨h.bx.tu.setCell (p := ⟨rb, i, none⟩) (Or.inr hb) u, h.bx.old, h.bx.b.turn t1 n1, h.bx.r.turn t1 n2⟩, h.row.1, ?_⟩
  obtain ⟨hl, ⟨hv, hn⟩ | ⟨rb', cp, cur', hv, hb, hg, hn, hc', hs, ht⟩⟩ := h.row
  · omega
  · obtain rfl : rb = rb' := by injection hv with e; rw [hB] at e; injection e with e; injection e
    obtain rfl : cur = cur' := by have := ha.eq hg; injection this
    exact .inr ⟨rb, cp, cur, hv, hb, At.set_same ha i u (hc i u hu), hn, hc', hs, ht⟩
end

/-- In a round: the row, and the box of the loop's variable. -/
structure Lq (w wr : World) (g rb qb : Nat) (c : Array Value) (len cap : Nat) (xs : List Value) (x : Wr) : Prop where
  lp : Lp w wr g c (some ⟨rb, 0, none⟩) len cap xs
  q : At wr qb (.cells #[.string x.k, .string x.v, .bool x.gone] 68 (0, 0))
  ne : qb ≠ rb
  c6 : c[6]? = some (.slice (some ⟨rb, 0, none⟩) len cap)
section
variable {c : Array Value} {len cap g rb qb : Nat} {xs : List Value} {w w1 w2 : World} {x : Wr}
theorem Lq.turn (h : Lq w w1 g rb qb c len cap xs x) (t : Turn No w1 w2) : Lq w w2 g rb qb c len cap xs x := ⟨h.lp.turn t, h.q.no t, h.ne, h.c6⟩
theorem Lq.same (h : Lq w w1 g rb qb c len cap xs x) (hp : 0 < len) (i : Nat) (u : Value) (hu : xs[i]? = some u) : Lq w (w1.setCell ⟨rb, i, none⟩ u) g rb qb c len cap xs x :=
  ⟨h.lp.same rfl hp i u hu, h.q.turn (set_turn w1 rb i u) h.ne, h.ne, h.c6⟩
theorem Lq.S (h : Lq w w1 g rb qb c len cap xs x) : w1.cell? ⟨g, 6, none⟩ = some (.slice (some ⟨rb, 0, none⟩) len cap) ∧ w1.cell? ⟨qb, 0, none⟩ = some (.string x.k) ∧ w1.cell? ⟨qb, 1, none⟩ = some (.string x.v) := by
  refine ⟨by rw [h.lp.bx.b.cell]; exact h.c6, ?_, ?_⟩
  · rw [h.q.cell]; rfl
  · rw [h.q.cell]; rfl
theorem Lq.thawed (h : Lq w w1 g rb qb c len cap xs x) (hp : 0 < len) (i : Nat) : w1.frozen? ⟨rb, i, none⟩ = false := by
  obtain ⟨rb', cur, hB, _, ha, _⟩ := h.lp.blk hp
  obtain rfl : rb = rb' := by injection hB with e; injection e
  exact ha.thawed i
end

set_option maxHeartbeats 2000000 in
/-- Behind the first region. -/
theorem clop_app {kind : Int} {k v o : ByteArray} {had aft : Bool} {A : Option Addr} {len cap g : Nat} {ws : List Wr} {w w3 : World} (h : Bx w w3 g (opc kind k v o had aft A len cap) op0 34) (hR : Row w A (wcs ws)) (hl : ws.length = len) (hlen : len ≤ 100000) :
    ∃ B c w4, AppRun 32 32 (.slice none 0 0) (.slice A len cap) (.slice B len c) w3 w4 ∧ w4.cell? ⟨g, 6, none⟩ = some (.slice A len cap) ∧ w4.frozen? ⟨g, 6, none⟩ = false ∧ Lp w (w4.setCell ⟨g, 6, none⟩ (.slice B len c)) g (opc kind k v o had aft B len c) B len c (wcs ws) := by
  obtain ⟨B, c, w4, q, ho, ht⟩ := app_writes w3 A len cap (wcs ws) (hR.turn h.tu fun _ _ _ h => h) (by rw [wcs_length, hl]) hlen (one_wcs ws) 32
  have h4 := h.turn ht
  have tz : Turn (· = g) w4 (w4.setCell ⟨g, 6, none⟩ (.slice B len c)) := set_turn _ _ _ _
  have c6 := h4.b.cell 6
  refine ⟨B, c, w4, q, by simpa [opc] using c6, h4.b.thawed 6, ⟨⟨h4.tu.setCell (p := ⟨g, 6, none⟩) (Or.inr h.old) _, h.old, ?_, h4.r.turn tz (by omega)⟩, ?_⟩⟩
  · have := h4.b.set 6 (.slice B len c)
    simpa [opc] using this
  · have hbk := ho.lt
    have o2 : w4.ownsRow w.heap.size 68 3 (.slice B len c) len (wcs ws) := by
      obtain ⟨a, b | ⟨rb, cp, cur, hv, hb, r⟩⟩ := ho
      · exact ⟨a, .inl b⟩
      · exact ⟨a, .inr ⟨rb, cp, cur, hv, Nat.le_trans h.tu.size hb, r⟩⟩
    refine own_grown o2 tz fun kk hk e => ?_
    subst e
    have := (hbk _ hk).1
    have := h.b.lt
    omega
set_option maxHeartbeats 2000000 in
theorem clop_any (kind : Int) (k v o : ByteArray) (had aft : Bool) (A : Option Addr) (len cap : Nat) (ws : List Wr) (hk : Fit k) (hv : Fit v) (hof : Fit o) (hws : ∀ x ∈ ws, x.fit) (hl : ws.length = len) (hlen : len ≤ 100000) (w : World) (hR : Row w A (wcs ws)) :
    Calls Try.prog 53 #[.agg #[.int .u8 kind, .string k, .string v, .string o, .bool had, .bool aft, .slice A len cap]] w fun e w' =>
      ∃ B c, e = .returned (.agg #[.int .u8 kind, .string k, .string v, .string o, .bool had, .bool aft, .slice B len c]) ∧ Turn No w w' ∧ w'.ownsRow w.heap.size 68 3 (.slice B len c) len (wcs ws) := by
  have HB := Lib.hid (Bx.start w (opc kind k v o had aft A len cap) op0 34)
  have HR := Lib.hid hR
  have HW := Lib.hid hws
  have HL := Lib.hid hl
  clear hR hws hl
  go_enter Try.func53, Try.ntmps53
  go_upto_region 1 with (fail)
  change Hid (Bx w ((w.alloc (.cells #[.int .u8 kind, .string k, .string v, .string o, .bool had, .bool aft, .slice A len cap] 34)).alloc (.cells #[.int .u8 0, .string ⟨#[]⟩, .string ⟨#[]⟩, .string ⟨#[]⟩, .bool false, .bool false, .slice none 0 0] 34)) w.heap.size (opc kind k v o had aft A len cap) op0 34) at HB
  have hgz : w.heap.size = w.heap.size := rfl
  generalize (w.alloc (.cells #[.int .u8 kind, .string k, .string v, .string o, .bool had, .bool aft, .slice A len cap] 34)).alloc (.cells #[.int .u8 0, .string ⟨#[]⟩, .string ⟨#[]⟩, .string ⟨#[]⟩, .bool false, .bool false, .slice none 0 0] 34) = w1 at HB ⊢
  obtain ⟨g, hg⟩ : ∃ g, w.heap.size = g := ⟨_, rfl⟩
  rw [hg] at HB ⊢
  clear hgz
  have HG := Lib.hid hg
  clear hg
  have hS0 : w1.drew.cell? ⟨g, 1, none⟩ = some (.string k) ∧ w1.drew.cell? ⟨g, 2, none⟩ = some (.string v) ∧ w1.drew.cell? ⟨g, 3, none⟩ = some (.string o) := HB.out.texts
  have hS1 : Hid (∀ w2, Turn No w1 w2 → w2.cell? ⟨g, 1, none⟩ = some (.string k) ∧ w2.cell? ⟨g, 2, none⟩ = some (.string v) ∧ w2.cell? ⟨g, 3, none⟩ = some (.string o)) := Lib.hid fun w2 t => (HB.out.turn t).texts
  have C1 : Hid (∀ W, Turn No w1 W → Calls Try.prog 79 #[.string k] W fun e w' => e = .returned (.string k) ∧ Turn No w1 w') := Lib.hid fun W t => (clone_turnH k hk W t).mono fun e w' h => ⟨h.1, h.2.2⟩
  have C2 : Hid (∀ W, Turn No w1 W → Calls Try.prog 79 #[.string v] W fun e w' => e = .returned (.string v) ∧ Turn No w1 w') := Lib.hid fun W t => (clone_turnH v hv W t).mono fun e w' h => ⟨h.1, h.2.2⟩
  have C3 : Hid (∀ W, Turn No w1 W → Calls Try.prog 79 #[.string o] W fun e w' => e = .returned (.string o) ∧ Turn No w1 w') := Lib.hid fun W t => (clone_turnH o hof W t).mono fun e w' h => ⟨h.1, h.2.2⟩
  have hT1 : Hid (∀ w2, Turn No w1 w2 → (w2.setCell ⟨g, 1, none⟩ (.string k)).cell? ⟨g, 1, none⟩ = some (.string k) ∧ (w2.setCell ⟨g, 1, none⟩ (.string k)).cell? ⟨g, 2, none⟩ = some (.string v) ∧ (w2.setCell ⟨g, 1, none⟩ (.string k)).cell? ⟨g, 3, none⟩ = some (.string o)) := Lib.hid fun w2 t => (HB.out.turn t).s1.texts
  have hT2 : Hid (∀ w2, Turn No w1 w2 → ((w2.setCell ⟨g, 1, none⟩ (.string k)).setCell ⟨g, 2, none⟩ (.string v)).cell? ⟨g, 1, none⟩ = some (.string k) ∧ ((w2.setCell ⟨g, 1, none⟩ (.string k)).setCell ⟨g, 2, none⟩ (.string v)).cell? ⟨g, 2, none⟩ = some (.string v) ∧ ((w2.setCell ⟨g, 1, none⟩ (.string k)).setCell ⟨g, 2, none⟩ (.string v)).cell? ⟨g, 3, none⟩ = some (.string o)) := Lib.hid fun w2 t => (HB.out.turn t).s1.s2.texts
  have hT3 : Hid (∀ w2, Turn No w1 w2 → (((w2.setCell ⟨g, 1, none⟩ (.string k)).setCell ⟨g, 2, none⟩ (.string v)).setCell ⟨g, 3, none⟩ (.string o)).cell? ⟨g, 1, none⟩ = some (.string k) ∧ (((w2.setCell ⟨g, 1, none⟩ (.string k)).setCell ⟨g, 2, none⟩ (.string v)).setCell ⟨g, 3, none⟩ (.string o)).cell? ⟨g, 2, none⟩ = some (.string v) ∧ (((w2.setCell ⟨g, 1, none⟩ (.string k)).setCell ⟨g, 2, none⟩ (.string v)).setCell ⟨g, 3, none⟩ (.string o)).cell? ⟨g, 3, none⟩ = some (.string o)) := Lib.hid fun w2 t => (HB.out.turn t).s1.s2.s3.texts
  go_region_held3 (fun W => W.cell? ⟨g, 1, none⟩ = some (.string k) ∧ W.cell? ⟨g, 2, none⟩ = some (.string v) ∧ W.cell? ⟨g, 3, none⟩ = some (.string o)) (first | (with_reducible exact hS0) | (with_reducible exact hT1.out _ hu.out) | (with_reducible exact hT2.out _ hu.out) | (with_reducible exact hT3.out _ hu.out) | (with_reducible exact hS1.out _ hu.out) | (with_reducible exact hS1.out _ hz.out) | (with_reducible exact hS1.out _ hy.out)) (first | (go_at_call 79; (with_reducible refine (C1.out _ (Turn.refl _ _).drew).mono ?_); rintro e wy ⟨rfl, hy⟩; replace hy := Lib.hid hy) | (go_at_call 79; (with_reducible refine (C3.out _ hz.out).mono ?_); rintro e wu ⟨rfl, hu⟩; replace hu := Lib.hid hu; have zf1 := (HB.out.b.no hu.out).thawed 1; have zf2 := (HB.out.b.no hu.out).thawed 2; have zf3 := (HB.out.b.no hu.out).thawed 3) | (go_at_call 79; (with_reducible refine (C2.out _ hy.out).mono ?_); rintro e wz ⟨rfl, hz⟩; replace hz := Lib.hid hz))
  have HC := Lib.hid (HB.out.turn hu.out).s1.s2.s3
  clear hS1 hT1 hT2 hT3 C1 C2 C3 HB hz hu hy zf1 zf2 zf3
  generalize ((wu.setCell ⟨g, 1, none⟩ (.string k)).setCell ⟨g, 2, none⟩ (.string v)).setCell ⟨g, 3, none⟩ (.string o) = w3 at HC ⊢
  obtain ⟨B, c, w4, HA, d6, z6, HL5⟩ := clop_app HC.out HR.out HL.out hlen
  have e6 : w3.cell? ⟨g, 6, none⟩ = some (.slice A len cap) := by simpa [opc] using HC.out.b.cell 6
  replace HL5 := Lib.hid HL5
  clear HC hS0
  go_upto_region 3 with (at_builtin; refine wpList_append_run rfl _ _ 32 rfl _ _ _ rfl rfl HA ?_)
  generalize w4.setCell ⟨g, 6, none⟩ (.slice B len c) = w5 at HL5 ⊢
  clear HA d6 z6 e6
  have e6 : w5.cell? ⟨g, 6, none⟩ = some (.slice B len c) := by simpa [opc] using HL5.out.bx.b.cell 6
  go_wp2_with fail
  clear e6
  go_loopw [24] (fun i wr => ∃ m : Nat, m ≤ len ∧ i = .int .i64 (m : Int) ∧ Hid (Lp w wr g (opc kind k v o had aft B len c) B len c (wcs ws))) (fun i _ => len - (RowKit.intOf i).toNat)
  case atStart => exact ⟨0, Nat.zero_le _, rfl, HL5⟩
  case round =>
    obtain ⟨m, hm, rfl, HP⟩ := hrel
    clear HL5
    by_cases hlt : m < len
    · obtain ⟨x, hx⟩ : ∃ x, ws[m]? = some x := ⟨ws[m]'(by have := HL.out; omega), List.getElem?_eq_getElem _⟩
      have hfx := HW.out x (List.mem_of_getElem? hx)
      obtain ⟨rb, cur, rfl, hrb, hat, hcur⟩ := HP.out.blk (by omega)
      have x0 : wr.cell? ⟨rb, m * 3, none⟩ = some (.string x.k) := by rw [hat.cell]; exact hcur _ _ (wcs_at hx 0 (by omega))
      have x1 : wr.cell? ⟨rb, m * 3 + 1, none⟩ = some (.string x.v) := by rw [hat.cell]; exact hcur _ _ (wcs_at hx 1 (by omega))
      have x2 : wr.cell? ⟨rb, m * 3 + 2, none⟩ = some (.bool x.gone) := by rw [hat.cell]; exact hcur _ _ (wcs_at hx 2 (by omega))
      have hk0 := Lib.hid (wcs_at hx 0 (by omega))
      have hk1 := Lib.hid (wcs_at hx 1 (by omega))
      have HQ : Hid (Lq w (wr.alloc (.cells #[.string x.k, .string x.v, .bool x.gone] 68)) g rb wr.heap.size (opc kind k v o had aft (some ⟨rb, 0, none⟩) len c) len c (wcs ws) x) :=
        Lib.hid ⟨HP.out.turn ((Turn.refl _ _).alloc _), At.new _ _, by have := hat.lt; omega, rfl⟩
      have hpos : 0 < len := by omega
      clear hrb hat hcur
      go_upto_region 6 with (fail)
      clear x0 x1 x2 HP
      generalize wr.alloc (.cells #[.string x.k, .string x.v, .bool x.gone] 68) = w6 at HQ ⊢
      generalize wr.heap.size = qb at HQ ⊢
      have hS0 : w6.drew.cell? ⟨g, 6, none⟩ = some (.slice (some ⟨rb, 0, none⟩) len c) ∧ w6.drew.cell? ⟨qb, 0, none⟩ = some (.string x.k) ∧ w6.drew.cell? ⟨qb, 1, none⟩ = some (.string x.v) := HQ.out.S
      have hS1 : Hid (∀ w2, Turn No w6 w2 → w2.cell? ⟨g, 6, none⟩ = some (.slice (some ⟨rb, 0, none⟩) len c) ∧ w2.cell? ⟨qb, 0, none⟩ = some (.string x.k) ∧ w2.cell? ⟨qb, 1, none⟩ = some (.string x.v)) := Lib.hid fun w2 t => (HQ.out.turn t).S
      have hT1 : Hid (∀ w2, Turn No w6 w2 → (w2.setCell ⟨rb, m * 3, none⟩ (.string x.k)).cell? ⟨g, 6, none⟩ = some (.slice (some ⟨rb, 0, none⟩) len c) ∧ (w2.setCell ⟨rb, m * 3, none⟩ (.string x.k)).cell? ⟨qb, 0, none⟩ = some (.string x.k) ∧ (w2.setCell ⟨rb, m * 3, none⟩ (.string x.k)).cell? ⟨qb, 1, none⟩ = some (.string x.v)) := Lib.hid fun w2 t => ((HQ.out.turn t).same hpos _ _ hk0.out).S
      have hT2 : Hid (∀ w2, Turn No w6 w2 → ((w2.setCell ⟨rb, m * 3, none⟩ (.string x.k)).setCell ⟨rb, m * 3 + 1, none⟩ (.string x.v)).cell? ⟨g, 6, none⟩ = some (.slice (some ⟨rb, 0, none⟩) len c) ∧ ((w2.setCell ⟨rb, m * 3, none⟩ (.string x.k)).setCell ⟨rb, m * 3 + 1, none⟩ (.string x.v)).cell? ⟨qb, 0, none⟩ = some (.string x.k) ∧ ((w2.setCell ⟨rb, m * 3, none⟩ (.string x.k)).setCell ⟨rb, m * 3 + 1, none⟩ (.string x.v)).cell? ⟨qb, 1, none⟩ = some (.string x.v)) := Lib.hid fun w2 t => (((HQ.out.turn t).same hpos _ _ hk0.out).same hpos _ _ hk1.out).S
      have C1 : Hid (∀ W, Turn No w6 W → Calls Try.prog 79 #[.string x.k] W fun e w' => e = .returned (.string x.k) ∧ Turn No w6 w') := Lib.hid fun W t => (clone_turnH x.k hfx.1 W t).mono fun e w' h => ⟨h.1, h.2.2⟩
      have C2 : Hid (∀ W, Turn No w6 W → Calls Try.prog 79 #[.string x.v] W fun e w' => e = .returned (.string x.v) ∧ Turn No w6 w') := Lib.hid fun W t => (clone_turnH x.v hfx.2 W t).mono fun e w' h => ⟨h.1, h.2.2⟩
      have HF : Hid (∀ w2, Turn No w6 w2 → ∀ i, w2.frozen? ⟨rb, i, none⟩ = false) := Lib.hid fun w2 t i => (HQ.out.turn t).thawed hpos i
      have HX : Hid (∀ w2, Turn No w6 w2 → w2.cell? ⟨rb, m * 3, none⟩ = some (.string x.k) ∧ w2.cell? ⟨rb, m * 3 + 1, none⟩ = some (.string x.v)) := Lib.hid fun w2 t => by
        obtain ⟨rb', cur, hB, _, ha, hc⟩ := (HQ.out.turn t).lp.blk hpos
        obtain rfl : rb = rb' := by injection hB with e; injection e
        exact ⟨by rw [ha.cell]; exact hc _ _ hk0.out, by rw [ha.cell]; exact hc _ _ hk1.out⟩
      go_region_held3 (fun W => W.cell? ⟨g, 6, none⟩ = some (.slice (some ⟨rb, 0, none⟩) len c) ∧ W.cell? ⟨qb, 0, none⟩ = some (.string x.k) ∧ W.cell? ⟨qb, 1, none⟩ = some (.string x.v)) (first | (with_reducible exact hS0) | (with_reducible exact hT1.out _ hz.out) | (with_reducible exact hT2.out _ hz.out) | (with_reducible exact hS1.out _ hz.out) | (with_reducible exact hS1.out _ hy.out)) (first | (go_at_call 79; (with_reducible refine (C1.out _ (Turn.refl _ _).drew).mono ?_); rintro e wy ⟨rfl, hy⟩; replace hy := Lib.hid hy) | (go_at_call 79; (with_reducible refine (C2.out _ hy.out).mono ?_); rintro e wz ⟨rfl, hz⟩; replace hz := Lib.hid hz; have zf0 := HF.out _ hz.out (m * 3); have zf1 := HF.out _ hz.out (m * 3 + 1); have zc := HX.out _ hz.out; obtain ⟨zc0, zc1⟩ := zc))
      have HP := Lib.hid (((HQ.out.turn hz.out).same hpos _ _ hk0.out).same hpos _ _ hk1.out).lp
      generalize (wz.setCell ⟨rb, m * 3, none⟩ (.string x.k)).setCell ⟨rb, m * 3 + 1, none⟩ (.string x.v) = w7 at HP ⊢
      clear hS1 hT1 hT2 C1 C2 HF HX HQ hS0 hz hy zf0 zf1 zc0 zc1 hk0 hk1
      go_wp2_with fail
      exact ⟨⟨m + 1, by omega, by go_num, HP⟩, by simp [RowKit.intOf]; omega⟩
    · have hE : m = len := by omega
      subst hE
      have e0 := HP.out.bx.b.cell 0
      have e1 := HP.out.bx.b.cell 1
      have e2 := HP.out.bx.b.cell 2
      have e3 := HP.out.bx.b.cell 3
      have e4 := HP.out.bx.b.cell 4
      have e5 := HP.out.bx.b.cell 5
      have e6 := HP.out.bx.b.cell 6
      have r0 := HP.out.bx.r.cell 0
      have r1 := HP.out.bx.r.cell 1
      have r2 := HP.out.bx.r.cell 2
      have r3 := HP.out.bx.r.cell 3
      have r4 := HP.out.bx.r.cell 4
      have r5 := HP.out.bx.r.cell 5
      have r6 := HP.out.bx.r.cell 6
      have z0 := HP.out.bx.r.thawed 0
      have z1 := HP.out.bx.r.thawed 1
      have z2 := HP.out.bx.r.thawed 2
      have z3 := HP.out.bx.r.thawed 3
      have z4 := HP.out.bx.r.thawed 4
      have z5 := HP.out.bx.r.thawed 5
      have z6 := HP.out.bx.r.thawed 6
      simp [opc, op0] at e0 e1 e2 e3 e4 e5 e6 r0 r1 r2 r3 r4 r5 r6
      go_wp2_with fail
      clear e0 e1 e2 e3 e4 e5 e6 r0 r1 r2 r3 r4 r5 r6 z0 z1 z2 z3 z4 z5 z6
      (try simp only [Exit.inBlock, Exit.then])
      have HE := HP.out.bx.put7 (v0 := .int .u8 kind) (v1 := .string k) (v2 := .string v) (v3 := .string o) (v4 := .bool had) (v5 := .bool aft) (v6 := .slice B m c) rfl
      refine bodyPost_ret (results_cell_row rfl _ _ (g + 1) 34 _ (0, 0) _ (by rfl) HE.2.2 Try.underlying34 rfl (by kernel_rfl)) rfl ?_
      refine ⟨B, c, rfl, HE.1, own_grown HP.out.row HE.2.1 fun kk hk e => ?_⟩
      subst e
      rcases HP.out.row.2 with ⟨hv, _⟩ | ⟨rb, cp, cur, hv, _, hg, _⟩
      · injection hv with hA; subst hA; cases hk
      · injection hv with hA
        subst hA
        injection hk with hk
        subst hk
        have := HP.out.bx.r.eq hg
        injection this with _ e
        cases e
end Go.Proofs.Ytllppkfeiifklaa
namespace Go.Proofs.Ytllppkfeiifklaa
open Go.RowKit Go.Lib
set_option linter.unusedVariables false
set_option maxRecDepth 20000
set_option linter.unusedSimpArgs false


set_option maxHeartbeats 1000000 in
theorem iszero_any (kind : Int) (k v o : ByteArray) (had aft : Bool) (A : Option Addr) (len cap : Nat) (w : World) :
    Calls Try.prog 87 #[.agg #[.int .u8 kind, .string k, .string v, .string o, .bool had, .bool aft, .slice A len cap]] w fun e w' =>
      e = .returned (.bool (zeroB kind k v o had aft len)) ∧ Turn No w w' := by
  go_enter Try.func87, Try.ntmps87
  go_wp2_with fail
  all_goals
    go_ret
    refine ⟨?_, (Turn.refl _ _).alloc _⟩
    simp_all [zeroB]

set_option maxHeartbeats 1000000 in
theorem bare_any (kind : Int) (k v o : ByteArray) (had aft : Bool) (A : Option Addr) (len cap : Nat) (w : World) :
    Calls Try.prog 99 #[.agg #[.int .u8 kind, .string k, .string v, .string o, .bool had, .bool aft, .slice A len cap]] w fun e w' =>
      e = .returned (.bool (zeroB kind k v o had aft len)) ∧ Turn No w w' := by
  go_enter Try.func99, Try.ntmps99
  go_wp2_with fail
  all_goals
    go_ret
    refine ⟨?_, (Turn.refl _ _).alloc _⟩
    simp_all [zeroB]
end Go.Proofs.Ytllppkfeiifklaa
