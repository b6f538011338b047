/-
  ArtnodePlays' state: the node and the document's side by side.
-/
import Derived.Test.YtijlcehjlacihaaWAl
import Derived.Test.YtijlcehjlacihaaRo
namespace Go.Proofs.Ytijlcehjlacihaa
open Go.RowKit Go.Lib
set_option linter.unusedVariables false
set_option maxRecDepth 20000
set_option linter.unusedSimpArgs false

/-- The node at a and the document's at rb, in a world that has turned since w0 only where both lie. -/
structure Sm (w0 w : World) (Z : Dom) (a rb k kr : Nat) (L Lr : List (Nat × Int)) : Prop where
  nd : NI.Nd w Z a k L
  rf : RefE w rb Lr kr
  hz : Z.n ≤ w.heap.size
  not_ : ¬ Z.ok rb
  lo : ∀ i, Z.ok i → w0.heap.size ≤ i
  lr : w0.heap.size ≤ rb
  tn : Turn No w0 w
section
variable {w0 w : World} {Z : Dom} {a rb k kr : Nat} {L Lr : List (Nat × Int)}
theorem Sm.no (h : Sm w0 w Z a rb k kr L Lr) {W : World} (T : Turn No w W) : Sm w0 W Z a rb k kr L Lr := ⟨h.nd.no T, h.rf.no T, Nat.le_trans h.hz T.size, h.not_, h.lo, h.lr, h.tn.trans T⟩
theorem tys65 : (65 : TypeId) ∉ NI.tys := by decide
theorem tys29 : (29 : TypeId) ∉ NI.tys := by decide
theorem Sm.nz (h : Sm w0 w Z a rb k kr L Lr) {W : World} {k' : Nat} {L' : List (Nat × Int)} (hn : NI.Nd W Z a k' L') (T : NI.Nz Z w W) : Sm w0 W Z a rb k' kr L' Lr :=
  ⟨hn, h.rf.turn T (NI.notn_lt h.not_), Nat.le_trans h.hz T.size, h.not_, h.lo, h.lr, no_of h.tn T fun i hi => h.lo i hi.1⟩
theorem Sm.rz (h : Sm w0 w Z a rb k kr L Lr) {W : World} {k' : Nat} {L' : List (Nat × Int)} (hr : RefE W rb L' k') (T : Turn (fun i => i = rb) w W) : Sm w0 W Z a rb k k' L L' :=
  ⟨Nd_keep h.nd T fun g _ hg e => h.not_ (e ▸ hg), hr, Nat.le_trans h.hz T.size, h.not_, h.lo, h.lr, no_of h.tn T fun i hi => by cases hi; exact h.lr⟩
theorem Sm.box_nz {B : Nat} {c : Array Value} {W : World} (hB : At w B (.cells c 29 (0, 0))) (T : NI.Nz Z w W) : At W B (.cells c 29 (0, 0)) := NI.At.nz hB T (NI.notn_ty hB tys29 (by decide))
theorem Sm.box_rz (h : Sm w0 w Z a rb k kr L Lr) {B : Nat} {c : Array Value} {W : World} (hB : At w B (.cells c 29 (0, 0))) (T : Turn (fun i => i = rb) w W) : At W B (.cells c 29 (0, 0)) := hB.turn T fun e => by
  obtain ⟨c', hr⟩ := h.rf
  exact hB.ne hr.at_ (fun e => by injection e with _ e; revert e; decide) e
theorem Sm.set (h : Sm w0 w Z a rb k kr L Lr) {B : Nat} {c : Array Value} (hB : At w B (.cells c 29 (0, 0))) (b : Nat) (hb : b < 256) (x : Int) :
    Calls Try.prog 11 #[.pointer (some ⟨a, 0, none⟩), .int .u8 (b : Int), .int .i64 x] w fun e w' => e = .returned (.bool (getC L b).isNone) ∧ Sm w0 w' Z a rb (NI.kup L k b) kr (putC L b x) Lr ∧ At w' B (.cells c 29 (0, 0)) :=
  (NI.set_any h.nd h.hz b x hb).mono fun e w' q => ⟨q.1, h.nz q.2.1 q.2.2, Sm.box_nz hB q.2.2⟩
theorem Sm.rset (h : Sm w0 w Z a rb k kr L Lr) (hk : kr = 4 ∨ kr = 16 ∨ kr = 48 ∨ kr = 256) (hle : Lr.length ≤ kr) {B : Nat} {c : Array Value} (hB : At w B (.cells c 29 (0, 0))) (b : Nat) (hb : b < 256) (x : Int) :
    Calls Try.prog 12 #[.pointer (some ⟨rb, 0, none⟩), .int .u8 (b : Int), .int .i64 x] w fun e w' => e = .returned (.bool (getC Lr b).isNone) ∧ Sm w0 w' Z a rb k (NI.kup Lr kr b) L (putC Lr b x) ∧ At w' B (.cells c 29 (0, 0)) := by
  obtain ⟨c', hr⟩ := h.rf
  exact (rset_any hr hk hle b x hb).mono fun e w' q => ⟨q.1, h.rz q.2.1 q.2.2, h.box_rz hB q.2.2⟩
theorem Sm.drop (h : Sm w0 w Z a rb k kr L Lr) {B : Nat} {c : Array Value} (hB : At w B (.cells c 29 (0, 0))) (b : Nat) (hb : b < 256) :
    Calls Try.prog 13 #[.pointer (some ⟨a, 0, none⟩), .int .u8 (b : Int)] w fun e w' => e = .returned (.bool (getC L b).isSome) ∧ Sm w0 w' Z a rb (if (getC L b).isSome then NI.kdn L k b else k) kr (delC L b) Lr ∧ At w' B (.cells c 29 (0, 0)) :=
  (NI.drop_any h.nd h.hz b hb).mono fun e w' q => ⟨q.1, h.nz q.2.1 q.2.2, Sm.box_nz hB q.2.2⟩
theorem Sm.rdrop (h : Sm w0 w Z a rb k kr L Lr) (hk : kr = 4 ∨ kr = 16 ∨ kr = 48 ∨ kr = 256) {B : Nat} {c : Array Value} (hB : At w B (.cells c 29 (0, 0))) (b : Nat) (hb : b < 256) :
    Calls Try.prog 14 #[.pointer (some ⟨rb, 0, none⟩), .int .u8 (b : Int)] w fun e w' => e = .returned (.bool (getC Lr b).isSome) ∧ Sm w0 w' Z a rb k (if (getC Lr b).isSome then NI.kdn Lr kr b else kr) L (delC Lr b) ∧ At w' B (.cells c 29 (0, 0)) := by
  obtain ⟨c', hr⟩ := h.rf
  exact (rdrop_any hr hk b hb).mono fun e w' q => ⟨q.1, h.rz q.2.1 q.2.2, h.box_rz hB q.2.2⟩
theorem Sm.from_ (h : Sm w0 w Z a rb k kr L Lr) (bi : Int) {x y z : Value} (hf : NI.fromV (nxtC L bi.toNat) = .tuple #[x, y, z]) :
    Calls Try.prog 15 #[.pointer (some ⟨a, 0, none⟩), .int .i64 bi] w fun e w' => e = .returned (.tuple #[x, y, z]) ∧ Turn No w w' :=
  (NI.from_any h.nd bi).mono fun e w' q => ⟨by rw [q.1, hf], q.2⟩
theorem Sm.rfrom (h : Sm w0 w Z a rb k kr L Lr) (bi : Int) {x y z : Value} (hf : NI.fromV (nxtC Lr bi.toNat) = .tuple #[x, y, z]) :
    Calls Try.prog 16 #[.pointer (some ⟨rb, 0, none⟩), .int .i64 bi] w fun e w' => e = .returned (.tuple #[x, y, z]) ∧ Turn No w w' := by
  obtain ⟨c', hr⟩ := h.rf
  exact (rfrom_any hr bi).mono fun e w' q => ⟨by rw [q.1, hf], q.2⟩
theorem Sm.alike (h : Sm w0 w Z a rb k k L L) : Calls Try.prog 17 #[.pointer (some ⟨a, 0, none⟩), .pointer (some ⟨rb, 0, none⟩)] w fun e w' => e = .returned (.bool true) ∧ Turn No w w' := alike_any h.nd h.rf
/-- One act's round: what the node makes of it and what the document's does. -/
theorem Sm.both_set (h : Sm w0 w Z a rb k k L L) {B : Nat} {c : Array Value} (hB : At w B (.cells c 29 (0, 0))) (b : Nat) (hb : b < 256) (x : Int) {s : Bool} (hs : (getC L b).isNone = s) :
    Calls Try.prog 11 #[.pointer (some ⟨a, 0, none⟩), .int .u8 (b : Int), .int .i64 x] w fun e w' => e = .returned (.bool s) ∧ At w' B (.cells c 29 (0, 0)) ∧
      ∀ W, Turn No w' W → Calls Try.prog 12 #[.pointer (some ⟨rb, 0, none⟩), .int .u8 (b : Int), .int .i64 x] W fun e w2 => e = .returned (.bool s) ∧ At w2 B (.cells c 29 (0, 0)) ∧ ∃ k' L', Sm w0 w2 Z a rb k' k' L' L' :=
  (h.set hB b hb x).mono fun e w' q => ⟨by rw [q.1, hs], q.2.2, fun W T => ((q.2.1.no T).rset h.nd.kind h.nd.ok.1 (q.2.2.no T) b hb x).mono fun e w2 q2 => ⟨by rw [q2.1, hs], q2.2.2, _, _, q2.2.1⟩⟩
theorem Sm.both_drop (h : Sm w0 w Z a rb k k L L) {B : Nat} {c : Array Value} (hB : At w B (.cells c 29 (0, 0))) (b : Nat) (hb : b < 256) {s : Bool} (hs : (getC L b).isSome = s) :
    Calls Try.prog 13 #[.pointer (some ⟨a, 0, none⟩), .int .u8 (b : Int)] w fun e w' => e = .returned (.bool s) ∧ At w' B (.cells c 29 (0, 0)) ∧
      ∀ W, Turn No w' W → Calls Try.prog 14 #[.pointer (some ⟨rb, 0, none⟩), .int .u8 (b : Int)] W fun e w2 => e = .returned (.bool s) ∧ At w2 B (.cells c 29 (0, 0)) ∧ ∃ k' L', Sm w0 w2 Z a rb k' k' L' L' :=
  (h.drop hB b hb).mono fun e w' q => ⟨by rw [q.1, hs], q.2.2, fun W T => ((q.2.1.no T).rdrop h.nd.kind (q.2.2.no T) b hb).mono fun e w2 q2 => ⟨by rw [q2.1, hs], q2.2.2, _, _, q2.2.1⟩⟩
end
end Go.Proofs.Ytijlcehjlacihaa
