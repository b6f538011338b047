/-
  What ranging over All tells.
-/
import Derived.Test.YtijlcehjlacihaaAlI
import Derived.RangeFuncBox
import Derived.RangeFuncLeaves
import Derived.Shelf.Abstract
import Derived.OwnWalkIn
import Derived.TacticsInMore
import Derived.LoopNIn
import Derived.LoopIn
namespace Go.Proofs.Ytijlcehjlacihaa
open Go.RowKit Go.Lib
set_option linter.unusedVariables false
set_option maxRecDepth 20000
set_option linter.unusedSimpArgs false

namespace NI
open Go.Shelf
attribute [local go_sem] Oper.semAt_some
def tX (lb : Nat) (A B : Option Addr) (i : Nat) : Prop := i = lb ∨ ablk A = some i ∨ ablk B = some i
/-- What lies in a list's blocks. -/
structure Tel (W : World) (lb : Nat) (L : List (Nat × Int)) (A B : Option Addr) (ca cb : Nat) : Prop where
  c0 : W.cell? ⟨lb, 0, none⟩ = some (.slice A L.length ca)
  c1 : W.cell? ⟨lb, 1, none⟩ = some (.slice B L.length cb)
  el : ∀ (j : Nat) p, L[j]? = some p → ∃ ab ao bb bo, A = some ⟨ab, ao, none⟩ ∧ B = some ⟨bb, bo, none⟩ ∧ W.cell? ⟨ab, ao + j, none⟩ = some (.int .u8 (p.1 : Int)) ∧ W.cell? ⟨bb, bo + j, none⟩ = some (Value.int .i64 p.2)
theorem Tel.keep {W W' : World} {lb : Nat} {L : List (Nat × Int)} {A B : Option Addr} {ca cb : Nat} (h : Tel W lb L A B ca cb) (hk : ∀ i, tX lb A B i → W'.heap[i]? = W.heap[i]?) : Tel W' lb L A B ca cb := by
  refine ⟨(World.cell?_of_block (hk lb (.inl rfl))).trans h.c0, (World.cell?_of_block (hk lb (.inl rfl))).trans h.c1, fun j p hp => ?_⟩
  obtain ⟨ab, ao, bb, bo, rfl, rfl, h1, h2⟩ := h.el j p hp
  exact ⟨ab, ao, bb, bo, rfl, rfl, (World.cell?_of_block (hk ab (.inr (.inl rfl)))).trans h1, (World.cell?_of_block (hk bb (.inr (.inr rfl)))).trans h2⟩
theorem Col.tel {w0 w : World} {l : Nat} {L : List (Nat × Int)} (h : Col w0 w l L) : ∃ A B ca cb, Tel w l L A B ca cb ∧ ∀ i, tX l A B i → w0.heap.size ≤ i ∧ i < w.heap.size := by
  obtain ⟨A, B, ca, cb, hat, h1, h2, hl⟩ := h
  obtain ⟨c0, c1, _, _⟩ := at2 hat
  refine ⟨A, B, ca, cb, ⟨c0, c1, fun j p hp => ?_⟩, fun i hi => ?_⟩
  · obtain ⟨ab, ao, hA, k1⟩ := bcs_get (row_of_own h1) (ks_get hp)
    obtain ⟨bb, bo, hB, k2⟩ := vcs_at (row_of_own h2) hp
    exact ⟨ab, ao, bb, bo, hA, hB, k1, k2⟩
  · rcases hi with rfl | hi | hi
    · exact ⟨hl, hat.lt⟩
    · exact ⟨(own_at h1 hi).1, own_lt h1 hi⟩
    · exact ⟨(own_at h2 hi).1, own_lt h2 hi⟩
abbrev encP (p : Nat × Int) : Array Value := #[.int .u8 (p.1 : Int), Value.int .i64 p.2]
set_option maxRecDepth 100000 in
set_option maxHeartbeats 4000000 in
theorem allf_in (F : Fence) (n : Nat) (h8 : F.fn 38) (hro : F.round = none) (hn : 1 ≤ n) (l lb : Nat) (L : List (Nat × Int)) (hlen : L.length ≤ 1000) (A B : Option Addr) (ca cb : Nat) (J Jx : List (Nat × Int) → World → Prop)
    (hY : ∀ pre x W, J pre W → pre.length < L.length → YieldAt F (n - 1) Try.prog l (encP x) W fun e W' =>
      (e = .returned (.bool true) ∧ J (pre ++ [x]) W' ∧ ∀ i, tX lb A B i → W'.heap[i]? = W.heap[i]?) ∨ (e = .returned (.bool false) ∧ Jx (pre ++ [x]) W'))
    (W : World) (hT : Tel W lb L A B ca cb) (h0 : J [] W) :
    CallsIn F n Try.prog 38 #[.func (.yield l) #[] #[], .pointer (some ⟨lb, 0, none⟩)] W fun e W' => (∃ v, e = .returned v) ∧
      ((∃ ys, ys = L ∧ J ys W') ∨ (∃ pre, (∃ k, k ≤ L.length ∧ pre = L.take k) ∧ Jx pre W')) := by
  refine callsIn_of_wp Try.func38 rfl h8 ?_ hro
  simp only [Try.ntmps38, List.size_toArray, List.length_cons, List.length_nil, Nat.reduceAdd, Nat.reduceSub, Array.replicate_succ, Array.replicate_zero, List.push_toArray, List.append_toArray, List.nil_append, List.cons_append]
  have HT := Lib.hid hT
  obtain ⟨c0, _, _⟩ := hT
  obtain ⟨m, hm⟩ : ∃ m, L.length = m := ⟨_, rfl⟩
  rw [hm] at c0
  have HM := Lib.hid (And.intro hm hlen)
  clear hm
  gi_wp2
  gi_loopw [8] (fun i wr => ∃ k : Nat, k ≤ m ∧ i = .int .i64 (k : Int) ∧ J (L.take k) wr ∧ Tel wr lb L A B ca cb)
    (fun i _ => m - (RowKit.intOf i).toNat)
  case atStart => exact ⟨0, Nat.zero_le _, rfl, by simpa using h0, HT.out⟩
  case round =>
    clear c0
    obtain ⟨k, hk, rfl, hJs, hTr⟩ := hrel
    have hlk : (L.take k).length = k := by rw [List.length_take, HM.out.1]; omega
    by_cases hlt : k < m
    · obtain ⟨p, hp⟩ : ∃ p, L[k]? = some p := ⟨_, List.getElem?_eq_getElem (by rw [HM.out.1]; exact hlt)⟩
      obtain ⟨ab, ao, bb, bo, hA, hB, k1, k2⟩ := hTr.el k p hp
      have c1 := hTr.c1
      rw [HM.out.1] at c1
      have hs : L.take (k + 1) = L.take k ++ [p] := by rw [List.take_add_one, hp]; rfl
      obtain ⟨fn, tmps, assign, body, hy, hR⟩ := hY _ p wr hJs (by rw [hlk, HM.out.1]; exact hlt)
      have HTr := Lib.hid hTr
      have HS := Lib.hid hs
      clear hs hTr hp hJs hlk hY h0
      unfold encP at hy
      subst hA hB
      have hm1 : m ≤ 1000 := by rw [← HM.out.1]; exact HM.out.2
      have b1 : (0 : Int) ≤ (k : Int) := by omega
      have b2 : (k : Int) < (m : Int) := by omega
      have hw : IntKind.i64.wrap ((k : Int) + 1) = (k : Int) + 1 := IntWalk.i64_in _ ⟨by omega, by omega⟩
      gi_wp2
      refine hR.mono ?_
      rintro e W3 (⟨rfl, hJ3, hk3⟩ | ⟨rfl, hJx3⟩)
      · gi_wp2
        go_roundw
        case rel => exact ⟨k + 1, by omega, by first | (rw [hw]; rfl) | rfl, by rw [HS.out]; exact hJ3, HTr.out.keep hk3⟩
        case measure => simp [RowKit.intOf, hw]; omega
      · gi_wp2
        refine bodyPost_ret (results_none rfl _ _ _) rfl ?_
        exact ⟨⟨_, rfl⟩, .inr ⟨_, ⟨k + 1, by rw [HM.out.1]; omega, HS.out.symm⟩, hJx3⟩⟩
    · have hkm : k = m := by omega
      have hnl : ¬ ((k : Int) < (m : Int)) := by omega
      have HJ : Hid (J L wr) := Lib.hid (by rw [List.take_of_length_le (by rw [HM.out.1]; omega)] at hJs; exact hJs)
      clear hJs hTr hlk hkm
      gi_wp2
      go_end0
      first | exact ⟨⟨_, rfl⟩, .inl HJ.out⟩ | exact ⟨⟨_, rfl⟩, .inl ⟨_, rfl, HJ.out⟩⟩
theorem allf_stops (F : Fence) (n : Nat) (h8 : F.fn 38) (hro : F.round = none) (hn : 1 ≤ n) (lb : Nat) (L : List (Nat × Int)) (hlen : L.length ≤ 1000) (A B : Option Addr) (ca cb : Nat) (w : World) (hX : ∀ i, tX lb A B i → i < w.heap.size) (hT : Tel w lb L A B ca cb) :
    SeqStopsK F n Try.prog 38 #[.pointer (some ⟨lb, 0, none⟩)] encP (fun X Y => ∀ i, tX lb A B i → Y.heap[i]? = X.heap[i]?) (fun ys => ys = L) (fun pre => ∃ k, k ≤ L.length ∧ pre = L.take k) L.length w := fun l J Jx W hW _ _ hY h0 =>
  allf_in F n h8 hro hn l lb L hlen A B ca cb J Jx hY W (hT.keep fun i hi => hW.block i (hX i hi)) h0
theorem seqK_t {lb : Nat} {A B : Option Addr} {X Y Z : World} (h : ∀ i, tX lb A B i → Y.heap[i]? = X.heap[i]?) (k : ∀ i, tX lb A B i → Z.heap[i]? = Y.heap[i]?) : ∀ i, tX lb A B i → Z.heap[i]? = X.heap[i]? := fun i hi => (k i hi).trans (h i hi)
theorem seqK_b {lb : Nat} {A B : Option Addr} {w : World} (hX : ∀ i, tX lb A B i → i < w.heap.size) (W : World) (l : Nat) (o o' : Obj) (hl : w.heap.size ≤ l) (_ : W.heap[l]? = some o) (_ : o.isCells = false) (_ : o.isWalk = false) : ∀ i, tX lb A B i → (W.putObj l o').heap[i]? = W.heap[i]? := fun i hi => World.putObj_heap_other (by have := hX i hi; omega)
end NI
end Go.Proofs.Ytijlcehjlacihaa
