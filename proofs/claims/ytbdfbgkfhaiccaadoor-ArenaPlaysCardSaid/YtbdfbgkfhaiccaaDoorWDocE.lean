/-
  What NewPool of the document comes to.
-/
import Derived.Test.YtbdfbgkfhaiccaaDoorWDocD
namespace Go.Proofs.YtbdfbgkfhaiccaaDoor
open Go.RowKit Go.Maps
set_option linter.unusedVariables false

theorem dnew_low (n : Int) (w : World) (h : n < 1) : Calls Tryd.prog 23 #[.int .i64 n] w fun e w' => e = .returned (.tuple #[.pointer none, .int .i64 1]) ∧ w' = w := by
  have k0 : decide (n < 1) = true := by simp; omega
  go_enter Tryd.func23, Tryd.ntmps23
  go_wp2_with fail
  go_ret2
  exact ⟨rfl, rfl⟩
theorem dnew_high (n : Int) (w : World) (h : 4096 < n) : Calls Tryd.prog 23 #[.int .i64 n] w fun e w' => e = .returned (.tuple #[.pointer none, .int .i64 1]) ∧ w' = w := by
  have k0 : decide (n < 1) = false := by simp; omega
  have k1 : decide ((4096 : Int) < n) = true := by simp; omega
  go_enter Tryd.func23, Tryd.ntmps23
  go_wp2_with fail
  go_ret2
  exact ⟨rfl, rfl⟩

/-- A slot that nobody has. -/
def sl0 : Sl := ⟨1, 0, ⟨#[]⟩⟩

structure NewSt (w wr : World) (qb : Nat) (A : Option Addr) (m cap : Nat) : Prop where
  hd : At wr qb (.cells #[.slice A m cap] 66 (0, 0))
  row : Srow w.heap.size wr (.slice A m cap) (List.replicate m sl0)
  old : Turn (fun _ => False) w wr
  new : w.heap.size ≤ qb

set_option maxRecDepth 100000 in
set_option maxHeartbeats 1000000 in
theorem dnew_any (n : Nat) (w : World) (h1 : 1 ≤ n) (h2 : n ≤ 4096) :
    Calls Tryd.prog 23 #[.int .i64 (n : Int)] w fun e w' => ∃ qb lb cap, e = .returned (.tuple #[.pointer (some ⟨qb, 0, none⟩), .int .i64 0]) ∧ Doc w' qb lb cap (List.replicate n sl0) ∧ Turn (fun _ => False) w w' ∧ w.heap.size ≤ qb ∧ w.heap.size ≤ lb := by
  have k0 : decide ((n : Int) < 1) = false := by simp; omega
  have k1 : decide ((4096 : Int) < (n : Int)) = false := by simp; omega
  have HI : Hid (NewSt w (w.alloc (.cells #[.slice none 0 0] 66)) w.heap.size none 0 0) := Lib.hid ⟨At.new w _, Srow.start _ _, (Turn.refl _ w).alloc _, Nat.le_refl _⟩
  go_enter Tryd.func23, Tryd.ntmps23
  go_wp2_with fail
  generalize w.heap.size = qb at HI ⊢
  go_loopw [5] (fun i wr => ∃ (j : Nat) (A : Option Addr) (cap : Nat), j ≤ n ∧ i = .int .i64 (j : Int) ∧ Hid (NewSt w wr qb A j cap)) (fun i _ => n - (intOf i).toNat)
  case atStart => exact ⟨0, none, 0, Nat.zero_le _, rfl, HI⟩
  case round =>
    obtain ⟨j, A, cap, hj, rfl, hst⟩ := hrel
    clear HI
    have hh : wr.cell? ⟨qb, 0, none⟩ = some (.slice A j cap) := by simpa using hst.out.hd.cell 0
    by_cases hlt : j < n
    · have hkl : (j : Int) < (n : Int) := by omega
      have tz : Turn (fun _ => False) wr (wr.alloc (.cells #[.int .u64 1, .int .i64 0, .string ⟨#[]⟩] 110)) := (Turn.refl _ wr).alloc _
      have hB := At.new wr (.cells #[.int .u64 1, .int .i64 0, .string ⟨#[]⟩] 110)
      have hrow := hst.out.row.turn tz (fun _ _ _ _ h => h)
      obtain ⟨A', cap', w8, hrunA, hR8, htA⟩ := hrow.append ⟨wr.heap.size, 0, none⟩ 1 1 [sl0] rfl (by
        intro k u hu
        have : (flat3 [sl0])[k]? = (#[Value.int .u64 1, .int .i64 0, .string ⟨#[]⟩] : Array Value)[k]? := by
          match k with
          | 0 => rfl
          | 1 => rfl
          | 2 => rfl
          | k + 3 => simp [flat3, scells]
        have hadd : (⟨wr.heap.size, 0, none⟩ : Addr).add k = ⟨wr.heap.size, k, none⟩ := by
          unfold Addr.add
          split
          · subst k; rfl
          · simp
        rw [hadd, hB.cell, ← this, hu]) (by rw [List.length_replicate]; omega) (Nat.le_trans hst.out.old.size tz.size) 64
      rw [List.length_replicate] at hrunA hR8
      rw [show List.replicate j sl0 ++ [sl0] = List.replicate (j + 1) sl0 from (List.replicate_succ' ..).symm] at hR8
      have nq : ∀ i, (Value.slice A j cap).ownBlock = some i → ¬ qb = i := fun i hi e => by
        obtain ⟨⟨c, hc⟩, _⟩ := hrow.own hi
        exact (hst.out.hd.turn tz (fun h => h)).ne hc (by intro e; injection e with _ e; cases e) e
      have hd8 := (hst.out.hd.turn tz (fun h => h)).turn htA (fun e => nq qb e rfl)
      have ho8 : Turn (fun _ => False) w w8 := (hst.out.old.trans tz).then htA (fun i hi e => by have := (hrow.own e).2.1; omega)
      have c8 : w8.cell? ⟨qb, 0, none⟩ = some (.slice A j cap) := by simpa using hd8.cell 0
      have z8 := hd8.thawed 0
      have HE : Hid (NewSt w (w8.setCell ⟨qb, 0, none⟩ (.slice A' (j + 1) cap')) qb A' (j + 1) cap') := Lib.hid (by
        have tq : Turn (· = qb) w8 (w8.setCell ⟨qb, 0, none⟩ (.slice A' (j + 1) cap')) := (Turn.refl (fun i => i = qb) w8).setCell (p := ⟨qb, 0, none⟩) (Or.inl rfl) _
        refine ⟨by simpa using hd8.set 0 (.slice A' (j + 1) cap'), hR8.turn tq (fun i c hc _ e => ?_), ho8.then tq (fun i hi e => by have := hst.out.new; omega), hst.out.new⟩
        subst e
        exact hd8.ne hc (by intro e; injection e with _ e; cases e) rfl)
      have HR := Lib.hid hrunA
      clear tz hB hrow hrunA hR8 htA nq hd8 ho8 hst
      go_wp2_with (at_builtin; refine wpList_append_run rfl _ _ 64 rfl _ _ _ rfl rfl HR.out ?_)
      go_roundw
      case rel => exact ⟨j + 1, A', cap', by omega, by go_num, HE⟩
      case measure => simp [intOf]; omega
    · have hd : decide ((j : Int) < (n : Int)) = false := by simp; omega
      obtain rfl : j = n := by omega
      go_wp2_with fail
      go_ret2
      have hs := hst.out
      obtain ⟨lb, hlb, hD⟩ := Doc.of_row hs.hd hs.row (by rw [List.length_replicate]; omega) (by rw [List.length_replicate]; omega) (fun s hs => by
        rw [(List.mem_replicate.1 hs).2]; exact ⟨by decide, by decide⟩)
      exact ⟨qb, lb, cap, rfl, hD, hs.old, hs.new, hlb⟩
end Go.Proofs.YtbdfbgkfhaiccaaDoor
