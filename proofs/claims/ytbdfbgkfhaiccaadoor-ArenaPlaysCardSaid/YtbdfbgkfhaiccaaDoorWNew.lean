/-
  What slices.Repeat of one number, NewPool and New come to.
-/
import Derived.Test.YtbdfbgkfhaiccaaDoorWPoolB
import Derived.Test.YtbdfbgkfhaiccaaDoorShelf
import Derived.OwnWalk
import Derived.Laws.CopyOwn
import Derived.Deep.RegionWith
import Derived.Deep.CutRange
namespace Go.Proofs.YtbdfbgkfhaiccaaDoor
open Go.RowKit
set_option linter.unusedVariables false

theorem info30 : (Tryd.prog.info? 30).map (fun i => (i.zero, i.size, i.bytes)) = some (some (.int .u64 0), 1, 8) := by kernel_rfl

theorem make_u64 (n : Nat) (h : n ≤ 4096) (w : World) :
    (Instr.makeSlice 82 (.int .i64 (n : Int)) (.int .i64 (n : Int))).run Tryd.prog w = .ok (.slice (some ⟨w.heap.size, 0, none⟩) n n) (w.alloc (.cells (u64s (List.replicate n 0)) 30)) := by
  obtain ⟨i0, hi, hz0, hz1, hz2⟩ := info_parts info30
  have := run_makeSlice (P := Tryd.prog) w 82 30 i0 (.int .u64 0) Tryd.underlying82 hi hz0 .i64 .i64 n n (by omega) (by omega) (by rw [hz1]; omega) (by rw [hz2]; omega) (by omega)
  rw [this]
  have e : madeCells (Value.cells (.int .u64 0)) (Int.toNat (n : Int) * i0.size) = u64s (List.replicate n 0) := by
    rw [hz1, Nat.mul_one, Int.toNat_natCast]
    apply Array.toList_inj.1
    show (madeCells #[.int .u64 0] n).toList = _
    rw [toList_madeCells_one]
    simp [u64s]
  rw [e]
  simp

def ones (m n : Nat) : List Nat := List.replicate m 1 ++ List.replicate (n - m) 0
theorem ones_len (m n : Nat) (h : m ≤ n) : (ones m n).length = n := by simp [ones]; omega
theorem ones_at (m n j : Nat) (h : j < m) : (ones m n)[j]? = some 1 := by
  simp [ones, List.getElem?_append, h]

theorem u64s_size (l : List Nat) : (u64s l).size = l.length := by simp [u64s]
theorem ones_splice (m n k : Nat) (h : m + k ≤ n) : ((u64s (ones m n)).toList.take m ++ List.replicate k (Value.int .u64 1) ++ (u64s (ones m n)).toList.drop (m + (List.replicate k (Value.int .u64 1)).length)).toArray = u64s (ones (m + k) n) := by
  have e : (u64s (ones m n)).toList = List.replicate m (Value.int .u64 1) ++ List.replicate (n - m) (Value.int .u64 0) := by simp [u64s, ones]
  have e' : u64s (ones (m + k) n) = (List.replicate (m + k) (Value.int .u64 1) ++ List.replicate (n - (m + k)) (Value.int .u64 0)).toArray := by simp [u64s, ones]
  rw [e, e', List.length_replicate, List.take_append_of_le_length (by simp), List.take_replicate, Nat.min_self, List.drop_append, List.drop_replicate, List.drop_replicate, List.length_replicate]
  rw [show m - (m + k) = 0 by omega, show n - m - (m + k - m) = n - (m + k) by omega]
  simp only [List.replicate_zero, List.nil_append, List.replicate_append_replicate]
theorem copy_u64 {w : World} {g m n k : Nat} {ad : Addr} {sLen sCap : Nat} (hg : At w g (.cells (u64s (ones m n)) 30 (0, 0))) (hmk : m + k ≤ n) (dCap : Nat) (hk : k = Nat.min sLen (n - m))
    (hsrc : ∀ j, j < k → w.cell? (ad.add j) = some (.int .u64 1)) (ty : TypeId) :
    ∃ w', (Builtin.copy_ #[82, 82] ty #[.slice (some ⟨g, m, none⟩) (n - m) dCap, .slice (some ad) sLen sCap]).run Tryd.prog w = .ok (.int .i64 (k : Int)) w' ∧ At w' g (.cells (u64s (ones (m + k) n)) 30 (0, 0)) ∧ Turn (· = g) w w' := by
  obtain ⟨i0, hi, hz0, hz1, hz2⟩ := info_parts info30
  have hcs : (List.replicate k (Value.int .u64 1)).length = Nat.min sLen (n - m) := by simp [hk]
  have hr := run_copy_row (P := Tryd.prog) w 82 82 ty 30 g m (n - m) dCap ad sLen sCap (u64s (ones m n)) 30 (List.replicate k (.int .u64 1)) Tryd.underlying82 (by rw [hi]; simp [hz1]) hg hcs
    (fun j v hv => by
      obtain ⟨hj, hv'⟩ := List.getElem?_eq_some_iff.1 hv
      rw [List.getElem_replicate] at hv'
      rw [← hv']
      exact hsrc j (by simpa using hj))
    (by rw [u64s_size, ones_len m n (by omega)]; simp; omega) (fun v hv => by rw [(List.mem_replicate.1 hv).2]; rfl)
  refine ⟨w.setRow g (u64s (ones (m + k) n)), ?_, ?_, ?_⟩
  · rw [hr, ones_splice m n k hmk]
    simp [goInt]
  · exact setRow_heap w g _ _ 30 (0, 0) hg
  · exact ⟨rfl, rfl, rfl, by simp [World.setRow], fun i _ hi => setRow_other w g i _ hi⟩

def RepRel (w : World) (n : Nat) (m : Value) (wr : World) : Prop :=
  ∃ k : Nat, 1 ≤ k ∧ k ≤ n ∧ m = .int .i64 k ∧ At wr w.heap.size (.cells (u64s (ones k n)) 30 (0, 0)) ∧ Turn (fun _ => False) w wr

set_option maxRecDepth 100000 in
theorem repeat_any (xb n : Nat) (w : World) (h1 : 1 ≤ n) (h2 : n ≤ 4096) (hx : w.cell? ⟨xb, 0, none⟩ = some (.int .u64 1)) (hlt : xb < w.heap.size) :
    Calls Tryd.prog 33 #[.slice (some ⟨xb, 0, none⟩) 1 1, .int .i64 n] w fun e w' => e = .returned (.slice (some ⟨w.heap.size, 0, none⟩) n n) ∧ At w' w.heap.size (.cells (u64s (ones n n)) 30 (0, 0)) ∧ Turn (fun _ => False) w w' := by
  have g1 : decide ((9223372036854775807 : Int) < (n : Int)) = false := by simp only [decide_eq_false_iff_not]; omega
  have g2 : decide ((n : Int) < 0) = false := by simp
  have MU := Lib.hid (Tryd.bits_Mul 1 n (by omega) (by omega) w)
  rw [Nat.one_mul, Nat.div_eq_of_lt (by omega), Nat.mod_eq_of_lt (by omega)] at MU
  have hmk := make_u64 n h2 w
  have hnew : At (w.alloc (.cells (u64s (List.replicate n 0)) 30)) w.heap.size (.cells (u64s (ones 0 n)) 30 (0, 0)) := by
    have := At.new w (.cells (u64s (List.replicate n 0)) 30)
    simpa [ones] using this
  obtain ⟨w2, hcp, hat2, ht2⟩ := copy_u64 (ad := ⟨xb, 0, none⟩) (k := 1) (sLen := 1) (sCap := 1) hnew (by omega) n (by simp [Nat.min_def]; omega) (fun j hj => by
    obtain rfl : j = 0 := by omega
    exact (World.cell?_alloc_lt w _ _ hlt).trans hx) 3
  rw [Nat.sub_zero] at hcp
  have HA := Lib.hid (show RepRel w n (.int .i64 1) w2 from ⟨1, by omega, h1, rfl, hat2, ((Turn.refl _ w).alloc _).then ht2 (fun i hi he => by omega)⟩)
  clear hat2 ht2 hnew
  go_enter Tryd.func33, Tryd.ntmps33
  go_wp2_with fail
  refine MU.out.mono ?_
  rintro e w' ⟨rfl, hw⟩
  obtain rfl : w = w' := hw.symm
  go_wp2_with fail
  go_loopw [8] (fun m wr => RepRel w n m wr) (fun m _ => n - (intOf m).toNat)
  case atStart => exact HA.out
  case round =>
    obtain ⟨k, hk1, hk2, rfl, hat, ht⟩ := hrel
    by_cases hlt2 : k < n
    · have b1 : (0 : Int) ≤ (k : Int) := by omega
      have b2 : (k : Int) < (n : Int) := by omega
      have b3 : (k : Int) ≤ (n : Int) := by omega
      obtain ⟨w2, hcp, hat2, ht2⟩ := copy_u64 (w := wr.drew) (ad := ⟨w.heap.size, 0, none⟩) (m := k) (n := n) (k := min k (n - k)) (sLen := k) (sCap := n) hat (by omega) (n - k) rfl (fun j hj => by
        have hj' : j < k := by omega
        have := At.cell hat j
        rw [u64s_at _ _ (by rw [ones_len k n hk2]; omega)] at this
        rw [List.getD_eq_getElem?_getD, ones_at k n j hj'] at this
        unfold Addr.add
        split
        · subst j; exact this
        · simpa using this) 3
      have HR := Lib.hid (show RepRel w n (.int .i64 ((k + min k (n - k) : Nat) : Int)) w2 from ⟨_, by omega, by omega, rfl, hat2, (ht.drew).then ht2 (fun i hi he => by omega)⟩)
      clear hat2 ht2 hat ht
      have b4 : min k (n - k) ≤ n - k := Nat.min_le_right _ _
      have b5 : 1 ≤ min k (n - k) := by omega
      generalize min k (n - k) = q at *
      go_wp2_with fail
      go_region
      go_wp2_with fail
      go_roundw
      case rel => exact HR.out
      case measure => simp [intOf]; omega
    · have b2 : ¬ (k : Int) < (n : Int) := by omega
      obtain rfl : k = n := by omega
      have HA := Lib.hid hat
      have HT := Lib.hid ht
      clear hat ht
      go_wp2_with fail
      go_ret
      exact ⟨rfl, HA.out, HT.out⟩
def NewRel (w : World) (n : Nat) (s : Value) (wx : World) : Prop :=
  ∃ pb gb fb, s = .pointer (some ⟨pb, 0, none⟩) ∧ Pool wx pb gb fb (ones n n) (fun _ => false) ∧ Turn (fun _ => False) w wx ∧ w.heap.size ≤ pb ∧ w.heap.size ≤ gb ∧ w.heap.size ≤ fb

theorem words_val (n : Nat) (h2 : n ≤ 4096) : IntKind.i64.wrap ((IntKind.i64.wrap (IntKind.i64.wrap ((n : Int) + 64) - 1)).tdiv 64) = (((n + 63) / 64 : Nat) : Int) := by
  rw [IntWalk.i64_in ((n : Int) + 64) (by omega), IntWalk.i64_in ((n : Int) + 64 - 1) (by omega), show ((n : Int) + 64 - 1) = ((n + 63 : Nat) : Int) by omega]
  have : ((n + 63 : Nat) : Int).tdiv 64 = (((n + 63) / 64 : Nat) : Int) := rfl
  rw [this, IntWalk.i64_in _ (by omega)]

theorem bitAt_zero (q x : Nat) : bitAt (List.replicate q 0) x = false := by
  unfold bitAt
  have : (List.replicate q 0).getD (x / 64) 0 = 0 := by
    rw [List.getD_eq_getElem?_getD, List.getElem?_replicate]
    split <;> rfl
  rw [this]
  simp

theorem newRel_mk {w wx : World} {n q pb gb fb : Nat} (h1 : 1 ≤ n) (h2 : n ≤ 4096) (hq : (n + 63) / 64 = q) (hp : At wx pb (.cells #[.slice (some ⟨gb, 0, none⟩) n n, .slice (some ⟨fb, 0, none⟩) q q] 85 (0, 0)))
    (hg : At wx gb (.cells (u64s (ones n n)) 30 (0, 0))) (hf : At wx fb (.cells (u64s (List.replicate q 0)) 30 (0, 0))) (hne : gb ≠ fb) (t : Turn (fun _ => False) w wx) (l1 : w.heap.size ≤ pb) (l2 : w.heap.size ≤ gb) (l3 : w.heap.size ≤ fb) :
    NewRel w n (.pointer (some ⟨pb, 0, none⟩)) wx := by
  refine ⟨pb, gb, fb, rfl, ⟨List.replicate q 0, ?_, hg, hf, hne, ?_, ?_, ?_, ?_, ?_, fun x => bitAt_zero q x, fun x h => by cases h⟩, t, l1, l2, l3⟩
  · rw [ones_len n n (Nat.le_refl _), List.length_replicate]; exact hp
  · intro x hx
    simp [ones] at hx
    omega
  · intro x hx
    rw [(List.mem_replicate.1 hx).2]
    omega
  · rw [ones_len n n (Nat.le_refl _), List.length_replicate, hq]
  · rw [ones_len n n (Nat.le_refl _)]; exact h1
  · rw [ones_len n n (Nat.le_refl _)]; exact h2

theorem Pool.congr {w : World} {pb gb fb : Nat} {G G' : List Nat} {fr fr' : Nat → Bool} (h : Pool w pb gb fb G fr) (hG : G = G') (hf : ∀ x, fr x = fr' x) : Pool w pb gb fb G' fr' := by
  have : fr = fr' := funext hf
  subst hG; subst this; exact h

def NewPost (w : World) (n : Nat) (e : Ending) (w' : World) : Prop :=
  ∃ pb gb fb, e = .returned (.tuple #[.pointer (some ⟨pb, 0, none⟩), .int .i64 0]) ∧ Pool w' pb gb fb (List.replicate n 1) (fun x => decide (x < n)) ∧ Turn (fun _ => False) w w' ∧ w.heap.size ≤ pb ∧ w.heap.size ≤ gb ∧ w.heap.size ≤ fb

theorem ones_full (n : Nat) : ones n n = List.replicate n 1 := by simp [ones]

set_option maxRecDepth 100000 in
theorem newPool_any (n : Nat) (w : World) (h1 : 1 ≤ n) (h2 : n ≤ 4096) : Calls Tryd.prog 8 #[.int .i64 n] w (NewPost w n) := by
  have g1 : decide ((n : Int) < 1) = false := by simp only [decide_eq_false_iff_not]; omega
  have g2 : decide ((4096 : Int) < (n : Int)) = false := by simp only [decide_eq_false_iff_not]; omega
  have RP := Lib.hid fun (w : World) (xb : Nat) => repeat_any xb n w h1 h2
  have hmk : ∀ w : World, (Instr.makeSlice 82 (.int .i64 (IntKind.i64.wrap ((IntKind.i64.wrap (IntKind.i64.wrap ((n : Int) + 64) - 1)).tdiv 64))) (.int .i64 (IntKind.i64.wrap ((IntKind.i64.wrap (IntKind.i64.wrap ((n : Int) + 64) - 1)).tdiv 64)))).run Tryd.prog w = .ok (.slice (some ⟨w.heap.size, 0, none⟩) ((n + 63) / 64) ((n + 63) / 64)) (w.alloc (.cells (u64s (List.replicate ((n + 63) / 64) 0)) 30)) := fun w => by
    rw [words_val n h2]; exact make_u64 _ (by omega) w
  obtain ⟨q, hq⟩ : ∃ q, (n + 63) / 64 = q := ⟨_, rfl⟩
  rw [hq] at hmk
  have HQ := Lib.hid hq
  clear hq
  go_enter Tryd.func8, Tryd.ntmps8
  go_upto_region 3 with (fail)
  go_cut [4] from 12 to 21 (fun s wx => NewRel w n s wx)
  case first =>
    go_region_with (go_at_call 33; refine (RP.out _ _ (by simp) (by simp <;> omega)).mono ?_; rintro e w1 ⟨rfl, hat, ht⟩)
    all_goals (go_wp2_with fail; go_meet)
    · have e : (w.alloc (.cells #[.int .u64 1] 30)).drew.heap.size = w.heap.size + 1 := by simp
      rw [e] at hat
      have t1 : Turn (fun _ => False) w w1 := (((Turn.refl _ w).alloc _).drew).trans ht
      have hl := hat.lt
      refine newRel_mk h1 h2 HQ.out ?_ ((hat.turn (((Turn.refl (fun _ => False) _).alloc _).alloc _) (fun h => h))) ((At.new w1 _).turn ((Turn.refl (fun _ => False) _).alloc _) (fun h => h)) (by omega) ((t1.alloc _).alloc _) (by omega) (by omega) (by omega)
      have := At.new (w1.alloc (.cells (u64s (List.replicate q 0)) 30)) (.cells #[.slice (some ⟨w.heap.size + 1, 0, none⟩) n n, .slice (some ⟨w1.heap.size, 0, none⟩) q q] 85)
      simpa using this
    · have e : ((w.alloc (.cells #[.int .u64 1] 30)).alloc (.cells (u64s (List.replicate q 0)) 30)).drew.heap.size = w.heap.size + 1 + 1 := by simp
      rw [e] at hat
      have t1 : Turn (fun _ => False) w w1 := ((((Turn.refl _ w).alloc _).alloc _).drew).trans ht
      have hl := hat.lt
      have hz : At w1 (w.heap.size + 1) (.cells (u64s (List.replicate q 0)) 30 (0, 0)) := by
        have := At.new (w.alloc (.cells #[.int .u64 1] 30)) (.cells (u64s (List.replicate q 0)) 30)
        have e2 : (w.alloc (.cells #[.int .u64 1] 30)).heap.size = w.heap.size + 1 := by simp
        rw [e2] at this
        exact this.turn (((Turn.refl (fun _ => False) _).drew).trans ht) (fun h => h)
      exact newRel_mk h1 h2 HQ.out (At.new w1 _) (hat.turn ((Turn.refl (fun _ => False) _).alloc _) (fun h => h)) (hz.turn ((Turn.refl (fun _ => False) _).alloc _) (fun h => h)) (by omega) (t1.alloc _) (by omega) (by omega) (by omega)
    · have e : ((w.alloc (.cells (u64s (List.replicate q 0)) 30)).alloc (.cells #[.int .u64 1] 30)).drew.heap.size = w.heap.size + 1 + 1 := by simp
      rw [e] at hat
      have t1 : Turn (fun _ => False) w w1 := ((((Turn.refl _ w).alloc _).alloc _).drew).trans ht
      have hl := hat.lt
      have hz : At w1 w.heap.size (.cells (u64s (List.replicate q 0)) 30 (0, 0)) := by
        have := At.new w (.cells (u64s (List.replicate q 0)) 30)
        exact this.turn (((Turn.refl (fun _ => False) _).alloc _).drew.trans ht) (fun h => h)
      exact newRel_mk h1 h2 HQ.out (At.new w1 _) (hat.turn ((Turn.refl (fun _ => False) _).alloc _) (fun h => h)) (hz.turn ((Turn.refl (fun _ => False) _).alloc _) (fun h => h)) (by omega) (t1.alloc _) (by omega) (by omega) (by omega)
  case rest =>
    obtain ⟨pb, gb, fb, rfl, hp, ht, l1, l2, l3⟩ := hcut
    have HP := Lib.hid hp
    have HT := Lib.hid ht
    clear hp ht hmk RP
    go_wp2_with fail
    go_loopw [23] (fun i wr => ∃ k : Nat, k ≤ n ∧ i = .int .i64 k ∧ Hid (Pool wr pb gb fb (ones n n) (fun x => decide (x < k))) ∧ Hid (Turn (fun _ => False) w wr)) (fun i _ => n - (intOf i).toNat)
    case atStart => exact ⟨0, Nat.zero_le _, rfl, HP.out.congr rfl (fun x => by simp), HT⟩
    case round =>
      obtain ⟨k, hk, rfl, hpo, hto⟩ := hrel
      by_cases hlt : k < n
      · have b1 : (k : Int) < (n : Int) := by omega
        have SF := Lib.hid (setFree_any hpo.out (s := k) (by rw [ones_len n n (Nat.le_refl _)]; exact hlt))
        go_wp2_with fail
        refine SF.out.mono ?_
        rintro e w1 ⟨rfl, hp1, ht1⟩
        have HP1 := Lib.hid hp1
        have HT1 := Lib.hid ht1
        clear hp1 ht1
        go_wp2_with fail
        go_roundw
        case rel => exact ⟨k + 1, by omega, by go_num, HP1.out.congr rfl (fun x => by rw [Bool.eq_iff_iff]; simp; omega), hto.out.then HT1.out (fun i hi he => by omega)⟩
        case measure => simp [intOf]; omega
      · have b1 : ¬ (k : Int) < (n : Int) := by omega
        obtain rfl : k = n := by omega
        go_wp2_with fail
        go_ret2
        exact ⟨pb, gb, fb, rfl, hpo.out.congr (ones_full _) (fun x => rfl), hto.out, l1, l2, l3⟩

theorem newPool_no (n : Int) (w : World) (h : n < 1 ∨ 4096 < n) :
    Calls Tryd.prog 8 #[.int .i64 n] w fun e w' => e = .returned (.tuple #[.pointer none, .int .i64 1]) ∧ w = w' := by
  rcases h with h | h
  · go_enter Tryd.func8, Tryd.ntmps8
    go_wp2_with fail
    go_ret2
    exact ⟨rfl, rfl⟩
  · have h' : ¬ n < 1 := by omega
    go_enter Tryd.func8, Tryd.ntmps8
    go_wp2_with fail
    go_ret2
    exact ⟨rfl, rfl⟩
end Go.Proofs.YtbdfbgkfhaiccaaDoor
