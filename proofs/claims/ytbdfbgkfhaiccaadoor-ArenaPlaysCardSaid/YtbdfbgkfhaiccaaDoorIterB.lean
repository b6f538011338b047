/-
  maps.Keys at the arenas of texts and of things, laid by the library; slices.Sorted of it.
-/
import Derived.Test.YtbdfbgkfhaiccaaDoorIter
namespace Go.Proofs
open Go.Shelf
def Tryd.keysS_ren : Go.Shelf.Ren := ⟨fun | 7 => 49 | 10 => 61 | n => n, fun | 23 => 87 | 26 => 3 | 3 => 95 | 28 => 107 | 0 => 0 | 27 => 106 | 33 => 47 | 4 => 4 | n => n, fun | n => n⟩
theorem Tryd.keysS : Go.Proofs.SlLaysZI.n7 Tryd.prog Tryd.keysS_ren := {
  mixed := by kernel_rfl
  f7 := ⟨Tryd.f49.name, by decide, Tryd.func49.trans (congrArg some (by kernel_rfl))⟩
  f10 := ⟨Tryd.f61.name, by decide, Tryd.func61.trans (congrArg some (by kernel_rfl))⟩
  t0 := Tryd.underlying0
  a0 := Tryd.isAgg0
  z0 := Tryd.sizeOf0
  v0 := Tryd.zeroValue0
  t4 := Tryd.underlying4
  a4 := Tryd.isAgg4
  z4 := Tryd.sizeOf4
  v4 := Tryd.zeroValue4
  t23 := Tryd.underlying87
  a23 := Tryd.isAgg87
  z23 := Tryd.sizeOf87
  v23 := Tryd.zeroValue87
  t26 := Tryd.underlying3
  a26 := Tryd.isAgg3
  z26 := Tryd.sizeOf3
  v26 := Tryd.zeroValue3
  t27 := Tryd.underlying106
  a27 := Tryd.isAgg106
  z27 := Tryd.sizeOf106
  v27 := Tryd.zeroValue106
  t28 := Tryd.underlying107
  a28 := Tryd.isAgg107
  z28 := Tryd.sizeOf107
  v28 := Tryd.zeroValue107
  t33 := Tryd.underlying47
  a33 := Tryd.isAgg47
  z33 := Tryd.sizeOf47
  v33 := Tryd.zeroValue47 }
def Tryd.keysT_ren : Go.Shelf.Ren := ⟨fun | 7 => 60 | 10 => 67 | n => n, fun | 23 => 111 | 26 => 3 | 3 => 132 | 28 => 107 | 0 => 0 | 27 => 106 | 33 => 47 | 4 => 4 | n => n, fun | n => n⟩
set_option maxRecDepth 100000 in
theorem Tryd.keysT : Go.Proofs.SlLaysZI.n7 Tryd.prog Tryd.keysT_ren := {
  mixed := by kernel_rfl
  f7 := ⟨Tryd.f60.name, by decide, Tryd.func60.trans (congrArg some (by kernel_rfl))⟩
  f10 := ⟨Tryd.f67.name, by decide, Tryd.func67.trans (congrArg some (by kernel_rfl))⟩
  t0 := Tryd.underlying0
  a0 := Tryd.isAgg0
  z0 := Tryd.sizeOf0
  v0 := Tryd.zeroValue0
  t4 := Tryd.underlying4
  a4 := Tryd.isAgg4
  z4 := Tryd.sizeOf4
  v4 := Tryd.zeroValue4
  t23 := Tryd.underlying111
  a23 := Tryd.isAgg111
  z23 := Tryd.sizeOf111
  v23 := Tryd.zeroValue111
  t26 := Tryd.underlying3
  a26 := Tryd.isAgg3
  z26 := Tryd.sizeOf3
  v26 := Tryd.zeroValue3
  t27 := Tryd.underlying106
  a27 := Tryd.isAgg106
  z27 := Tryd.sizeOf106
  v27 := Tryd.zeroValue106
  t28 := Tryd.underlying107
  a28 := Tryd.isAgg107
  z28 := Tryd.sizeOf107
  v28 := Tryd.zeroValue107
  t33 := Tryd.underlying47
  a33 := Tryd.isAgg47
  z33 := Tryd.sizeOf47
  v33 := Tryd.zeroValue47 }
end Go.Proofs
namespace Go.Proofs.YtbdfbgkfhaiccaaDoor
open Go.RowKit Go.Maps Go.Sort Go.Shelf
set_option linter.unusedVariables false
set_option maxHeartbeats 1000000 in
theorem sortedAtS : SortedAt 49 61 87 where
  keys := fun mb W => (callsIn_wide (n := 5)).1 (AnyZI.keys_in Tryd.keysS Fence.wide 5 trivial rfl mb W)
  sorted := fun w b n f h hn => by
    obtain ⟨D, ho, hs, hh, ha⟩ := h
    have hbl := ho.lt
    obtain ⟨hmem, hnd⟩ := mem_intKeys ho
    have hseq : SeqGives Fence.wide 2 Tryd.prog 61 #[.pointer (some ⟨w.heap.size, 0, none⟩)] encZ (fun ss => ss.Perm (intKeys D)) (Maps.size D) (w.alloc (.cells #[.map (some b)] 87)) :=
      AnyZI.keys_gives (ρ := Tryd.keysS_ren) { Tryd.keysS with } Fence.wide _ trivial rfl (by omega) w.heap.size b n D _ (by simp) (by simp) (by
        obtain ⟨es, clock, hb, Ft, hs, hD⟩ := ho
        exact ⟨es, clock, (Below.heap_alloc _ _ b hbl).trans hb, Ft, hs, hD⟩)
    have cS := AnyZI.sorted_in Tryd.sortedI Fence.wide 5 trivial trivial trivial trivial rfl (by omega) (sortsI _) (enters_of Tryd.func55 (by kernel_rfl) rfl) 61 #[.pointer (some ⟨w.heap.size, 0, none⟩)] trivial (enters_of Tryd.func61 (by kernel_rfl) rfl) _ _ (by unfold maxLen; omega) (by omega) _ hseq
    change CallsIn _ _ Tryd.prog 38 _ _ _ at cS
    refine ((callsIn_wide (n := 5)).1 cS).mono ?_
    rintro e w' ⟨v, ss, rfl, hS, hrow, hnil, hb⟩
    have hnd' : ss.Nodup := hS.nodup_iff.2 hnd
    refine ⟨v, ss.mergeSort (fun x y => decide (x ≤ y)), rfl, ?_, sort_rising hnd', ?_, Turn.of_below hb⟩
    · intro i
      rw [(List.mergeSort_perm ss _).mem_iff, hS.mem_iff, hmem i, hh i]
    · rw [(List.mergeSort_perm ss (fun x y => decide (x ≤ y))).length_eq]
      exact hrow
theorem sortedAtT : SortedAt 60 67 111 where
  keys := fun mb W => (callsIn_wide (n := 5)).1 (AnyZI.keys_in Tryd.keysT Fence.wide 5 trivial rfl mb W)
  sorted := fun w b n f h hn => by
    obtain ⟨D, ho, hs, hh, ha⟩ := h
    have hbl := ho.lt
    obtain ⟨hmem, hnd⟩ := mem_intKeys ho
    have hseq : SeqGives Fence.wide 2 Tryd.prog 67 #[.pointer (some ⟨w.heap.size, 0, none⟩)] encZ (fun ss => ss.Perm (intKeys D)) (Maps.size D) (w.alloc (.cells #[.map (some b)] 111)) :=
      AnyZI.keys_gives (ρ := Tryd.keysT_ren) { Tryd.keysT with } Fence.wide _ trivial rfl (by omega) w.heap.size b n D _ (by simp) (by simp) (by
        obtain ⟨es, clock, hb, Ft, hs, hD⟩ := ho
        exact ⟨es, clock, (Below.heap_alloc _ _ b hbl).trans hb, Ft, hs, hD⟩)
    have cS := AnyZI.sorted_in Tryd.sortedI Fence.wide 5 trivial trivial trivial trivial rfl (by omega) (sortsI _) (enters_of Tryd.func55 (by kernel_rfl) rfl) 67 #[.pointer (some ⟨w.heap.size, 0, none⟩)] trivial (enters_of Tryd.func67 (by kernel_rfl) rfl) _ _ (by unfold maxLen; omega) (by omega) _ hseq
    change CallsIn _ _ Tryd.prog 38 _ _ _ at cS
    refine ((callsIn_wide (n := 5)).1 cS).mono ?_
    rintro e w' ⟨v, ss, rfl, hS, hrow, hnil, hb⟩
    have hnd' : ss.Nodup := hS.nodup_iff.2 hnd
    refine ⟨v, ss.mergeSort (fun x y => decide (x ≤ y)), rfl, ?_, sort_rising hnd', ?_, Turn.of_below hb⟩
    · intro i
      rw [(List.mergeSort_perm ss _).mem_iff, hS.mem_iff, hmem i, hh i]
    · rw [(List.mergeSort_perm ss (fun x y => decide (x ≤ y))).length_eq]
      exact hrow
end Go.Proofs.YtbdfbgkfhaiccaaDoor
