/-
  Handles of an arena of one type of things.
-/
import Derived.Test.YtbdfbgkfhaiccaaDoorIter
import Derived.Test.YtbdfbgkfhaiccaaDoorWArT
namespace Go.Proofs.YtbdfbgkfhaiccaaDoor
open Go.RowKit Go.Maps
set_option linter.unusedVariables false

set_option maxRecDepth 100000 in
theorem handlesT {w : World} {ab mb n : Nat} {pp : Value} {M : Nat → Option (Nat × Value)} (SA : SortedAt 60 67 111) (h : Ar 113 134 w ab mb pp M n) (hn : n ≤ 10000) (hM : ∀ x, (M x).isSome = true → x < 10000) :
    Calls Tryd.prog 47 #[.pointer (some ⟨ab, 0, none⟩)] w (HandlesPost M w) := by
  obtain ⟨f, hf⟩ := h
  have c1 := hf.1.cell 1
  simp at c1
  have la := hf.1.lt
  have HK := Lib.hid (SA.keys (some mb) w)
  have HSo := Lib.hid (SA.sorted w mb n f hf.2.1 (by omega))
  have HF := Lib.hid hf
  have HMB := Lib.hid hM
  clear hf hM
  go_enter Tryd.func47, Tryd.ntmps47
  go_wp2_with fail
  refine HK.out.mono ?_
  rintro e w1 ⟨rfl, rfl⟩
  go_wp2_with fail
  refine HSo.out.mono ?_
  rintro e w3 ⟨v, ks, rfl, hmem, hup, hrow, ht3⟩
  obtain ⟨R, capR, rfl⟩ := krow_form hrow
  have t3 : Turn (fun _ => False) w w3 := ((Turn.refl _ w).alloc _).trans ht3
  -- the slots, as natural numbers
  have hnat : ∀ i ∈ ks, 0 ≤ i := fun i hi => by
    rcases Int.lt_or_le i 0 with h0 | h0
    · have := (hmem i).1 hi
      rw [HF.out.2.2.1 i h0] at this
      cases this
    · exact h0
  have hsome : ∀ x : Nat, (f (x : Int)).isSome = (M x).isSome := fun x => by
    have := HF.out.2.2.2.1 x
    cases hMx : M x with
    | none => rw [hMx] at this; rw [show f (x : Int) = none from this]; rfl
    | some p =>
      obtain ⟨g, v0⟩ := p
      rw [hMx] at this
      obtain ⟨q, h1, _⟩ := this
      rw [h1]; rfl
  obtain ⟨xs, hxs⟩ : ∃ xs : List Nat, ks = xs.map (fun (x : Nat) => (x : Int)) := ⟨ks.map Int.toNat, by
    rw [List.map_map]
    conv => lhs; rw [← List.map_id ks]
    exact List.map_congr_left (fun i hi => by simp [Int.toNat_of_nonneg (hnat i hi)])⟩
  subst hxs
  have hmemx : ∀ x, x ∈ xs ↔ (M x).isSome = true := fun x => by
    rw [← hsome x, ← hmem (x : Int), List.mem_map]
    constructor
    · intro hx; exact ⟨x, hx, rfl⟩
    · rintro ⟨y, hy, he⟩
      have : y = x := by omega
      rw [← this]; exact hy
  have hupx : xs.Pairwise (· < ·) := by
    rw [List.pairwise_map] at hup
    exact hup.imp (fun {a b} h => by omega)
  rw [List.length_map] at hrow
  have hlx : (xs.map (fun (x : Nat) => (x : Int))).length = xs.length := List.length_map _
  rw [hlx]
  have hLn : xs.length ≤ 10000 := len_of_rising hupx (fun x hx => HMB.out x ((hmemx x).1 hx))
  obtain ⟨L, hL⟩ : ∃ L, xs.length = L := ⟨_, rfl⟩
  have HL := Lib.hid hL
  rw [hL] at hrow hLn ⊢
  have HE := Lib.hid (And.intro hmemx (And.intro hupx (And.intro hrow t3)))
  clear hmem hup hrow ht3 t3 hnat hsome hmemx hupx hL hlx HK HSo
  go_wp2_with fail
  go_loopw [3, 15] (fun v i wr => ∃ (j : Nat) (A : Option Addr) (cap : Nat), j ≤ L ∧ i = .int .i64 (j : Int) ∧ v = .slice A j cap ∧ Hid (Told w3 wr v ((xs.take j).map fun x => (x, genOf M x))) ∧ Hid (Turn (fun _ => False) w3 wr)) (fun _ i _ => L - (intOf i).toNat)
  case atStart => exact ⟨0, none, 0, Nat.zero_le _, rfl, rfl, Told.start _ _, Turn.refl _ _⟩
  case round =>
    obtain ⟨j, A, cap, hj, rfl, rfl, hto, htu⟩ := hrel
    by_cases hlt : j < L
    · have b1 : (j : Int) < (L : Int) := by omega
      obtain ⟨hmemx, hupx, hrow, t3⟩ := HE.out
      obtain ⟨x, hx⟩ : ∃ x, xs[j]? = some x := ⟨_, List.getElem?_eq_getElem (by rw [HL.out]; exact hlt)⟩
      obtain ⟨rg, rfl, rl, rc⟩ := krow_at (w := w3) (k := j) (i := (x : Int)) (by rw [List.length_map, HL.out]; exact hrow) (by rw [List.getElem?_map, hx]; rfl)
      have hxM := (hmemx x).1 (List.mem_of_getElem? hx)
      obtain ⟨p, hp⟩ := Option.isSome_iff_exists.1 hxM
      obtain ⟨g, v0⟩ := p
      have hplace := HF.out.2.2.2.1 x
      rw [hp] at hplace
      obtain ⟨q, hq1, hq2⟩ := hplace
      have tw := t3.trans htu.out
      have rc' := cell_keepT htu.out rl rc
      have rl' := Nat.lt_of_lt_of_le rl htu.out.size
      have c1' := cell_keepT tw la c1
      have la' := Nat.lt_of_lt_of_le la tw.size
      have hqw := hq2.turn tw (fun h => h)
      have q0 := hqw.cell 0
      have ql := hqw.lt
      simp at q0
      have hx2 := HMB.out x hxM
      have hLk : (Instr.lookup 111 (.map (some mb)) (.int .i64 (x : Int)) false).run Tryd.prog wr = .ok (.pointer (some ⟨q, 0, none⟩)) wr := by
        rw [(HF.out.2.1.turn tw (fun h => h)).look1 law3 Tryd.underlying3 Tryd.underlying111 (zeroT _) (wf64 (by omega) (by omega)), hq1]; rfl
      have hgo : genOf M x = g := by unfold genOf; rw [hp]; rfl
      have tz : Turn (fun _ => False) wr (wr.alloc (.cells #[.int .i64 (x : Int), .int .u64 (g : Int)] 32)) := (Turn.refl _ wr).alloc _
      have hlenT : ((xs.take j).map fun x => (x, genOf M x)).length = j := by rw [List.length_map, List.length_take, HL.out]; omega
      obtain ⟨A', cap', w8, hrunA, hT8, htA⟩ := (hto.out.same tz).append x g wr.heap.size (At.new wr _) (by rw [hlenT]; omega) (Nat.le_trans htu.out.size tz.size) 44
      rw [hlenT] at hrunA hT8
      have HR := Lib.hid hrunA
      have hT9 : Hid (Told w3 w8 (.slice A' (j + 1) cap') ((xs.take (j + 1)).map fun x => (x, genOf M x))) := by
        rw [List.take_add_one, hx]
        simp only [Option.toList_some, List.map_append, List.map_cons, List.map_nil, hgo]
        exact hT8
      have hU9 : Hid (Turn (fun _ => False) w3 w8) := (htu.out.trans tz).then htA (fun i hi e => by have := ((hto.out.same tz).own e).2.1; omega)
      clear hmemx hupx hrow t3 hx hxM hp hq1 hq2 tw hqw hgo tz hlenT hrunA hT8 htA rc
      go_wp2_with (at_builtin; refine wpList_append_run rfl _ _ 44 rfl _ _ _ rfl rfl HR.out ?_)
      go_roundw
      case rel => exact ⟨j + 1, A', cap', by omega, by go_num, rfl, hT9, hU9⟩
      case measure => simp [intOf]; omega
    · have b1 : ¬ (j : Int) < (L : Int) := by omega
      obtain rfl : j = L := by omega
      go_wp2_with fail
      go_ret
      obtain ⟨hmemx, hupx, hrow, t3⟩ := HE.out
      have ht := hto.out
      rw [List.take_of_length_le (by rw [HL.out]; omega)] at ht
      exact ⟨A, cap, xs, w3, by rw [HL.out]; rfl, hmemx, hupx, by rw [HL.out]; exact ht, t3.trans htu.out⟩
end Go.Proofs.YtbdfbgkfhaiccaaDoor
