/-
  The document's node: New, Get, From.
-/
import Derived.Test.YtijlcehjlacihaaNtI
namespace Go.Proofs.Ytijlcehjlacihaa
open Go.RowKit Go.Lib
set_option linter.unusedVariables false
set_option maxRecDepth 20000
set_option linter.unusedSimpArgs false


/-- The document's node in block g. -/
structure Ref (w : World) (g : Nat) (L : List (Nat × Int)) (k : Nat) (c : Array Value) : Prop where
  asc : Asc L
  byt : Byt L
  at_ : At w g (.cells c 65 (0, 0))
  size : c.size = 514
  has : ∀ i : Nat, i < 256 → c[i]? = some (.bool (getC L i).isSome)
  kid : ∀ i : Nat, i < 256 → ∃ v : Int, c[256 + i]? = some (.int .i64 v) ∧ ∀ x, getC L i = some x → v = x
  cnt : c[512]? = some (.int .i64 (L.length : Int))
  siz : c[513]? = some (.int .i64 (k : Int))
def RefE (w : World) (g : Nat) (L : List (Nat × Int)) (k : Nat) : Prop := ∃ c, Ref w g L k c
theorem RefE.turn {w w' : World} {g : Nat} {L : List (Nat × Int)} {k : Nat} {X : Nat → Prop} (h : RefE w g L k) (t : Turn X w w') (hX : ¬ X g) : RefE w' g L k := by
  obtain ⟨c, h⟩ := h
  exact ⟨c, h.asc, h.byt, h.at_.turn t hX, h.size, h.has, h.kid, h.cnt, h.siz⟩
theorem RefE.no {w w' : World} {g : Nat} {L : List (Nat × Int)} {k : Nat} (h : RefE w g L k) (t : Turn No w w') : RefE w' g L k := h.turn t fun h => h
theorem zr_list : Try.zeroCells65 = (List.replicate 256 (Value.bool false) ++ (List.replicate 256 (Value.int .i64 0) ++ [Value.int .i64 0, Value.int .i64 0])).toArray := by kernel_rfl
theorem rnew_any (w : World) : Calls Try.prog 10 #[] w fun e w' => ∃ g, e = .returned (.pointer (some ⟨g, 0, none⟩)) ∧ RefE w' g [] 4 ∧ w.heap.size ≤ g ∧ g < w'.heap.size ∧ Turn No w w' := by
  have H0 : Hid (RefE (w.alloc (.cells (Try.zeroCells65.setIfInBounds 513 (.int .i64 4)) 65)) w.heap.size [] 4) := Lib.hid (by
    refine ⟨_, Asc.nil, fun p hp => (by cases hp), At.new w _, ?_, ?_, ?_, ?_, ?_⟩
    · rw [zr_list]; simp
    · intro i hi
      rw [Array.getElem?_setIfInBounds_ne (by omega), zr_list, List.getElem?_toArray, List.getElem?_append_left (by simpa using hi), List.getElem?_replicate, if_pos hi]
      rfl
    · intro i hi
      refine ⟨0, ?_, fun x h => (by cases h)⟩
      rw [Array.getElem?_setIfInBounds_ne (by omega), zr_list, List.getElem?_toArray, List.getElem?_append_right (by simp), List.getElem?_append_left (by simp; omega), List.getElem?_replicate, if_pos (by simp; omega)]
    · rw [Array.getElem?_setIfInBounds_ne (by omega), zr_list, List.getElem?_toArray, List.getElem?_append_right (by simp), List.getElem?_append_right (by simp)]
      simp
    · rw [Array.getElem?_setIfInBounds_self_of_lt (by rw [zr_list]; simp)]
      rfl)
  go_enter Try.func10, Try.ntmps10
  go_wp2
  go_ret
  exact ⟨_, rfl, by first | exact H0.out | (have := H0.out; simpa using this), Nat.le_refl _, by simp, (Turn.refl No w).alloc _⟩
section
variable {w : World} {g : Nat} {L : List (Nat × Int)} {k : Nat} {c : Array Value}
theorem rget_any (h : Ref w g L k c) (b : Nat) (hb : b < 256) : Calls Try.prog 35 #[.pointer (some ⟨g, 0, none⟩), .int .u8 (b : Int)] w fun e w' => e = .returned (NI.getV (getC L b)) ∧ w' = w := by
  have c0 := (NI.cells258 h.at_ (h.has b hb)).1
  obtain ⟨v, hv, hvx⟩ := h.kid b hb
  have c1 := (NI.cells258 h.at_ hv).1
  have hb1 : (b : Int) < 256 := by omega
  have hb0 : (0 : Int) ≤ (b : Int) := by omega
  cases hg : getC L b with
  | none =>
    rw [hg] at c0
    clear h hv hvx
    go_enter Try.func35, Try.ntmps35
    go_wp2
    go_ret2
    exact ⟨rfl, rfl⟩
  | some x =>
    rw [hg] at c0
    obtain rfl := hvx x hg
    clear h hv hvx hg
    go_enter Try.func35, Try.ntmps35
    go_wp2
    go_ret2
    exact ⟨rfl, rfl⟩
set_option maxHeartbeats 2000000 in
theorem rfrom_any (h : Ref w g L k c) (b : Int) : Calls Try.prog 16 #[.pointer (some ⟨g, 0, none⟩), .int .i64 b] w fun e w' => e = .returned (NI.fromV (nxtC L b.toNat)) ∧ Turn No w w' := by
  have HL := Lib.hid h
  clear h
  go_enter Try.func16, Try.ntmps16
  go_wp2_with fail
  go_loopw [7] (fun a wr => ∃ i : Nat, i ≤ 256 ∧ a = .int .i64 (i : Int) ∧ wr = w ∧ (∀ j : Nat, b.toNat ≤ j → j < i → getC L j = none)) (fun a _ => 256 - (RowKit.intOf a).toNat)
  case atStart => exact ⟨0, by decide, rfl, rfl, fun j h1 h2 => by omega⟩
  case round =>
    obtain ⟨i, hi, rfl, rfl, HP⟩ := hrel
    replace HP := Lib.hid HP
    by_cases hlt : i < 256
    · have c0 := (NI.cells258 HL.out.at_ (HL.out.has i hlt)).1
      obtain ⟨v, hv, hvx⟩ := HL.out.kid i hlt
      have c1 := (NI.cells258 HL.out.at_ hv).1
      have hb1 : (i : Int) < 256 := by omega
      have hb0 : (0 : Int) ≤ (i : Int) := by omega
      have HI := Lib.hid hlt
      cases hz : getC L i with
      | none =>
        rw [hz] at c0
        have HE : Hid (∀ j : Nat, b.toNat ≤ j → j < i + 1 → getC L j = none) := Lib.hid fun j h1 h2 => by
          rcases Nat.lt_or_eq_of_le (Nat.le_of_lt_succ h2) with h3 | h3
          · exact HP.out j h1 h3
          · rw [h3]; exact hz
        clear hz c1 hv hvx
        go_wp2_with fail
        exact ⟨⟨i + 1, by have := HI.out; omega, by go_num, by first | exact ⟨rfl, HE.out⟩ | exact ⟨trivial, HE.out⟩ | exact HE.out⟩, by have := HI.out; simp [RowKit.intOf]; omega⟩
      | some x =>
        rw [hz] at c0
        obtain rfl := hvx x hz
        by_cases hbi : b ≤ (i : Int)
        · have HR := Lib.hid (nxt_at HL.out.asc (by omega) HP.out hz)
          have e6 : IntKind.u8.wrap (i : Int) = (i : Int) := by rw [IntKind.wrap_u8]; omega
          have hd : decide (b ≤ (i : Int)) = true := decide_eq_true hbi
          clear hz hv hvx
          go_wp2_with fail
          go_quiet (fail)
          all_goals go_wp2_with fail
          all_goals go_ret3
          all_goals exact ⟨by rw [HR.out]; rfl, by first | exact (Turn.refl _ _).drewN _ | exact (Turn.refl _ _).drew | exact Turn.refl _ _⟩
        · have hd : decide (b ≤ (i : Int)) = false := decide_eq_false hbi
          have HE : Hid (∀ j : Nat, b.toNat ≤ j → j < i + 1 → getC L j = none) := Lib.hid fun j h1 h2 => by
            rcases Nat.lt_or_eq_of_le (Nat.le_of_lt_succ h2) with h3 | h3
            · exact HP.out j h1 h3
            · omega
          clear hz c1 hv hvx
          go_wp2_with fail
          exact ⟨⟨i + 1, by have := HI.out; omega, by go_num, by first | exact ⟨rfl, HE.out⟩ | exact ⟨trivial, HE.out⟩ | exact HE.out⟩, by have := HI.out; simp [RowKit.intOf]; omega⟩
    · have HR : Hid (nxtC L b.toNat = none) := Lib.hid (nxt_not HL.out.asc HL.out.byt fun j h1 h2 => HP.out j h1 (by omega))
      have hnl : ¬ ((i : Int) < 256) := by omega
      go_wp2_with fail
      go_ret3
      exact ⟨by rw [HR.out]; rfl, Turn.refl _ _⟩
end
end Go.Proofs.Ytijlcehjlacihaa
