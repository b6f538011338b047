/-
  The shape of the kind 256: words, get, len, from.
-/
import Derived.Test.YtijlcehjlacihaaMkI
namespace Go.Proofs.Ytijlcehjlacihaa
open Go.RowKit Go.Lib
set_option linter.unusedVariables false
set_option maxRecDepth 20000
set_option linter.unusedSimpArgs false

namespace NI

/-- The shape of the kind 256 in block g. -/
structure Who (w : World) (Z : Dom) (g : Nat) (L : List (Nat × Int)) (c : Array Value) : Prop where
  asc : Asc L
  byt : Byt L
  zg : Z.ok g
  at_ : At w g (.cells c 96 (0, 0))
  size : c.size = 513
  has : ∀ i : Nat, i < 256 → c[i]? = some (.bool (getC L i).isSome)
  thg : ∀ i : Nat, i < 256 → c[256 + i]? = some (Value.int .i64 ((getC L i).getD 0))
  cnt : c[512]? = some (.int .i64 (L.length : Int))
def WhoE (w : World) (Z : Dom) (g : Nat) (L : List (Nat × Int)) : Prop := ∃ c, Who w Z g L c
theorem Who.no {w w' : World} {Z : Dom} {g : Nat} {L : List (Nat × Int)} {c : Array Value} (h : Who w Z g L c) (k : Turn No w w') : Who w' Z g L c := ⟨h.asc, h.byt, h.zg, h.at_.no k, h.size, h.has, h.thg, h.cnt⟩
theorem WhoE.no {w w' : World} {Z : Dom} {g : Nat} {L : List (Nat × Int)} (h : WhoE w Z g L) (k : Turn No w w') : WhoE w' Z g L := by
  obtain ⟨c, h⟩ := h
  exact ⟨c, h.no k⟩
section
variable {w : World} {Z : Dom} {g : Nat} {L : List (Nat × Int)} {c : Array Value}
set_option maxHeartbeats 1000000 in
theorem wget_any (h : Who w Z g L c) (b : Nat) (hb : b < 256) :
    Calls Try.prog 102 #[.pointer (some ⟨g, 0, none⟩), .int .u8 (b : Int)] w fun e w' => e = .returned (getV (getC L b)) ∧ Turn No w w' := by
  have c0 := (cells258 h.at_ (h.has b hb)).1
  have c1 := (cells258 h.at_ (h.thg b hb)).1
  have hb1 : (b : Int) < 256 := by omega
  have hb0 : (0 : Int) ≤ (b : Int) := by omega
  have HG := Lib.hid (getV_of (getC L b))
  obtain ⟨x, hx⟩ : ∃ x, (getC L b).getD 0 = x := ⟨_, rfl⟩
  obtain ⟨s, hs⟩ : ∃ s, (getC L b).isSome = s := ⟨_, rfl⟩
  rw [hx] at c1 HG
  rw [hs] at c0 HG
  clear h hx hs
  go_enter Try.func102, Try.ntmps102
  go_wp2_with fail
  go_quiet (fail)
  all_goals go_wp2_with fail
  all_goals go_ret2
  all_goals exact ⟨by rw [HG.out]; rfl, by first | exact (Turn.refl _ _).drewN _ | exact (Turn.refl _ _).drew | exact Turn.refl _ _⟩
theorem wlen_any (h : Who w Z g L c) : Calls Try.prog 103 #[.pointer (some ⟨g, 0, none⟩)] w fun e w' => e = .returned (.int .i64 (L.length : Int)) ∧ w' = w := by
  have c1 := (cells258 h.at_ h.cnt).1
  clear h
  go_enter Try.func103, Try.ntmps103
  go_wp2
  go_ret
  exact ⟨rfl, rfl⟩
set_option maxHeartbeats 2000000 in
theorem wfrom_any (h : Who w Z g L c) (b : Nat) :
    Calls Try.prog 101 #[.pointer (some ⟨g, 0, none⟩), .int .i64 (b : Int)] w fun e w' => e = .returned (fromV (nxtC L b)) ∧ Turn No w w' := by
  have HL := Lib.hid h
  clear h
  go_enter Try.func101, Try.ntmps101
  go_wp2_with fail
  go_loopw [7, 5] (fun a z wr => ∃ i : Nat, b ≤ i ∧ a = .int .i64 (i : Int) ∧ z = Value.int .i64 0 ∧ wr = w ∧ (∀ j, b ≤ j → j < i → getC L j = none)) (fun a _ _ => 256 - (RowKit.intOf a).toNat)
  case atStart => exact ⟨b, Nat.le_refl _, rfl, rfl, rfl, fun j h1 h2 => by omega⟩
  case round =>
    obtain ⟨i, hi, rfl, rfl, rfl, HP⟩ := hrel
    replace HP := Lib.hid HP
    have HI := Lib.hid hi
    clear hi
    by_cases hlt : i < 256
    · have c0 := (cells258 HL.out.at_ (HL.out.has i hlt)).1
      have c1 := (cells258 HL.out.at_ (HL.out.thg i hlt)).1
      have hb1 : (i : Int) < 256 := by omega
      have hb0 : (0 : Int) ≤ (i : Int) := by omega
      cases hz : getC L i with
      | none =>
        rw [hz] at c0
        have HE : Hid (∀ j, b ≤ j → j < i + 1 → getC L j = none) := Lib.hid fun j h1 h2 => by
          rcases Nat.lt_or_eq_of_le (Nat.le_of_lt_succ h2) with h3 | h3
          · exact HP.out j h1 h3
          · rw [h3]; exact hz
        clear hz c1
        go_wp2_with fail
        exact ⟨⟨i + 1, by have := HI.out; omega, by go_num, by first | exact ⟨rfl, rfl, HE.out⟩ | exact ⟨trivial, HE.out⟩ | exact ⟨rfl, trivial, HE.out⟩⟩, by simp [RowKit.intOf]; omega⟩
      | some x =>
        rw [hz] at c0 c1
        have HR := Lib.hid (nxt_at HL.out.asc HI.out HP.out hz)
        simp only [Option.getD_some, Option.isSome_some] at c0 c1
        have e6 : IntKind.u8.wrap (i : Int) = (i : Int) := by rw [IntKind.wrap_u8]; omega
        clear hz
        go_wp2_with fail
        go_quiet (fail)
        all_goals go_wp2_with fail
        all_goals go_ret3
        all_goals exact ⟨by rw [HR.out]; rfl, by first | exact (Turn.refl _ _).drewN _ | exact (Turn.refl _ _).drew | exact Turn.refl _ _⟩
    · have HR : Hid (nxtC L b = none) := Lib.hid (nxt_not HL.out.asc HL.out.byt fun j h1 h2 => HP.out j h1 (by omega))
      have hnl : ¬ ((i : Int) < 256) := by omega
      go_wp2_with fail
      go_ret3
      exact ⟨by rw [HR.out]; rfl, Turn.refl _ _⟩
theorem Who.put (h : Who w Z g L c) {b : Nat} (x : Int) (hb : b < 256) {w' : World} {c' : Array Value} (hat : At w' g (.cells c' 96 (0, 0))) (hs : c'.size = 513)
    (hc : ∀ i : Nat, i < 512 → c'[i]? = if i = b then some (.bool true) else if i = 256 + b then some (Value.int .i64 x) else c[i]?) (hn : c'[512]? = some (.int .i64 ((putC L b x).length : Int))) : WhoE w' Z g (putC L b x) := by
  refine ⟨c', asc_put h.asc b x, byt_put h.byt hb x, h.zg, hat, hs, fun i hi => ?_, fun i hi => ?_, hn⟩
  · rw [hc i (by omega), get_put h.asc]
    by_cases hib : i = b
    · rw [if_pos hib, if_pos hib.symm]; rfl
    · rw [if_neg hib, if_neg (show ¬ i = 256 + b by omega), if_neg (fun e => hib e.symm)]; exact h.has i hi
  · rw [hc _ (by omega), get_put h.asc, if_neg (show ¬ 256 + i = b by omega)]
    by_cases hib : i = b
    · rw [if_pos (by omega), if_pos hib.symm]; rfl
    · rw [if_neg (by omega), if_neg (fun e => hib e.symm)]; exact h.thg i hi
theorem Who.del (h : Who w Z g L c) {b : Nat} (hb : b < 256) {w' : World} {c' : Array Value} (hat : At w' g (.cells c' 96 (0, 0))) (hs : c'.size = 513)
    (hc : ∀ i : Nat, i < 512 → c'[i]? = if i = b then some (.bool false) else if i = 256 + b then some (Value.int .i64 0) else c[i]?) (hn : c'[512]? = some (.int .i64 ((delC L b).length : Int))) : WhoE w' Z g (delC L b) := by
  refine ⟨c', asc_del h.asc b, byt_del h.byt b, h.zg, hat, hs, fun i hi => ?_, fun i hi => ?_, hn⟩
  · rw [hc i (by omega), get_del h.asc]
    by_cases hib : i = b
    · rw [if_pos hib, if_pos hib.symm]; rfl
    · rw [if_neg hib, if_neg (show ¬ i = 256 + b by omega), if_neg (fun e => hib e.symm)]; exact h.has i hi
  · rw [hc _ (by omega), get_del h.asc, if_neg (show ¬ 256 + i = b by omega)]
    by_cases hib : i = b
    · rw [if_pos (by omega), if_pos hib.symm]; rfl
    · rw [if_neg (by omega), if_neg (fun e => hib e.symm)]; exact h.thg i hi
end
end NI
end Go.Proofs.Ytijlcehjlacihaa
