/-
  The shape of the kind 48: words, get, len, from.
-/
import Derived.Test.YtijlcehjlacihaaLkI
namespace Go.Proofs.Ytijlcehjlacihaa
open Go.RowKit Go.Lib
set_option linter.unusedVariables false
set_option maxRecDepth 20000
set_option linter.unusedSimpArgs false

namespace NI

/-- The shape of the kind 48 in block g: P: where each byte's child stands (from 1 on; 0: nowhere), K: the children in the rows' order. -/
structure Mid (w : World) (Z : Dom) (g : Nat) (L : List (Nat × Int)) (P : Nat → Nat) (K : List (Nat × Int)) (A B : Option Addr) (ca cb : Nat) (c : Array Value) : Prop where
  asc : Asc L
  byt : Byt L
  zg : Z.ok g
  at_ : At w g (.cells c 93 (0, 0))
  size : c.size = 258
  pl : ∀ i : Nat, i < 256 → c[i]? = some (.int .u8 (P i : Int))
  rb : c[256]? = some (.slice A K.length ca)
  rx : c[257]? = some (.slice B K.length cb)
  bs : w.ownsRow Z 5 1 (.slice A K.length ca) K.length (bcs (ksC K))
  xs : w.ownsRow Z 3 1 (.slice B K.length cb) K.length (ics (vsC K))
  len : K.length = L.length
  le : K.length ≤ 48
  zero : ∀ i : Nat, i < 256 → P i = 0 → getC L i = none
  some_ : ∀ i : Nat, i < 256 → P i ≠ 0 → ∃ x, K[P i - 1]? = some (i, x) ∧ getC L i = some x
  back : ∀ (j : Nat) p, K[j]? = some p → p.1 < 256 ∧ P p.1 = j + 1
def MidE (w : World) (Z : Dom) (g : Nat) (L : List (Nat × Int)) : Prop := ∃ P K A B ca cb c, Mid w Z g L P K A B ca cb c
theorem Mid.no {w w' : World} {Z : Dom} {g : Nat} {L : List (Nat × Int)} {P : Nat → Nat} {K : List (Nat × Int)} {A B : Option Addr} {ca cb : Nat} {c : Array Value} (h : Mid w Z g L P K A B ca cb c) (k : Turn No w w') : Mid w' Z g L P K A B ca cb c :=
  ⟨h.asc, h.byt, h.zg, h.at_.no k, h.size, h.pl, h.rb, h.rx, own_grown h.bs k fun _ _ h => h, own_grown h.xs k fun _ _ h => h, h.len, h.le, h.zero, h.some_, h.back⟩
section
variable {w : World} {Z : Dom} {g : Nat} {L : List (Nat × Int)} {P : Nat → Nat} {K : List (Nat × Int)} {A B : Option Addr} {ca cb : Nat} {c : Array Value}
set_option maxHeartbeats 1000000 in
theorem mget_any (h : Mid w Z g L P K A B ca cb c) (b : Nat) (hb : b < 256) :
    Calls Try.prog 97 #[.pointer (some ⟨g, 0, none⟩), .int .u8 (b : Int)] w fun e w' => e = .returned (getV (getC L b)) ∧ Turn No w w' := by
  have c0 := h.at_.cell b
  rw [h.pl b hb] at c0
  have hb1 : (b : Int) < 256 := by omega
  have hb0 : (0 : Int) ≤ (b : Int) := by omega
  by_cases hz : P b = 0
  · rw [hz] at c0
    have HG := Lib.hid (h.zero b hb hz)
    clear h hz
    go_enter Try.func97, Try.ntmps97
    go_wp2
    go_ret2
    exact ⟨by rw [HG.out]; rfl, Turn.refl _ _⟩
  · obtain ⟨x, hx, hg⟩ := h.some_ b hb hz
    have HG := Lib.hid hg
    obtain ⟨q, hq⟩ : ∃ q, P b = q + 1 := ⟨P b - 1, by omega⟩
    rw [hq] at hx c0
    rw [Nat.add_sub_cancel] at hx
    have hq1 := (List.getElem?_eq_some_iff.1 hx).1
    have hle := h.le
    obtain ⟨bb, o, hB, c2⟩ := vcs_at (row_of_own h.xs) hx
    have c1 := h.at_.cell 257
    rw [h.rx, hB] at c1
    obtain ⟨n, hn⟩ : ∃ n, K.length = n := ⟨_, rfl⟩
    rw [hn] at c1 hq1 hle
    simp only at c2
    have e1 : ((q + 1 : Nat) : Int) = (q : Int) + 1 := by omega
    rw [e1] at c0
    have e2 : ¬ ((q : Int) + 1 = 0) := by omega
    have e3 : IntKind.u8.wrap ((q : Int) + 1 - 1) = (q : Int) := by rw [IntKind.wrap_u8]; omega
    have e4 : (q : Int) < (n : Int) := by omega
    have e5 : (0 : Int) ≤ (q : Int) := by omega
    clear h hz hq hx hB hn hg
    go_enter Try.func97, Try.ntmps97
    go_wp2_with fail
    go_quiet (fail)
    all_goals go_wp2_with fail
    all_goals go_ret2
    all_goals exact ⟨by rw [HG.out]; rfl, by first | exact (Turn.refl _ _).drewN _ | exact (Turn.refl _ _).drew | exact Turn.refl _ _⟩
theorem mlen_any (h : Mid w Z g L P K A B ca cb c) : Calls Try.prog 98 #[.pointer (some ⟨g, 0, none⟩)] w fun e w' => e = .returned (.int .i64 (L.length : Int)) ∧ w' = w := by
  have c1 := h.at_.cell 256
  rw [h.rb, h.len] at c1
  clear h
  go_enter Try.func98, Try.ntmps98
  go_wp2
  go_ret
  exact ⟨rfl, rfl⟩
set_option maxHeartbeats 2000000 in
theorem mfrom_any (h : Mid w Z g L P K A B ca cb c) (b : Nat) :
    Calls Try.prog 96 #[.pointer (some ⟨g, 0, none⟩), .int .i64 (b : Int)] w fun e w' => e = .returned (fromV (nxtC L b)) ∧ Turn No w w' := by
  have HL := Lib.hid h
  clear h
  go_enter Try.func96, Try.ntmps96
  go_wp2_with fail
  go_loopw [7, 5] (fun a z wr => ∃ i : Nat, b ≤ i ∧ a = .int .i64 (i : Int) ∧ z = Value.int .i64 0 ∧ wr = w ∧ (∀ j, b ≤ j → j < i → getC L j = none)) (fun a _ _ => 256 - (RowKit.intOf a).toNat)
  case atStart => exact ⟨b, Nat.le_refl _, rfl, rfl, rfl, fun j h1 h2 => by omega⟩
  case round =>
    obtain ⟨i, hi, rfl, rfl, rfl, HP⟩ := hrel
    replace HP := Lib.hid HP
    have HI := Lib.hid hi
    clear hi
    by_cases hlt : i < 256
    · have c0 := HL.out.at_.cell i
      rw [HL.out.pl i hlt] at c0
      have hb1 : (i : Int) < 256 := by omega
      have hb0 : (0 : Int) ≤ (i : Int) := by omega
      by_cases hz : P i = 0
      · rw [hz] at c0
        have HE : Hid (∀ j, b ≤ j → j < i + 1 → getC L j = none) := Lib.hid fun j h1 h2 => by
          rcases Nat.lt_or_eq_of_le (Nat.le_of_lt_succ h2) with h3 | h3
          · exact HP.out j h1 h3
          · rw [h3]; exact HL.out.zero i hlt hz
        clear hz
        go_wp2_with fail
        exact ⟨⟨i + 1, by have := HI.out; omega, by go_num, by first | exact ⟨rfl, rfl, HE.out⟩ | exact ⟨trivial, HE.out⟩ | exact ⟨rfl, trivial, HE.out⟩⟩, by simp [RowKit.intOf]; omega⟩
      · obtain ⟨x, hx, hg⟩ := HL.out.some_ i hlt hz
        have HR := Lib.hid (nxt_at HL.out.asc HI.out HP.out hg)
        obtain ⟨q, hq⟩ : ∃ q, P i = q + 1 := ⟨P i - 1, by omega⟩
        rw [hq] at hx c0
        rw [Nat.add_sub_cancel] at hx
        have hq1 := (List.getElem?_eq_some_iff.1 hx).1
        have hle := HL.out.le
        obtain ⟨bb, o, hB, c2⟩ := vcs_at (row_of_own HL.out.xs) hx
        have c1 := HL.out.at_.cell 257
        rw [HL.out.rx, hB] at c1
        obtain ⟨n, hn⟩ : ∃ n, K.length = n := ⟨_, rfl⟩
        rw [hn] at c1 hq1 hle
        simp only at c2
        have e1 : ((q + 1 : Nat) : Int) = (q : Int) + 1 := by omega
        rw [e1] at c0
        have e2 : ¬ ((q : Int) + 1 = 0) := by omega
        have e3 : IntKind.u8.wrap ((q : Int) + 1 - 1) = (q : Int) := by rw [IntKind.wrap_u8]; omega
        have e4 : (q : Int) < (n : Int) := by omega
        have e5 : (0 : Int) ≤ (q : Int) := by omega
        have e6 : IntKind.u8.wrap (i : Int) = (i : Int) := by rw [IntKind.wrap_u8]; omega
        clear hz hq hx hB hn hg
        go_wp2_with fail
        go_quiet (fail)
        all_goals go_wp2_with fail
        all_goals go_ret3
        all_goals exact ⟨by rw [HR.out]; rfl, by first | exact (Turn.refl _ _).drewN _ | exact (Turn.refl _ _).drew | exact Turn.refl _ _⟩
    · have HR : Hid (nxtC L b = none) := Lib.hid (nxt_not HL.out.asc HL.out.byt fun j h1 h2 => HP.out j h1 (by omega))
      have hnl : ¬ ((i : Int) < 256) := by omega
      go_wp2_with fail
      go_ret3
      exact ⟨by rw [HR.out]; rfl, Turn.refl _ _⟩
end
end NI
end Go.Proofs.Ytijlcehjlacihaa
