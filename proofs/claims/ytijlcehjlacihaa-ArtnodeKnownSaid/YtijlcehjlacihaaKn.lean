/-
  ArtnodeKnown: words.
-/
import Derived.Test.YtijlcehjlacihaaRo
import Derived.Test.YtijlcehjlacihaaWk
namespace Go.Proofs.Ytijlcehjlacihaa
open Go.RowKit Go.Lib
set_option linter.unusedVariables false
set_option maxRecDepth 20000
set_option linter.unusedSimpArgs false


abbrev xa : ByteArray := ⟨#[97]⟩
abbrev xb : ByteArray := ⟨#[98]⟩
abbrev xc : ByteArray := ⟨#[99]⟩
def k0 : List (Nat × ByteArray) := []
def k1 : List (Nat × ByteArray) := [(7, xa)]
def k2 : List (Nat × ByteArray) := [(7, xb)]
def k3 : List (Nat × ByteArray) := [(1, xx), (7, xb)]
def k4 : List (Nat × ByteArray) := [(1, xx), (2, xx), (7, xb)]
def k5 : List (Nat × ByteArray) := [(1, xx), (2, xx), (3, xx), (7, xb)]
def k6 : List (Nat × ByteArray) := [(1, xx), (2, xx), (3, xx), (7, xb), (9, xc)]
def k7 : List (Nat × ByteArray) := [(1, xx), (2, xx), (3, xx), (7, xb)]
def k8 : List (Nat × ByteArray) := [(2, xx), (3, xx), (7, xb)]
theorem Nw.putx {w0 w : World} {a k : Nat} {L : List (Nat × ByteArray)} (h : Nw w0 w a k L) (b : Nat) (hb : b < 256) (x : ByteArray) {k' : Nat} {L' : List (Nat × ByteArray)} (hk : NS.kup L k b = k') (hL : putC L b x = L') {r : Bool} (hr : (getC L b).isNone = r) :
    Calls Try.prog 24 #[.pointer (some ⟨a, 0, none⟩), .int .u8 (b : Int), .string x] w fun e w' => e = .returned (.bool r) ∧ Nw w0 w' a k' L' := by
  subst hk hL hr
  exact (NS.set_any h.nd h.tu.size b x hb).mono fun e w' q => ⟨q.1, q.2.1, nz_no h.tu q.2.2⟩
theorem p01 {w w2 : World} {a : Nat} (h : Nw w w2 a 4 k0) : Calls Try.prog 24 #[.pointer (some ⟨a, 0, none⟩), .int .u8 7, .string xa] w2 fun e w' => e = .returned (.bool true) ∧ Nw w w' a 4 k1 := h.putx 7 (by decide) xa (by decide +kernel) (by decide +kernel) (by decide +kernel)
theorem p12 {w w2 : World} {a : Nat} (h : Nw w w2 a 4 k1) : Calls Try.prog 24 #[.pointer (some ⟨a, 0, none⟩), .int .u8 7, .string xb] w2 fun e w' => e = .returned (.bool false) ∧ Nw w w' a 4 k2 := h.putx 7 (by decide) xb (by decide +kernel) (by decide +kernel) (by decide +kernel)
theorem p23 {w w2 : World} {a : Nat} (h : Nw w w2 a 4 k2) : Calls Try.prog 24 #[.pointer (some ⟨a, 0, none⟩), .int .u8 1, .string xx] w2 fun e w' => e = .returned (.bool true) ∧ Nw w w' a 4 k3 := h.putx 1 (by decide) xx (by decide +kernel) (by decide +kernel) (by decide +kernel)
theorem p34 {w w2 : World} {a : Nat} (h : Nw w w2 a 4 k3) : Calls Try.prog 24 #[.pointer (some ⟨a, 0, none⟩), .int .u8 2, .string xx] w2 fun e w' => e = .returned (.bool true) ∧ Nw w w' a 4 k4 := h.putx 2 (by decide) xx (by decide +kernel) (by decide +kernel) (by decide +kernel)
theorem p45 {w w2 : World} {a : Nat} (h : Nw w w2 a 4 k4) : Calls Try.prog 24 #[.pointer (some ⟨a, 0, none⟩), .int .u8 3, .string xx] w2 fun e w' => e = .returned (.bool true) ∧ Nw w w' a 4 k5 := h.putx 3 (by decide) xx (by decide +kernel) (by decide +kernel) (by decide +kernel)
theorem p56 {w w2 : World} {a : Nat} (h : Nw w w2 a 4 k5) : Calls Try.prog 24 #[.pointer (some ⟨a, 0, none⟩), .int .u8 9, .string xc] w2 fun e w' => e = .returned (.bool true) ∧ Nw w w' a 16 k6 := h.putx 9 (by decide) xc (by decide +kernel) (by decide +kernel) (by decide +kernel)
theorem d67 {w w2 : World} {a : Nat} (h : Nw w w2 a 16 k6) : Calls Try.prog 28 #[.pointer (some ⟨a, 0, none⟩), .int .u8 9] w2 fun e w' => e = .returned (.bool true) ∧ Nw w w' a 16 k7 := h.del 9 (by decide) (by decide +kernel) (by decide +kernel) (by decide +kernel)
theorem d77 {w w2 : World} {a : Nat} (h : Nw w w2 a 16 k7) : Calls Try.prog 28 #[.pointer (some ⟨a, 0, none⟩), .int .u8 9] w2 fun e w' => e = .returned (.bool false) ∧ Nw w w' a 16 k7 := h.del 9 (by decide) (by decide +kernel) (by decide +kernel) (by decide +kernel)
theorem d78 {w w2 : World} {a : Nat} (h : Nw w w2 a 16 k7) : Calls Try.prog 28 #[.pointer (some ⟨a, 0, none⟩), .int .u8 1] w2 fun e w' => e = .returned (.bool true) ∧ Nw w w' a 4 k8 := h.del 1 (by decide) (by decide +kernel) (by decide +kernel) (by decide +kernel)
theorem c0 {w w2 : World} {a : Nat} (h : Nw w w2 a 4 k0) : Calls Try.prog 23 #[.pointer (some ⟨a, 0, none⟩)] w2 fun e w' => e = .returned (.int .i64 4) ∧ w' = w2 := NS.kind_any h.nd
theorem c5 {w w2 : World} {a : Nat} (h : Nw w w2 a 4 k5) : Calls Try.prog 23 #[.pointer (some ⟨a, 0, none⟩)] w2 fun e w' => e = .returned (.int .i64 4) ∧ w' = w2 := NS.kind_any h.nd
theorem c6 {w w2 : World} {a : Nat} (h : Nw w w2 a 16 k6) : Calls Try.prog 23 #[.pointer (some ⟨a, 0, none⟩)] w2 fun e w' => e = .returned (.int .i64 16) ∧ w' = w2 := NS.kind_any h.nd
theorem c7 {w w2 : World} {a : Nat} (h : Nw w w2 a 16 k7) : Calls Try.prog 23 #[.pointer (some ⟨a, 0, none⟩)] w2 fun e w' => e = .returned (.int .i64 16) ∧ w' = w2 := NS.kind_any h.nd
theorem c8 {w w2 : World} {a : Nat} (h : Nw w w2 a 4 k8) : Calls Try.prog 23 #[.pointer (some ⟨a, 0, none⟩)] w2 fun e w' => e = .returned (.int .i64 4) ∧ w' = w2 := NS.kind_any h.nd
theorem e2 {w w2 : World} {a : Nat} (h : Nw w w2 a 4 k2) : Calls Try.prog 25 #[.pointer (some ⟨a, 0, none⟩)] w2 fun e w' => e = .returned (.int .i64 1) ∧ w' = w2 := NS.len_any h.nd
theorem g2 {w w2 : World} {a : Nat} (h : Nw w w2 a 4 k2) : Calls Try.prog 26 #[.pointer (some ⟨a, 0, none⟩), .int .u8 7] w2 fun e w' => e = .returned (.tuple #[.string xb, .bool true]) ∧ Nw w w' a 4 k2 := (NS.get_any h.nd 7 (by decide)).mono fun e w' q => ⟨q.1, h.no q.2⟩
theorem fa {w w2 : World} {a : Nat} (h : Nw w w2 a 16 k6) : Calls Try.prog 27 #[.pointer (some ⟨a, 0, none⟩), .int .i64 4] w2 fun e w' => e = .returned (.tuple #[.int .u8 7, .string xb, .bool true]) ∧ Nw w w' a 16 k6 := (NS.from_any h.nd 4).mono fun e w' q => ⟨by rw [q.1, show nxtC k6 (4 : Int).toNat = some (7, xb) by decide +kernel]; rfl, h.no q.2⟩
theorem fb {w w2 : World} {a : Nat} (h : Nw w w2 a 16 k6) : Calls Try.prog 27 #[.pointer (some ⟨a, 0, none⟩), .int .i64 10] w2 fun e w' => e = .returned (.tuple #[.int .u8 0, .string ⟨#[]⟩, .bool false]) ∧ Nw w w' a 16 k6 := (NS.from_any h.nd 10).mono fun e w' q => ⟨by rw [q.1, show nxtC k6 (10 : Int).toNat = none by decide +kernel]; rfl, h.no q.2⟩
theorem fc {w w2 : World} {a : Nat} (h : Nw w w2 a 16 k6) : Calls Try.prog 27 #[.pointer (some ⟨a, 0, none⟩), .int .i64 (-5)] w2 fun e w' => e = .returned (.tuple #[.int .u8 1, .string xx, .bool true]) ∧ Nw w w' a 16 k6 := (NS.from_any h.nd (-5)).mono fun e w' q => ⟨by rw [q.1, show nxtC k6 ((-5) : Int).toNat = some (1, xx) by decide +kernel]; rfl, h.no q.2⟩
/-- The bytes below n, each with its number. -/
def full (n : Nat) : List (Nat × Int) := (List.range n).map fun j => (j, (j : Int))
theorem full_succ (n : Nat) : full (n + 1) = full n ++ [(n, (n : Int))] := by simp [full, List.range_succ]
theorem full_lows (n : Nat) : Lows (full n) n := fun p hp => by
  simp only [full, List.mem_map, List.mem_range] at hp
  obtain ⟨j, hj, rfl⟩ := hp
  exact hj
theorem full_len (n : Nat) : (full n).length = n := by simp [full]
theorem full_put (n : Nat) : putC (full n) n (n : Int) = full (n + 1) := by
  rw [full_succ]; unfold putC
  rw [low_of_lows (full_lows n), high_of_lows (full_lows n)]
theorem full_get (n : Nat) : getC (full n) n = none := get_lows (full_lows n) (Nat.le_refl _)
theorem full_get2 (n : Nat) : getC (full (n + 1)) n = some (n : Int) := by
  rw [full_succ, get_append, full_get, get_cons, if_pos rfl]; rfl
theorem full_del (n : Nat) : delC (full (n + 1)) n = full n := by
  rw [full_succ]; unfold delC
  rw [low_append, high_append, low_of_lows (full_lows n), high_of_lows (full_lows n), low_self, high_self]
  simp [lowC, highC]
def kdr (n : Nat) : Nat := if n ≤ 3 then 4 else if n ≤ 12 then 16 else if n ≤ 36 then 48 else 256
theorem kdr_step (i : Nat) : (if (i : Int) ≤ NI.leastK (kdr (i + 1)) then NI.lastK (kdr (i + 1)) else kdr (i + 1)) = kdr i := by
  unfold kdr
  by_cases h1 : i + 1 ≤ 3
  · rw [if_pos h1, if_pos (show i ≤ 3 by omega), if_neg (by show ¬ (i : Int) ≤ -1; omega)]
  · rw [if_neg h1]
    by_cases h2 : i + 1 ≤ 12
    · rw [if_pos h2]
      by_cases h3 : i ≤ 3
      · rw [if_pos (by show (i : Int) ≤ 3; omega), if_pos h3]; rfl
      · rw [if_neg (by show ¬ (i : Int) ≤ 3; omega), if_neg h3, if_pos (show i ≤ 12 by omega)]
    · rw [if_neg h2, if_neg (show ¬ i ≤ 3 by omega)]
      by_cases h4 : i + 1 ≤ 36
      · rw [if_pos h4]
        by_cases h3 : i ≤ 12
        · rw [if_pos (by show (i : Int) ≤ 12; omega), if_pos h3]; rfl
        · rw [if_neg (by show ¬ (i : Int) ≤ 12; omega), if_neg h3, if_pos (show i ≤ 36 by omega)]
      · rw [if_neg h4, if_neg (show ¬ i ≤ 12 by omega)]
        by_cases h3 : i ≤ 36
        · rw [if_pos (by show (i : Int) ≤ 36; omega), if_pos h3]; rfl
        · rw [if_neg (by show ¬ (i : Int) ≤ 36; omega), if_neg h3]
theorem kup_full {n : Nat} (hn : n < 256) : NI.kup (full n) (kfit n) n = kfit (n + 1) := by
  unfold NI.kup
  rw [full_get, full_len, kfit_next (by omega)]
  by_cases hf : n = kfit n
  · rw [if_pos ⟨rfl, hf⟩, if_pos hf]
  · rw [if_neg (fun e => hf e.2), if_neg hf]
theorem kdn_full (n : Nat) : NI.kdn (full (n + 1)) (kdr (n + 1)) n = kdr n := by
  unfold NI.kdn
  rw [full_del, full_len]
  exact kdr_step n
theorem dec_rl {e : Nat} (h : e ≤ 400) : (e = 0 ∧ Value.int .i64 (wrap64 ((e : Int) - 1)) = Value.int .i64 (-1)) ∨ ∃ e1 : Nat, e = e1 + 1 ∧ Value.int .i64 (wrap64 ((e : Int) - 1)) = Value.int .i64 (e1 : Int) := by
  have hw : wrap64 ((e : Int) - 1) = (e : Int) - 1 := by simp only [wrap64]; omega
  rw [hw]
  by_cases he : e = 0
  · subst he; exact .inl ⟨rfl, rfl⟩
  · refine .inr ⟨e - 1, by omega, ?_⟩
    rw [show (e : Int) - 1 = ((e - 1 : Nat) : Int) by omega]
/-- The node of numbers, new since w0. -/
structure Nn (w0 w : World) (a k : Nat) (L : List (Nat × Int)) : Prop where
  nd : NI.Nd w (Dom.of w0.heap.size) a k L
  tu : Turn No w0 w
theorem Nn.no {w0 w w' : World} {a k : Nat} {L : List (Nat × Int)} (h : Nn w0 w a k L) (t : Turn No w w') : Nn w0 w' a k L := ⟨h.nd.no t, h.tu.trans t⟩
theorem Nn.put {w0 w : World} {a n : Nat} (h : Nn w0 w a (kfit n) (full n)) (hn : n < 256) :
    Calls Try.prog 11 #[.pointer (some ⟨a, 0, none⟩), .int .u8 (n : Int), .int .i64 (n : Int)] w fun e w' => e = .returned (.bool true) ∧ Nn w0 w' a (kfit (n + 1)) (full (n + 1)) := by
  refine (NI.set_any h.nd h.tu.size n (n : Int) hn).mono fun e w' q => ⟨by rw [q.1, full_get]; rfl, ?_, nz_noR h.tu q.2.2⟩
  have := q.2.1
  rw [kup_full hn, full_put] at this
  exact this
theorem Nn.drop {w0 w : World} {a n : Nat} (h : Nn w0 w a (kdr (n + 1)) (full (n + 1))) (hn : n < 256) :
    Calls Try.prog 13 #[.pointer (some ⟨a, 0, none⟩), .int .u8 (n : Int)] w fun e w' => e = .returned (.bool true) ∧ Nn w0 w' a (kdr n) (full n) := by
  refine (NI.drop_any h.nd h.tu.size n hn).mono fun e w' q => ⟨by rw [q.1, full_get2]; rfl, ?_, nz_noR h.tu q.2.2⟩
  have := q.2.1
  rw [full_get2] at this
  have this : NI.Nd w' (Dom.of w0.heap.size) a (NI.kdn (full (n + 1)) (kdr (n + 1)) n) (delC (full (n + 1)) n) := this
  rw [kdn_full, full_del] at this
  exact this
end Go.Proofs.Ytijlcehjlacihaa
