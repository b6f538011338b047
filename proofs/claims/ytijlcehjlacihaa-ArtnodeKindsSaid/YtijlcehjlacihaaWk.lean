/-
  The law's helper wakes.
-/
import Derived.Test.YtijlcehjlacihaaNtS
namespace Go.Proofs.Ytijlcehjlacihaa
open Go.RowKit Go.Lib
set_option linter.unusedVariables false
set_option maxRecDepth 20000
set_option linter.unusedSimpArgs false


abbrev xx : ByteArray := ⟨#[120]⟩
def l0 : List (Nat × ByteArray) := []
def l1 : List (Nat × ByteArray) := [(1, xx)]
def l2 : List (Nat × ByteArray) := [(1, xx), (2, xx)]
def l3 : List (Nat × ByteArray) := [(1, xx), (2, xx), (3, xx)]
def l4 : List (Nat × ByteArray) := [(1, xx), (2, xx), (3, xx), (4, xx)]
def l5 : List (Nat × ByteArray) := [(1, xx), (2, xx), (3, xx), (4, xx), (5, xx)]
/-- A node of texts that is new since w0. -/
structure Nw (w0 w : World) (a k : Nat) (L : List (Nat × ByteArray)) : Prop where
  nd : NS.Nd w (Dom.of w0.heap.size) a k L
  tu : Turn No w0 w
theorem nz_no {w0 w w' : World} (h : Turn No w0 w) (t : NS.Nz (Dom.of w0.heap.size) w w') : Turn No w0 w' := no_of h t fun i hi => Dom.of_ok hi.1
theorem Nw.put {w0 w : World} {a k : Nat} {L : List (Nat × ByteArray)} (h : Nw w0 w a k L) (b : Nat) (hb : b < 256) {k' : Nat} {L' : List (Nat × ByteArray)} (hk : NS.kup L k b = k') (hL : putC L b xx = L') {r : Bool} (hr : (getC L b).isNone = r) :
    Calls Try.prog 24 #[.pointer (some ⟨a, 0, none⟩), .int .u8 (b : Int), .string xx] w fun e w' => e = .returned (.bool r) ∧ Nw w0 w' a k' L' := by
  subst hk hL hr
  exact (NS.set_any h.nd h.tu.size b xx hb).mono fun e w' q => ⟨q.1, q.2.1, nz_no h.tu q.2.2⟩
theorem Nw.del {w0 w : World} {a k : Nat} {L : List (Nat × ByteArray)} (h : Nw w0 w a k L) (b : Nat) (hb : b < 256) {k' : Nat} {L' : List (Nat × ByteArray)} (hk : (if (getC L b).isSome then NS.kdn L k b else k) = k') (hL : delC L b = L') {r : Bool} (hr : (getC L b).isSome = r) :
    Calls Try.prog 28 #[.pointer (some ⟨a, 0, none⟩), .int .u8 (b : Int)] w fun e w' => e = .returned (.bool r) ∧ Nw w0 w' a k' L' := by
  subst hk hL hr
  exact (NS.drop_any h.nd h.tu.size b hb).mono fun e w' q => ⟨q.1, q.2.1, nz_no h.tu q.2.2⟩
theorem Nw.no {w0 w w' : World} {a k : Nat} {L : List (Nat × ByteArray)} (h : Nw w0 w a k L) (t : Turn No w w') : Nw w0 w' a k L := ⟨h.nd.no t, h.tu.trans t⟩
set_option maxHeartbeats 2000000 in
theorem wakes_any (w : World) : Calls Try.prog 8 #[] w fun e w' => e = .returned (.bool true) ∧ Turn No w w' := by
  have CN := Lib.hid (NS.new_any (Z := Dom.of w.heap.size) w (Nat.le_refl _))
  have P1 := Lib.hid fun W a (h : Nw w W a 4 l0) => h.put 1 (by decide) (k' := 4) (L' := l1) (by decide +kernel) (by decide +kernel) (r := true) (by decide +kernel)
  have P2 := Lib.hid fun W a (h : Nw w W a 4 l1) => h.put 2 (by decide) (k' := 4) (L' := l2) (by decide +kernel) (by decide +kernel) (r := true) (by decide +kernel)
  have P3 := Lib.hid fun W a (h : Nw w W a 4 l2) => h.put 3 (by decide) (k' := 4) (L' := l3) (by decide +kernel) (by decide +kernel) (r := true) (by decide +kernel)
  have P4 := Lib.hid fun W a (h : Nw w W a 4 l3) => h.put 4 (by decide) (k' := 4) (L' := l4) (by decide +kernel) (by decide +kernel) (r := true) (by decide +kernel)
  have P5 := Lib.hid fun W a (h : Nw w W a 4 l4) => h.put 5 (by decide) (k' := 16) (L' := l5) (by decide +kernel) (by decide +kernel) (r := true) (by decide +kernel)
  have D5 := Lib.hid fun W a (h : Nw w W a 16 l5) => h.del 5 (by decide) (k' := 16) (L' := l4) (by decide +kernel) (by decide +kernel) (r := true) (by decide +kernel)
  have D4 := Lib.hid fun W a (h : Nw w W a 16 l4) => h.del 4 (by decide) (k' := 4) (L' := l3) (by decide +kernel) (by decide +kernel) (r := true) (by decide +kernel)
  have P1' : Hid (∀ W a, Nw w W a 4 l0 → Calls Try.prog 24 #[.pointer (some ⟨a, 0, none⟩), .int .u8 1, .string xx] W fun e w' => e = .returned (.bool true) ∧ Nw w w' a 4 l1) := P1
  have P2' : Hid (∀ W a, Nw w W a 4 l1 → Calls Try.prog 24 #[.pointer (some ⟨a, 0, none⟩), .int .u8 2, .string xx] W fun e w' => e = .returned (.bool true) ∧ Nw w w' a 4 l2) := P2
  have P3' : Hid (∀ W a, Nw w W a 4 l2 → Calls Try.prog 24 #[.pointer (some ⟨a, 0, none⟩), .int .u8 3, .string xx] W fun e w' => e = .returned (.bool true) ∧ Nw w w' a 4 l3) := P3
  have P4' : Hid (∀ W a, Nw w W a 4 l3 → Calls Try.prog 24 #[.pointer (some ⟨a, 0, none⟩), .int .u8 4, .string xx] W fun e w' => e = .returned (.bool true) ∧ Nw w w' a 4 l4) := P4
  have P5' : Hid (∀ W a, Nw w W a 4 l4 → Calls Try.prog 24 #[.pointer (some ⟨a, 0, none⟩), .int .u8 5, .string xx] W fun e w' => e = .returned (.bool true) ∧ Nw w w' a 16 l5) := P5
  have D5' : Hid (∀ W a, Nw w W a 16 l5 → Calls Try.prog 28 #[.pointer (some ⟨a, 0, none⟩), .int .u8 5] W fun e w' => e = .returned (.bool true) ∧ Nw w w' a 16 l4) := D5
  have D4' : Hid (∀ W a, Nw w W a 16 l4 → Calls Try.prog 28 #[.pointer (some ⟨a, 0, none⟩), .int .u8 4] W fun e w' => e = .returned (.bool true) ∧ Nw w w' a 4 l3) := D4
  have K5 : Hid (∀ W a, Nw w W a 16 l5 → Calls Try.prog 23 #[.pointer (some ⟨a, 0, none⟩)] W fun e w' => e = .returned (.int .i64 16) ∧ w' = W) := Lib.hid fun W a h => NS.kind_any h.nd
  have K3 : Hid (∀ W a, Nw w W a 4 l3 → Calls Try.prog 23 #[.pointer (some ⟨a, 0, none⟩)] W fun e w' => e = .returned (.int .i64 4) ∧ w' = W) := Lib.hid fun W a h => NS.kind_any h.nd
  have E3 : Hid (∀ W a, Nw w W a 4 l3 → Calls Try.prog 25 #[.pointer (some ⟨a, 0, none⟩)] W fun e w' => e = .returned (.int .i64 3) ∧ w' = W) := Lib.hid fun W a h => NS.len_any h.nd
  have G3 : Hid (∀ W a, Nw w W a 4 l3 → Calls Try.prog 26 #[.pointer (some ⟨a, 0, none⟩), .int .u8 2] W fun e w' => e = .returned (.tuple #[.string xx, .bool true]) ∧ Nw w w' a 4 l3) := Lib.hid fun W a h => (NS.get_any h.nd 2 (by decide)).mono fun e w' q => ⟨q.1, h.no q.2⟩
  clear P1 P2 P3 P4 P5 D5 D4
  go_enter Try.func8, Try.ntmps8
  go_upto_region 3 with (go_at_call 22; (with_reducible refine CN.out.mono ?_); rintro e w1 ⟨a, rfl, hn, _, ht⟩; have H1 := Lib.hid (show Nw w w1 a 4 l0 from ⟨hn, ht⟩); clear hn ht)
  go_loopw [2] (fun s wr => (s = .int .u8 1 ∧ Nw w wr a 4 l0) ∨ (s = .int .u8 2 ∧ Nw w wr a 4 l1) ∨ (s = .int .u8 3 ∧ Nw w wr a 4 l2) ∨ (s = .int .u8 4 ∧ Nw w wr a 4 l3) ∨ (s = .int .u8 5 ∧ Nw w wr a 4 l4) ∨ (s = .int .u8 6 ∧ Nw w wr a 16 l5)) (fun s _ => 10 - (RowKit.intOf s).toNat)
  case atStart => exact .inl ⟨rfl, H1.out⟩
  case round =>
    clear H1
    rcases hrel with ⟨rfl, HP⟩ | ⟨rfl, HP⟩ | ⟨rfl, HP⟩ | ⟨rfl, HP⟩ | ⟨rfl, HP⟩ | ⟨rfl, HP⟩
    · replace HP := Lib.hid HP
      go_wp2_with (go_at_call 24; (with_reducible refine (P1'.out _ _ HP.out).mono ?_); rintro e w2 ⟨rfl, h2⟩; replace h2 := Lib.hid h2)
      exact ⟨.inr (.inl ⟨rfl, h2.out⟩), by simp [RowKit.intOf]⟩
    · replace HP := Lib.hid HP
      go_wp2_with (go_at_call 24; (with_reducible refine (P2'.out _ _ HP.out).mono ?_); rintro e w2 ⟨rfl, h2⟩; replace h2 := Lib.hid h2)
      exact ⟨.inr (.inr (.inl ⟨rfl, h2.out⟩)), by simp [RowKit.intOf]⟩
    · replace HP := Lib.hid HP
      go_wp2_with (go_at_call 24; (with_reducible refine (P3'.out _ _ HP.out).mono ?_); rintro e w2 ⟨rfl, h2⟩; replace h2 := Lib.hid h2)
      exact ⟨.inr (.inr (.inr (.inl ⟨rfl, h2.out⟩))), by simp [RowKit.intOf]⟩
    · replace HP := Lib.hid HP
      go_wp2_with (go_at_call 24; (with_reducible refine (P4'.out _ _ HP.out).mono ?_); rintro e w2 ⟨rfl, h2⟩; replace h2 := Lib.hid h2)
      exact ⟨.inr (.inr (.inr (.inr (.inl ⟨rfl, h2.out⟩)))), by simp [RowKit.intOf]⟩
    · replace HP := Lib.hid HP
      go_wp2_with (go_at_call 24; (with_reducible refine (P5'.out _ _ HP.out).mono ?_); rintro e w2 ⟨rfl, h2⟩; replace h2 := Lib.hid h2)
      exact ⟨.inr (.inr (.inr (.inr (.inr ⟨rfl, h2.out⟩)))), by simp [RowKit.intOf]⟩
    · replace HP := Lib.hid HP
      go_wp2_with (first | (go_at_call 23; (with_reducible refine (K5.out _ _ HP.out).mono ?_); rintro e w2 ⟨rfl, rfl⟩) | (go_at_call 28; (with_reducible refine (D5'.out _ _ HP.out).mono ?_); rintro e w3 ⟨rfl, h3⟩; replace h3 := Lib.hid h3) | (go_at_call 28; (with_reducible refine (D4'.out _ _ h3.out).mono ?_); rintro e w4 ⟨rfl, h4⟩; replace h4 := Lib.hid h4) | (go_at_call 26; (with_reducible refine (G3.out _ _ h4.out).mono ?_); rintro e w5 ⟨rfl, h5⟩; replace h5 := Lib.hid h5) | (go_at_call 23; (with_reducible refine (K3.out _ _ h5.out).mono ?_); rintro e w6 ⟨rfl, rfl⟩) | (go_at_call 25; (with_reducible refine (E3.out _ _ h5.out).mono ?_); rintro e w6 ⟨rfl, rfl⟩))
      go_ret
      exact ⟨rfl, h5.out.tu⟩
end Go.Proofs.Ytijlcehjlacihaa
