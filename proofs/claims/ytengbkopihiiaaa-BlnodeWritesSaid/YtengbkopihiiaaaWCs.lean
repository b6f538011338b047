/-
  May a node be split; halves of a row.
-/
import Derived.Test.YtengbkopihiiaaaWCl
namespace Go.Proofs.Ytengbkopihiiaaa
open Go.RowKit Go.Lib
set_option linter.unusedVariables false
set_option maxRecDepth 20000
set_option linter.unusedSimpArgs false

/-- May a node be split? -/
def PartsP (leaf : Bool) (K : List ByteArray) (nv nd : Nat) (high : ByteArray) (bnd : Bool) : Prop := (leaf = true → 2 ≤ K.length) ∧ (leaf = false → 3 ≤ K.length) ∧ RightP leaf K nv nd high bnd
set_option maxHeartbeats 4000000 in
theorem partsP (leaf : Bool) (K V : List ByteArray) (D : List Hn) (high : ByteArray) (bnd : Bool) (sl ge : Int) (AK AV AD : Option Addr) (ck cv cd : Nat) (w : World) (hK : Row w AK (kcs K)) (hn : K.length ≤ 100000) :
    Calls Try.prog 45 #[.agg #[.bool leaf, .slice AK K.length ck, .slice AV V.length cv, .slice AD D.length cd, .string high, .bool bnd, .int .i64 sl, .int .u64 ge]] w fun e w' => BRes (PartsP leaf K V.length D.length high bnd) w e w' := by
  have HB := Lib.hid (And.intro ((Turn.refl No w).alloc (.cells #[.bool leaf, .slice AK K.length ck, .slice AV V.length cv, .slice AD D.length cd, .string high, .bool bnd, .int .i64 sl, .int .u64 ge] 29)) (At.new w (.cells #[.bool leaf, .slice AK K.length ck, .slice AV V.length cv, .slice AD D.length cd, .string high, .bool bnd, .int .i64 sl, .int .u64 ge] 29)))
  have HR := Lib.hid (hK.no HB.out.1)
  clear hK
  go_enter Try.func45, Try.ntmps45
  go_upto_region 1 with fail
  generalize w.alloc (.cells #[.bool leaf, .slice AK K.length ck, .slice AV V.length cv, .slice AD D.length cd, .string high, .bool bnd, .int .i64 sl, .int .u64 ge] 29) = w1 at HB HR ⊢
  generalize w.heap.size = g at HB ⊢
  have CI := Lib.hid (rightQ leaf K V D high bnd sl ge AK AV AD ck cv cd w1 HR.out hn)
  obtain ⟨c0, c1, c2, c3, c4, c5, c6, c7⟩ := at8 HB.out.2
  have TW := Lib.hid HB.out.1
  cases leaf with
  | true =>
    by_cases h2 : 2 ≤ K.length
    · have q2 : (2 : Int) ≤ (K.length : Int) := by omega
      have H2N := Lib.hid h2
      clear h2
      go_wp2_with (go_at_call 25; (with_reducible refine CI.out.mono ?_); rintro e w2 ⟨bb, rfl, hb, ht⟩; have H2 := Lib.hid (And.intro hb ht); clear hb ht)
      go_ret
      exact BRes.of bb rfl ⟨fun h => ⟨fun _ => H2N.out, fun h => (by cases h), H2.out.1.1 h⟩, fun h => H2.out.1.2 h.2.2⟩ (TW.out.trans H2.out.2)
    · have q2 : ¬ (2 : Int) ≤ (K.length : Int) := by omega
      have H2N := Lib.hid h2
      clear h2
      go_wp2_with fail
      go_ret
      exact BRes.of false rfl ⟨fun h => by (cases h), fun h => absurd (h.1 rfl) H2N.out⟩ TW.out
  | false =>
    by_cases h2 : 3 ≤ K.length
    · have q2 : (3 : Int) ≤ (K.length : Int) := by omega
      have H2N := Lib.hid h2
      clear h2
      go_wp2_with (go_at_call 25; (with_reducible refine CI.out.mono ?_); rintro e w2 ⟨bb, rfl, hb, ht⟩; have H2 := Lib.hid (And.intro hb ht); clear hb ht)
      go_ret
      exact BRes.of bb rfl ⟨fun h => ⟨fun h => (by cases h), fun _ => H2N.out, H2.out.1.1 h⟩, fun h => H2.out.1.2 h.2.2⟩ (TW.out.trans H2.out.2)
    · have q2 : ¬ (3 : Int) ≤ (K.length : Int) := by omega
      have H2N := Lib.hid h2
      clear h2
      go_wp2_with fail
      go_ret
      exact BRes.of false rfl ⟨fun h => by (cases h), fun h => absurd (h.2.1 rfl) H2N.out⟩ TW.out
set_option maxHeartbeats 4000000 in
theorem halves46 (g n cap e b e2 b2 : Nat) (w : World) (h2 : e2 = e) (h3 : b2 = n - b) (he : e ≤ n) (hb : b < n) (hc : n ≤ cap) (hn : cap ≤ maxLen) :
    Calls Try.prog 46 #[.slice (some ⟨g, 0, none⟩) n cap, .int .i64 (e : Int), .int .i64 (b : Int)] w fun r w' => r = .returned (.tuple #[.slice (some ⟨g, 0, none⟩) e2 e2, .slice (some ⟨g, b, none⟩) b2 b2]) ∧ Turn No w w' := by
  unfold maxLen at hn
  subst h2 h3
  have q0 : (0 : Int) ≤ (e2 : Int) := by omega
  have q1 : (e2 : Int) ≤ (cap : Int) := by omega
  have q2 : (0 : Int) ≤ (b : Int) := by omega
  have q3 : (b : Int) ≤ (n : Int) := by omega
  have q4 : (n : Int) ≤ (cap : Int) := by omega
  have q5 : e2 ≤ cap := by omega
  have q6 : b ≤ n := by omega
  have q7 : ¬ n = b := by omega
  have q8 : ¬ n - b = 0 := by omega
  go_enter Try.func46, Try.ntmps46
  go_wp2_with fail
  go_region
  all_goals go_wp2_with fail
  all_goals go_ret2
  all_goals exact ⟨rfl, (Turn.refl No w).drew⟩
set_option maxHeartbeats 4000000 in
theorem halves47 (g n cap e b e2 b2 : Nat) (w : World) (h2 : e2 = e) (h3 : b2 = n - b) (he : e ≤ n) (hb : b < n) (hc : n ≤ cap) (hn : cap ≤ maxLen) :
    Calls Try.prog 47 #[.slice (some ⟨g, 0, none⟩) n cap, .int .i64 (e : Int), .int .i64 (b : Int)] w fun r w' => r = .returned (.tuple #[.slice (some ⟨g, 0, none⟩) e2 e2, .slice (some ⟨g, b * 2, none⟩) b2 b2]) ∧ Turn No w w' := by
  unfold maxLen at hn
  subst h2 h3
  have q0 : (0 : Int) ≤ (e2 : Int) := by omega
  have q1 : (e2 : Int) ≤ (cap : Int) := by omega
  have q2 : (0 : Int) ≤ (b : Int) := by omega
  have q3 : (b : Int) ≤ (n : Int) := by omega
  have q4 : (n : Int) ≤ (cap : Int) := by omega
  have q5 : e2 ≤ cap := by omega
  have q6 : b ≤ n := by omega
  have q7 : ¬ n = b := by omega
  have q8 : ¬ n - b = 0 := by omega
  go_enter Try.func47, Try.ntmps47
  go_wp2_with fail
  go_region
  all_goals go_wp2_with fail
  all_goals go_ret2
  all_goals exact ⟨rfl, (Turn.refl No w).drew⟩
theorem own_capM {w : World} {Z : Nat} {e size : Nat} {B : Option Addr} {n c : Nat} {xs : List Value} (h : w.ownsRow Z e size (.slice B n c) n xs) : c ≤ maxLen := by
  rcases h.2 with ⟨hv, _⟩ | ⟨g, cap, cur, hv, hb, hg, hn, hc, _⟩
  · injection hv with _ _ e3
    subst e3
    exact Nat.zero_le _
  · injection hv with _ _ e3
    subst e3
    exact hc
end Go.Proofs.Ytengbkopihiiaaa
