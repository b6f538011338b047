/-
  The list's add.
-/
import Derived.Test.YtijlcehjlacihaaLkI
namespace Go.Proofs.Ytijlcehjlacihaa
open Go.RowKit Go.Lib
set_option linter.unusedVariables false
set_option maxRecDepth 20000
set_option linter.unusedSimpArgs false

namespace NI

set_option maxHeartbeats 1000000 in
/-- add: a child behind the others. -/
theorem ladd_any {w : World} {Z g : Nat} {L : List (Nat × Int)} {A B : Option Addr} {ca cb : Nat} (hat : At w g (.cells #[.slice A L.length ca, .slice B L.length cb] 55 (0, 0)))
    (hA : w.ownsRow Z 5 1 (.slice A L.length ca) L.length (bcs (ksC L))) (hB : w.ownsRow Z 3 1 (.slice B L.length cb) L.length (ics (vsC L))) (hz : Z ≤ w.heap.size) (hn : L.length ≤ 1000) (hzg : Z ≤ g) (b : Nat) (x : Int) :
    Calls Try.prog 37 #[.pointer (some ⟨g, 0, none⟩), .int .u8 (b : Int), Value.int .i64 x] w fun e w' => e = .returned (.tuple #[]) ∧ (∃ A' B' ca' cb', At w' g (.cells #[.slice A' (L ++ [(b, x)]).length ca', .slice B' (L ++ [(b, x)]).length cb'] 55 (0, 0)) ∧
      w'.ownsRow Z 5 1 (.slice A' (L ++ [(b, x)]).length ca') (L ++ [(b, x)]).length (bcs (ksC (L ++ [(b, x)]))) ∧ w'.ownsRow Z 3 1 (.slice B' (L ++ [(b, x)]).length cb') (L ++ [(b, x)]).length (ics (vsC (L ++ [(b, x)])))) ∧ Turn (fun k => Z ≤ k) w w' := by
  have HL := Lib.hid (And.intro hat (And.intro hA hB))
  obtain ⟨n, hnn⟩ : ∃ n, L.length = n := ⟨_, rfl⟩
  rw [hnn] at hat hA hB HL
  obtain ⟨c0, c1, f0, f1⟩ := at2 hat
  have a1 := At.new w (.cells #[.int .u8 (b : Int)] 5)
  have T0 := (Turn.refl No w).alloc (.cells #[.int .u8 (b : Int)] 5)
  obtain ⟨B1, k1, w1, hr1, ho1, ht1, _⟩ := IB.app_own (own_grown hA T0 fun _ _ h => h) w.heap.size b a1 (by omega) (by simp; omega) 42
  have hat1 := (hat.no T0).turn ht1 fun e => by rw [own_ablk] at e; exact ablk_ne hA hat (by decide) e
  have hB1 := row_keep (own_grown hB T0 fun _ _ h => h) ht1 fun k hk e => by rw [own_ablk] at e; exact row_ne hB hA (by decide) hk e
  obtain ⟨m0, m1, z0, z1⟩ := at2 hat1
  have T1 := Turn.set1 w1 g 0 (.slice B1 (n + 1) k1)
  have hat2 : At (w1.setCell ⟨g, 0, none⟩ (.slice B1 (n + 1) k1)) g (.cells #[.slice B1 (n + 1) k1, .slice B n cb] 55 (0, 0)) := by simpa using hat1.set 0 (.slice B1 (n + 1) k1)
  have ho2 := row_keep ho1 T1 fun k hk e => ablk_ne ho1 hat1 (by decide) (e ▸ hk)
  have hB2 := row_keep hB1 T1 fun k hk e => ablk_ne hB1 hat1 (by decide) (e ▸ hk)
  have TT : Turn (fun k => Z ≤ k) w (w1.setCell ⟨g, 0, none⟩ (.slice B1 (n + 1) k1)) := ((T0.mono fun _ _ h => h.elim).trans (ht1.mono fun k _ e => by rw [own_ablk] at e; exact (own_at (own_grown hA T0 fun _ _ h => h) e).1)).trans (T1.mono fun k _ e => by rw [e]; exact hzg)
  have HW1 := Lib.hid (And.intro hat2 (And.intro ho2 (And.intro hB2 TT)))
  clear hat1 hB1 T1 hat2 ho2 hB2 TT ho1 ht1 hat hA hB a1 T0 c1 f1 f0
  go_enter Try.func37, Try.ntmps37
  go_upto_region 1 with (refine wpList_brun2 (by rfl) _ _ .append _ (by rfl) _ _ _ (by rfl) (by rfl) hr1 ?_)
  clear hr1 c0 m0 m1 z0 z1
  generalize w1.setCell ⟨g, 0, none⟩ (.slice B1 (n + 1) k1) = w2 at HW1 ⊢
  obtain ⟨hat, hA, hB, TT⟩ := HW1.out
  have T0 := (Turn.refl No w2).alloc (.cells #[Value.int .i64 x] 3)
  have a1 := At.new w2 (.cells #[Value.int .i64 x] 3)
  have hz2 := Nat.le_trans hz TT.size
  obtain ⟨B3, k3, w3, hr3, ho3, ht3, _⟩ := II.app_own (own_grown hB T0 fun _ _ h => h) w2.heap.size x a1 (by omega) (by simp; omega) 53
  have hat1 := (hat.no T0).turn ht3 fun e => by rw [own_ablk] at e; exact ablk_ne hB hat (by decide) e
  have hA1 := row_keep (own_grown hA T0 fun _ _ h => h) ht3 fun k hk e => by rw [own_ablk] at e; exact row_ne hA hB (by decide) hk e
  obtain ⟨m0, m1, z0, z1⟩ := at2 hat1
  obtain ⟨_, c1, _, _⟩ := at2 hat
  have T1 := Turn.set1 w3 g 1 (.slice B3 (n + 1) k3)
  have hat2 : At (w3.setCell ⟨g, 1, none⟩ (.slice B3 (n + 1) k3)) g (.cells #[.slice B1 (n + 1) k1, .slice B3 (n + 1) k3] 55 (0, 0)) := by simpa using hat1.set 1 (.slice B3 (n + 1) k3)
  have ho2 := row_keep ho3 T1 fun k hk e => ablk_ne ho3 hat1 (by decide) (e ▸ hk)
  have hA2 := row_keep hA1 T1 fun k hk e => ablk_ne hA1 hat1 (by decide) (e ▸ hk)
  have T3 : Turn (fun k => Z ≤ k) w (w3.setCell ⟨g, 1, none⟩ (.slice B3 (n + 1) k3)) := ((TT.trans (T0.mono fun _ _ h => h.elim)).trans (ht3.mono fun k _ e => by rw [own_ablk] at e; exact (own_at (own_grown hB T0 fun _ _ h => h) e).1)).trans (T1.mono fun k _ e => by rw [e]; exact hzg)
  have HW3 := Lib.hid (And.intro hat2 (And.intro hA2 (And.intro ho2 T3)))
  clear hat hA hB TT T0 a1 ho3 ht3 hat1 hA1 T1 hat2 ho2 hA2 T3 HW1
  go_wp2_with (refine wpList_brun2 (by rfl) _ _ .append _ (by rfl) _ _ _ (by rfl) (by rfl) hr3 ?_)
  go_end0
  obtain ⟨h1, h2, h3, h4⟩ := HW3.out
  have el : (L ++ [(b, x)]).length = n + 1 := by simp [hnn]
  rw [el]
  refine ⟨rfl, ⟨B1, B3, k1, k3, h1, ?_, ?_⟩, h4⟩
  · rw [show bcs (ksC (L ++ [(b, x)])) = bcs (ksC L) ++ [Value.int .u8 (b : Int)] by simp [ksC, bcs]]
    exact h2
  · rw [show ics (vsC (L ++ [(b, x)])) = ics (vsC L) ++ [Value.int .i64 x] by simp [vsC, ics]]
    exact h3
end NI
end Go.Proofs.Ytijlcehjlacihaa
