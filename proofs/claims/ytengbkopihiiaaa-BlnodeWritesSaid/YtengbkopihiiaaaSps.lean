/-
  Split: its halves as rows without room; facts that stay behind a store.
-/
import Derived.Test.YtengbkopihiiaaaWKds
import Derived.Test.YtengbkopihiiaaaAf
namespace Go.Proofs.Ytengbkopihiiaaa
open Go.RowKit Go.Lib
set_option linter.unusedVariables false
set_option maxRecDepth 20000
set_option linter.unusedSimpArgs false

theorem Wt.wr {w w2 : World} {t s n r : Nat} {A : Option Addr} {c : Array Value} {f : Nat × Nat} {t' : Nat} (h : Wt w t s A n) (hr : At w r (.cells c t' f)) (ht : t ≠ t') (tu : Turn (fun k => k = r) w w2) : Wt w2 t s A n := by
  rcases h with h | ⟨b, off, cur, hA, hat, hs⟩
  · exact Or.inl h
  · refine Or.inr ⟨b, off, cur, hA, hat.turn tu fun e => ?_, hs⟩
    subst e
    have := hat.eq hr
    injection this with _ e2 _
    exact ht e2
theorem Got.keep {Z : Nat} {w w2 : World} {n : Nd} {AK AV AD : Option Addr} {r : Nat} {c : Array Value} {f : Nat × Nat} (h : Got Z w n AK AV AD) (hr : At w r (.cells c 29 f)) (tu : Turn (fun k => k = r) w w2) : Got Z w2 n AK AV AD := by
  obtain ⟨a, b, d⟩ := h.wr hr tu
  exact ⟨a, b, d, h.wk.wr hr (by decide) tu, h.wv.wr hr (by decide) tu, h.wd.wr hr (by decide) tu, h.zk, h.zv, h.zd⟩
theorem lright_yes (n : Nd) (AK AV AD : Option Addr) (ck cv cd : Nat) (w : World) (h : In w n AK AV AD) (hr : NdRight n) : Calls Try.prog 22 #[.agg #[.bool n.leaf, .slice AK n.keys.length ck, .slice AV n.vals.length cv, .slice AD n.kids.length cd, .string n.high, .bool n.bnd, .int .i64 n.nx.slot, .int .u64 n.nx.gen]] w fun e w' => e = .returned (.bool true) ∧ Turn No w w' := by
  obtain ⟨leaf, K, V, D, high, bnd, ⟨sl, ge⟩⟩ := n
  refine (right_any leaf K V.length D.length high bnd sl ge AK AV AD ck cv cd w h.k h.fk h.fh (Nat.le_trans h.lk (by decide))).mono ?_
  rintro e w' ⟨b, rfl, hb, ht⟩
  exact ⟨by rw [hb.2 hr], ht⟩
theorem lright_no (n : Nd) (AK AV AD : Option Addr) (ck cv cd : Nat) (w : World) (h : In w n AK AV AD) (hr : ¬ NdRight n) : Calls Try.prog 22 #[.agg #[.bool n.leaf, .slice AK n.keys.length ck, .slice AV n.vals.length cv, .slice AD n.kids.length cd, .string n.high, .bool n.bnd, .int .i64 n.nx.slot, .int .u64 n.nx.gen]] w fun e w' => e = .returned (.bool false) ∧ Turn No w w' := by
  obtain ⟨leaf, K, V, D, high, bnd, ⟨sl, ge⟩⟩ := n
  refine (right_any leaf K V.length D.length high bnd sl ge AK AV AD ck cv cd w h.k h.fk h.fh (Nat.le_trans h.lk (by decide))).mono ?_
  rintro e w' ⟨b, rfl, hb, ht⟩
  cases b with
  | false => exact ⟨rfl, ht⟩
  | true => exact absurd (hb.1 rfl) hr
theorem in_own {w0 w : World} {Z : Nat} {n : Nd} {AK AV AD B1 B2 B3 : Option Addr} {d1 d2 d3 : Nat} (h : In w0 n AK AV AD) (o : Own Z w n.keys n.vals n.kids B1 d1 B2 d2 B3 d3) : In w n B1 B2 B3 := ⟨row_of_own o.k, row_of_own o.v, row_of_own o.d, h.fk, h.fv, h.fh, h.lk, h.lv, h.ld⟩
section
variable {leaf : Bool} {K V : List ByteArray} {D : List Hn} {high : ByteArray} {bnd : Bool} {sl ge : Int} {AK AV AD : Option Addr} (ck cv cd : Nat) {w : World}
/-- Split's halves, whose rows have no room. -/
theorem split_h (nxt : Hn) (hin : In w ⟨leaf, K, V, D, high, bnd, ⟨sl, ge⟩⟩ AK AV AD) (hso : SplO ⟨leaf, K, V, D, high, bnd, ⟨sl, ge⟩⟩) {sep : ByteArray} {KL VL KR VR : List ByteArray} {DL DR : List Hn} (h1 : K[K.length / 2]? = some sep) (h2 : spL ⟨leaf, K, V, D, high, bnd, ⟨sl, ge⟩⟩ nxt = ⟨leaf, KL, VL, DL, sep, true, nxt⟩) (h3 : spR ⟨leaf, K, V, D, high, bnd, ⟨sl, ge⟩⟩ = ⟨leaf, KR, VR, DR, high, bnd, ⟨sl, ge⟩⟩) :
    Calls Try.prog 17 #[.agg #[.bool leaf, .slice AK K.length ck, .slice AV V.length cv, .slice AD D.length cd, .string high, .bool bnd, .int .i64 sl, .int .u64 ge], .agg #[.int .i64 nxt.slot, .int .u64 nxt.gen]] w fun e w' =>
      ∃ A1 A2 A3 B1 d1 B2 d2 B3 d3, e = .returned (.tuple #[.agg #[.bool leaf, .slice A1 KL.length KL.length, .slice A2 VL.length VL.length, .slice A3 DL.length DL.length, .string sep, .bool true, .int .i64 nxt.slot, .int .u64 nxt.gen], .agg #[.bool leaf, .slice B1 KR.length d1, .slice B2 VR.length d2, .slice B3 DR.length d3, .string high, .bool bnd, .int .i64 sl, .int .u64 ge], .string sep]) ∧
        Got w.heap.size w' ⟨leaf, KL, VL, DL, sep, true, nxt⟩ A1 A2 A3 ∧ Got w.heap.size w' ⟨leaf, KR, VR, DR, high, bnd, ⟨sl, ge⟩⟩ B1 B2 B3 ∧ Turn No w w' := by
  refine (split_c ⟨leaf, K, V, D, high, bnd, ⟨sl, ge⟩⟩ AK AV AD ck cv cd nxt w hin).mono ?_
  rintro e w' ⟨l, r, sep', A1, c1, A2, c2, A3, c3, B1, d1, B2, d2, B3, d3, rfl, hs, hg, hg2, hc, ht⟩
  obtain ⟨e1, e2, e3⟩ := hs.1 hso
  have e1 : K[K.length / 2]? = some sep' := e1
  rw [h1] at e1
  injection e1 with e1
  rw [h2] at e2
  rw [h3] at e3
  subst e1 e2 e3
  obtain ⟨q1, q2, q3⟩ := hc hso
  subst q1 q2 q3
  exact ⟨A1, A2, A3, B1, d1, B2, d2, B3, d3, rfl, hg, hg2, ht⟩
theorem splL_leaf {M : Nat} {sep : ByteArray} {nxt : Hn} (hM : K.length / 2 = M) (hs : K[M]? = some sep) : spL ⟨true, K, V, D, high, bnd, ⟨sl, ge⟩⟩ nxt = ⟨true, K.take M, V.take M, [], sep, true, nxt⟩ := by
  unfold spL
  rw [if_pos rfl]
  show Nd.mk true (K.take (K.length / 2)) (V.take (K.length / 2)) [] (K.getD (K.length / 2) ⟨#[]⟩) true nxt = _
  rw [hM, List.getD_eq_getElem?_getD, hs]
  rfl
theorem splR_leaf {M : Nat} (hM : K.length / 2 = M) : spR ⟨true, K, V, D, high, bnd, ⟨sl, ge⟩⟩ = ⟨true, K.drop M, V.drop M, [], high, bnd, ⟨sl, ge⟩⟩ := by
  unfold spR
  rw [if_pos rfl]
  show Nd.mk true (K.drop (K.length / 2)) (V.drop (K.length / 2)) [] high bnd ⟨sl, ge⟩ = _
  rw [hM]
theorem splL_in {M : Nat} {sep : ByteArray} {nxt : Hn} (hM : K.length / 2 = M) (hs : K[M]? = some sep) : spL ⟨false, K, V, D, high, bnd, ⟨sl, ge⟩⟩ nxt = ⟨false, K.take M, [], D.take (M + 1), sep, true, nxt⟩ := by
  unfold spL
  rw [if_neg (by intro h; cases h)]
  show Nd.mk false (K.take (K.length / 2)) [] (D.take (K.length / 2 + 1)) (K.getD (K.length / 2) ⟨#[]⟩) true nxt = _
  rw [hM, List.getD_eq_getElem?_getD, hs]
  rfl
theorem splR_in {M : Nat} (hM : K.length / 2 = M) : spR ⟨false, K, V, D, high, bnd, ⟨sl, ge⟩⟩ = ⟨false, K.drop (M + 1), [], D.drop (M + 1), high, bnd, ⟨sl, ge⟩⟩ := by
  unfold spR
  rw [if_neg (by intro h; cases h)]
  show Nd.mk false (K.drop (K.length / 2 + 1)) [] (D.drop (K.length / 2 + 1)) high bnd ⟨sl, ge⟩ = _
  rw [hM]
end
theorem st1 {w wx : World} (t : Turn No w wx) {r i : Nat} {u : Value} (hz : w.heap.size ≤ r) : Turn No w (wx.setCell ⟨r, i, none⟩ u) := t.setCell (p := ⟨r, i, none⟩) (Or.inr hz) u
theorem rowK_take {w : World} {Z c M : Nat} {B : Option Addr} {K KL : List ByteArray} (h : w.ownsRow Z 9 1 (.slice B K.length c) K.length (kcs K)) (e : K.take M = KL) : Row w B (kcs KL) := by
  rw [← e, kcs_take]
  exact row_take (row_of_own h) _
theorem rowK_drop {w : World} {Z c M g : Nat} {K KR : List ByteArray} (h : w.ownsRow Z 9 1 (.slice (some ⟨g, 0, none⟩) K.length c) K.length (kcs K)) (e : K.drop M = KR) : Row w (some ⟨g, M, none⟩) (kcs KR) := by
  rw [← e, kcs_drop]
  have := row_drop (row_of_own h) M
  rwa [Nat.zero_add] at this
theorem rowH_take {w : World} {Z c M : Nat} {B : Option Addr} {K KL : List Hn} (h : w.ownsRow Z 27 2 (.slice B K.length c) K.length (hcs K)) (hm : M ≤ K.length) (e : K.take M = KL) : Row w B (hcs KL) := by
  rw [← e, (hcs_cut K hm).1]
  exact row_take (row_of_own h) _
theorem rowH_drop {w : World} {Z c M g : Nat} {K KR : List Hn} (h : w.ownsRow Z 27 2 (.slice (some ⟨g, 0, none⟩) K.length c) K.length (hcs K)) (hm : M ≤ K.length) (e : K.drop M = KR) : Row w (some ⟨g, M * 2, none⟩) (hcs KR) := by
  rw [← e, (hcs_cut K hm).2]
  have := row_drop (row_of_own h) (M * 2)
  rwa [Nat.zero_add] at this
end Go.Proofs.Ytengbkopihiiaaa
