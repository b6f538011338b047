/-
  The shape of the kind 48: set.
-/
import Derived.Test.YtijlcehjlacihaaMiI
namespace Go.Proofs.Ytijlcehjlacihaa
open Go.RowKit Go.Lib
set_option linter.unusedVariables false
set_option maxRecDepth 20000
set_option linter.unusedSimpArgs false

namespace NI

theorem cells258 {c : Array Value} {g : Nat} {w : World} {t : TypeId} (h : At w g (.cells c t (0, 0))) {i : Nat} {u : Value} (hc : c[i]? = some u) : w.cell? ⟨g, i, none⟩ = some u ∧ w.frozen? ⟨g, i, none⟩ = false := ⟨by rw [h.cell]; exact hc, h.thawed i⟩
theorem own_some {w : World} {Z n c : Nat} {t s : Nat} {B : Option Addr} {xs : List Value} (h : w.ownsRow Z t s (.slice B n c) n xs) (hn : 0 < n) : ∃ g, B = some ⟨g, 0, none⟩ ∧ Z ≤ g ∧ ∃ cur, At w g (.cells cur t (0, 0)) := by
  rcases h.2 with ⟨hv, h0⟩ | ⟨g, c', cur, hv, hb, hg, _⟩
  · omega
  · injection hv with e1 _ _
    exact ⟨g, e1, hb, cur, hg⟩
theorem MidE.no {w w' : World} {Z : Dom} {g : Nat} {L : List (Nat × Int)} (h : MidE w Z g L) (k : Turn No w w') : MidE w' Z g L := by
  obtain ⟨P, K, A, B, ca, cb, c, h⟩ := h
  exact ⟨P, K, A, B, ca, cb, c, h.no k⟩
theorem ks_set {K : List (Nat × Int)} {q b : Nat} {y x : Int} (hq : K[q]? = some (b, y)) : ksC (K.set q (b, x)) = ksC K := by
  unfold ksC
  rw [List.map_set]
  obtain ⟨h1, h2⟩ := List.getElem?_eq_some_iff.1 hq
  have : (K.map (·.1))[q]'(by simpa using h1) = b := by simp [h2]
  show (K.map (·.1)).set q b = _
  rw [← this, List.set_getElem_self]
theorem vs_set {K : List (Nat × Int)} {q b : Nat} {x : Int} : ics (vsC (K.set q (b, x))) = (ics (vsC K)).set q (Value.int .i64 x) := by
  unfold vsC ics
  rw [List.map_set, List.map_set]
section
variable {w : World} {Z : Dom} {g : Nat} {L : List (Nat × Int)} {P : Nat → Nat} {K : List (Nat × Int)} {A B : Option Addr} {ca cb : Nat} {c : Array Value}
/-- A child of the node has another thing: in the row's words. -/
theorem Mid.old (h : Mid w Z g L P K A B ca cb c) {b q gb : Nat} {y : Int} (x : Int) (hb : b < 256) (hP : P b = q + 1) (hq : K[q]? = some (b, y)) (hB : B = some ⟨gb, 0, none⟩) :
    MidE (w.setCell ⟨gb, q, none⟩ (Value.int .i64 x)) Z g (putC L b x) ∧ Tz Z w (w.setCell ⟨gb, q, none⟩ (Value.int .i64 x)) := by
  subst hB
  have hg : getC L b = some y := by
    obtain ⟨z, h1, h2⟩ := h.some_ b hb (by omega)
    rw [hP, Nat.add_sub_cancel, hq] at h1
    injection h1 with h1
    injection h1 with _ h1
    rw [h1]; exact h2
  have T := Turn.set1 w gb q (Value.int .i64 x)
  obtain ⟨hzb, cur, hat⟩ := own_at (i := gb) h.xs rfl
  have hat : At w gb (.cells cur 3 (0, 0)) := hat
  have hne : g ≠ gb := h.at_.ne hat (by intro e; injection e with _ e _; exact absurd e (by decide))
  have hl : (K.set q (b, x)).length = K.length := List.length_set ..
  refine ⟨⟨P, K.set q (b, x), A, some ⟨gb, 0, none⟩, ca, cb, c, asc_put h.asc b x, byt_put h.byt hb x, h.zg, h.at_.turn T hne, h.size, h.pl, by rw [hl]; exact h.rb, by rw [hl]; exact h.rx, ?_, ?_, ?_, by rw [hl]; exact h.le, ?_, ?_, ?_⟩, Tz.of T fun k _ hk => by subst hk; exact At.mine hat (.inl hzb) (by decide)⟩
  · rw [hl, ks_set hq]
    exact row_keep h.bs T fun k hk e => row_ne h.bs h.xs (by decide) hk (by rw [e]; rfl)
  · rw [hl, vs_set]
    exact own_set h.xs q _
  · rw [hl, len_put_old h.asc x hg]; exact h.len
  · intro i hi h0
    rw [get_put h.asc, if_neg (by intro e; subst e; omega)]
    exact h.zero i hi h0
  · intro i hi h0
    rw [get_put h.asc]
    by_cases hbi : b = i
    · subst hbi
      rw [if_pos rfl]
      refine ⟨x, ?_, rfl⟩
      rw [hP, Nat.add_sub_cancel, List.getElem?_set_self (List.getElem?_eq_some_iff.1 hq).1]
    · rw [if_neg hbi]
      obtain ⟨z, h1, h2⟩ := h.some_ i hi h0
      refine ⟨z, ?_, h2⟩
      rw [List.getElem?_set_ne (fun e => hbi ?_)]
      · exact h1
      · rw [← e, hq] at h1
        injection h1 with h1
        injection h1
  · intro j p hj
    by_cases hjq : q = j
    · subst hjq
      rw [List.getElem?_set_self (List.getElem?_eq_some_iff.1 hq).1] at hj
      injection hj with hj
      subst hj
      exact ⟨hb, hP⟩
    · rw [List.getElem?_set_ne hjq] at hj
      exact h.back j p hj
set_option maxHeartbeats 1000000 in
theorem mset_old (h : Mid w Z g L P K A B ca cb c) (b : Nat) (x : Int) (hb : b < 256) (hz : P b ≠ 0) :
    Calls Try.prog 99 #[.pointer (some ⟨g, 0, none⟩), .int .u8 (b : Int), Value.int .i64 x] w fun e w' => e = .returned (.tuple #[]) ∧ MidE w' Z g (putC L b x) ∧ Tz Z w w' := by
  have c0 := h.at_.cell b
  rw [h.pl b hb] at c0
  have hb1 : (b : Int) < 256 := by omega
  have hb0 : (0 : Int) ≤ (b : Int) := by omega
  obtain ⟨y, hx, hg⟩ := h.some_ b hb hz
  obtain ⟨q, hq⟩ : ∃ q, P b = q + 1 := ⟨P b - 1, by omega⟩
  rw [hq] at hx c0
  rw [Nat.add_sub_cancel] at hx
  have hq1 := (List.getElem?_eq_some_iff.1 hx).1
  have hle := h.le
  obtain ⟨gb, hB⟩ : ∃ gb, B = some ⟨gb, 0, none⟩ := by
    obtain ⟨gb, hgb, _⟩ := own_some h.xs (by omega)
    exact ⟨gb, hgb⟩
  have HF := Lib.hid (h.old x hb hq hx hB)
  subst hB
  obtain ⟨_, cur, hat⟩ := own_at (i := gb) h.xs rfl
  have hat : At w gb (.cells cur 3 (0, 0)) := hat
  obtain ⟨bb, o, hB, c2⟩ := vcs_at (row_of_own h.xs) hx
  injection hB with hB
  injection hB with hB1 hB2
  subst hB1 hB2
  rw [Nat.zero_add] at c2
  have f2 : w.frozen? ⟨gb, q, none⟩ = false := hat.thawed q
  have c1 := h.at_.cell 257
  rw [h.rx] at c1
  obtain ⟨n, hn⟩ : ∃ n, K.length = n := ⟨_, rfl⟩
  rw [hn] at c1 hq1 hle
  simp only at c2
  have e1 : ((q + 1 : Nat) : Int) = (q : Int) + 1 := by omega
  rw [e1] at c0
  have e2 : ¬ ((q : Int) + 1 = 0) := by omega
  have e3 : IntKind.u8.wrap ((q : Int) + 1 - 1) = (q : Int) := by rw [IntKind.wrap_u8]; omega
  have e4 : (q : Int) < (n : Int) := by omega
  have e5 : (0 : Int) ≤ (q : Int) := by omega
  clear h hz hq hx hn hg hat
  go_enter Try.func99, Try.ntmps99
  go_wp2_with fail
  go_region
  all_goals go_wp2_with fail
  all_goals (try simp only [Exit.inBlock, Exit.then])
  all_goals refine bodyPost_ret (results_none rfl _ _ _) rfl ?_
  all_goals exact ⟨rfl, HF.out.1.no ((Turn.refl No _).drew), HF.out.2.trans (Tz.no ((Turn.refl No _).drew))⟩

/-- A new child: what memory holds behind the three stores. -/
theorem Mid.newC {A' B' : Option Addr} {ca' cb' : Nat} (h : Mid w Z g L P K A B ca cb c) {b : Nat} (x : Int) (hb : b < 256) (hP : P b = 0) (hl : K.length < 48) {w' : World} {c' : Array Value} (hat : At w' g (.cells c' 93 (0, 0))) (hs : c'.size = 258)
    (hpl : ∀ i : Nat, i < 256 → c'[i]? = some (.int .u8 ((if i = b then K.length + 1 else P i : Nat) : Int))) (hrb : c'[256]? = some (.slice A' (K.length + 1) ca')) (hrx : c'[257]? = some (.slice B' (K.length + 1) cb'))
    (hbs : w'.ownsRow Z 5 1 (.slice A' (K.length + 1) ca') (K.length + 1) (bcs (ksC K) ++ [.int .u8 (b : Int)])) (hxs : w'.ownsRow Z 3 1 (.slice B' (K.length + 1) cb') (K.length + 1) (ics (vsC K) ++ [Value.int .i64 x])) : MidE w' Z g (putC L b x) := by
  have el : (K ++ [(b, x)]).length = K.length + 1 := by simp
  refine ⟨fun i => if i = b then K.length + 1 else P i, K ++ [(b, x)], A', B', ca', cb', c', asc_put h.asc b x, byt_put h.byt hb x, h.zg, hat, hs, hpl, by rw [el]; exact hrb, by rw [el]; exact hrx, ?_, ?_, ?_, by rw [el]; omega, ?_, ?_, ?_⟩
  · rw [el, show bcs (ksC (K ++ [(b, x)])) = bcs (ksC K) ++ [Value.int .u8 (b : Int)] by simp [ksC, bcs]]
    exact hbs
  · rw [el, show ics (vsC (K ++ [(b, x)])) = ics (vsC K) ++ [Value.int .i64 x] by simp [vsC, ics]]
    exact hxs
  · rw [el, len_put_new h.asc x (h.zero b hb hP), h.len]
  · intro i hi h0
    by_cases hib : i = b
    · rw [if_pos hib] at h0; omega
    · rw [if_neg hib] at h0
      rw [get_put h.asc, if_neg (fun e => hib e.symm)]
      exact h.zero i hi h0
  · intro i hi h0
    by_cases hib : i = b
    · subst hib
      refine ⟨x, ?_, by rw [get_put h.asc, if_pos rfl]⟩
      rw [if_pos rfl, Nat.add_sub_cancel, List.getElem?_append_right (Nat.le_refl _), Nat.sub_self]
      rfl
    · rw [if_neg hib] at h0
      obtain ⟨z, h1, h2⟩ := h.some_ i hi h0
      refine ⟨z, ?_, by rw [get_put h.asc, if_neg (fun e => hib e.symm)]; exact h2⟩
      rw [if_neg hib, List.getElem?_append_left (List.getElem?_eq_some_iff.1 h1).1]
      exact h1
  · intro j p hj
    rcases Nat.lt_or_ge j K.length with hjl | hjl
    · rw [List.getElem?_append_left hjl] at hj
      have := h.back j p hj
      refine ⟨this.1, ?_⟩
      rw [if_neg (fun e => ?_)]
      · exact this.2
      · rw [e, hP] at this
        exact absurd this.2 (by omega)
    · rw [List.getElem?_append_right hjl] at hj
      have hj0 : j - K.length = 0 := by
        have := (List.getElem?_eq_some_iff.1 hj).1
        simp at this
        omega
      rw [hj0] at hj
      simp at hj
      subst hj
      exact ⟨hb, by show (if b = b then K.length + 1 else P b) = j + 1; rw [if_pos rfl]; omega⟩
set_option maxHeartbeats 2000000 in
theorem mset_new (h : Mid w Z g L P K A B ca cb c) (b : Nat) (x : Int) (hb : b < 256) (hP : P b = 0) (hl : K.length < 48) (hz : Z ≤ w.heap.size) :
    Calls Try.prog 99 #[.pointer (some ⟨g, 0, none⟩), .int .u8 (b : Int), Value.int .i64 x] w fun e w' => e = .returned (.tuple #[]) ∧ MidE w' Z g (putC L b x) ∧ Tz Z w w' := by
  have c0 := (cells258 h.at_ (h.pl b hb)).1
  rw [hP] at c0
  have hb1 : (b : Int) < 256 := by omega
  have hb0 : (0 : Int) ≤ (b : Int) := by omega
  obtain ⟨k1, f1⟩ := cells258 h.at_ h.rb
  have HL := Lib.hid h
  have HQ := Lib.hid (And.intro hP hl)
  obtain ⟨n, hnn⟩ : ∃ n, K.length = n := ⟨_, rfl⟩
  have HN := Lib.hid hnn
  have hA := h.bs
  have hB := h.xs
  have hat := h.at_
  have hsz := h.size
  have hr2 := h.rx
  rw [hnn] at k1 hA hB hl hr2
  have T0 := (Turn.refl No w).alloc (.cells #[.int .u8 (b : Int)] 5)
  have a1 := At.new w (.cells #[.int .u8 (b : Int)] 5)
  obtain ⟨B1, d1, w1, hr1, ho1, ht1, _⟩ := IB.app_own (own_grown hA T0 fun _ _ h => h) w.heap.size b a1 (by omega) (by simp; omega) 42
  have hat1 := (hat.no T0).turn ht1 fun e => by rw [own_ablk] at e; exact ablk_ne hA hat (by decide) e
  have hB1 := row_keep (own_grown hB T0 fun _ _ h => h) ht1 fun k hk e => by rw [own_ablk] at e; exact row_ne hB hA (by decide) hk e
  have m0 : w1.cell? ⟨g, 256, none⟩ = some (.slice A K.length ca) := (cells258 hat1 h.rb).1
  have z0 := hat1.thawed 256
  have T1 := Turn.set1 w1 g 256 (.slice B1 (n + 1) d1)
  have hat2 : At (w1.setCell ⟨g, 256, none⟩ (.slice B1 (n + 1) d1)) g (.cells (c.setIfInBounds 256 (.slice B1 (n + 1) d1)) 93 (0, 0)) := hat1.set 256 (.slice B1 (n + 1) d1)
  have ho2 := row_keep ho1 T1 fun k hk e => ablk_ne ho1 hat1 (by decide) (e ▸ hk)
  have hB2 := row_keep hB1 T1 fun k hk e => ablk_ne hB1 hat1 (by decide) (e ▸ hk)
  have TT : Tz Z w (w1.setCell ⟨g, 256, none⟩ (.slice B1 (n + 1) d1)) := ((Tz.no T0).trans (Tz.of ht1 fun k _ e => by rw [own_ablk] at e; exact own_mine (own_grown hA T0 fun _ _ h => h) (by decide) e)).trans (Tz.of T1 fun k _ e => by subst e; exact At.mine hat1 h.zg (by decide))
  have HW1 := Lib.hid (And.intro hat2 (And.intro ho2 (And.intro hB2 TT)))
  have HC := Lib.hid (And.intro hsz hr2)
  clear h hP hat1 hB1 T1 hat2 ho2 hB2 TT ho1 ht1 hat hA hB a1 T0 hsz hnn hr2 f1
  go_enter Try.func99, Try.ntmps99
  go_upto_region 3 with (refine wpList_brun2 (by rfl) _ _ .append _ (by rfl) _ _ _ (by rfl) (by rfl) hr1 ?_)
  clear hr1 c0 m0 z0 k1
  generalize w1.setCell ⟨g, 256, none⟩ (.slice B1 (n + 1) d1) = w2 at HW1 ⊢
  obtain ⟨hat, hA, hB, TT⟩ := HW1.out
  have T0 := (Turn.refl No w2).alloc (.cells #[Value.int .i64 x] 3)
  have a1 := At.new w2 (.cells #[Value.int .i64 x] 3)
  have hz2 := Nat.le_trans hz TT.size
  obtain ⟨B3, d3, w3, hr3, ho3, ht3, _⟩ := II.app_own (own_grown hB T0 fun _ _ h => h) w2.heap.size x a1 (by omega) (by simp; omega) 53
  have hat1 := (hat.no T0).turn ht3 fun e => by rw [own_ablk] at e; exact ablk_ne hB hat (by decide) e
  have hA1 := row_keep (own_grown hA T0 fun _ _ h => h) ht3 fun k hk e => by rw [own_ablk] at e; exact row_ne hA hB (by decide) hk e
  have c2 : (c.setIfInBounds 256 (.slice B1 (n + 1) d1))[257]? = some (.slice B n cb) := by rw [Array.getElem?_setIfInBounds_ne (by decide)]; exact HC.out.2
  have k2 := (cells258 hat c2).1
  obtain ⟨m1, z1⟩ := cells258 hat1 c2
  have T1 := Turn.set1 w3 g 257 (.slice B3 (n + 1) d3)
  have hat2 : At (w3.setCell ⟨g, 257, none⟩ (.slice B3 (n + 1) d3)) g (.cells ((c.setIfInBounds 256 (.slice B1 (n + 1) d1)).setIfInBounds 257 (.slice B3 (n + 1) d3)) 93 (0, 0)) := hat1.set 257 (.slice B3 (n + 1) d3)
  have ho2 := row_keep ho3 T1 fun k hk e => ablk_ne ho3 hat1 (by decide) (e ▸ hk)
  have hA2 := row_keep hA1 T1 fun k hk e => ablk_ne hA1 hat1 (by decide) (e ▸ hk)
  have T3 : Tz Z w (w3.setCell ⟨g, 257, none⟩ (.slice B3 (n + 1) d3)) := ((TT.trans (Tz.no T0)).trans (Tz.of ht3 fun k _ e => by rw [own_ablk] at e; exact own_mine (own_grown hB T0 fun _ _ h => h) (by decide) e)).trans (Tz.of T1 fun k _ e => by subst e; exact At.mine hat1 HL.out.zg (by decide))
  have HW3 := Lib.hid (And.intro hat2 (And.intro hA2 (And.intro ho2 T3)))
  clear hat hA hB TT T0 a1 ho3 ht3 hat1 hA1 T1 hat2 ho2 hA2 T3 HW1 c2
  go_upto_region 4 with (refine wpList_brun2 (by rfl) _ _ .append _ (by rfl) _ _ _ (by rfl) (by rfl) hr3 ?_)
  clear hr3 k2 m1 z1
  generalize w3.setCell ⟨g, 257, none⟩ (.slice B3 (n + 1) d3) = w4 at HW3 ⊢
  obtain ⟨cc, hcc⟩ : ∃ cc, (c.setIfInBounds 256 (.slice B1 (n + 1) d1)).setIfInBounds 257 (.slice B3 (n + 1) d3) = cc := ⟨_, rfl⟩
  rw [hcc] at HW3
  have e256 : cc[256]? = some (.slice B1 (n + 1) d1) := by
    rw [← hcc, Array.getElem?_setIfInBounds_ne (by decide), Array.getElem?_setIfInBounds_self_of_lt (by rw [HC.out.1]; decide)]
  have e257 : cc[257]? = some (.slice B3 (n + 1) d3) := by
    rw [← hcc, Array.getElem?_setIfInBounds_self_of_lt (by simp [HC.out.1])]
  have eP : ∀ i : Nat, i < 256 → cc[i]? = some (.int .u8 (P i : Int)) := fun i hi => by
    rw [← hcc, Array.getElem?_setIfInBounds_ne (by omega), Array.getElem?_setIfInBounds_ne (by omega)]
    exact HL.out.pl i hi
  have hsc : cc.size = 258 := by rw [← hcc]; simp [HC.out.1]
  have HCC := Lib.hid (And.intro e256 (And.intro e257 (And.intro eP hsc)))
  have c0 := (cells258 HW3.out.1 (eP b hb))
  have k1 := (cells258 HW3.out.1 e256).1
  obtain ⟨c1, z1⟩ := c0
  have hw : IntKind.u8.wrap ((n : Int) + 1) = (n : Int) + 1 := by rw [IntKind.wrap_u8]; omega
  clear hcc e256 e257 eP hsc
  go_wp2_with fail
  go_region
  all_goals go_wp2_with fail
  all_goals go_end0
  all_goals (
    obtain ⟨h1, h2, h3, h4⟩ := HW3.out
    obtain ⟨q1, q2, q3, q4⟩ := HCC.out
    have T := Turn.set1 w4 g b (.int .u8 ((n : Int) + 1))
    refine ⟨rfl, MidE.no (w := w4.setCell ⟨g, b, none⟩ (.int .u8 ((n : Int) + 1))) (HL.out.newC (A' := B1) (B' := B3) (ca' := d1) (cb' := d3) x hb HQ.out.1 HQ.out.2 (h1.set b (.int .u8 ((n : Int) + 1))) (by simp [q4]) ?_ ?_ ?_ ?_ ?_) ((Turn.refl No _).drew), (h4.trans (Tz.of T fun k _ e => by subst e; exact At.mine h1 HL.out.zg (by decide))).trans (Tz.no ((Turn.refl No _).drew))⟩
    · intro i hi
      by_cases hib : i = b
      · subst hib
        rw [if_pos rfl, Array.getElem?_setIfInBounds_self_of_lt (by omega), HN.out]
        rfl
      · rw [if_neg hib, Array.getElem?_setIfInBounds_ne (fun e => hib e.symm)]
        exact q3 i hi
    · rw [HN.out, Array.getElem?_setIfInBounds_ne (by omega)]; exact q1
    · rw [HN.out, Array.getElem?_setIfInBounds_ne (by omega)]; exact q2
    · rw [HN.out]
      exact row_keep h2 T fun k hk e => ablk_ne h2 h1 (by decide) (e ▸ hk)
    · rw [HN.out]
      exact row_keep h3 T fun k hk e => ablk_ne h3 h1 (by decide) (e ▸ hk))
theorem mset_any (h : MidE w Z g L) (b : Nat) (x : Int) (hb : b < 256) (hl : getC L b = none → L.length < 48) (hz : Z ≤ w.heap.size) :
    Calls Try.prog 99 #[.pointer (some ⟨g, 0, none⟩), .int .u8 (b : Int), Value.int .i64 x] w fun e w' => e = .returned (.tuple #[]) ∧ MidE w' Z g (putC L b x) ∧ Tz Z w w' := by
  obtain ⟨P, K, A, B, ca, cb, c, h⟩ := h
  by_cases hP : P b = 0
  · exact mset_new h b x hb hP (by rw [h.len]; exact hl (h.zero b hb hP)) hz
  · exact mset_old h b x hb hP
end
end NI
end Go.Proofs.Ytijlcehjlacihaa
