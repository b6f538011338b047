/-
  The shape of the kind 48: drop.
-/
import Derived.Test.YtijlcehjlacihaaMjI
import Derived.BigRegion
namespace Go.Proofs.Ytijlcehjlacihaa
open Go.RowKit Go.Lib
set_option linter.unusedVariables false
set_option maxRecDepth 20000
set_option linter.unusedSimpArgs false

namespace NI

theorem own_take {w : World} {Z g n c m : Nat} {e : TypeId} {xs : List Value} (h : w.ownsRow Z e 1 (.slice (some ⟨g, 0, none⟩) n c) n xs) (hm : m ≤ n) : w.ownsRow Z e 1 (.slice (some ⟨g, 0, none⟩) m c) m (xs.take m) := by
  obtain ⟨hl, ⟨hv, _⟩ | ⟨g', cp, cur, hv, hb, hg, hn, hc, hs, ht⟩⟩ := h
  · cases hv
  · injection hv with hA _ hcp
    injection hA with hA
    injection hA with hA
    subst hA hcp
    rw [Nat.mul_one] at hl ht
    refine ⟨by rw [Nat.mul_one, List.length_take]; omega, .inr ⟨g, c, cur, rfl, hb, hg, Nat.le_trans hm hn, hc, hs, ?_⟩⟩
    rw [Nat.mul_one, ← ht, List.take_take, Nat.min_eq_left hm]
theorem delLast {K : List (Nat × Int)} {m d : Nat} {z : Int} (hl : K.length = m + 1) (hd : K[m]? = some (d, z)) {w : World} {Z gb cb : Nat} (h : w.ownsRow Z 3 1 (.slice (some ⟨gb, 0, none⟩) (m + 1) cb) (m + 1) (ics (vsC K))) :
    Calls Try.prog 69 #[.slice (some ⟨gb, 0, none⟩) (m + 1) cb, .int .i64 (m : Int), .int .i64 ((m : Int) + 1)] w fun e w' => e = .returned (.slice (some ⟨gb, 0, none⟩) m cb) ∧
      w'.ownsRow Z 3 1 (.slice (some ⟨gb, 0, none⟩) m cb) m (ics (vsC (K.take m))) ∧ Turn (fun k => k = gb) w w' := by
  have hs : K = K.take m ++ [(d, z)] := by
    obtain ⟨h1, h2⟩ := List.getElem?_eq_some_iff.1 hd
    have e := List.take_append_drop m K
    rw [← List.getElem_cons_drop h1, h2, List.drop_eq_nil_of_le (by omega)] at e
    exact e.symm
  have e1 : vsC K = vsC (K.take m) ++ z :: [] := by
    rw [show z :: [] = vsC [(d, z)] from rfl, ← vs_append, ← hs]
  have hcap := own_capN h
  have hlm : (vsC (K.take m)).length = m := by rw [vs_length, List.length_take]; omega
  rw [e1] at h
  obtain ⟨ga, cur, hga, hzg, hm, hd2⟩ := II.Hd.of_own h (by simp [hlm]) (by omega)
  injection hga with hga
  injection hga with hga
  subst hga
  have := II.delete_any (vsC (K.take m)) [] z hd2 hm
  rw [hlm] at this
  refine this.mono ?_
  rintro e w' ⟨rfl, ⟨cur', hd'⟩, ht⟩
  have := hd'.own hzg hm
  rw [List.append_nil, hlm] at this
  exact ⟨by simp, this, ht⟩
section
variable {w : World} {Z : Dom} {g : Nat} {L : List (Nat × Int)} {P : Nat → Nat} {K : List (Nat × Int)} {A B : Option Addr} {ca cb : Nat} {c : Array Value}
theorem Mid.dropC (h : Mid w Z g L P K A B ca cb c) {b q m d : Nat} {y z : Int} (hb : b < 256) (hP : P b = q + 1) (hq : K[q]? = some (b, y)) (hm : K.length = m + 1) (hd : K[m]? = some (d, z)) {w' : World} {c' : Array Value} (hat : At w' g (.cells c' 93 (0, 0))) (hs : c'.size = 258)
    (hpl : ∀ i : Nat, i < 256 → c'[i]? = some (.int .u8 ((if i = b then 0 else if i = d then q + 1 else P i : Nat) : Int))) (hrb : c'[256]? = some (.slice A m ca)) (hrx : c'[257]? = some (.slice B m cb))
    (hbs : w'.ownsRow Z 5 1 (.slice A m ca) m (bcs (ksC ((K.set q (d, z)).take m)))) (hxs : w'.ownsRow Z 3 1 (.slice B m cb) m (ics (vsC ((K.set q (d, z)).take m)))) : MidE w' Z g (delC L b) := by
  have hg : getC L b = some y := by
    obtain ⟨v, h1, h2⟩ := h.some_ b hb (by omega)
    rw [hP, Nat.add_sub_cancel, hq] at h1
    injection h1 with h1
    injection h1 with _ h1
    rw [h1]; exact h2
  have el : ((K.set q (d, z)).take m).length = m := by rw [List.length_take, List.length_set]; omega
  have hld := len_del h.asc hg
  have hlen := h.len
  have hqm : q < K.length := (List.getElem?_eq_some_iff.1 hq).1
  have hPd := h.back m (d, z) hd
  simp only at hPd
  have hdq : d = b → q = m := fun e => by subst e; omega
  refine ⟨fun i => if i = b then 0 else if i = d then q + 1 else P i, (K.set q (d, z)).take m, A, B, ca, cb, c', asc_del h.asc b, byt_del h.byt b, h.zg, hat, hs, hpl, by rw [el]; exact hrb, by rw [el]; exact hrx, by rw [el]; exact hbs, by rw [el]; exact hxs, by rw [el]; omega, by rw [el]; have := h.le; omega, ?_, ?_, ?_⟩
  · intro i hi h0
    rw [get_del h.asc]
    by_cases hib : i = b
    · rw [if_pos hib.symm]
    · rw [if_neg hib] at h0
      rw [if_neg (fun e => hib e.symm)]
      by_cases hid : i = d
      · rw [if_pos hid] at h0; omega
      · rw [if_neg hid] at h0
        exact h.zero i hi h0
  · intro i hi h0
    rw [get_del h.asc]
    by_cases hib : i = b
    · rw [if_pos hib] at h0; omega
    · simp only [if_neg hib, if_neg (fun e : b = i => hib e.symm)]
      rw [if_neg hib] at h0
      by_cases hid : i = d
      · subst hid
        rw [if_pos rfl, Nat.add_sub_cancel]
        have hqm2 : q ≠ m := fun e => hib (by rw [e, hd] at hq; injection hq with hq; injection hq)
        obtain ⟨v, h1, h2⟩ := h.some_ i hi (by omega)
        rw [hPd.2, Nat.add_sub_cancel, hd] at h1
        injection h1 with h1
        injection h1 with _ h1
        subst h1
        exact ⟨z, by rw [List.getElem?_take, if_pos (by omega), List.getElem?_set_self hqm], h2⟩
      · rw [if_neg hid]
        rw [if_neg hid] at h0
        obtain ⟨v, h1, h2⟩ := h.some_ i hi h0
        have hlt := (List.getElem?_eq_some_iff.1 h1).1
        have n1 : P i - 1 ≠ q := fun e => hib (by rw [e, hq] at h1; injection h1 with h1; injection h1 with h1; exact h1.symm)
        have n2 : P i - 1 ≠ m := fun e => hid (by rw [e, hd] at h1; injection h1 with h1; injection h1 with h1; exact h1.symm)
        exact ⟨v, by rw [List.getElem?_take, if_pos (by omega), List.getElem?_set_ne (fun e => n1 e.symm)]; exact h1, h2⟩
  · intro j p hj
    have hjm : j < m := by have := (List.getElem?_eq_some_iff.1 hj).1; rw [el] at this; exact this
    rw [List.getElem?_take, if_pos hjm] at hj
    by_cases hjq : q = j
    · subst hjq
      rw [List.getElem?_set_self hqm] at hj
      injection hj with hj
      subst hj
      have hne : d ≠ b := fun e => by have := hdq e; omega
      refine ⟨hPd.1, ?_⟩
      show (if d = b then 0 else if d = d then q + 1 else P d) = q + 1
      rw [if_neg hne, if_pos rfl]
    · rw [List.getElem?_set_ne hjq] at hj
      have := h.back j p hj
      refine ⟨this.1, ?_⟩
      show (if p.1 = b then 0 else if p.1 = d then q + 1 else P p.1) = j + 1
      rw [if_neg (fun e => ?_), if_neg (fun e => ?_)]
      · exact this.2
      · rw [e, hPd.2] at this; omega
      · rw [e, hP] at this; omega
set_option maxHeartbeats 4000000 in
theorem mdrop_any (h : Mid w Z g L P K A B ca cb c) (b : Nat) (hb : b < 256) (hz : P b ≠ 0) :
    Calls Try.prog 95 #[.pointer (some ⟨g, 0, none⟩), .int .u8 (b : Int)] w fun e w' => e = .returned (.tuple #[]) ∧ MidE w' Z g (delC L b) ∧ Tz Z w w' := by
  have c0 := (cells258 h.at_ (h.pl b hb)).1
  have hb1 : (b : Int) < 256 := by omega
  have hb0 : (0 : Int) ≤ (b : Int) := by omega
  obtain ⟨y, hx, hg⟩ := h.some_ b hb hz
  obtain ⟨q, hq⟩ : ∃ q, P b = q + 1 := ⟨P b - 1, by omega⟩
  rw [hq] at hx c0
  rw [Nat.add_sub_cancel] at hx
  have hq1 := (List.getElem?_eq_some_iff.1 hx).1
  have hle := h.le
  obtain ⟨m, hm⟩ : ∃ m, K.length = m + 1 := ⟨K.length - 1, by omega⟩
  obtain ⟨⟨d, z⟩, hd⟩ : ∃ p, K[m]? = some p := ⟨_, List.getElem?_eq_getElem (by omega)⟩
  have hd2 := (h.back m _ hd).1
  simp only at hd2
  obtain ⟨ga, hA, _, cura, hata⟩ := own_some h.bs (by omega)
  obtain ⟨gb, hB, _, curb, hatb⟩ := own_some h.xs (by omega)
  subst hA hB
  have a1 := (cells258 h.at_ h.rb).1
  have a2 := (cells258 h.at_ h.rx).1
  have b1 : w.cell? ⟨ga, m, none⟩ = some (.int .u8 (d : Int)) := by
    obtain ⟨bb, o, hE, h1⟩ := bcs_get (row_of_own h.bs) (ks_get hd)
    injection hE with hE; injection hE with e1 e2; subst e1 e2
    rw [Nat.zero_add] at h1; exact h1
  have b2 : w.cell? ⟨gb, m, none⟩ = some (Value.int .i64 z) := by
    obtain ⟨bb, o, hE, h1⟩ := vcs_at (row_of_own h.xs) hd
    injection hE with hE; injection hE with e1 e2; subst e1 e2
    rw [Nat.zero_add] at h1; exact h1
  have b3 : w.cell? ⟨ga, q, none⟩ = some (.int .u8 (b : Int)) := by
    obtain ⟨bb, o, hE, h1⟩ := bcs_get (row_of_own h.bs) (ks_get hx)
    injection hE with hE; injection hE with e1 e2; subst e1 e2
    rw [Nat.zero_add] at h1; exact h1
  have b4 : w.cell? ⟨gb, q, none⟩ = some (Value.int .i64 y) := by
    obtain ⟨bb, o, hE, h1⟩ := vcs_at (row_of_own h.xs) hx
    injection hE with hE; injection hE with e1 e2; subst e1 e2
    rw [Nat.zero_add] at h1; exact h1
  have z1 : w.frozen? ⟨ga, q, none⟩ = false := hata.thawed q
  have z2 : w.frozen? ⟨gb, q, none⟩ = false := hatb.thawed q
  have hab : ga ≠ gb := hata.ne hatb (by intro e; injection e with _ e _; exact absurd e (by decide))
  have HAB := Lib.hid hab
  have HL := Lib.hid h
  have HQ := Lib.hid (And.intro hq (And.intro hx (And.intro hm hd)))
  have e1 : ((q + 1 : Nat) : Int) = (q : Int) + 1 := by omega
  rw [e1] at c0
  rw [hm] at a1 a2 hq1 hle
  have e9 : ((m + 1 : Nat) : Int) = (m : Int) + 1 := by omega
  have e3 : IntKind.u8.wrap ((q : Int) + 1 - 1) = (q : Int) := by rw [IntKind.wrap_u8]; omega
  have e4 : (q : Int) < (m : Int) + 1 := by omega
  have e5 : (0 : Int) ≤ (q : Int) := by omega
  have e6 : IntKind.i64.wrap ((m : Int) + 1 - 1) = (m : Int) := by rw [IntKind.wrap_i64]; omega
  have e7 : (0 : Int) ≤ (m : Int) := by omega
  have e8 : (m : Int) < (m : Int) + 1 := by omega
  clear h hz hq hx hm hg hd hata hatb
  go_enter Try.func95, Try.ntmps95
  go_upto_region 2 with fail
  go_region
  all_goals go_upto_region 3 with fail
  -- behind the exchange
  have H2 : Hid (At ((w.setCell ⟨ga, q, none⟩ (.int .u8 (d : Int))).setCell ⟨gb, q, none⟩ (Value.int .i64 z)).drew g (.cells c 93 (0, 0)) ∧
      ((w.setCell ⟨ga, q, none⟩ (.int .u8 (d : Int))).setCell ⟨gb, q, none⟩ (Value.int .i64 z)).drew.ownsRow Z 5 1 (.slice (some ⟨ga, 0, none⟩) (m + 1) ca) (m + 1) (bcs (ksC (K.set q (d, z)))) ∧
      ((w.setCell ⟨ga, q, none⟩ (.int .u8 (d : Int))).setCell ⟨gb, q, none⟩ (Value.int .i64 z)).drew.ownsRow Z 3 1 (.slice (some ⟨gb, 0, none⟩) (m + 1) cb) (m + 1) (ics (vsC (K.set q (d, z)))) ∧
      Tz Z w ((w.setCell ⟨ga, q, none⟩ (.int .u8 (d : Int))).setCell ⟨gb, q, none⟩ (Value.int .i64 z)).drew) := Lib.hid (by
    have hbs := HL.out.bs
    have hxs := HL.out.xs
    rw [HQ.out.2.2.1] at hbs hxs
    have hng := HL.out.at_
    have T1 := Turn.set1 w ga q (.int .u8 (d : Int))
    have r1 := own_set hbs q (.int .u8 (d : Int))
    have at1 := hng.turn T1 (fun e => ablk_ne hbs hng (by decide) (by rw [e]; rfl))
    have r2 := row_keep hxs T1 fun k hk e => row_ne hbs hxs (by decide) (k := ga) rfl (by rw [← e]; exact hk)
    have T2 := Turn.set1 (w.setCell ⟨ga, q, none⟩ (.int .u8 (d : Int))) gb q (Value.int .i64 z)
    have r3 := own_set r2 q (Value.int .i64 z)
    have at2 := at1.turn T2 (fun e => ablk_ne r2 at1 (by decide) (by rw [e]; rfl))
    have r4 := row_keep r1 T2 fun k hk e => row_ne r1 r2 (by decide) hk (by rw [e]; rfl)
    have TD : Turn No ((w.setCell ⟨ga, q, none⟩ (.int .u8 (d : Int))).setCell ⟨gb, q, none⟩ (Value.int .i64 z)) ((w.setCell ⟨ga, q, none⟩ (.int .u8 (d : Int))).setCell ⟨gb, q, none⟩ (Value.int .i64 z)).drew := (Turn.refl No _).drew
    refine ⟨at2.no TD, ?_, ?_, ((Tz.of T1 fun k _ e => own_mine hbs (by decide) (by rw [e]; rfl)).trans (Tz.of T2 fun k _ e => own_mine r2 (by decide) (by rw [e]; rfl))).trans (Tz.no TD)⟩
    · rw [show bcs (ksC (K.set q (d, z))) = (bcs (ksC K)).set q (.int .u8 (d : Int)) by simp [bcs, ksC, List.map_set]]
      exact own_grown r4 TD fun _ _ h => h
    · rw [vs_set]
      exact own_grown r3 TD fun _ _ h => h)
  generalize ((w.setCell ⟨ga, q, none⟩ (.int .u8 (d : Int))).setCell ⟨gb, q, none⟩ (Value.int .i64 z)).drew = w2 at H2 ⊢
  clear a1 a2 b1 b2 b3 b4 z1 z2 c0
  have HD : Hid ((K.set q (d, z))[m]? = some (d, z)) := Lib.hid (by
    by_cases hqm : q = m
    · rw [← hqm, List.getElem?_set_self (List.getElem?_eq_some_iff.1 HQ.out.2.1).1]
    · rw [List.getElem?_set_ne hqm]; exact HQ.out.2.2.2)
  have a1 : w2.cell? ⟨g, 256, none⟩ = some (.slice (some ⟨ga, 0, none⟩) (m + 1) ca) := by
    have := (cells258 H2.out.1 HL.out.rb).1
    rw [HQ.out.2.2.1] at this
    exact this
  have b1 : w2.cell? ⟨ga, m, none⟩ = some (.int .u8 (d : Int)) := by
    obtain ⟨bb, o, hE, h1⟩ := bcs_get (row_of_own H2.out.2.1) (ks_get HD.out)
    injection hE with hE; injection hE with e1 e2; subst e1 e2
    rw [Nat.zero_add] at h1; exact h1
  obtain ⟨c0, z1⟩ := cells258 H2.out.1 (HL.out.pl d hd2)
  have hd3 : (d : Int) < 256 := by omega
  have hd4 : (0 : Int) ≤ (d : Int) := by omega
  go_region
  all_goals go_upto_region 4 with fail
  have H3 : Hid (At (w2.setCell ⟨g, d, none⟩ (.int .u8 ((q : Int) + 1))).drew g (.cells (c.setIfInBounds d (.int .u8 ((q : Int) + 1))) 93 (0, 0)) ∧
      (w2.setCell ⟨g, d, none⟩ (.int .u8 ((q : Int) + 1))).drew.ownsRow Z 5 1 (.slice (some ⟨ga, 0, none⟩) (m + 1) ca) (m + 1) (bcs (ksC (K.set q (d, z)))) ∧
      (w2.setCell ⟨g, d, none⟩ (.int .u8 ((q : Int) + 1))).drew.ownsRow Z 3 1 (.slice (some ⟨gb, 0, none⟩) (m + 1) cb) (m + 1) (ics (vsC (K.set q (d, z)))) ∧ Tz Z w (w2.setCell ⟨g, d, none⟩ (.int .u8 ((q : Int) + 1))).drew) := Lib.hid (by
    obtain ⟨h1, h2, h3, h4⟩ := H2.out
    have T := Turn.set1 w2 g d (.int .u8 ((q : Int) + 1))
    have TD : Turn No (w2.setCell ⟨g, d, none⟩ (.int .u8 ((q : Int) + 1))) (w2.setCell ⟨g, d, none⟩ (.int .u8 ((q : Int) + 1))).drew := (Turn.refl No _).drew
    exact ⟨(h1.set d _).no TD, own_grown (row_keep h2 T fun k hk e => ablk_ne h2 h1 (by decide) (e ▸ hk)) TD fun _ _ h => h, own_grown (row_keep h3 T fun k hk e => ablk_ne h3 h1 (by decide) (e ▸ hk)) TD fun _ _ h => h, (h4.trans (Tz.of T fun k _ e => by subst e; exact At.mine h1 HL.out.zg (by decide))).trans (Tz.no TD)⟩)
  generalize (w2.setCell ⟨g, d, none⟩ (.int .u8 ((q : Int) + 1))).drew = w3 at H3 ⊢
  clear a1 b1 c0 z1 H2
  have HS : Hid (c.size = 258) := Lib.hid HL.out.size
  obtain ⟨v0, hv0⟩ : ∃ v, (c.setIfInBounds d (.int .u8 ((q : Int) + 1)))[b]? = some v := ⟨_, Array.getElem?_eq_getElem (by rw [Array.size_setIfInBounds, HS.out]; omega)⟩
  obtain ⟨c0, z1⟩ := cells258 H3.out.1 hv0
  clear hv0
  go_upto_region 5 with fail
  have H4 : Hid (At (w3.setCell ⟨g, b, none⟩ (.int .u8 0)) g (.cells ((c.setIfInBounds d (.int .u8 ((q : Int) + 1))).setIfInBounds b (.int .u8 0)) 93 (0, 0)) ∧
      (w3.setCell ⟨g, b, none⟩ (.int .u8 0)).ownsRow Z 5 1 (.slice (some ⟨ga, 0, none⟩) (m + 1) ca) (m + 1) (bcs (ksC (K.set q (d, z)))) ∧
      (w3.setCell ⟨g, b, none⟩ (.int .u8 0)).ownsRow Z 3 1 (.slice (some ⟨gb, 0, none⟩) (m + 1) cb) (m + 1) (ics (vsC (K.set q (d, z)))) ∧ Tz Z w (w3.setCell ⟨g, b, none⟩ (.int .u8 0))) := Lib.hid (by
    obtain ⟨h1, h2, h3, h4⟩ := H3.out
    have T := Turn.set1 w3 g b (.int .u8 0)
    exact ⟨h1.set b _, row_keep h2 T fun k hk e => ablk_ne h2 h1 (by decide) (e ▸ hk), row_keep h3 T fun k hk e => ablk_ne h3 h1 (by decide) (e ▸ hk), h4.trans (Tz.of T fun k _ e => by subst e; exact At.mine h1 HL.out.zg (by decide))⟩)
  generalize w3.setCell ⟨g, b, none⟩ (.int .u8 0) = w4 at H4 ⊢
  clear c0 z1 H3
  obtain ⟨c4, hc4⟩ : ∃ x, (c.setIfInBounds d (.int .u8 ((q : Int) + 1))).setIfInBounds b (.int .u8 0) = x := ⟨_, rfl⟩
  have HC4 := Lib.hid hc4
  rw [hc4] at H4
  clear hc4
  have e256 : c4[256]? = some (.slice (some ⟨ga, 0, none⟩) (m + 1) ca) := by
    rw [← HC4.out, Array.getElem?_setIfInBounds_ne (by omega), Array.getElem?_setIfInBounds_ne (by omega), HL.out.rb, HQ.out.2.2.1]
  have e257 : c4[257]? = some (.slice (some ⟨gb, 0, none⟩) (m + 1) cb) := by
    rw [← HC4.out, Array.getElem?_setIfInBounds_ne (by omega), Array.getElem?_setIfInBounds_ne (by omega), HL.out.rx, HQ.out.2.2.1]
  have hs4 : c4.size = 258 := by rw [← HC4.out]; simp [HS.out]
  have HE := Lib.hid (And.intro e257 hs4)
  obtain ⟨a1, z1⟩ := cells258 H4.out.1 e256
  have hcap := own_capN H4.out.2.1
  have hcap1 : m ≤ ca := by omega
  have hcap2 : ¬ (ca = 0) := by omega
  have hm1 : m ≤ m + 1 := by omega
  have hmw : IntKind.i64.wrap (m : Int) = (m : Int) := by rw [IntKind.wrap_i64]; omega
  clear e256 e257 hs4
  go_upto_region 6 with fail
  have H5 : Hid (At (w4.setCell ⟨g, 256, none⟩ (.slice (some ⟨ga, 0, none⟩) m ca)) g (.cells (c4.setIfInBounds 256 (.slice (some ⟨ga, 0, none⟩) m ca)) 93 (0, 0)) ∧
      (w4.setCell ⟨g, 256, none⟩ (.slice (some ⟨ga, 0, none⟩) m ca)).ownsRow Z 5 1 (.slice (some ⟨ga, 0, none⟩) m ca) m (bcs (ksC ((K.set q (d, z)).take m))) ∧
      (w4.setCell ⟨g, 256, none⟩ (.slice (some ⟨ga, 0, none⟩) m ca)).ownsRow Z 3 1 (.slice (some ⟨gb, 0, none⟩) (m + 1) cb) (m + 1) (ics (vsC (K.set q (d, z)))) ∧ Tz Z w (w4.setCell ⟨g, 256, none⟩ (.slice (some ⟨ga, 0, none⟩) m ca))) := Lib.hid (by
    obtain ⟨h1, h2, h3, h4⟩ := H4.out
    have T := Turn.set1 w4 g 256 (.slice (some ⟨ga, 0, none⟩) m ca)
    refine ⟨h1.set 256 _, ?_, row_keep h3 T fun k hk e => ablk_ne h3 h1 (by decide) (e ▸ hk), h4.trans (Tz.of T fun k _ e => by subst e; exact At.mine h1 HL.out.zg (by decide))⟩
    rw [show bcs (ksC ((K.set q (d, z)).take m)) = (bcs (ksC (K.set q (d, z)))).take m by simp [bcs, ksC, List.map_take]]
    exact own_take (row_keep h2 T fun k hk e => ablk_ne h2 h1 (by decide) (e ▸ hk)) hm1)
  generalize w4.setCell ⟨g, 256, none⟩ (.slice (some ⟨ga, 0, none⟩) m ca) = w5 at H5 ⊢
  clear a1 z1 H4
  have e257 : (c4.setIfInBounds 256 (.slice (some ⟨ga, 0, none⟩) m ca))[257]? = some (.slice (some ⟨gb, 0, none⟩) (m + 1) cb) := by rw [Array.getElem?_setIfInBounds_ne (by decide)]; exact HE.out.1
  have HE2 := Lib.hid e257
  have a1 := (cells258 H5.out.1 e257).1
  have CD := Lib.hid (delLast (by rw [List.length_set]; exact HQ.out.2.2.1) HD.out H5.out.2.2.1)
  have HS6 : Hid (∀ W, Turn (fun k => k = gb) w5 W → At W g (.cells (c4.setIfInBounds 256 (.slice (some ⟨ga, 0, none⟩) m ca)) 93 (0, 0)) ∧ W.ownsRow Z 5 1 (.slice (some ⟨ga, 0, none⟩) m ca) m (bcs (ksC ((K.set q (d, z)).take m))) ∧ Tz Z w W) := Lib.hid fun W T => by
    obtain ⟨h1, h2, h3, h4⟩ := H5.out
    exact ⟨h1.turn T fun e => ablk_ne h3 h1 (by decide) (by rw [e]; rfl), row_keep h2 T fun k hk e => row_ne h2 h3 (by decide) hk (by rw [e]; rfl), h4.trans (Tz.of T fun k _ e => own_mine h3 (by decide) (by rw [e]; rfl))⟩
  have hmw2 : IntKind.i64.wrap ((m : Int) + 1) = (m : Int) + 1 := by rw [IntKind.wrap_i64]; omega
  clear e257
  go_wp2_with (go_at_call 69; (with_reducible refine CD.out.mono ?_); rintro e w6 ⟨rfl, ho, h2⟩; have H6 := Lib.hid (And.intro ho (HS6.out w6 h2)); clear ho h2; obtain ⟨k6, f6⟩ := cells258 H6.out.2.1 HE2.out)
  go_end0
  obtain ⟨h1, h2, h3, h4⟩ := H6.out
  have T := Turn.set1 w6 g 257 (.slice (some ⟨gb, 0, none⟩) m cb)
  have hs4 := HE.out.2
  refine ⟨rfl, HL.out.dropC hb HQ.out.1 HQ.out.2.1 HQ.out.2.2.1 HQ.out.2.2.2 (h2.set 257 (.slice (some ⟨gb, 0, none⟩) m cb)) (by simp [hs4]) ?_ ?_ ?_ ?_ ?_, h4.trans (Tz.of T fun k _ e => by subst e; exact At.mine h2 HL.out.zg (by decide))⟩
  · intro i hi
    rw [Array.getElem?_setIfInBounds_ne (by omega), Array.getElem?_setIfInBounds_ne (by omega), ← HC4.out]
    by_cases hib : i = b
    · subst hib
      rw [if_pos rfl, Array.getElem?_setIfInBounds_self_of_lt (by rw [Array.size_setIfInBounds, HS.out]; omega)]
      rfl
    · rw [if_neg hib, Array.getElem?_setIfInBounds_ne (fun e => hib e.symm)]
      by_cases hid : i = d
      · subst hid
        rw [if_pos rfl, Array.getElem?_setIfInBounds_self_of_lt (by rw [HS.out]; omega), e1]
      · rw [if_neg hid, Array.getElem?_setIfInBounds_ne (fun e => hid e.symm)]
        exact HL.out.pl i hi
  · rw [Array.getElem?_setIfInBounds_ne (by decide), Array.getElem?_setIfInBounds_self_of_lt (by rw [hs4]; decide)]
  · rw [Array.getElem?_setIfInBounds_self_of_lt (by rw [Array.size_setIfInBounds, hs4]; decide)]
  · exact row_keep h3 T fun k hk e => ablk_ne h3 h2 (by decide) (e ▸ hk)
  · exact row_keep h1 T fun k hk e => ablk_ne h1 h2 (by decide) (e ▸ hk)
end
end NI
end Go.Proofs.Ytijlcehjlacihaa
