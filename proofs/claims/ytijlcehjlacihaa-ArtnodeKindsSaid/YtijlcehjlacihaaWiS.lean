/-
  The shape of the kind 256: set, drop.
-/
import Derived.Test.YtijlcehjlacihaaWhS
namespace Go.Proofs.Ytijlcehjlacihaa
open Go.RowKit Go.Lib
set_option linter.unusedVariables false
set_option maxRecDepth 20000
set_option linter.unusedSimpArgs false

namespace NS

section
variable {w : World} {Z : Dom} {g : Nat} {L : List (Nat × ByteArray)} {c : Array Value}
set_option maxHeartbeats 2000000 in
theorem wset_any (h : Who w Z g L c) (b : Nat) (x : ByteArray) (hb : b < 256) :
    Calls Try.prog 114 #[.pointer (some ⟨g, 0, none⟩), .int .u8 (b : Int), Value.string x] w fun e w' => e = .returned (.tuple #[]) ∧ WhoE w' Z g (putC L b x) ∧ Tz Z w w' := by
  have hb1 : (b : Int) < 256 := by omega
  have hb0 : (0 : Int) ≤ (b : Int) := by omega
  have HL := Lib.hid h
  obtain ⟨c0, f0⟩ := cells258 h.at_ (h.has b hb)
  obtain ⟨c1, f1⟩ := cells258 h.at_ (h.thg b hb)
  obtain ⟨c2, f2⟩ := cells258 h.at_ h.cnt
  have hlen := len_byt h.asc h.byt
  obtain ⟨v1, hv1⟩ : ∃ x, Value.string ((getC L b).getD (⟨#[]⟩ : ByteArray)) = x := ⟨_, rfl⟩
  rw [hv1] at c1
  clear hv1
  have T2 : ∀ (w : World) (u v : Value), Turn (fun k => k = g) w ((w.setCell ⟨g, b, none⟩ u).setCell ⟨g, 256 + b, none⟩ v).drew := fun w u v => ((Turn.set1 w g b u).trans (Turn.set1 _ g (256 + b) v)).drew
  have HT2 := Lib.hid T2
  clear T2
  cases hg : getC L b with
  | some y =>
    rw [hg] at c0
    have hl := len_put_old h.asc x hg
    have HF : Hid (WhoE ((w.setCell ⟨g, b, none⟩ (.bool true)).setCell ⟨g, 256 + b, none⟩ (Value.string x)).drew Z g (putC L b x) ∧ Tz Z w ((w.setCell ⟨g, b, none⟩ (.bool true)).setCell ⟨g, 256 + b, none⟩ (Value.string x)).drew) := Lib.hid ⟨WhoE.no (w := (w.setCell ⟨g, b, none⟩ (.bool true)).setCell ⟨g, 256 + b, none⟩ (Value.string x)) (h.put x hb ((h.at_.set b (.bool true)).set (256 + b) (Value.string x)) (by simp [h.size]) (fun i hi => by
        by_cases h1 : i = 256 + b
        · subst h1
          rw [Array.getElem?_setIfInBounds_self_of_lt (by rw [Array.size_setIfInBounds, h.size]; omega), if_neg (by omega), if_pos rfl]
        · rw [Array.getElem?_setIfInBounds_ne (fun e => h1 e.symm), if_neg h1]
          by_cases h2 : i = b
          · subst h2
            rw [Array.getElem?_setIfInBounds_self_of_lt (by rw [h.size]; omega), if_pos rfl]
          · rw [Array.getElem?_setIfInBounds_ne (fun e => h2 e.symm), if_neg h2]) (by rw [Array.getElem?_setIfInBounds_ne (by omega), Array.getElem?_setIfInBounds_ne (by omega), hl]; exact h.cnt)) ((Turn.refl No _).drew),
        Tz.of (HT2.out _ _ _) fun k _ e => by subst e; exact At.mine h.at_ h.zg (by decide)⟩
    clear h hg hl hlen
    go_enter Try.func114, Try.ntmps114
    go_wp2_with fail
    go_region
    all_goals go_wp2_with fail
    all_goals go_end0
    all_goals exact ⟨rfl, HF.out⟩
  | none =>
    rw [hg] at c0
    have hl := len_put_new h.asc x hg
    have hw : IntKind.i64.wrap ((L.length : Int) + 1) = (L.length : Int) + 1 := by rw [IntKind.wrap_i64]; omega
    have hat1 := h.at_.set 512 (.int .i64 ((L.length : Int) + 1))
    have T1 := Turn.set1 w g 512 (.int .i64 ((L.length : Int) + 1))
    obtain ⟨n, hn⟩ : ∃ n, L.length = n := ⟨_, rfl⟩
    have hsz : (c.setIfInBounds 512 (.int .i64 ((L.length : Int) + 1))).size = 513 := by simp [h.size]
    have g0 := (h.has b hb)
    have g1 := (h.thg b hb)
    rw [hg] at g0
    have c0' := cells258 hat1 (i := b) (by rw [Array.getElem?_setIfInBounds_ne (by omega)]; exact g0)
    have c1' := cells258 hat1 (i := 256 + b) (by rw [Array.getElem?_setIfInBounds_ne (by omega)]; exact g1)
    obtain ⟨v2, hv2⟩ : ∃ x, Value.string ((getC L b).getD (⟨#[]⟩ : ByteArray)) = x := ⟨_, rfl⟩
    rw [hv2] at c1'
    rw [hn] at c2 hw hat1 T1 c0' c1' hsz
    have HW : Hid (At (w.setCell ⟨g, 512, none⟩ (.int .i64 ((n : Int) + 1))) g (.cells (c.setIfInBounds 512 (.int .i64 ((n : Int) + 1))) 107 (0, 0)) ∧ Turn (fun k => k = g) w (w.setCell ⟨g, 512, none⟩ (.int .i64 ((n : Int) + 1)))) := Lib.hid ⟨hat1, T1⟩
    have HN := Lib.hid (And.intro hn (And.intro hl hsz))
    clear h hg hl hlen hat1 T1 hn g0 g1 hv2 hsz c1 f0 f1
    go_enter Try.func114, Try.ntmps114
    go_upto_region 2 with fail
    generalize w.setCell ⟨g, 512, none⟩ (.int .i64 ((n : Int) + 1)) = w2 at HW c0' c1' ⊢
    clear c0 c2 f2
    obtain ⟨c0, f0⟩ := c0'
    obtain ⟨c1, f1⟩ := c1'
    go_region
    all_goals go_wp2_with fail
    all_goals go_end0
    all_goals (
      obtain ⟨h1, h2⟩ := HW.out
      have hsz := HN.out.2.2
      refine ⟨rfl, WhoE.no (w := (w2.setCell ⟨g, b, none⟩ (.bool true)).setCell ⟨g, 256 + b, none⟩ (Value.string x)) (HL.out.put x hb ((h1.set b (.bool true)).set (256 + b) (Value.string x)) (by simp [HL.out.size]) (fun i hi => ?_) ?_) ((Turn.refl No _).drew),
        (Tz.of h2 fun k _ e => by subst e; exact At.mine HL.out.at_ HL.out.zg (by decide)).trans (Tz.of (HT2.out _ _ _) fun k _ e => by subst e; exact At.mine h1 HL.out.zg (by decide))⟩
      · by_cases h3 : i = 256 + b
        · subst h3
          rw [Array.getElem?_setIfInBounds_self_of_lt (by rw [Array.size_setIfInBounds, Array.size_setIfInBounds, HL.out.size]; omega), if_neg (by omega), if_pos rfl]
        · rw [Array.getElem?_setIfInBounds_ne (fun e => h3 e.symm), if_neg h3]
          by_cases h4 : i = b
          · subst h4
            rw [Array.getElem?_setIfInBounds_self_of_lt (by rw [Array.size_setIfInBounds, HL.out.size]; omega), if_pos rfl]
          · rw [Array.getElem?_setIfInBounds_ne (fun e => h4 e.symm), if_neg h4, Array.getElem?_setIfInBounds_ne (by omega)]
      · rw [Array.getElem?_setIfInBounds_ne (by omega), Array.getElem?_setIfInBounds_ne (by omega), Array.getElem?_setIfInBounds_self_of_lt (by rw [HL.out.size]; decide), HN.out.2.1, HN.out.1]
        rfl)
set_option maxHeartbeats 2000000 in
theorem wdrop_any (h : Who w Z g L c) (b : Nat) (hb : b < 256) (y : ByteArray) (hg : getC L b = some y) :
    Calls Try.prog 110 #[.pointer (some ⟨g, 0, none⟩), .int .u8 (b : Int)] w fun e w' => e = .returned (.tuple #[]) ∧ WhoE w' Z g (delC L b) ∧ Tz Z w w' := by
  have hb1 : (b : Int) < 256 := by omega
  have hb0 : (0 : Int) ≤ (b : Int) := by omega
  have HL := Lib.hid h
  obtain ⟨c0, f0⟩ := cells258 h.at_ (h.has b hb)
  obtain ⟨c1, f1⟩ := cells258 h.at_ (h.thg b hb)
  have hlen := len_byt h.asc h.byt
  have hl := len_del h.asc hg
  obtain ⟨v1, hv1⟩ : ∃ x, Value.string ((getC L b).getD (⟨#[]⟩ : ByteArray)) = x := ⟨_, rfl⟩
  rw [hv1] at c1
  clear hv1
  rw [hg] at c0
  have T2 := (((Turn.set1 w g b (.bool false)).trans (Turn.set1 _ g (256 + b) (Value.string ⟨#[]⟩))).drew)
  have hat2 := ((h.at_.set b (.bool false)).set (256 + b) (Value.string ⟨#[]⟩)).no ((Turn.refl No _).drew)
  obtain ⟨n, hn⟩ : ∃ n, (delC L b).length = n := ⟨_, rfl⟩
  have hcn : ((c.setIfInBounds b (.bool false)).setIfInBounds (256 + b) (Value.string ⟨#[]⟩))[512]? = some (.int .i64 ((n : Int) + 1)) := by
    rw [Array.getElem?_setIfInBounds_ne (by omega), Array.getElem?_setIfInBounds_ne (by omega), h.cnt, show (L.length : Int) = (n : Int) + 1 by omega]
  obtain ⟨c2, f2⟩ := cells258 hat2 hcn
  have hw : IntKind.i64.wrap ((n : Int) + 1 - 1) = (n : Int) := by rw [IntKind.wrap_i64]; omega
  have hw2 : IntKind.i64.wrap (n : Int) = (n : Int) := by rw [IntKind.wrap_i64]; omega
  have HW : Hid (At ((w.setCell ⟨g, b, none⟩ (.bool false)).setCell ⟨g, 256 + b, none⟩ (Value.string ⟨#[]⟩)).drew g (.cells ((c.setIfInBounds b (.bool false)).setIfInBounds (256 + b) (Value.string ⟨#[]⟩)) 107 (0, 0)) ∧ Turn (fun k => k = g) w ((w.setCell ⟨g, b, none⟩ (.bool false)).setCell ⟨g, 256 + b, none⟩ (Value.string ⟨#[]⟩)).drew) := Lib.hid ⟨hat2, T2⟩
  have HN := Lib.hid hn
  clear h hg hl hlen hn hat2 T2 hcn
  go_enter Try.func110, Try.ntmps110
  go_wp2_with fail
  go_region
  all_goals go_upto_region 2 with fail
  generalize ((w.setCell ⟨g, b, none⟩ (.bool false)).setCell ⟨g, 256 + b, none⟩ (Value.string ⟨#[]⟩)).drew = w2 at HW c2 f2 ⊢
  clear c0 c1 f0 f1
  go_wp2_with fail
  go_end0
  obtain ⟨h1, h2⟩ := HW.out
  have T := Turn.set1 w2 g 512 (.int .i64 (n : Int))
  refine ⟨rfl, HL.out.del hb (h1.set 512 (.int .i64 (n : Int))) (by simp [HL.out.size]) (fun i hi => ?_) ?_,
    (Tz.of h2 fun k _ e => by subst e; exact At.mine HL.out.at_ HL.out.zg (by decide)).trans (Tz.of T fun k _ e => by subst e; exact At.mine h1 HL.out.zg (by decide))⟩
  · rw [Array.getElem?_setIfInBounds_ne (by omega)]
    by_cases h3 : i = 256 + b
    · subst h3
      rw [Array.getElem?_setIfInBounds_self_of_lt (by rw [Array.size_setIfInBounds, HL.out.size]; omega), if_neg (by omega), if_pos rfl]
    · rw [Array.getElem?_setIfInBounds_ne (fun e => h3 e.symm), if_neg h3]
      by_cases h4 : i = b
      · subst h4
        rw [Array.getElem?_setIfInBounds_self_of_lt (by rw [HL.out.size]; omega), if_pos rfl]
      · rw [Array.getElem?_setIfInBounds_ne (fun e => h4 e.symm), if_neg h4]
  · rw [Array.getElem?_setIfInBounds_self_of_lt (by rw [Array.size_setIfInBounds, Array.size_setIfInBounds, HL.out.size]; decide), HN.out]
end
end NS
end Go.Proofs.Ytijlcehjlacihaa
