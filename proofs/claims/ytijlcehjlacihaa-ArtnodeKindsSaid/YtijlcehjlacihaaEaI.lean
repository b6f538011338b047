/-
  each, moved.
-/
import Derived.Test.YtijlcehjlacihaaSxI
namespace Go.Proofs.Ytijlcehjlacihaa
open Go.RowKit Go.Lib
set_option linter.unusedVariables false
set_option maxRecDepth 20000
set_option linter.unusedSimpArgs false

namespace NI

theorem put_last {L X : List (Nat × Int)} {p : Nat × Int} {Y : List (Nat × Int)} (hL : Asc L) (h : L = X ++ p :: Y) : putC X p.1 p.2 = X ++ [p] ∧ getC X p.1 = none := by
  subst h
  have h2 := List.pairwise_append.1 hL
  have hl : Lows X p.1 := fun q hq => h2.2.2 q hq p (List.mem_cons_self ..)
  exact ⟨by unfold putC; rw [low_of_lows hl, high_of_lows hl], get_lows hl (Nat.le_refl _)⟩
theorem no_tz {w0 W W' : World} (h : Turn No w0 W) (t : Tz (Dom.of w0.heap.size) W W') : Turn No w0 W' := no_of h t fun i hi => Dom.of_ok hi.1
/-- What From tells, in three slots. -/
def Thr (o : Option (Nat × Int)) (a b c : Value) : Prop := (o = none ∧ a = .int .u8 0 ∧ b = Value.int .i64 0 ∧ c = .bool false) ∨ (∃ p, o = some p ∧ a = .int .u8 (p.1 : Int) ∧ b = Value.int .i64 p.2 ∧ c = .bool true)
theorem Thr.tuple {o : Option (Nat × Int)} : ∃ a b c, Thr o a b c ∧ fromV o = .tuple #[a, b, c] := by
  cases o with
  | none => exact ⟨_, _, _, .inl ⟨rfl, rfl, rfl, rfl⟩, rfl⟩
  | some p => exact ⟨_, _, _, .inr ⟨p, rfl, rfl, rfl, rfl⟩, rfl⟩
set_option maxHeartbeats 2000000 in
theorem each_set {w0 w : World} {Z : Dom} {k g k' g' : Nat} {t t' : TypeId} {L : List (Nat × Int)} (hs : Sh w0 Z L k t g) (hto : Sh w (Dom.of w0.heap.size) [] k' t' g') (T : Turn No w0 w) (hr : L.length ≤ k') :
    Calls Try.prog 36 #[.iface t (.pointer (some ⟨g, 0, none⟩)), .func (.method "marshalling/artnode.set") #[.iface t' (.pointer (some ⟨g', 0, none⟩))] #[]] w fun e w' => e = .returned (.tuple #[]) ∧ Sh w' (Dom.of w0.heap.size) L k' t' g' ∧ Turn No w0 w' := by
  obtain ⟨KF, MF, CF⟩ := hs.from
  have hmF := MF.m
  have heF : ∀ (args : Array Value) (w : World), (callFunc KF args).run Try.prog w = .ok (.enter KF args) w := MF.ent
  have HF := Lib.hid CF
  have HA := Lib.hid hs.asc
  have HB := Lib.hid hs.byt
  have hset := Sh.set hto T.size
  obtain ⟨KS, MS, _⟩ := hset
  have hmS := MS.m
  have heS : ∀ (args : Array Value) (w : World), (callFunc KS args).run Try.prog w = .ok (.enter KS args) w := MS.ent
  clear CF hs
  have CF0 : Hid (∀ W, Turn No w0 W → Calls Try.prog KF #[.pointer (some ⟨g, 0, none⟩), .int .i64 0] W fun e w' => ∃ a b c, Thr L.head? a b c ∧ e = .returned (.tuple #[a, b, c]) ∧ Turn No W w') := Lib.hid fun W T => (HF.out W T 0).mono fun e w' h => by
    rw [nxt_first] at h
    obtain ⟨a, b, c, ht, hf⟩ := Thr.tuple (o := L.head?)
    exact ⟨a, b, c, ht, by rw [h.1, hf], h.2⟩
  have CF1 : Hid (∀ W, Turn No w0 W → ∀ X p Y, L = X ++ p :: Y → Calls Try.prog KF #[.pointer (some ⟨g, 0, none⟩), .int .i64 ((p.1 : Int) + 1)] W fun e w' => ∃ a b c, Thr Y.head? a b c ∧ e = .returned (.tuple #[a, b, c]) ∧ Turn No W w') := Lib.hid fun W T X p Y hL => (HF.out W T (p.1 + 1)).mono fun e w' h => by
    have hn : nxtC L (p.1 + 1) = Y.head? := by
      have ha := HA.out
      rw [hL] at ha ⊢
      exact nxt_behind ha
    rw [hn] at h
    obtain ⟨a, b, c, ht, hf⟩ := Thr.tuple (o := Y.head?)
    exact ⟨a, b, c, ht, by rw [h.1, hf], h.2⟩
  have CS : Hid (∀ W, Turn No w0 W → ∀ X p Y, L = X ++ p :: Y → Sh W (Dom.of w0.heap.size) X k' t' g' → Calls Try.prog KS #[.pointer (some ⟨g', 0, none⟩), .int .u8 (p.1 : Int), Value.int .i64 p.2] W fun e w' => e = .returned (.tuple #[]) ∧ Sh w' (Dom.of w0.heap.size) (X ++ [p]) k' t' g' ∧ Turn No w0 w') := Lib.hid fun W T X p Y hL hs => by
    obtain ⟨hp, hg⟩ := put_last HA.out hL
    obtain ⟨KS2, MS2, CS2⟩ := Sh.set hs T.size
    obtain rfl : KS = KS2 := by
      have h1 := MS2.m W
      rw [hmS W] at h1
      injection h1 with h1 _
      injection h1
    have hl := congrArg List.length hL
    rw [List.length_append, List.length_cons] at hl
    refine (CS2 W (Turn.refl _ _) p.1 p.2 (HB.out p (by rw [hL]; simp)) (fun _ => by omega)).mono fun e w' h => ⟨h.1, ?_, no_tz T h.2.2⟩
    rw [← hp]
    exact h.2.1
  have HTO := Lib.hid hto
  have HT := Lib.hid T
  clear MF MS hto T HF
  go_enter Try.func36, Try.ntmps36
  go_upto_region 1 with ((go_at_fn KF; (with_reducible refine (CF0.out _ HT.out).mono ?_); rintro e w1 ⟨a, b, c, ht, rfl, h1⟩; replace ht := Lib.hid ht; replace h1 := Lib.hid h1))
  have HT1 := Lib.hid (HT.out.trans h1.out)
  have HTO1 := Lib.hid (HTO.out.no h1.out)
  clear HT HTO h1 CF0
  go_loopg [4, 5, 6] L.length (fun m s4 s5 s6 wr => ∃ X Y, L = X ++ Y ∧ Y.length ≤ m ∧ Thr Y.head? s4 s5 s6 ∧ Sh wr (Dom.of w0.heap.size) X k' t' g' ∧ Turn No w0 wr)
  case atStart => exact ⟨[], L, rfl, Nat.le_refl _, ht.out, HTO1.out, HT1.out⟩
  case round =>
    clear ht HTO1 HT1
    obtain ⟨X, Y, hL, hm, ht, hs, hT⟩ := hrel
    rcases ht with ⟨h0, rfl, rfl, rfl⟩ | ⟨p, h0, rfl, rfl, rfl⟩
    · have hF : Hid (Sh wr (Dom.of w0.heap.size) L k' t' g' ∧ Turn No w0 wr) := Lib.hid (by
        cases Y with
        | nil => rw [List.append_nil] at hL; rw [hL]; exact ⟨hs, hT⟩
        | cons p Y => cases h0)
      clear hL hm hs hT h0
      go_wp2_with fail
      go_end0
      exact ⟨rfl, hF.out⟩
    · cases Y with
      | nil => cases h0
      | cons q Y =>
        injection h0 with h0
        subst h0
        have hpb := HB.out q (by rw [hL]; simp)
        have HS := Lib.hid (CS.out wr hT X q Y hL hs)
        have HF1 := Lib.hid fun W T => CF1.out W T X q Y hL
        have HM := Lib.hid (And.intro hL hm)
        clear hL hm hs hT
        have hw1 : IntKind.i64.wrap (q.1 : Int) = (q.1 : Int) := by rw [IntKind.wrap_i64]; omega
        have hw2 : IntKind.i64.wrap ((q.1 : Int) + 1) = (q.1 : Int) + 1 := by rw [IntKind.wrap_i64]; omega
        go_wp2_with (first | (go_at_fn KF; (with_reducible refine (HF1.out _ h2.out.2).mono ?_); rintro e w3 ⟨a, b, c, ht, rfl, h3⟩; replace ht := Lib.hid ht; replace h3 := Lib.hid h3) | (go_at_fn KS; (with_reducible refine HS.out.mono ?_); rintro e w2 ⟨rfl, h2⟩; replace h2 := Lib.hid h2))
        go_roundg Y.length
        case measure => have := HM.out.2; simp at this; omega
        case rel => exact ⟨X ++ [q], Y, by rw [HM.out.1]; simp, Nat.le_refl _, ht.out, h2.out.1.no h3.out, h2.out.2.trans h3.out⟩
end NI
end Go.Proofs.Ytijlcehjlacihaa
