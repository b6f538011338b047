/-
  All; a nil node.
-/
import Derived.Test.YtijlcehjlacihaaNtI
import Derived.Test.YtijlcehjlacihaaLaI
import Derived.Laws.EntriesVeiled
namespace Go.Proofs.Ytijlcehjlacihaa
open Go.RowKit Go.Lib
set_option linter.unusedVariables false
set_option maxRecDepth 20000
set_option linter.unusedSimpArgs false

namespace NI

/-- A list by itself in block l: the children L in two rows of its own. -/
def Col (w0 w : World) (l : Nat) (L : List (Nat × Int)) : Prop := ∃ A B ca cb, At w l (.cells #[.slice A L.length ca, .slice B L.length cb] 55 (0, 0)) ∧ w.ownsRow w0.heap.size 5 1 (.slice A L.length ca) L.length (bcs (ksC L)) ∧
  w.ownsRow w0.heap.size 3 1 (.slice B L.length cb) L.length (ics (vsC L)) ∧ w0.heap.size ≤ l
theorem Col.no {w0 w w' : World} {l : Nat} {L : List (Nat × Int)} (h : Col w0 w l L) (t : Turn No w w') : Col w0 w' l L := by
  obtain ⟨A, B, ca, cb, h1, h2, h3, h4⟩ := h
  exact ⟨A, B, ca, cb, h1.no t, own_grown h2 t fun _ _ h => h, own_grown h3 t fun _ _ h => h, h4⟩
set_option maxHeartbeats 2000000 in
theorem each_add {w0 w : World} {Z : Dom} {k g l : Nat} {t : TypeId} {L : List (Nat × Int)} (hs : Sh w0 Z L k t g) (hto : Col w0 w l []) (T : Turn No w0 w) :
    Calls Try.prog 36 #[.iface t (.pointer (some ⟨g, 0, none⟩)), .func (.func 37) #[.pointer (some ⟨l, 0, none⟩)] #[]] w fun e w' => e = .returned (.tuple #[]) ∧ Col w0 w' l L ∧ Turn No w0 w' := by
  obtain ⟨KF, MF, CF⟩ := hs.from
  have hmF := MF.m
  have heF : ∀ (args : Array Value) (w : World), (callFunc KF args).run Try.prog w = .ok (.enter KF args) w := MF.ent
  have HF := Lib.hid CF
  have HA := Lib.hid hs.asc
  have HB := Lib.hid hs.byt
  clear CF hs
  have CF0 : Hid (∀ W, Turn No w0 W → Calls Try.prog KF #[.pointer (some ⟨g, 0, none⟩), .int .i64 0] W fun e w' => ∃ a b c, Thr L.head? a b c ∧ e = .returned (.tuple #[a, b, c]) ∧ Turn No W w') := Lib.hid fun W T => (HF.out W T 0).mono fun e w' h => by
    rw [nxt_first] at h
    obtain ⟨a, b, c, ht, hf⟩ := Thr.tuple (o := L.head?)
    exact ⟨a, b, c, ht, by rw [h.1, hf], h.2⟩
  have CF1 : Hid (∀ W, Turn No w0 W → ∀ X p Y, L = X ++ p :: Y → Calls Try.prog KF #[.pointer (some ⟨g, 0, none⟩), .int .i64 ((p.1 : Int) + 1)] W fun e w' => ∃ a b c, Thr Y.head? a b c ∧ e = .returned (.tuple #[a, b, c]) ∧ Turn No W w') := Lib.hid fun W T X p Y hL => (HF.out W T (p.1 + 1)).mono fun e w' h => by
    have hn : nxtC L (p.1 + 1) = Y.head? := by
      have ha := HA.out
      rw [hL] at ha ⊢
      exact nxt_behind ha
    rw [hn] at h
    obtain ⟨a, b, c, ht, hf⟩ := Thr.tuple (o := Y.head?)
    exact ⟨a, b, c, ht, by rw [h.1, hf], h.2⟩
  have CS : Hid (∀ W, Turn No w0 W → ∀ X p Y, L = X ++ p :: Y → Col w0 W l X → Calls Try.prog 37 #[.pointer (some ⟨l, 0, none⟩), .int .u8 (p.1 : Int), Value.int .i64 p.2] W fun e w' => e = .returned (.tuple #[]) ∧ Col w0 w' l (X ++ [p]) ∧ Turn No w0 w') := Lib.hid fun W T X p Y hL hs => by
    obtain ⟨A, B, ca, cb, hat, h1, h2, hzl⟩ := hs
    have hl := congrArg List.length hL
    rw [List.length_append, List.length_cons] at hl
    have hle := len_byt HA.out HB.out
    refine (ladd_any hat h1 h2 T.size (by omega) hzl p.1 p.2).mono fun e w' h => ⟨h.1, ?_, no_of T h.2.2 fun i hi => hi⟩
    obtain ⟨A', B', ca', cb', q1, q2, q3⟩ := h.2.1
    exact ⟨A', B', ca', cb', q1, q2, q3, hzl⟩
  have HTO := Lib.hid hto
  have HT := Lib.hid T
  clear MF hto T HF
  go_enter Try.func36, Try.ntmps36
  go_upto_region 1 with ((go_at_fn KF; (with_reducible refine (CF0.out _ HT.out).mono ?_); rintro e w1 ⟨a, b, c, ht, rfl, h1⟩; replace ht := Lib.hid ht; replace h1 := Lib.hid h1))
  have HT1 := Lib.hid (HT.out.trans h1.out)
  have HTO1 := Lib.hid (HTO.out.no h1.out)
  clear HT HTO h1 CF0
  go_loopg [4, 5, 6] L.length (fun m s4 s5 s6 wr => ∃ X Y, L = X ++ Y ∧ Y.length ≤ m ∧ Thr Y.head? s4 s5 s6 ∧ Col w0 wr l X ∧ Turn No w0 wr)
  case atStart => exact ⟨[], L, rfl, Nat.le_refl _, ht.out, HTO1.out, HT1.out⟩
  case round =>
    clear ht HTO1 HT1
    obtain ⟨X, Y, hL, hm, ht, hs, hT⟩ := hrel
    rcases ht with ⟨h0, rfl, rfl, rfl⟩ | ⟨p, h0, rfl, rfl, rfl⟩
    · have hF : Hid (Col w0 wr l L ∧ Turn No w0 wr) := Lib.hid (by
        cases Y with
        | nil => rw [List.append_nil] at hL; rw [hL]; exact ⟨hs, hT⟩
        | cons p Y => cases h0)
      clear hL hm hs hT h0
      go_wp2_with fail
      go_end0
      exact ⟨rfl, hF.out⟩
    · cases Y with
      | nil => cases h0
      | cons q Y =>
        injection h0 with h0
        subst h0
        have hpb := HB.out q (by rw [hL]; simp)
        have HS := Lib.hid (CS.out wr hT X q Y hL hs)
        have HF1 := Lib.hid fun W T => CF1.out W T X q Y hL
        have HM := Lib.hid (And.intro hL hm)
        clear hL hm hs hT
        have hw1 : IntKind.i64.wrap (q.1 : Int) = (q.1 : Int) := by rw [IntKind.wrap_i64]; omega
        have hw2 : IntKind.i64.wrap ((q.1 : Int) + 1) = (q.1 : Int) + 1 := by rw [IntKind.wrap_i64]; omega
        go_wp2_with (first | (go_at_fn KF; (with_reducible refine (HF1.out _ h2.out.2).mono ?_); rintro e w3 ⟨a, b, c, ht, rfl, h3⟩; replace ht := Lib.hid ht; replace h3 := Lib.hid h3) | (go_at_call 37; (with_reducible refine HS.out.mono ?_); rintro e w2 ⟨rfl, h2⟩; replace h2 := Lib.hid h2))
        go_roundg Y.length
        case measure => have := HM.out.2; simp at this; omega
        case rel => exact ⟨X ++ [q], Y, by rw [HM.out.1]; simp, Nat.le_refl _, ht.out, h2.out.1.no h3.out, h2.out.2.trans h3.out⟩

theorem col_new (w : World) : Col w (w.alloc (.cells #[.slice none 0 0, .slice none 0 0] 55)) w.heap.size [] :=
  ⟨none, none, 0, 0, At.new w _, World.ownsRow_nil _ _ _ _, World.ownsRow_nil _ _ _ _, Nat.le_refl _⟩
set_option maxHeartbeats 1000000 in
theorem all_any {w : World} {Z : Dom} {a k : Nat} {L : List (Nat × Int)} (h : Nd w Z a k L) :
    Calls Try.prog 19 #[.pointer (some ⟨a, 0, none⟩)] w fun e w' => ∃ l, e = .returned (.func (.func 38) #[] #[.pointer (some ⟨l, 0, none⟩)]) ∧ Col w w' l L ∧ Turn No w w' := by
  obtain ⟨t, g, hz, hat, hs, hk⟩ := h
  have T0 := new_alloc w (.cells #[.slice none 0 0, .slice none 0 0] 55)
  have CN := Lib.hid (now_any hs.kt (hat.no T0))
  have CE := Lib.hid (each_add hs (col_new w) T0)
  clear hat hs hk hz T0
  go_enter Try.func19, Try.ntmps19
  go_wp2_with (first | (go_at_call 29; (with_reducible refine CN.out.mono ?_); rintro e w1 ⟨rfl, hw⟩; replace hw := hw.symm; subst hw) | (go_at_call 36; (with_reducible refine CE.out.mono ?_); rintro e w2 ⟨rfl, h2⟩; replace h2 := Lib.hid h2))
  go_ret
  exact ⟨_, rfl, h2.out⟩
/-! a nil node -/
theorem sh4 {w : World} {Z : Dom} {g : Nat} {t : TypeId} {L : List (Nat × Int)} (hs : Sh w Z L 4 t g) : LstE w Z 57 g L := by
  rcases hs with ⟨_, _, h⟩ | ⟨h, _⟩ | ⟨h, _⟩ | ⟨h, _⟩
  · exact h
  · cases h
  · cases h
  · cases h
theorem now_nil (w : World) : Calls Try.prog 29 #[.pointer none] w fun e w' => ∃ g, e = .returned (.iface 52 (.pointer (some ⟨g, 0, none⟩))) ∧ Sh w' (Dom.of w.heap.size) [] 4 52 g ∧ Turn No w w' := by
  have H0 := Lib.hid (lst_new w 57 (Or.inl rfl))
  go_enter Try.func29, Try.ntmps29
  go_wp2
  go_ret
  exact ⟨_, rfl, .inl ⟨rfl, rfl, H0.out⟩, new_alloc _ _⟩
theorem set_nil (w : World) (b x : Value) : Calls Try.prog 11 #[.pointer none, b, x] w fun e w' => e = .returned (.bool false) ∧ w' = w := by
  go_enter Try.func11, Try.ntmps11
  go_wp2
  go_ret
  exact ⟨rfl, rfl⟩
theorem kind_nil (w : World) : Calls Try.prog 21 #[.pointer none] w fun e w' => e = .returned (.int .i64 0) ∧ w' = w := by
  go_enter Try.func21, Try.ntmps21
  go_wp2
  go_ret
  exact ⟨rfl, rfl⟩
theorem get_nil (w : World) (b : Nat) (hb : b < 256) : Calls Try.prog 18 #[.pointer none, .int .u8 (b : Int)] w fun e w' => e = .returned (.tuple #[Value.int .i64 0, .bool false]) ∧ Turn No w w' := by
  have CN := Lib.hid (now_nil w)
  have he := eLget
  have hent : ∀ (args : Array Value) (w : World), (callFunc 64 args).run Try.prog w = .ok (.enter 64 args) w := he
  have hm := fun g w => mPFOURget g w
  go_enter Try.func18, Try.ntmps18
  go_wp2_with (first | (go_at_call 29; (with_reducible refine CN.out.mono ?_); rintro e w1 ⟨g, rfl, hs, ht⟩; have C0 : Hid (Calls Try.prog 64 #[.pointer (some ⟨g, 0, none⟩), .int .u8 (b : Int)] w1 fun e w' => e = .returned (.tuple #[Value.int .i64 0, .bool false]) ∧ Turn No w1 w') := Lib.hid (by obtain ⟨A, B, ca, cb, h⟩ := sh4 hs; exact lget_any h (by simp) b); replace ht := Lib.hid ht) | (go_at_call 64; (with_reducible refine C0.out.mono ?_); rintro e w2 ⟨rfl, h2⟩; replace h2 := Lib.hid h2))
  go_ret2
  exact ⟨rfl, ht.out.trans h2.out⟩
theorem drop_nil (w : World) (b : Nat) (hb : b < 256) : Calls Try.prog 13 #[.pointer none, .int .u8 (b : Int)] w fun e w' => e = .returned (.bool false) ∧ Turn No w w' := by
  have CN := Lib.hid (now_nil w)
  have hent : ∀ (args : Array Value) (w : World), (callFunc 64 args).run Try.prog w = .ok (.enter 64 args) w := eLget
  have hm := fun g w => mPFOURget g w
  go_enter Try.func13, Try.ntmps13
  go_wp2_with (first | (go_at_call 29; (with_reducible refine CN.out.mono ?_); rintro e w1 ⟨g, rfl, hs, ht⟩; have C0 : Hid (Calls Try.prog 64 #[.pointer (some ⟨g, 0, none⟩), .int .u8 (b : Int)] w1 fun e w' => e = .returned (.tuple #[Value.int .i64 0, .bool false]) ∧ Turn No w1 w') := Lib.hid (by obtain ⟨A, B, ca, cb, h⟩ := sh4 hs; exact lget_any h (by simp) b); replace ht := Lib.hid ht) | (go_at_call 64; (with_reducible refine C0.out.mono ?_); rintro e w2 ⟨rfl, h2⟩; replace h2 := Lib.hid h2))
  go_ret
  exact ⟨rfl, ht.out.trans h2.out⟩
theorem len_nil (w : World) : Calls Try.prog 20 #[.pointer none] w fun e w' => e = .returned (.int .i64 0) ∧ Turn No w w' := by
  have CN := Lib.hid (now_nil w)
  have hent : ∀ (args : Array Value) (w : World), (callFunc 65 args).run Try.prog w = .ok (.enter 65 args) w := eLlen
  have hm := fun g w => mPFOURlen g w
  go_enter Try.func20, Try.ntmps20
  go_wp2_with (first | (go_at_call 29; (with_reducible refine CN.out.mono ?_); rintro e w1 ⟨g, rfl, hs, ht⟩; have C0 : Hid (Calls Try.prog 65 #[.pointer (some ⟨g, 0, none⟩)] w1 fun e w' => e = .returned (.int .i64 0) ∧ w' = w1) := Lib.hid (by obtain ⟨A, B, ca, cb, h⟩ := sh4 hs; exact llen_any h); replace ht := Lib.hid ht) | (go_at_call 65; (with_reducible refine C0.out.mono ?_); rintro e w2 ⟨rfl, hw⟩; replace hw := hw.symm; subst hw))
  go_ret
  exact ⟨rfl, ht.out⟩
theorem each_add0 {w : World} {Z : Dom} {g l : Nat} {w9 : World} (hs : Sh w Z [] 4 52 g) (hc : Col w9 w l []) :
    Calls Try.prog 36 #[.iface 52 (.pointer (some ⟨g, 0, none⟩)), .func (.func 37) #[.pointer (some ⟨l, 0, none⟩)] #[]] w fun e w' => e = .returned (.tuple #[]) ∧ Turn No w w' := by
  have hent : ∀ (args : Array Value) (w : World), (callFunc 63 args).run Try.prog w = .ok (.enter 63 args) w := eLfrom
  have hm := fun g w => mPFOURfrom g w
  have C0 : Hid (Calls Try.prog 63 #[.pointer (some ⟨g, 0, none⟩), .int .i64 0] w fun e w' => e = .returned (.tuple #[.int .u8 0, Value.int .i64 0, .bool false]) ∧ Turn No w w') := Lib.hid (by
    rcases hs with ⟨_, _, A, B, ca, cb, h⟩ | ⟨h, _⟩ | ⟨h, _⟩ | ⟨h, _⟩
    · exact lfrom_any h (by simp) 0
    · cases h
    · cases h
    · cases h)
  clear hs hc
  go_enter Try.func36, Try.ntmps36
  go_wp2_with (go_at_call 63; (with_reducible refine C0.out.mono ?_); rintro e w2 ⟨rfl, h2⟩; replace h2 := Lib.hid h2)
  go_loopw [6] (fun s wr => s = .bool false ∧ wr = w2) (fun _ _ => 0)
  case atStart => exact ⟨rfl, rfl⟩
  case round =>
    obtain ⟨rfl, rfl⟩ := hrel
    go_wp2
    go_end0
    exact ⟨rfl, h2.out⟩
theorem all_nil (w : World) : Calls Try.prog 19 #[.pointer none] w fun e w' => ∃ l, e = .returned (.func (.func 38) #[] #[.pointer (some ⟨l, 0, none⟩)]) ∧ Col w w' l [] ∧ Turn No w w' := by
  have T0 := new_alloc w (.cells #[.slice none 0 0, .slice none 0 0] 55)
  have CN := Lib.hid (now_nil (w.alloc (.cells #[.slice none 0 0, .slice none 0 0] 55)))
  have HC := Lib.hid (And.intro (col_new w) T0)
  clear T0
  go_enter Try.func19, Try.ntmps19
  go_wp2_with (first | (go_at_call 29; (with_reducible refine CN.out.mono ?_); rintro e w1 ⟨g, rfl, hs, ht⟩; have CE : Hid (Calls Try.prog 36 #[.iface 52 (.pointer (some ⟨g, 0, none⟩)), .func (.func 37) #[.pointer (some ⟨w.heap.size, 0, none⟩)] #[]] w1 fun e w' => e = .returned (.tuple #[]) ∧ Turn No w1 w') := Lib.hid (each_add0 hs (HC.out.1.no ht)); replace ht := Lib.hid ht) | (go_at_call 36; (with_reducible refine CE.out.mono ?_); rintro e w2 ⟨rfl, h2⟩; replace h2 := Lib.hid h2))
  go_ret
  exact ⟨_, rfl, HC.out.1.no (ht.out.trans h2.out), (HC.out.2.trans ht.out).trans h2.out⟩
end NI
end Go.Proofs.Ytijlcehjlacihaa
