/-
  The list's set, drop, from, add.
-/
import Derived.Test.YtijlcehjlacihaaLiI
namespace Go.Proofs.Ytijlcehjlacihaa
open Go.RowKit Go.Lib
set_option linter.unusedVariables false
set_option maxRecDepth 20000
set_option linter.unusedSimpArgs false

namespace NI

theorem cell_no {w W : World} (T : Turn No w W) {a : Addr} {u : Value} (hc : w.cell? a = some u) : W.cell? a = some u := by
  have hlt : a.block < w.heap.size := by
    unfold World.cell? at hc
    cases hh : w.heap[a.block]? with
    | none => rw [hh] at hc; cases hc
    | some o => exact (Array.getElem?_eq_some_iff.1 hh).1
  rw [World.cell?_of_block (T.block _ hlt (fun h => h))]; exact hc
theorem at2 {w : World} {g : Nat} {a b : Value} {t : TypeId} (h : At w g (.cells #[a, b] t (0, 0))) : w.cell? ⟨g, 0, none⟩ = some a ∧ w.cell? ⟨g, 1, none⟩ = some b ∧ w.frozen? ⟨g, 0, none⟩ = false ∧ w.frozen? ⟨g, 1, none⟩ = false :=
  ⟨by simpa using h.cell 0, by simpa using h.cell 1, h.thawed 0, h.thawed 1⟩
/-- A list in memory, whatever its rows. -/
def LstE (w : World) (Z : Dom) (t : TypeId) (g : Nat) (L : List (Nat × Int)) : Prop := ∃ A B ca cb, Lst w Z t g L A B ca cb
theorem own_mine {w : World} {Z : Dom} {e : TypeId} {s n : Nat} {A : Option Addr} {c : Nat} {xs : List Value} (h : w.ownsRow Z e s (.slice A n c) n xs) (he : e ∈ tys) {k : Nat} (hk : ablk A = some k) : Mine Z w k := by
  obtain ⟨hz, cur, hat⟩ := own_at h hk
  exact At.mine hat (.inl hz) he
theorem ablk_ne {w : World} {Z : Nat} {e : TypeId} {s n : Nat} {A : Option Addr} {c : Nat} {xs : List Value} (h : w.ownsRow Z e s (.slice A n c) n xs) {g : Nat} {cc : Array Value} {t : TypeId} {f : Nat × Nat} (hg : At w g (.cells cc t f)) (ht : t ≠ e) : ablk A ≠ some g := fun hk => by
  obtain ⟨_, cur, hat⟩ := own_at h hk
  have := hat.eq hg
  injection this with _ e2 _
  exact ht e2.symm
theorem own_lt {w : World} {Z : Nat} {e : TypeId} {s n : Nat} {A : Option Addr} {c : Nat} {xs : List Value} (h : w.ownsRow Z e s (.slice A n c) n xs) {k : Nat} (hk : ablk A = some k) : k < w.heap.size := by
  obtain ⟨_, cur, hat⟩ := own_at h hk
  exact hat.lt
theorem row_keep {w w' : World} {Z : Nat} {e : TypeId} {s n : Nat} {A : Option Addr} {c : Nat} {xs : List Value} (h : w.ownsRow Z e s (.slice A n c) n xs) {X : Nat → Prop} (t : Turn X w w') (hX : ∀ k, ablk A = some k → ¬ X k) : w'.ownsRow Z e s (.slice A n c) n xs :=
  own_grown h t fun k hk => hX k (by rw [own_ablk] at hk; exact hk)
theorem row_ne {w : World} {Z : Nat} {e e' : TypeId} {s s' n n' : Nat} {A B : Option Addr} {c c' : Nat} {xs ys : List Value} (h : w.ownsRow Z e s (.slice A n c) n xs) (h' : w.ownsRow Z e' s' (.slice B n' c') n' ys) (hne : e ≠ e') {k : Nat} (hk : ablk A = some k) : ablk B ≠ some k := fun hk' => by
  obtain ⟨_, cur, hat⟩ := own_at h hk
  exact ablk_ne h' hat hne hk'
section
variable {w : World} {Z : Dom} {t : TypeId} {g : Nat} {L : List (Nat × Int)} {A B : Option Addr} {ca cb : Nat}
theorem row_new (w : World) {Z : Nat} (hz : Z ≤ w.heap.size) (u : Value) (e : TypeId) : Turn No w (w.alloc (.cells #[u] e)) := (Turn.refl No w).alloc _
theorem vset {L : List (Nat × Int)} (h : Asc L) {b : Nat} {y : Int} (hg : getC L b = some y) (x : Int) : (ics (vsC L)).set (lowC L b).length (Value.int .i64 x) = ics (vsC (putC L b x)) ∧ ksC (putC L b x) = ksC L ∧ (putC L b x).length = L.length := by
  have hs := asc_some h hg
  have e1 : ics (vsC L) = ics (vsC (lowC L b)) ++ Value.int .i64 y :: ics (vsC (highC L b)) := by
    have := congrArg (fun l => ics (vsC l)) hs
    simp only [vs_append, ics_append] at this
    exact this
  refine ⟨?_, ?_, len_put_old h x hg⟩
  · rw [e1, List.set_append_right _ _ (by rw [ics_length, vs_length]; exact Nat.le_refl _), ics_length, vs_length, Nat.sub_self, List.set_cons_zero]
    simp only [putC, vs_append, ics_append]
    rfl
  · have := congrArg ksC hs
    rw [this]
    simp [putC, ksC]
set_option maxHeartbeats 1000000 in
theorem lset_old (h : Lst w Z t g L A B ca cb) (hn : L.length ≤ 1000) (b : Nat) (x y : Int) (hg : getC L b = some y) (hb : b < 256) :
    Calls Try.prog 66 #[.pointer (some ⟨g, 0, none⟩), .int .u8 (b : Int), Value.int .i64 x] w fun e w' => e = .returned (.tuple #[]) ∧ LstE w' Z t g (putC L b x) ∧ Tz Z w w' := by
  have HB := Lib.hid (bs_no L h.asc A ca b w (row_of_own h.bs) (by omega))
  have HL := Lib.hid h
  have HX := Lib.hid (vset h.asc hg x)
  have HH := Lib.hid h.byt
  obtain ⟨h1, h2⟩ := low_lt h.asc hg
  have c0 := h.at_.cell 0
  have c1 := h.at_.cell 1
  simp at c0 c1
  rw [hg] at HB
  obtain ⟨gb, rfl⟩ : ∃ gb, B = some ⟨gb, 0, none⟩ := by
    rcases h.xs.2 with ⟨hv, h0⟩ | ⟨g', c', cur, hv, _⟩
    · omega
    · injection hv with hA _ _
      exact ⟨g', hA⟩
  obtain ⟨_, cur, hat⟩ := own_at (i := gb) h.xs rfl
  have hg1 : Hid (∀ W, Turn No w W → W.cell? ⟨gb, (lowC L b).length, none⟩ = some (Value.int .i64 y) ∧ W.frozen? ⟨gb, (lowC L b).length, none⟩ = false) := Lib.hid fun W T => by
    obtain ⟨b', o, hB, c2⟩ := vcs_at (row_of_own HL.out.xs) h2
    injection hB with hB
    injection hB with e1 e2 _
    subst e1 e2
    rw [Nat.zero_add] at c2
    exact ⟨cell_no T c2, (hat.no T).thawed _⟩
  have HAT := Lib.hid hat
  have hat : At w gb (.cells cur 3 (0, 0)) := hat
  have HGB := Lib.hid (And.intro (At.mine hat (.inl (own_at (i := gb) h.xs rfl).1) (by decide)) (h.at_.ne hat (by intro e; injection e with _ e _; exact h.t1.2.2 e)))
  clear hat h hg h2
  obtain ⟨n, hnn⟩ : ∃ n, L.length = n := ⟨_, rfl⟩
  rw [hnn] at c0 c1 HB h1
  have HN := Lib.hid hnn
  clear hnn hn
  obtain ⟨i, hi⟩ : ∃ i, (lowC L b).length = i := ⟨_, rfl⟩
  rw [hi] at h1 HB hg1 HX
  clear hi
  have C0 := Lib.hid c0
  have C1 := Lib.hid c1
  clear c1
  go_enter Try.func66, Try.ntmps66
  go_wp2_with (go_at_call 67; (with_reducible refine HB.out.mono ?_); rintro e w1 ⟨rfl, ht⟩; have d1 := cell_no ht C1.out; have d2 := (hg1.out _ ht).1; have d3 := (hg1.out _ ht).2; replace ht := Lib.hid ht)
  (try simp only [Exit.inBlock, Exit.then]); refine bodyPost_ret (results_none rfl _ _ _) rfl ?_
  have hs := own_set (own_grown HL.out.xs ht.out fun _ _ h => h) i (Value.int .i64 x)
  rw [HX.out.1] at hs
  have T1 : Turn (fun k => k = gb) w1 (w1.setCell ⟨gb, i, none⟩ (Value.int .i64 x)) := Turn.set1 _ _ _ _
  refine ⟨rfl, ⟨A, some ⟨gb, 0, none⟩, ca, cb, asc_put HL.out.asc b x, byt_put HH.out hb x, HL.out.zg, HL.out.ty, ?_, ?_, ?_⟩, (Tz.no ht.out).trans (Tz.of T1 fun k _ hk => ?_)⟩
  · rw [HX.out.2.2]
    exact (HL.out.at_.no ht.out).turn T1 HGB.out.2
  · rw [HX.out.2.2, HX.out.2.1]
    exact row_keep (own_grown HL.out.bs ht.out fun _ _ h => h) T1 fun k hk e => row_ne HL.out.bs HL.out.xs (by decide) hk (e ▸ rfl)
  · rw [HX.out.2.2]
    exact hs
  · subst hk
    obtain ⟨z, c, t', f, ha, h'⟩ := HGB.out.1
    exact ⟨z, c, t', f, ha.no ht.out, h'⟩
set_option maxHeartbeats 2000000 in
theorem lset_new (h : Lst w Z t g L A B ca cb) (hn : L.length ≤ 1000) (b : Nat) (x : Int) (hg : getC L b = none) (hb : b < 256) (hz : Z ≤ w.heap.size) :
    Calls Try.prog 66 #[.pointer (some ⟨g, 0, none⟩), .int .u8 (b : Int), Value.int .i64 x] w fun e w' => e = .returned (.tuple #[]) ∧ LstE w' Z t g (putC L b x) ∧ Tz Z w w' := by
  have HB := Lib.hid (bs_no L h.asc A ca b w (row_of_own h.bs) (by omega))
  have HL := Lib.hid h
  have HX := Lib.hid (len_put_new h.asc x hg)
  have HT := Lib.hid h.t1
  have c0 := h.at_.cell 0
  simp at c0
  rw [hg] at HB
  have CI := Lib.hid fun (W : World) (T : Turn No w W) => insB h.asc x hg (w := W.alloc (.cells #[.int .u8 (b : Int)] 5)) (Z := Z) (ca := ca) (A := A) (own_grown (own_grown h.bs T fun _ _ h => h) (row_new W (Nat.le_trans hz T.size) _ _) fun _ _ h => h) (by omega) W.heap.size (At.new W _)
    (fun hk => by have := own_lt h.bs hk; have := T.size; omega) (by have := T.size; simp; omega)
  have CT := Lib.hid fun (W : World) (hW : Z ≤ W.heap.size) (ho : W.ownsRow Z 3 1 (.slice B L.length cb) L.length (ics (vsC L))) => insT h.asc x hg (w := W.alloc (.cells #[Value.int .i64 x] 3)) (Z := Z) (ca := cb) (A := B) (own_grown ho (row_new W hW _ _) fun _ _ h => h) (by omega) W.heap.size (At.new W _)
    (fun hk => by have := own_lt ho hk; omega) (by simp; omega)
  clear h hg
  have hi : Hid ((lowC L b).length ≤ L.length) := Lib.hid (low_le b)
  obtain ⟨n, hnn⟩ : ∃ n, L.length = n := ⟨_, rfl⟩
  rw [hnn] at c0 HB CI CT HX hi
  have HN := Lib.hid (And.intro hnn hn)
  clear hnn hn
  obtain ⟨i, hii⟩ : ∃ i, (lowC L b).length = i := ⟨_, rfl⟩
  rw [hii] at HB CI CT hi
  clear hii
  go_enter Try.func66, Try.ntmps66
  have HS1 := Lib.hid fun (W : World) (T : Turn No w W) => (show W.cell? ⟨g, 0, none⟩ = some (.slice A n ca) from cell_no T c0)
  have HS2 : Hid (∀ (W W2 : World), Turn No w W → Turn (fun k => ablk A = some k) (W.alloc (.cells #[.int .u8 (b : Int)] 5)) W2 → At W2 g (.cells #[.slice A n ca, .slice B n cb] t (0, 0)) ∧ W2.ownsRow Z 3 1 (.slice B n cb) n (ics (vsC L)) ∧ Tz Z w W2) := Lib.hid fun W W2 T T2 => by
    have Tn := T.trans (row_new W (Nat.le_trans hz T.size) (.int .u8 (b : Int)) 5)
    have hat := (HL.out.at_.no Tn).turn T2 (ablk_ne HL.out.bs HL.out.at_ HT.out.2.1)
    have hx := row_keep (own_grown HL.out.xs Tn fun _ _ h => h) T2 fun k hk e => row_ne HL.out.bs HL.out.xs (by decide) e hk
    have hb := own_grown HL.out.bs Tn fun _ _ h => h
    rw [HN.out.1] at hat hx
    exact ⟨hat, hx, (Tz.no Tn).trans (Tz.of T2 fun k _ hk => own_mine hb (by decide) hk)⟩
  go_upto_region 4 with (first
    | (go_at_call 67; (with_reducible refine HB.out.mono ?_); rintro e w1 ⟨rfl, ht⟩; have d0 := HS1.out w1 ht; have CI1 := Lib.hid (CI.out w1 ht); replace ht := Lib.hid ht)
    | (go_at_call 70; (with_reducible refine CI1.out.mono ?_); rintro e w2 ⟨B2, c2, rfl, ho, h2⟩; have H2 := Lib.hid (And.intro ho (HS2.out w1 w2 ht.out h2)); clear ho h2; obtain ⟨k0, _, f0, _⟩ := at2 H2.out.2.1))
  have H3 : Hid (At (w2.setCell ⟨g, 0, none⟩ (.slice (some ⟨B2, 0, none⟩) (n + 1) c2)) g (.cells #[.slice (some ⟨B2, 0, none⟩) (n + 1) c2, .slice B n cb] t (0, 0)) ∧
      (w2.setCell ⟨g, 0, none⟩ (.slice (some ⟨B2, 0, none⟩) (n + 1) c2)).ownsRow Z 5 1 (.slice (some ⟨B2, 0, none⟩) (n + 1) c2) (n + 1) (bcs (ksC (putC L b x))) ∧
      (w2.setCell ⟨g, 0, none⟩ (.slice (some ⟨B2, 0, none⟩) (n + 1) c2)).ownsRow Z 3 1 (.slice B n cb) n (ics (vsC L)) ∧ Tz Z w (w2.setCell ⟨g, 0, none⟩ (.slice (some ⟨B2, 0, none⟩) (n + 1) c2))) := Lib.hid (by
    obtain ⟨h1, h2, h3, h4⟩ := H2.out
    have T := Turn.set1 w2 g 0 (.slice (some ⟨B2, 0, none⟩) (n + 1) c2)
    refine ⟨by simpa using h2.set 0 (.slice (some ⟨B2, 0, none⟩) (n + 1) c2), row_keep h1 T fun k hk e => ablk_ne h1 h2 HT.out.2.1 (e ▸ hk), row_keep h3 T fun k hk e => ablk_ne h3 h2 HT.out.2.2 (e ▸ hk), h4.trans (Tz.of T fun k _ hk => by subst hk; exact At.mine h2 HL.out.zg HT.out.1)⟩)
  generalize w2.setCell ⟨g, 0, none⟩ (.slice (some ⟨B2, 0, none⟩) (n + 1) c2) = w3 at H3 ⊢
  clear H2 f0 k0 CI1 HS1 HS2 d0 c0 HB CI
  have d1 := H3.out.1.cell 1
  simp at d1
  have CT3 := Lib.hid (CT.out w3 (Nat.le_trans hz H3.out.2.2.2.size) H3.out.2.2.1)
  clear CT
  have HS4 : Hid (∀ (W2 : World), Turn (fun k => ablk B = some k) (w3.alloc (.cells #[Value.int .i64 x] 3)) W2 → At W2 g (.cells #[.slice (some ⟨B2, 0, none⟩) (n + 1) c2, .slice B n cb] t (0, 0)) ∧ W2.ownsRow Z 5 1 (.slice (some ⟨B2, 0, none⟩) (n + 1) c2) (n + 1) (bcs (ksC (putC L b x))) ∧ Tz Z w W2) := Lib.hid fun W2 T2 => by
    obtain ⟨h1, h2, h3, h4⟩ := H3.out
    have Tn := row_new w3 (Z := Z) (Nat.le_trans hz h4.size) (Value.int .i64 x) 3
    exact ⟨(h1.no Tn).turn T2 (ablk_ne h3 h1 HT.out.2.2), row_keep (own_grown h2 Tn fun _ _ h => h) T2 fun k hk e => row_ne h2 h3 (by decide) hk e, h4.trans ((Tz.no Tn).trans (Tz.of T2 fun k _ hk => own_mine (own_grown h3 Tn fun _ _ h => h) (by decide) hk))⟩
  go_wp2_with (go_at_call 71; (with_reducible refine CT3.out.mono ?_); rintro e w4 ⟨B4, c4, rfl, ho, h2⟩; have H4 := Lib.hid (And.intro ho (HS4.out w4 h2)); clear ho h2; obtain ⟨_, k1, _, f1⟩ := at2 H4.out.2.1)
  go_end0
  obtain ⟨h1, h2, h3, h4⟩ := H4.out
  have T := Turn.set1 w4 g 1 (.slice (some ⟨B4, 0, none⟩) (n + 1) c4)
  refine ⟨rfl, ⟨some ⟨B2, 0, none⟩, some ⟨B4, 0, none⟩, c2, c4, asc_put HL.out.asc b x, byt_put HL.out.byt hb x, HL.out.zg, HL.out.ty, ?_, ?_, ?_⟩, h4.trans (Tz.of T fun k _ hk => by subst hk; exact At.mine h2 HL.out.zg HT.out.1)⟩
  · rw [HX.out]
    simpa using h2.set 1 (.slice (some ⟨B4, 0, none⟩) (n + 1) c4)
  · rw [HX.out]
    exact row_keep h3 T fun k hk e => ablk_ne h3 h2 HT.out.2.1 (e ▸ hk)
  · rw [HX.out]
    exact row_keep h1 T fun k hk e => ablk_ne h1 h2 HT.out.2.2 (e ▸ hk)
theorem lset_any (h : Lst w Z t g L A B ca cb) (hn : L.length ≤ 1000) (b : Nat) (x : Int) (hb : b < 256) (hz : Z ≤ w.heap.size) :
    Calls Try.prog 66 #[.pointer (some ⟨g, 0, none⟩), .int .u8 (b : Int), Value.int .i64 x] w fun e w' => e = .returned (.tuple #[]) ∧ LstE w' Z t g (putC L b x) ∧ Tz Z w w' := by
  cases hg : getC L b with
  | none => exact lset_new h hn b x hg hb hz
  | some y => exact lset_old h hn b x y hg hb
end
end NI
end Go.Proofs.Ytijlcehjlacihaa
