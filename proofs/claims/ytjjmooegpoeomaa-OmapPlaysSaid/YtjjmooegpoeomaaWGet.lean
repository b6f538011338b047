/-
  get: what a key has.
-/
import Derived.Test.YtjjmooegpoeomaaWFind
namespace Go.Proofs.Ytjjmooegpoeomaa
open Go.RowKit Go.Lib
set_option linter.unusedVariables false
set_option linter.unusedSimpArgs false

def ans0 : Array Value := #[.int .i64 0, .bool false, .string ⟨#[]⟩, .string ⟨#[]⟩]
def gans (o : Option ByteArray) : Ans := ⟨0, o.isSome, ⟨#[]⟩, o.getD ⟨#[]⟩⟩
def Ans.val (a : Ans) : Value := .agg #[.int .i64 a.code, .bool a.found, .string a.k, .string a.v]
def Ans.ar (a : Ans) : Array Value := #[.int .i64 a.code, .bool a.found, .string a.k, .string a.v]
theorem Om.turn {X : Nat → Prop} {w w' : World} {Z mb : Nat} {rb : Option Nat} {l : List Pr} (h : Om w Z mb rb l) (t : Turn X w w') (h1 : ¬ X mb) (h2 : ∀ k, rb = some k → ¬ X k) : Om w' Z mb rb l := by
  obtain ⟨A, cap, h0, hr, hb⟩ := h.rowed
  exact ⟨⟨A, cap, h0.turn t h1, own_grown hr t fun k hk hx => h2 k (hb ▸ hk) hx, hb⟩, h.asc, h.few, h.fit, h.mb_new⟩
theorem Om.no {w w' : World} {Z mb : Nat} {rb : Option Nat} {l : List Pr} (h : Om w Z mb rb l) (t : Turn No w w') : Om w' Z mb rb l := h.turn t (fun h => h) (fun _ _ h => h)
theorem Om.lt {w : World} {Z mb : Nat} {rb : Option Nat} {l : List Pr} (h : Om w Z mb rb l) : mb < w.heap.size := by
  obtain ⟨A, cap, h0, _⟩ := h.rowed
  exact h0.lt
theorem hi_get {l : List Pr} {key v : ByteArray} {t : List Pr} (h : hiL l key = ⟨key, v⟩ :: t) : l[(lowL l key).length]? = some ⟨key, v⟩ := by
  have h2 : (lowL l key ++ hiL l key)[(lowL l key).length]? = some ⟨key, v⟩ := by rw [List.getElem?_append_right (Nat.le_refl _), Nat.sub_self, h]; rfl
  rwa [split_L] at h2
theorem Om.rb_lt {w : World} {Z mb : Nat} {rb : Option Nat} {l : List Pr} (h : Om w Z mb rb l) {k : Nat} (hk : rb = some k) : Z ≤ k ∧ k < w.heap.size := by
  obtain ⟨A, cap, _, hr, hb⟩ := h.rowed
  exact hr.lt k (hb.trans hk)
theorem Om.ne {w : World} {Z mb : Nat} {rb : Option Nat} {l : List Pr} (h : Om w Z mb rb l) {k : Nat} (hk : rb = some k) : mb ≠ k := by
  obtain ⟨A, cap, hm, hr, hb⟩ := h.rowed
  rcases hr.2 with ⟨hv, _⟩ | ⟨g, c, cur, hv, _, hg, _⟩
  · rw [hv, hk] at hb; cases hb
  · rw [hv, hk] at hb
    injection hb with hb
    subst hb
    refine At.ne hm hg ?_
    intro e
    injection e with _ e
    cases e
/-- A result cell: block g was new, and holds an answer. -/
structure Res (w w' : World) (g : Nat) (c : Array Value) : Prop where
  tu : Turn No w w'
  old : w.heap.size ≤ g
  at_ : At w' g (.cells c 35 (0, 0))
theorem Res.start (w : World) : Res w (w.alloc (.cells ans0 35)) w.heap.size ans0 := ⟨(Turn.refl _ _).alloc _, Nat.le_refl _, At.new _ _⟩
theorem Res.no {w w' w2 : World} {g : Nat} {c : Array Value} (h : Res w w' g c) (t : Turn No w' w2) : Res w w2 g c := ⟨h.tu.trans t, h.old, h.at_.no t⟩
theorem Res.set {w w' : World} {g : Nat} {c : Array Value} (h : Res w w' g c) (i : Nat) (u : Value) : Res w (w'.setCell ⟨g, i, none⟩ u) g (c.setIfInBounds i u) :=
  ⟨h.tu.setCell (p := ⟨g, i, none⟩) (Or.inr h.old) u, h.old, h.at_.set i u⟩

theorem Res.all {w w' : World} {g : Nat} {x0 x1 x2 x3 : Value} (h : Res w w' g #[x0, x1, x2, x3]) (y0 y1 y2 y3 : Value) :
    Res w ((((w'.setCell ⟨g, 0, none⟩ y0).setCell ⟨g, 1, none⟩ y1).setCell ⟨g, 2, none⟩ y2).setCell ⟨g, 3, none⟩ y3) g #[y0, y1, y2, y3] := by
  have := (((h.set 0 y0).set 1 y1).set 2 y2).set 3 y3
  simpa using this
set_option maxHeartbeats 2000000 in
theorem get_any {w : World} {Z mb : Nat} {rb : Option Nat} {l : List Pr} (h : Om w Z mb rb l) (key : ByteArray) :
    Calls Try.prog 35 #[.pointer (some ⟨mb, 0, none⟩), .string key] w fun e w' => e = .returned (gans (getL l key)).val ∧ Turn No w w' := by
  have HR := Lib.hid (Res.start w)
  have HM := Lib.hid h
  have CF := Lib.hid fun (W : World) (t : Turn No w W) => find_any (h.no t) key
  clear h
  go_enter Try.func35, Try.ntmps35
  go_upto_region 1 with fail
  unfold ans0 at HR
  generalize w.alloc (.cells #[.int .i64 0, .bool false, .string ⟨#[]⟩, .string ⟨#[]⟩] 35) = w1 at HR ⊢
  generalize w.heap.size = g at HR ⊢
  go_upto_if 14 with (go_at_call 50; refine (CF.out _ HR.out.tu).mono ?_; rintro e w2 ⟨rfl, ht⟩; have H2 := Lib.hid (HR.out.no ht); clear ht)
  clear CF HR
  have f0 := H2.out.at_.thawed 0
  have f1 := H2.out.at_.thawed 1
  have f2 := H2.out.at_.thawed 2
  have f3 := H2.out.at_.thawed 3
  have d0 := H2.out.at_.cell 0
  have d1 := H2.out.at_.cell 1
  have d2 := H2.out.at_.cell 2
  have d3 := H2.out.at_.cell 3
  simp at d0 d1 d2 d3
  cases hh : hasL l key with
  | false =>
    have hg := Lib.hid (HM.out.asc.get_hi hh)
    go_wp2_with fail
    have HE := Lib.hid (H2.out.all (.int .i64 0) (.bool false) (.string ⟨#[]⟩) (.string ⟨#[]⟩))
    clear H2 f0 f1 f2 f3 d0 d1 d2 d3
    generalize (((w2.setCell ⟨g, 0, none⟩ (.int .i64 0)).setCell ⟨g, 1, none⟩ (.bool false)).setCell ⟨g, 2, none⟩ (.string ⟨#[]⟩)).setCell ⟨g, 3, none⟩ (.string ⟨#[]⟩) = w3 at HE ⊢
    (try simp only [Exit.inBlock, Exit.then])
    refine bodyPost_ret (results_cell_row rfl _ _ g 35 _ (0, 0) _ (by rfl) HE.out.at_ Try.underlying35 rfl (by kernel_rfl)) rfl ?_
    exact ⟨by rw [hg.out]; rfl, HE.out.tu⟩
  | true =>
    obtain ⟨v, t, ht⟩ := has_true hh
    have hg := Lib.hid (get_has ht)
    have hat := hi_get ht
    have HM2 := HM.out.no H2.out.tu
    obtain ⟨A, cap, hm, hr, _⟩ := HM2.rowed
    obtain ⟨b, off, hA, hb, x0, x1⟩ := (row_of_own hr).pair hat
    have hfv : Fit v := (HM.out.fit _ (List.mem_of_getElem? hat)).2
    have hlt : (lowL l key).length < l.length := (List.getElem?_eq_some_iff.1 hat).1
    have CL := Lib.hid fun (W : World) (t : Turn No w2 W) => clone_turn v hfv W t
    have m0 := hm.cell 0
    simp only [List.getElem?_toArray, List.getElem?_cons_zero] at m0
    subst hA
    clear hb hm hr HM2 hat ht hh hfv HM
    generalize (lowL l key).length = c at x0 x1 hlt ⊢
    simp only at x0 x1
    go_wp2_with (go_at_call 51; refine (CL.out _ (Turn.refl _ _)).mono ?_; rintro e w3 ⟨rfl, ht, _⟩; have H3 := Lib.hid (H2.out.no ht); clear ht; have f0 := H3.out.at_.thawed 0; have f1 := H3.out.at_.thawed 1; have f2 := H3.out.at_.thawed 2; have f3 := H3.out.at_.thawed 3; have d0 := H3.out.at_.cell 0; have d1 := H3.out.at_.cell 1; have d2 := H3.out.at_.cell 2; have d3 := H3.out.at_.cell 3; simp at d0 d1 d2 d3)
    have HE := Lib.hid (H3.out.all (.int .i64 0) (.bool true) (.string ⟨#[]⟩) (.string v))
    clear H3 f0 f1 f2 f3 d0 d1 d2 d3
    generalize (((w3.setCell ⟨g, 0, none⟩ (.int .i64 0)).setCell ⟨g, 1, none⟩ (.bool true)).setCell ⟨g, 2, none⟩ (.string ⟨#[]⟩)).setCell ⟨g, 3, none⟩ (.string v) = w4 at HE ⊢
    (try simp only [Exit.inBlock, Exit.then])
    refine bodyPost_ret (results_cell_row rfl _ _ g 35 _ (0, 0) _ (by rfl) HE.out.at_ Try.underlying35 rfl (by kernel_rfl)) rfl ?_
    exact ⟨by rw [hg.out]; rfl, HE.out.tu⟩
end Go.Proofs.Ytjjmooegpoeomaa
