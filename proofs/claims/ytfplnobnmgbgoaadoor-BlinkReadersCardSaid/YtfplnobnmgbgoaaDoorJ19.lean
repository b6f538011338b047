/-
  What a reader's visit does: the tree, and the writer in memory.
  The writer's visit.
  A reader of a tree that nobody writes.
  A look whose visit does something.
  A look whose visit is a bound method.
  Looks whose visits write.
  The document's Found (layer 10).
-/
import Derived.Test.YtfplnobnmgbgoaaDoorJ18
namespace Go.Proofs.YtfplnobnmgbgoaaDoor
open Go.RowKit Go.Lib
set_option linter.unusedVariables false
set_option maxRecDepth 20000
set_option linter.unusedSimpArgs false


/-- What a tree's calls leave of a block of another type. -/
theorem tn_at {w w' : World} {I : Ids} {N : Nat → Option Ent} {X : Lvl} {root : Hn} {G : List Nat} {fr : Nat → Bool} (hm : Tm w I N X root G fr) (t : Tn I w w') {g : Nat} {c : Array Value} {ty : TypeId} (h : At w g (.cells c ty (0, 0))) (h1 : ty ≠ 83) (h2 : ty ≠ 68) (h3 : ty ≠ 121) : At w' g (.cells c ty (0, 0)) := by
  refine h.turn t fun hx => ?_
  obtain ⟨M, f, hb⟩ := hm.b
  obtain ⟨Fq, hp, hg, hf, _⟩ := hm.p
  rcases hx with e | e | e | e | ⟨_, cc, e⟩
  · obtain ⟨es, clock, hmp⟩ := hb.ar.2.1.obj
    rw [← e] at hmp
    have := h.eq hmp
    cases this
  · have h4 := hm.t
    unfold TrB at h4
    rw [← e] at h4
    have := h.eq h4
    injection this with _ h5
    exact h1 h5
  · rw [← e] at hg
    have := h.eq hg
    injection this with _ h5
    exact h2 h5
  · rw [← e] at hf
    have := h.eq hf
    injection this with _ h5
    exact h2 h5
  · have := h.eq e
    injection this with _ h5
    exact h3 h5
/-- What stays while a reader visits. -/
structure Vc (w0 : World) (I : Ids) (yb : Nat) (ws : List Wx) (WA : Option Addr) (S : List Nat) (SA : Option Addr) (b0 m : Nat) : Prop where
  fr : Fr w0 I
  y : w0.heap.size ≤ yb
  row : Row w0 WA (xcs ws)
  sb : ∀ x ∈ S, x < 256
  fit : ∀ x ∈ ws, Fit x.k ∧ Fit x.v
  wn : ws.length ≤ 200
  sn : S.length ≤ 9223372036854775807
  room : 3 * (b0 + ws.length) + 1 ≤ m
/-- The row that says how many writes a visit does: it lay there ahead, or in a block of bytes. -/
def Sk (w0 : World) (S : List Nat) (SA : Option Addr) (W : World) : Prop := ∀ j u, (S.map fun (x : Nat) => Value.int .u8 (x : Int))[j]? = some u → ∃ b o, SA = some ⟨b, o, none⟩ ∧ b < W.heap.size ∧ W.cell? ⟨b, o + j, none⟩ = some u ∧ (b < w0.heap.size ∨ ∃ cur, At W b (.cells cur 5 (0, 0)))
theorem Sk.turn {X : Nat → Prop} {w0 W W' : World} {S : List Nat} {SA : Option Addr} (h : Sk w0 S SA W) (t : Turn X W W') (h1 : ∀ i, X i → w0.heap.size ≤ i) (h2 : ∀ i cur, At W i (.cells cur 5 (0, 0)) → ¬ X i) : Sk w0 S SA W' := fun j u hj => by
  obtain ⟨b, o, hA, hb, hc, hk⟩ := h j u hj
  have hX : ¬ X b := by
    rcases hk with hk | ⟨cur, hk⟩
    · intro hx; have := h1 b hx; omega
    · exact h2 b cur hk
  exact ⟨b, o, hA, Nat.lt_of_lt_of_le hb t.size, (World.cell?_of_block (w := W) (t.block b hb hX)).trans hc, hk.imp id fun ⟨cur, hk⟩ => ⟨cur, hk.turn t hX⟩⟩
theorem Sk.no {w0 W W' : World} {S : List Nat} {SA : Option Addr} (h : Sk w0 S SA W) (t : Turn No W W') : Sk w0 S SA W' := h.turn t (fun _ h => h.elim) fun _ _ _ h => h
/-- The writer's cells. -/
def ycs (I : Ids) (ws : List Wx) (WA : Option Addr) (wk i : Nat) (S : List Nat) (SA : Option Addr) (sc n : Nat) : Array Value := #[.pointer (some ⟨I.tb, 0, none⟩), .slice WA ws.length wk, .int .i64 (i : Int), .slice SA S.length sc, .int .i64 (n : Int), .bool false]
/-- The tree and the writer, where so many writes are done, and so many visits. -/
structure Vm (w0 : World) (I : Ids) (yb : Nat) (F0 : List Pr) (ws : List Wx) (WA : Option Addr) (wk : Nat) (S : List Nat) (SA : Option Addr) (sc b0 m i n : Nat) (T : List Lvl) (N : Nat → Option Ent) (root : Hn) (W : World) : Prop where
  tq : ∃ G fr, Tm W I N T.flatten root G fr ∧ Good T root ∧ cnt fr G.length + T.flatten.length = m ∧ G.length = m
  lv : (leaves T).length ≤ b0 + i
  fl : flatT T = cur F0 ws i
  le : i ≤ ws.length
  y : At W yb (.cells (ycs I ws WA wk i S SA sc n) 36 (0, 0))
  tu : Turn No w0 W
  s : Sk w0 S SA W
section
variable {w0 : World} {I : Ids} {yb : Nat} {F0 : List Pr} {ws : List Wx} {WA : Option Addr} {wk : Nat} {S : List Nat} {SA : Option Addr} {sc b0 m i n : Nat} {T : List Lvl} {N : Nat → Option Ent} {root : Hn} {W : World}
theorem Vm.no {W2 : World} (h : Vm w0 I yb F0 ws WA wk S SA sc b0 m i n T N root W) (t : Turn No W W2) : Vm w0 I yb F0 ws WA wk S SA sc b0 m i n T N root W2 := by
  obtain ⟨G, fr, h1, h2, h3, h4⟩ := h.tq
  exact ⟨⟨G, fr, h1.no t, h2, h3, h4⟩, h.lv, h.fl, h.le, h.y.no t, h.tu.trans t, h.s.no t⟩
/-- What a tree's calls, and the writer's block, turn. -/
def Ty (I : Ids) (yb : Nat) (w w' : World) : Prop := Turn (fun j => Xt I w j ∨ j = yb) w w'
theorem Ty.no {W2 : World} (t : Turn No W W2) : Ty I yb W W2 := t.mono fun _ _ h => h.elim
theorem Ty.tn {W2 : World} (t : Tn I W W2) : Ty I yb W W2 := t.mono fun _ _ h => .inl h
theorem Ty.set {W2 : World} (t : Turn (fun j => j = yb) W W2) : Ty I yb W W2 := t.mono fun _ _ h => .inr h
theorem Ty.trans {a b c : World} (h : Ty I yb a b) (k : Ty I yb b c) : Ty I yb a c := Turn.then h k fun i hi hx => by
  by_cases hX : Xt I a i ∨ i = yb
  · exact hX
  · rcases hx with hx | hx
    · rcases hx with e | e | e | e | ⟨hz, cc, hat⟩
      · exact .inl (.inl e)
      · exact .inl (.inr (.inl e))
      · exact .inl (.inr (.inr (.inl e)))
      · exact .inl (.inr (.inr (.inr (.inl e))))
      · exact .inl (.inr (.inr (.inr (.inr ⟨hz, cc, (h.block i hi hX).symm.trans hat⟩))))
    · exact .inr hx
/-- A block of another type, and not the writer's, is none that turns. -/
theorem not_ty {X : Lvl} {G : List Nat} {fr : Nat → Bool} (hm : Tm W I N X root G fr) {g : Nat} {c : Array Value} {ty : TypeId} (h : At W g (.cells c ty (0, 0))) (h1 : ty ≠ 83) (h2 : ty ≠ 68) (h3 : ty ≠ 121) (hy : g ≠ yb) : ¬ (Xt I W g ∨ g = yb) := by
  rintro (hx | hx)
  · obtain ⟨M, f, hb⟩ := hm.b
    obtain ⟨Fq, hp, hg, hf, _⟩ := hm.p
    rcases hx with e | e | e | e | ⟨_, cc, e⟩
    · obtain ⟨es, clock, hmp⟩ := hb.ar.2.1.obj
      rw [← e] at hmp
      have := h.eq hmp
      cases this
    · have h4 := hm.t
      unfold TrB at h4
      rw [← e] at h4
      have := h.eq h4
      injection this with _ h5
      exact h1 h5
    · rw [← e] at hg
      have := h.eq hg
      injection this with _ h5
      exact h2 h5
    · rw [← e] at hf
      have := h.eq hf
      injection this with _ h5
      exact h2 h5
    · have := h.eq e
      injection this with _ h5
      exact h3 h5
  · exact hy hx
/-- Has a write been done, or is the tree as it was? -/
structure Von (I : Ids) (yb : Nat) (T T' : List Lvl) (i i' : Nat) (W W' : World) : Prop where
  le : i ≤ i'
  same : i' = i → T' = T
  vis : ∀ f q, VisT T f q → VisT T' f q
  tu : Ty I yb W W'
theorem Von.refl (T : List Lvl) (i : Nat) (W : World) : Von I yb T T i i W W := ⟨Nat.le_refl _, fun _ => rfl, fun _ _ h => h, Ty.no (Turn.refl _ _)⟩
theorem Von.trans {T U V : List Lvl} {i j k : Nat} {W X Y : World} (h : Von I yb T U i j W X) (k' : Von I yb U V j k X Y) : Von I yb T V i k W Y :=
  ⟨Nat.le_trans h.le k'.le, fun e => by have h1 := h.le; have h2 := k'.le; rw [k'.same (by omega), h.same (by omega)], fun f q x => k'.vis f q (h.vis f q x), h.tu.trans k'.tu⟩
theorem Von.no {T : List Lvl} {i : Nat} {W W2 : World} (t : Turn No W W2) : Von I yb T T i i W W2 := ⟨Nat.le_refl _, fun _ => rfl, fun _ _ h => h, Ty.no t⟩
end
end Go.Proofs.YtfplnobnmgbgoaaDoor
namespace Go.Proofs.YtfplnobnmgbgoaaDoor
open Go.RowKit Go.Lib
set_option linter.unusedVariables false
set_option maxRecDepth 20000
set_option linter.unusedSimpArgs false


/-- The writer's block is written: the tree stays. -/
theorem tm_set {W W' : World} {I : Ids} {N : Nat → Option Ent} {X : Lvl} {root : Hn} {G : List Nat} {fr : Nat → Bool} {yb : Nat} {c : Array Value} (hm : Tm W I N X root G fr) (hy : At W yb (.cells c 36 (0, 0))) (h0 : yb ≠ 0) (t : Turn (fun i => i = yb) W W') : Tm W' I N X root G fr := by
  refine ⟨hm.b.typed t fun i hi => ?_, At.turn hm.t t fun e => ?_, hm.p.typed t fun i hi => ?_, hm.tab.turn t (fun e => h0 e.symm) hm.tab.pos, hm.s, hm.tk, hm.gn, Nat.le_trans hm.z t.size, hm.z1⟩
  · rw [hi]
    exact ⟨_, _, hy, by decide, by decide, by decide, by decide⟩
  · have h4 := hm.t
    unfold TrB at h4
    have e : I.tb = yb := e
    rw [e] at h4
    have := hy.eq h4
    injection this with _ h5
    exact absurd h5 (by decide)
  · rw [hi]
    exact ⟨_, _, hy, by decide, by decide⟩
theorem sk_set {w0 W W' : World} {I : Ids} {yb b0 m : Nat} {ws : List Wx} {WA SA : Option Addr} {S : List Nat} {c : Array Value} (C : Vc w0 I yb ws WA S SA b0 m) (hy : At W yb (.cells c 36 (0, 0))) (h : Sk w0 S SA W) (t : Turn (fun i => i = yb) W W') : Sk w0 S SA W' :=
  h.turn t (fun i e => by have e : i = yb := e; rw [e]; exact C.y) fun i cur h e => by
    have e : i = yb := e
    rw [e] at h
    have := hy.eq h
    injection this with _ h5
    exact absurd h5 (by decide)
theorem sk_tn {w0 W W' : World} {I : Ids} {N : Nat → Option Ent} {X : Lvl} {root : Hn} {G : List Nat} {fr : Nat → Bool} {yb b0 m : Nat} {ws : List Wx} {WA SA : Option Addr} {S : List Nat} {c : Array Value} (C : Vc w0 I yb ws WA S SA b0 m) (hm : Tm W I N X root G fr) (hy : At W yb (.cells c 36 (0, 0))) (h : Sk w0 S SA W) (t : Tn I W W') : Sk w0 S SA W' :=
  h.turn t (fun i hx => by
    rcases hx with e | e | e | e | ⟨e, _⟩
    · rw [e]; exact C.fr.m
    · rw [e]; exact C.fr.t
    · rw [e]; exact C.fr.g
    · rw [e]; exact C.fr.f
    · exact Nat.le_trans C.fr.z e) fun i cur h hx => not_ty hm h (by decide) (by decide) (by decide) (fun e => by
      rw [e] at h
      have := hy.eq h
      injection this with _ h5
      exact absurd h5 (by decide)) (.inl hx)
section
variable {w0 : World} {I : Ids} {yb : Nat} {F0 : List Pr} {ws : List Wx} {WA : Option Addr} {wk : Nat} {S : List Nat} {SA : Option Addr} {sc b0 m i n : Nat} {T : List Lvl} {N : Nat → Option Ent} {root : Hn} {W : World}
theorem Vc.y0 (C : Vc w0 I yb ws WA S SA b0 m) (h : Vm w0 I yb F0 ws WA wk S SA sc b0 m i n T N root W) (hz : 0 < w0.heap.size) : yb ≠ 0 := by have := C.y; omega
/-- One more visit is counted. -/
theorem Vm.tick (C : Vc w0 I yb ws WA S SA b0 m) (hz : 0 < w0.heap.size) (h : Vm w0 I yb F0 ws WA wk S SA sc b0 m i n T N root W) (k : Nat) : Vm w0 I yb F0 ws WA wk S SA sc b0 m i k T N root (W.setCell ⟨yb, 4, none⟩ (.int .i64 (k : Int))) ∧ Turn (fun i => i = yb) W (W.setCell ⟨yb, 4, none⟩ (.int .i64 (k : Int))) := by
  have t : Turn (fun i => i = yb) W (W.setCell ⟨yb, 4, none⟩ (.int .i64 (k : Int))) := Turn.set1 _ _ _ _
  obtain ⟨G, fr, h1, h2, h3, h4⟩ := h.tq
  refine ⟨⟨⟨G, fr, tm_set h1 h.y (C.y0 h hz) t, h2, h3, h4⟩, h.lv, h.fl, h.le, ?_, h.tu.then t fun j hj e => by have := C.y; omega, sk_set C h.y h.s t⟩, t⟩
  have := h.y.set 4 (.int .i64 (k : Int))
  simpa [ycs] using this
/-- A write is taken from the row. -/
theorem Vm.next (C : Vc w0 I yb ws WA S SA b0 m) (hz : 0 < w0.heap.size) (h : Vm w0 I yb F0 ws WA wk S SA sc b0 m i n T N root W) (v : Value) : Tq (W.setCell ⟨yb, 2, none⟩ v) I T m ∧ At (W.setCell ⟨yb, 2, none⟩ v) yb (.cells ((ycs I ws WA wk i S SA sc n).setIfInBounds 2 v) 36 (0, 0)) ∧ Turn No w0 (W.setCell ⟨yb, 2, none⟩ v) ∧ Turn (fun i => i = yb) W (W.setCell ⟨yb, 2, none⟩ v) ∧ Sk w0 S SA (W.setCell ⟨yb, 2, none⟩ v) := by
  have t : Turn (fun i => i = yb) W (W.setCell ⟨yb, 2, none⟩ v) := Turn.set1 _ _ _ _
  obtain ⟨G, fr, h1, h2, h3, h4⟩ := h.tq
  exact ⟨⟨N, root, G, fr, tm_set h1 h.y (C.y0 h hz) t, h2, h3, h4⟩, h.y.set 2 v, h.tu.then t fun j hj e => by have := C.y; omega, t, sk_set C h.y h.s t⟩
/-- A write is done: what there is then. -/
theorem Vm.write {T0 T' T2 : List Lvl} {i' : Nat} {W0 W7 W8 : World} {x : Wx} (C : Vc w0 I yb ws WA S SA b0 m) (hx : ws[i']? = some x) (h7 : Tq W7 I T' m) (hl : (leaves T').length ≤ b0 + i') (hf : flatT T' = cur F0 ws i') (hy : At W7 yb (.cells (ycs I ws WA wk (i' + 1) S SA sc n) 36 (0, 0))) (htu : Turn No w0 W7) (hsk : Sk w0 S SA W7) (hv : Von I yb T0 T' i i' W0 W7)
    (h8 : Tq W8 I T2 m) (hf2 : flatT T2 = stepD (flatT T') x) (hl2 : (leaves T2).length ≤ (leaves T').length + 1) (hv2 : ∀ f q, VisT T' f q → VisT T2 f q) (tn : Tn I W7 W8) :
    ∃ N2 root2, Vm w0 I yb F0 ws WA wk S SA sc b0 m (i' + 1) n T2 N2 root2 W8 ∧ Von I yb T0 T2 i (i' + 1) W0 W8 ∧ ∀ g c, At W7 g (.cells c 26 (0, 0)) → At W8 g (.cells c 26 (0, 0)) := by
  obtain ⟨N7, root7, G7, fr7, k1, _⟩ := h7
  obtain ⟨N2, root2, G, fr, h1, h2, h3, h4⟩ := h8
  refine ⟨N2, root2, ⟨⟨G, fr, h1, h2, h3, h4⟩, by omega, ?_, (List.getElem?_eq_some_iff.1 hx).1, tn_at k1 tn hy (by decide) (by decide) (by decide), C.fr.turn htu tn, sk_tn C k1 hy hsk tn⟩, ⟨Nat.le_succ_of_le hv.le, fun e => ?_, fun f q h => hv2 f q (hv.vis f q h), hv.tu.trans (Ty.tn tn)⟩, fun g c h => tn_at k1 tn h (by decide) (by decide) (by decide)⟩
  · rw [hf2, hf, cur_succ hx]
  · have := hv.le
    omega
/-- That a write was done is noted: it was already so. -/
theorem Vm.full (C : Vc w0 I yb ws WA S SA b0 m) (hz : 0 < w0.heap.size) (h : Vm w0 I yb F0 ws WA wk S SA sc b0 m i n T N root W) : Vm w0 I yb F0 ws WA wk S SA sc b0 m i n T N root (W.setCell ⟨yb, 5, none⟩ (.bool false)) ∧ Turn (fun i => i = yb) W (W.setCell ⟨yb, 5, none⟩ (.bool false)) := by
  have t : Turn (fun i => i = yb) W (W.setCell ⟨yb, 5, none⟩ (.bool false)) := Turn.set1 _ _ _ _
  obtain ⟨G, fr, h1, h2, h3, h4⟩ := h.tq
  refine ⟨⟨⟨G, fr, tm_set h1 h.y (C.y0 h hz) t, h2, h3, h4⟩, h.lv, h.fl, h.le, ?_, h.tu.then t fun j hj e => by have := C.y; omega, sk_set C h.y h.s t⟩, t⟩
  have := h.y.set 5 (.bool false)
  simpa [ycs] using this
/-- The writer's block is written. -/
theorem von_set {W W' : World} {T : List Lvl} {i yb : Nat} {c : Array Value} (hy : At W yb (.cells c 36 (0, 0))) (t : Turn (fun i => i = yb) W W') : Von I yb T T i i W W' :=
  ⟨Nat.le_refl _, fun _ => rfl, fun _ _ h => h, Ty.set t⟩
end
/-- What a visit comes to. -/
structure VisitS (w0 : World) (I : Ids) (yb : Nat) (F0 : List Pr) (ws : List Wx) (WA : Option Addr) (wk : Nat) (S : List Nat) (SA : Option Addr) (sc b0 m i n : Nat) (T : List Lvl) (W : World) (e : Ending) (w' : World) : Prop where
  e : e = .returned (.tuple #[])
  r : ∃ i' T' N' root', Vm w0 I yb F0 ws WA wk S SA sc b0 m i' (n + 1) T' N' root' w' ∧ Von I yb T T' i i' W w' ∧ ∀ x, S[n]? = some x → 0 < x % 8 → i < ws.length → i < i'
set_option maxRecDepth 100000 in
set_option maxHeartbeats 8000000 in
/-- visit. -/
theorem visit_any {w0 : World} {I : Ids} {yb : Nat} {F0 : List Pr} {ws : List Wx} {WA : Option Addr} {wk : Nat} {S : List Nat} {SA : Option Addr} {sc b0 m i n : Nat} {T : List Lvl} {N : Nat → Option Ent} {root : Hn} {W : World} (C : Vc w0 I yb ws WA S SA b0 m) (hz : 0 < w0.heap.size) (h : Vm w0 I yb F0 ws WA wk S SA sc b0 m i n T N root W) (hn : n ≤ 1000000000) :
    Calls Tryd.prog 9 #[.pointer (some ⟨yb, 0, none⟩)] W (VisitS w0 I yb F0 ws WA wk S SA sc b0 m i n T W) := by
  have HC := Lib.hid (And.intro C hz)
  have HM := Lib.hid h
  have y0 := h.y.cell 0
  have y1 := h.y.cell 1
  have y2 := h.y.cell 2
  have y3 := h.y.cell 3
  have y4 := h.y.cell 4
  have y5 := h.y.cell 5
  have f4 := h.y.thawed 4
  simp [ycs] at y0 y1 y2 y3 y4 y5
  have ly := h.y.lt
  have HN := Lib.hid hn
  have hw1 : wrap64 ((n : Int) + 1) = ((n + 1 : Nat) : Int) := by simp only [wrap64]; omega
  clear C hz h
  go_enter Tryd.func9, Tryd.ntmps9
  go_upto_region 1 with fail
  go_quiet (fail)
  go_upto_if 17 with fail
  go_cut [2] from 8 to 29 (fun s wx => ∃ k : Nat, s = .int .i64 (k : Int) ∧ k ≤ 7 ∧ Hid (Turn No W wx ∧ ∀ x, S[n]? = some x → k = x % 8))
  case first =>
    by_cases hlt : n < S.length
    · have q1 : (n : Int) < (S.length : Int) := by omega
      have q2 : (0 : Int) ≤ (n : Int) := by omega
      obtain ⟨x, hx⟩ : ∃ t, S[n]? = some t := ⟨S[n], List.getElem?_eq_getElem hlt⟩
      have hb := HC.out.1.sb x (List.mem_of_getElem? hx)
      obtain ⟨b, o, hA, hbl, hc, _⟩ := HM.out.s n (.int .u8 (x : Int)) (by rw [List.getElem?_map, hx]; rfl)
      have HX := Lib.hid fun W' (t : Turn No W W') => (World.cell?_of_block (w := W) (t.block b hbl (fun h => h))).trans hc
      have hx0 := HX.out W (Turn.refl _ _)
      have hm8 : (x : Int).tmod 8 = ((x % 8 : Nat) : Int) := by rw [Int.tmod_eq_emod_of_nonneg (by omega)]; omega
      have HK : Hid (x % 8 ≤ 7) := Lib.hid (by omega)
      have HSX : Hid (∀ y, S[n]? = some y → x % 8 = y % 8) := Lib.hid fun y hy => by rw [hx] at hy; injection hy with hy; rw [hy]
      subst hA
      have HD : Hid (∀ W', Turn No W W' → W'.cell? ⟨yb, 3, none⟩ = some (.slice (some ⟨b, o, none⟩) S.length sc) ∧ W'.cell? ⟨yb, 4, none⟩ = some (.int .i64 (n : Int)) ∧ W'.cell? ⟨b, o + n, none⟩ = some (.int .u8 (x : Int))) := Lib.hid fun W' t => ⟨by simpa [ycs] using (HM.out.no t).y.cell 3, by simpa [ycs] using (HM.out.no t).y.cell 4, HX.out W' t⟩
      clear hlt hx hbl hc
      obtain ⟨z3, z4, z5⟩ := HD.out _ ((Turn.refl No W).drewN nq)
      go_upto_region 2 with fail
      go_quiet (fail)
      go_wp2_with fail
      go_meet
      exact ⟨x % 8, congrArg _ (by omega), HK.out, Lib.hid ⟨((Turn.refl No W).drewN _).drewN nq, HSX.out⟩⟩
    · have q1 : ¬ (n : Int) < (S.length : Int) := by omega
      go_wp2_with fail
      go_meet
      exact ⟨0, rfl, by omega, Lib.hid ⟨(Turn.refl No W).drewN nq, fun x hx => by have := (List.getElem?_eq_some_iff.1 hx).1; omega⟩⟩
  case rest =>
    obtain ⟨k, rfl, hk, HT⟩ := hcut
    have HSK := Lib.hid HT.out.2
    have hm1 := HM.out.no HT.out.1
    obtain ⟨hm2, tm2⟩ := Vm.tick HC.out.1 HC.out.2 hm1 (n + 1)
    have y4 := hm1.y.cell 4
    simp [ycs] at y4
    have ly := hm1.y.lt
    have f4 := hm1.y.thawed 4
    have HM2 := Lib.hid hm2
    have HV2 : Hid (Von I yb T T i i W (wc.setCell ⟨yb, 4, none⟩ (.int .i64 ((n + 1 : Nat) : Int)))) := Lib.hid ((Von.no HT.out.1).trans (von_set hm1.y tm2))
    clear hm1 hm2 tm2 y0 y1 y2 y3 y5 hn HT
    go_upto_region 4 with fail
    have e4 : ((n + 1 : Nat) : Int) = (n : Int) + 1 := by omega
    rw [e4] at HM2 HV2
    generalize wc.setCell ⟨yb, 4, none⟩ (.int .i64 ((n : Int) + 1)) = w4 at HM2 HV2 ⊢
    clear hw1 y4 ly f4 e4
    go_wp2_with fail
    go_loopw [3] (fun x wr => ∃ (kk i' : Nat) (T' : List Lvl) (N' : Nat → Option Ent) (root' : Hn), kk ≤ k ∧ x = .int .i64 (kk : Int) ∧ Hid (Vm w0 I yb F0 ws WA wk S SA sc b0 m i' (n + 1) T' N' root' wr ∧ Von I yb T T' i i' W wr ∧ i' = i + kk)) (fun x _ => k - (RowKit.intOf x).toNat)
    case atStart => exact ⟨0, i, T, N, root, Nat.zero_le _, rfl, Lib.hid ⟨HM2.out, HV2.out, rfl⟩⟩
    case round =>
      obtain ⟨kk, i', T', N', root', hkk, rfl, HI⟩ := hrel
      have hy := HI.out.1.y
      have y0 := hy.cell 0
      have y1 := hy.cell 1
      have y2 := hy.cell 2
      simp [ycs] at y0 y1 y2
      have ly := hy.lt
      have f2 := hy.thawed 2
      have hwn : ws.length ≤ 200 := HC.out.1.wn
      have hle := HI.out.1.le
      by_cases h1 : kk < k
      · by_cases h2 : i' < ws.length
        · have q1 : (kk : Int) < (k : Int) := by omega
          have q2 : (i' : Int) < (ws.length : Int) := by omega
          have q3 : (0 : Int) ≤ (i' : Int) := by omega
          obtain ⟨x, hx⟩ : ∃ t, ws[i']? = some t := ⟨ws[i'], List.getElem?_eq_getElem h2⟩
          obtain ⟨b, o, hA, hxc⟩ := HC.out.1.row.wx hx
          have HX := Lib.hid fun W' (t : Turn No w0 W') => hxc W' t
          obtain ⟨x0, x1, x2⟩ := HX.out wr HI.out.1.tu
          have HWX := Lib.hid hx
          have hfx := HC.out.1.fit x (List.mem_of_getElem? hx)
          have HF := Lib.hid hfx
          have HJw : Hid (Value.int .i64 (wrap64 ((kk : Int) + 1)) = Value.int .i64 ((kk + 1 : Nat) : Int)) := Lib.hid (by rw [show wrap64 ((kk : Int) + 1) = ((kk + 1 : Nat) : Int) by simp only [wrap64]; omega])
          have HJm : Hid (k - (RowKit.intOf (.int .i64 ((kk + 1 : Nat) : Int))).toNat < k - (RowKit.intOf (.int .i64 (kk : Int))).toNat) := Lib.hid (by simp [RowKit.intOf]; omega)
          have HJ : Hid (kk + 1 ≤ k) := Lib.hid h1
          have hwi : wrap64 ((i' : Int) + 1) = ((i' + 1 : Nat) : Int) := by simp only [wrap64]; omega
          have HB : Hid (b < w0.heap.size) := Lib.hid (by obtain ⟨b', o', hA', hb', _⟩ := HC.out.1.row (i' * 3 + 0) (.string x.k) (by unfold xcs; rw [flat_at Wx.cs 3 (fun _ => rfl) ws i' 0 x hx (by decide)]; rfl); rw [hA] at hA'; injection hA' with hA'; injection hA' with e1 _; rw [e1]; exact hb')
          subst hA
          obtain ⟨xk, xv, xg⟩ := x
          simp only at x0 x1 x2 HX HF
          clear h1 h2 hx hxc hfx hkk hwn hle
          go_upto_region 5 with fail
          go_quiet (fail)
          have HT5 := Lib.hid ((Turn.refl No wr).drewN nq)
          obtain ⟨x0, x1, x2⟩ := HX.out _ (HI.out.1.tu.trans HT5.out)
          have hy5 := (HI.out.1.no HT5.out).y
          have y1 := hy5.cell 1
          have y2 := hy5.cell 2
          simp [ycs] at y1 y2
          have ly5 := hy5.lt
          have lb5 := (HI.out.1.no HT5.out).tu.size
          have hbb : b < (wr.drewN nq).heap.size := Nat.lt_of_lt_of_le HB.out lb5
          have HZT : Hid (Turn No wr ((wr.drewN (nq + 1)).alloc (.cells #[.string ⟨#[]⟩, .string ⟨#[]⟩, .bool false] 26))) := Lib.hid (((Turn.refl No wr).drewN (nq + 1)).alloc _)
          have hB := At.new (wr.drewN (nq + 1)) (.cells #[.string ⟨#[]⟩, .string ⟨#[]⟩, .bool false] 26)
          rw [show (wr.drewN (nq + 1)).heap.size = wr.heap.size from rfl] at hB
          have HBX := Lib.hid hB
          have b0 := hB.cell 0
          have b1 := hB.cell 1
          have b2 := hB.cell 2
          have bf0 := hB.thawed 0
          have bf1 := hB.thawed 1
          have bf2 := hB.thawed 2
          simp at b0 b1 b2
          obtain ⟨v0, v1, v2⟩ := HX.out _ (HI.out.1.tu.trans HZT.out)
          have hy6 := (HI.out.1.no HZT.out).y
          have u1 := hy6.cell 1
          have u2 := hy6.cell 2
          simp [ycs] at u1 u2
          clear hB hy6 hy5 hy
          go_upto_region 7 with fail
          go_region
          generalize hw6 : (World.setCell _ ⟨wr.heap.size, 2, none⟩ (.bool xg)) = w6
          have T6 : Turn No wr w6 := by
            rw [← hw6]
            exact ((HZT.out.setCell (p := ⟨wr.heap.size, 0, none⟩) (Or.inr (Nat.le_refl _)) _).setCell (p := ⟨wr.heap.size, 1, none⟩) (Or.inr (Nat.le_refl _)) _).setCell (p := ⟨wr.heap.size, 2, none⟩) (Or.inr (Nat.le_refl _)) _
          have B6 : At w6 wr.heap.size (.cells #[.string xk, .string xv, .bool xg] 26 (0, 0)) := by
            rw [← hw6]
            simpa using ((HBX.out.set 0 (.string xk)).set 1 (.string xv)).set 2 (.bool xg)
          obtain ⟨gb, hgb⟩ : ∃ x, wr.heap.size = x := ⟨_, rfl⟩
          rw [hgb] at B6 ⊢
          have hm6 := HI.out.1.no T6
          have HV6 : Hid (Von I yb T T' i i' W w6) := Lib.hid (HI.out.2.1.trans (Von.no T6))
          obtain ⟨n1, n2, n3, n4, n5⟩ := Vm.next HC.out.1 HC.out.2 hm6 (.int .i64 ((i' + 1 : Nat) : Int))
          have B7 := B6.turn n4 (fun e => by
            have e : gb = yb := e
            rw [e] at B6
            have := B6.eq hm6.y
            injection this with _ h5
            exact absurd h5 (by decide))
          have HV7 := Lib.hid (HV6.out.trans (von_set hm6.y n4))
          have n2' : At (w6.setCell ⟨yb, 2, none⟩ (.int .i64 ((i' + 1 : Nat) : Int))) yb (.cells (ycs I ws (some ⟨b, o, none⟩) wk (i' + 1) S SA sc (n + 1)) 36 (0, 0)) := by simpa [ycs] using n2
          have HL6 := Lib.hid (And.intro hm6.lv hm6.fl)
          have y0 := hm6.y.cell 0
          have y2 := hm6.y.cell 2
          have f2 := hm6.y.thawed 2
          have ly := hm6.y.lt
          simp [ycs] at y0 y2
          have e4 : ((i' + 1 : Nat) : Int) = (i' : Int) + 1 := by omega
          have H7 := Lib.hid (And.intro n1 (And.intro n2' (And.intro n3 B7)))
          have H7S := Lib.hid n5
          rw [e4] at H7 HV7 H7S
          clear b0 b1 b2 bf0 bf1 bf2 v0 v1 v2 x0 x1 x2 u1 u2 y1 hw6 T6 hm6 n1 n2 n3 n4 n5 n2' B6 B7 ly5 lb5 hbb hgb
          go_upto_region 9 with fail
          generalize w6.setCell ⟨yb, 2, none⟩ (.int .i64 ((i' : Int) + 1)) = w7 at H7 HV7 H7S ⊢
          have g0 := H7.out.2.2.2.cell 0
          have g1 := H7.out.2.2.2.cell 1
          have g2 := H7.out.2.2.2.cell 2
          have lg := H7.out.2.2.2.lt
          have z0 := H7.out.2.1.cell 0
          have lz := H7.out.2.1.lt
          simp at g0 g1 g2
          simp [ycs] at z0
          have HSC := Lib.hid fun W' (t : Turn No w7 W') => (show W'.cell? ⟨yb, 0, none⟩ = some (.pointer (some ⟨I.tb, 0, none⟩)) ∧ W'.cell? ⟨gb, 0, none⟩ = some (.string xk) ∧ W'.cell? ⟨gb, 1, none⟩ = some (.string xv) from ⟨by simpa [ycs] using (H7.out.2.1.no t).cell 0, by simpa using (H7.out.2.2.2.no t).cell 0, by simpa using (H7.out.2.2.2.no t).cell 1⟩)
          clear y0 y2 f2 ly
          cases xg with
          | true =>
            have HD := Lib.hid fun W' (t : Turn No w7 W') => tq_del (H7.out.1.no t) xk HF.out.1
            have HN9 : Hid (∀ W' w8, Turn No w7 W' → DelS I T' m xk W' w8 → ∃ T2 N2 root2, Vm w0 I yb F0 ws (some ⟨b, o, none⟩) wk S SA sc b0 m (i' + 1) (n + 1) T2 N2 root2 w8 ∧ Von I yb T T2 i (i' + 1) W w8 ∧ At w8 gb (.cells #[.string xk, .string xv, .bool true] 26 (0, 0))) := Lib.hid fun W' w8 t ⟨⟨T2, k1, k2, k3, k4, _, k6⟩⟩ => by
              obtain ⟨N2, root2, e1, e2, e3⟩ := Vm.write (x := ⟨xk, xv, true⟩) HC.out.1 HWX.out (H7.out.1.no t) HL6.out.1 HL6.out.2 (H7.out.2.1.no t) (H7.out.2.2.1.trans t) (H7S.out.no t) (HV7.out.trans (Von.no t)) k1 (by rw [k2]; rfl) (by omega) k6 k3
              exact ⟨T2, N2, root2, e1, e2, e3 _ _ (H7.out.2.2.2.no t)⟩
            go_upto_region 10 with fail
            go_region_held3 (fun W' => W'.cell? ⟨yb, 0, none⟩ = some (.pointer (some ⟨I.tb, 0, none⟩)) ∧ W'.cell? ⟨gb, 0, none⟩ = some (.string xk)) (first | (exact ⟨(HSC.out _ (by first | exact (Turn.refl No _).drewN _ | exact (Turn.refl No _).drew | exact Turn.refl No _)).1, (HSC.out _ (by first | exact (Turn.refl No _).drewN _ | exact (Turn.refl No _).drew | exact Turn.refl No _)).2.1⟩) | (obtain ⟨T2, N2, root2, e1, e2, e3⟩ := H8.out; exact ⟨by simpa [ycs] using e1.y.cell 0, by simpa using e3.cell 0⟩)) (first | (go_at_call 19; (with_reducible refine (HD.out _ (by first | exact (Turn.refl No _).drewN _ | exact (Turn.refl No _).drew | exact Turn.refl No _)).mono ?_); rintro e w8 ⟨rfl, h8⟩; have H8 := Lib.hid (HN9.out _ _ (by first | exact (Turn.refl No _).drewN _ | exact (Turn.refl No _).drew | exact Turn.refl No _) h8); clear h8))
            all_goals go_wp2_with fail
            obtain ⟨T2, N2, root2, e1, e2, e3⟩ := H8.out
            first | rw [HJw.out] | rw [show (kk : Int) + 1 = ((kk + 1 : Nat) : Int) by omega]
            exact ⟨⟨kk + 1, i' + 1, T2, N2, root2, HJ.out, rfl, Lib.hid ⟨e1, e2, by have := HI.out.2.2; omega⟩⟩, HJm.out⟩
          | false =>
            have HD := Lib.hid fun W' (t : Turn No w7 W') => tq_put (H7.out.1.no t) xk xv HF.out.1 HF.out.2 (by have := HL6.out.1; have := HC.out.1.room; have := (List.getElem?_eq_some_iff.1 HWX.out).1; omega)
            have HN9 : Hid (∀ W' w8, Turn No w7 W' → PutS I T' m (putL (flatT T') xk xv) W' w8 → ∃ T2 N2 root2, Vm w0 I yb F0 ws (some ⟨b, o, none⟩) wk S SA sc b0 m (i' + 1) (n + 1) T2 N2 root2 w8 ∧ Von I yb T T2 i (i' + 1) W w8 ∧ At w8 gb (.cells #[.string xk, .string xv, .bool false] 26 (0, 0))) := Lib.hid fun W' w8 t ⟨⟨T2, k1, k2, k3, k4, _, k6⟩⟩ => by
              obtain ⟨N2, root2, e1, e2, e3⟩ := Vm.write (x := ⟨xk, xv, false⟩) HC.out.1 HWX.out (H7.out.1.no t) HL6.out.1 HL6.out.2 (H7.out.2.1.no t) (H7.out.2.2.1.trans t) (H7S.out.no t) (HV7.out.trans (Von.no t)) k1 (by rw [k2]; rfl) (by omega) k6 k3
              exact ⟨T2, N2, root2, e1, e2, e3 _ _ (H7.out.2.2.2.no t)⟩
            go_upto_region 11 with fail
            go_region_held3 (fun W' => W'.cell? ⟨yb, 0, none⟩ = some (.pointer (some ⟨I.tb, 0, none⟩)) ∧ W'.cell? ⟨gb, 0, none⟩ = some (.string xk) ∧ W'.cell? ⟨gb, 1, none⟩ = some (.string xv)) (first | (exact HSC.out _ (by first | exact (Turn.refl No _).drewN _ | exact (Turn.refl No _).drew | exact Turn.refl No _)) | (obtain ⟨T2, N2, root2, e1, e2, e3⟩ := H8.out; exact ⟨by simpa [ycs] using e1.y.cell 0, by simpa using e3.cell 0, by simpa using e3.cell 1⟩)) (first | (go_at_call 18; (with_reducible refine (HD.out _ (by first | exact (Turn.refl No _).drewN _ | exact (Turn.refl No _).drew | exact Turn.refl No _)).mono ?_); rintro e w8 ⟨rfl, h8⟩; have H8 := Lib.hid (HN9.out _ _ (by first | exact (Turn.refl No _).drewN _ | exact (Turn.refl No _).drew | exact Turn.refl No _) h8); clear h8))
            all_goals
              obtain ⟨T2, N2, root2, e1, e2, e3⟩ := H8.out
              have z5 := e1.y.cell 5
              have zf5 := e1.y.thawed 5
              have lz8 := e1.y.lt
              simp [ycs] at z5
              obtain ⟨r1, r2⟩ := Vm.full HC.out.1 HC.out.2 e1
              have HR1 := Lib.hid (And.intro r1 (And.intro (e2.trans (von_set e1.y r2)) (show i' + 1 = i + (kk + 1) from by have := HI.out.2.2; omega)))
              clear e1 e2 e3 r1 r2 H8
              go_wp2_with fail
              first | rw [HJw.out] | rw [show (kk : Int) + 1 = ((kk + 1 : Nat) : Int) by omega]
              exact ⟨⟨kk + 1, i' + 1, T2, N2, root2, HJ.out, rfl, HR1⟩, HJm.out⟩
        · have q1 : (kk : Int) < (k : Int) := by omega
          have q2 : ¬ (i' : Int) < (ws.length : Int) := by omega
          have HEX : Hid (∀ x, S[n]? = some x → 0 < x % 8 → i < ws.length → i < i') := Lib.hid fun x _ _ h => by omega
          clear h1 h2 hkk hwn hle
          go_upto_region 5 with fail
          go_quiet (fail)
          go_wp2_with fail
          go_end0
          exact ⟨rfl, ⟨i', T', N', root', HI.out.1.no ((Turn.refl No _).drewN _), HI.out.2.1.trans (Von.no ((Turn.refl No _).drewN _)), HEX.out⟩⟩
      · have q1 : ¬ (kk : Int) < (k : Int) := by omega
        have HEX : Hid (∀ x, S[n]? = some x → 0 < x % 8 → i < ws.length → i < i') := Lib.hid fun x hx h0 _ => by have := HSK.out x hx; have := HI.out.2.2; omega
        clear h1 hkk hwn hle
        go_upto_region 5 with fail
        go_quiet (fail)
        go_wp2_with fail
        go_end0
        exact ⟨rfl, ⟨i', T', N', root', HI.out.1.no ((Turn.refl No _).drewN _), HI.out.2.1.trans (Von.no ((Turn.refl No _).drewN _)), HEX.out⟩⟩
end Go.Proofs.YtfplnobnmgbgoaaDoor
namespace Go.Proofs.YtfplnobnmgbgoaaDoor
open Go.RowKit Go.Lib
set_option linter.unusedVariables false
set_option maxRecDepth 20000
set_option linter.unusedSimpArgs false


/-- Where a reader of a key stands in a tree that nobody writes: so many levels below the root, at the node that covers the key. -/
structure AtF (T : List Lvl) (key : ByteArray) (x : Hn × Nd) (j : Nat) : Prop where
  at_ : ∃ U A B D, T = U ++ (A ++ x :: B) :: D ∧ U.length = j ∧ (∀ a ∈ A, ¬ NdCov a.2 key) ∧ NdCov x.2 key
section
variable {T : List Lvl} {root : Hn} {key : ByteArray} {x : Hn × Nd} {j : Nat}
theorem AtF.at10 (h : AtF T key x j) : ∃ d, At10 T key x d := by
  obtain ⟨U, A, B, D, e, _, hA, _⟩ := h.at_
  exact ⟨_, ⟨U, A, B, D, e, hA, rfl⟩⟩
theorem AtF.mem (h : AtF T key x j) : x ∈ T.flatten := by
  obtain ⟨d, h⟩ := h.at10
  exact h.mem
theorem AtF.lt (h : AtF T key x j) : j < T.length := by
  obtain ⟨U, A, B, D, e, hj, _⟩ := h.at_
  rw [e, List.length_append, List.length_cons]
  omega
theorem atf_root (g : Good T root) (key : ByteArray) : ∃ n, AtF T key (root, n) 0 := by
  obtain ⟨n, R, e⟩ := g.rt
  refine ⟨n, ⟨[], [], [], R, by rw [e]; rfl, rfl, (fun a ha => by cases ha), ?_⟩⟩
  obtain ⟨P, k2, c, e2, h1, _⟩ := tower_lst e g.tw
  have : P = [] := by
    cases P with
    | nil => rfl
    | cons p P => injection e2 with _ e2; cases P <;> cases e2
  subst this
  injection e2 with e2
  injection e2 with _ e2
  rw [← e2] at h1
  intro hb
  unfold En1 at h1
  have hb : n.bnd = true := hb
  rw [if_pos hb] at h1
  cases h1
theorem atf_on (g : Good T root) (h : AtF T key x j) {k : Hn} {is : Bool} (hk : KidR x.2 key k is) (hl : x.2.leaf = false) : ∃ y, onwH is k x.2.nx = y.1 ∧ AtF T key y (j + 1) := by
  obtain ⟨h1, h2⟩ := hk.1 ⟨(good_right g h.mem).1, hl, by obtain ⟨U, A, B, D, e, _, _, hc⟩ := h.at_; exact hc⟩
  obtain ⟨U, A, B, D, e, hj, hA, hc⟩ := h.at_
  obtain ⟨xh, n⟩ := x
  have ht : Tower ((A ++ (xh, n) :: B) :: D) := tower_drop (A := U) (by rw [← e]; exact g.tw) (by simp)
  obtain ⟨_, h3⟩ := tower_down ht hA hc
  rcases h3 with h3 | ⟨_, A', kid, c, B', R', hD, hkid, hcv, hA', _⟩
  · simp only at hl
    rw [hl] at h3
    cases h3.1
  · simp only at h2
    rw [hkid] at h2
    injection h2 with h2
    subst h2 hD
    exact ⟨(kid, c), by unfold onwH; rw [if_pos h1], ⟨U ++ [A ++ (xh, n) :: B], A', B', R', by rw [e]; simp, by rw [List.length_append, hj]; rfl, hA', hcv⟩⟩
theorem atf_leaf (g : Good T root) (h : AtF T key x j) (hl : x.2.leaf = true) : j + 1 = T.length := by
  obtain ⟨U, A, B, D, e, hj, hA, hc⟩ := h.at_
  have ht : Tower ((A ++ x :: B) :: D) := tower_drop (A := U) (by rw [← e]; exact g.tw) (by simp)
  cases D with
  | nil => rw [e, List.length_append, hj]; rfl
  | cons d D =>
    have := (ht.1.inner x (by simp)).1
    rw [hl] at this
    cases this
theorem AtF.cov (h : AtF T key x j) : NdCov x.2 key := by
  obtain ⟨U, A, B, D, e, _, _, hc⟩ := h.at_
  exact hc
end
/-- What a reader's look comes to in a tree that nobody writes: so many looks are done. -/
structure LookF (vis : Value) (I : Ids) (N : Nat → Option Ent) (T : List Lvl) (root : Hn) (St : Nat → World → Prop) : Prop where
  tr : ∀ a w, St a w → Tr w I N T root
  no : ∀ a w w', St a w → Turn No w w' → St a w'
  sz : T.flatten.length ≤ 4096
  look : ∀ a w x, St a w → x ∈ T.flatten → Calls Tryd.prog 39 #[.pointer (some ⟨I.tb, 0, none⟩), .agg #[.int .i64 x.1.slot, .int .u64 x.1.gen], vis] w fun e w' => St (a + 1) w' ∧ e = .returned (.tuple #[pq (blkOf N x), .bool true])
set_option maxRecDepth 100000 in
set_option maxHeartbeats 8000000 in
/-- reach, in a tree that nobody writes: a look at each level. -/
theorem reach_fix {vis : Value} {I : Ids} {N : Nat → Option Ent} {T : List Lvl} {root : Hn} {St : Nat → World → Prop} (C : LookF vis I N T root St) {a : Nat} {w : World} (hs : St a w) (key : ByteArray) (fk : Fit key) :
    Calls Tryd.prog 34 #[.pointer (some ⟨I.tb, 0, none⟩), .string key, vis] w fun e w' => ∃ x j, St (a + T.length) w' ∧ AtF T key x j ∧ x.2.leaf = true ∧ e = .returned (.tuple #[pq (blkOf N x), .bool true]) := by
  have hT := C.tr a w hs
  obtain ⟨n0, hx0⟩ := atf_root hT.g key
  have hrz : rtZ root = false := hT.nz hx0.mem
  have CS := Lib.hid (stands_any I root w hT.t)
  rw [hrz] at CS
  have CL := Lib.hid (C.look a w _ hs hx0.mem)
  have t2 := At.cell hT.t 2
  have t3 := At.cell hT.t 3
  simp at t2 t3
  have ltb := At.lt hT.t
  have HC := Lib.hid C
  have HK := Lib.hid fk
  have HX := Lib.hid hx0
  clear hT hx0 hrz C fk
  unfold pq at CL ⊢
  go_enter Tryd.func34, Tryd.ntmps34
  go_wp2_with (first | (go_at_call 42; refine CS.out.mono ?_; rintro e w1 ⟨rfl, hw⟩; rw [hw]; clear hw) | (go_at_call 39; (with_reducible refine CL.out.mono ?_); rintro e w1 ⟨h1, rfl⟩; have H1 := Lib.hid h1; clear h1 CL CS t2 t3 ltb))
  go_loopg [8, 9] (T.length) (fun k x o wr => ∃ z j, k + j = T.length ∧ x = .pointer (some ⟨blkOf N z, 1, none⟩) ∧ o = .bool true ∧ Hid (St (a + j + 1) wr ∧ AtF T key z j))
  case atStart => exact ⟨(root, n0), 0, rfl, rfl, rfl, Lib.hid ⟨H1.out, HX.out⟩⟩
  case round =>
    clear H1 HX
    obtain ⟨z, j, hkj, rfl, rfl, HR⟩ := hrel
    have hT := HC.out.tr _ wr HR.out.1
    obtain ⟨g, AK, ck, AV, cv, AD, cd, hat, hin⟩ := hT.node HR.out.2.mem
    obtain ⟨q, hq⟩ : ∃ x, blkOf N z = x := ⟨_, rfl⟩
    rw [hq] at hat ⊢
    have HQ := Lib.hid hq
    obtain ⟨c1, c2, c3, c4, c5, c6, c7, c8⟩ := node_cells hat
    have lq := hat.lt
    have CV := Lib.hid (covers_c z.2 AK AV AD ck cv cd key wr hin.i HK.out)
    have CO := Lib.hid fun W (t : Turn No wr W) => onward_any z.2 key HK.out (hat.no t) (hin.no t)
    have HG := Lib.hid hT.g
    have HKJ := Lib.hid hkj
    obtain ⟨lf, hlf⟩ : ∃ x, z.2.leaf = x := ⟨_, rfl⟩
    rw [hlf] at CV c1
    have HLF := Lib.hid hlf
    clear hT hat hin hq hlf hkj
    cases lf with
    | true =>
      go_wp2_with (go_at_call 57; (with_reducible refine CV.out.mono ?_); rintro e5 w5 ⟨bb, rfl, hbb, ht⟩; obtain rfl : bb = true := hbb.2 HR.out.2.cov; have HV := Lib.hid ht; clear hbb ht)
      go_ret2
      have hj := atf_leaf HG.out HR.out.2 HLF.out
      refine ⟨z, j, ?_, HR.out.2, HLF.out, by rw [HQ.out]; rfl⟩
      rw [← hj]
      exact HC.out.no _ _ _ HR.out.1 HV.out
    | false =>
      go_wp2_with (first | (go_at_call 58; (with_reducible refine (CO.out _ (Turn.refl _ _)).mono ?_); rintro e6 w6 ⟨kh, is, hkr, rfl, ht⟩; obtain ⟨y2, hy2, ha2⟩ := atf_on HG.out HR.out.2 hkr HLF.out; rw [hy2]; have CL2 := Lib.hid (HC.out.look _ _ y2 (HC.out.no _ _ _ HR.out.1 ht) ha2.mem); have HA2 := Lib.hid ha2; clear hkr ht hy2 ha2; unfold pq at CL2) | (go_at_call 39; (with_reducible refine CL2.out.mono ?_); rintro e7 w7 ⟨h1, rfl⟩; have H7 := Lib.hid h1; clear h1 CL2))
      go_roundg (T.length - (j + 1))
      case measure => have := HKJ.out; have := HR.out.2.lt; omega
      case rel => exact ⟨y2, j + 1, by have := HA2.out.lt; omega, rfl, rfl, Lib.hid ⟨by have := H7.out; rwa [Nat.add_assoc a j 1] at this, HA2.out⟩⟩
end Go.Proofs.YtfplnobnmgbgoaaDoor
namespace Go.Proofs.YtfplnobnmgbgoaaDoor
open Go.RowKit Go.Lib
set_option linter.unusedVariables false
set_option maxRecDepth 20000
set_option linter.unusedSimpArgs false


/-- What a look comes to, whose visit does something. -/
structure LookV (I : Ids) (h : Hn) (R : World → (Nat → Option Ent) → List Lvl → Hn → Nd → Prop) (e : Ending) (w' : World) : Prop where
  r : ∃ w1 N T root n, Tr w1 I N T root ∧ (h, n) ∈ T.flatten ∧ R w1 N T root n ∧ Turn No w1 w' ∧ e = .returned (.tuple #[pq (blkOf N (h, n)), .bool true])
/-- What a visit comes to, ahead of a look at a node. -/
structure VisV (I : Ids) (h : Hn) (g : Nat) (R : World → (Nat → Option Ent) → List Lvl → Hn → Nd → Prop) (e : Ending) (w1 : World) : Prop where
  e : e = .returned (.tuple #[])
  r : ∃ N T root n, Tr w1 I N T root ∧ (h, n) ∈ T.flatten ∧ At w1 g (.cells #[.int .i64 h.slot, .int .u64 h.gen] 77 (0, 0)) ∧ R w1 N T root n
set_option maxRecDepth 100000 in
set_option maxHeartbeats 8000000 in
/-- look with a visit. -/
theorem look_fn {w : World} {I : Ids} {h : Hn} {fn : Nat} {caps : Array Value} {R : World → (Nat → Option Ent) → List Lvl → Hn → Nd → Prop} (hE : Enters Tryd.prog fn)
    (hv : Calls Tryd.prog fn caps (w.alloc (.cells #[.int .i64 h.slot, .int .u64 h.gen] 77)) (VisV I h w.heap.size R)) :
    Calls Tryd.prog 39 #[.pointer (some ⟨I.tb, 0, none⟩), .agg #[.int .i64 h.slot, .int .u64 h.gen], .func (.func fn) #[] caps] w (LookV I h R) := by
  obtain ⟨g, hg⟩ : ∃ x, w.heap.size = x := ⟨_, rfl⟩
  rw [hg] at hv
  have HG := Lib.hid hg
  have HV := Lib.hid hv
  have he : ∀ (args : Array Value) (W : World), (callFunc fn args).run Tryd.prog W = .ok (.enter fn args) W := hE
  have hq0 := fun W => neq_func W (.func fn) #[] caps
  clear hg hv hE
  go_enter Tryd.func39, Tryd.ntmps39
  go_wp2_with fail
  rw [HG.out]
  refine HV.out.mono ?_
  rintro e w1 ⟨rfl, N, T, root, n, hT, hm, hat, hr⟩
  have HS := Lib.hid fun W (t : Turn No w1 W) => (show W.cell? ⟨I.tb, 1, none⟩ = some (.pointer (some ⟨I.ab, 0, none⟩)) ∧ W.cell? ⟨g, 0, none⟩ = some (.int .i64 h.slot) ∧ W.cell? ⟨g, 1, none⟩ = some (.int .u64 h.gen) from ⟨by simpa using At.cell (At.no hT.t t) 1, (at2 (hat.no t)).1, (at2 (hat.no t)).2⟩)
  have GY := Lib.hid fun W (t : Turn No w1 W) => hT.getY hm W t
  have H1 := Lib.hid (And.intro hT (And.intro hm hr))
  clear hT hm hat hr HV
  go_upto_region 3 with fail
  have hs0 := HS.out w1 (Turn.refl _ _)
  go_region_held3 (fun W => W.cell? ⟨I.tb, 1, none⟩ = some (.pointer (some ⟨I.ab, 0, none⟩)) ∧ W.cell? ⟨g, 0, none⟩ = some (.int .i64 h.slot) ∧ W.cell? ⟨g, 1, none⟩ = some (.int .u64 h.gen)) (first | (with_reducible exact hs0) | (exact HS.out _ (by first | assumption | exact (Turn.refl No _).drew))) (first | (go_at_call 61; (with_reducible refine (GY.out _ (Turn.refl No _).drew).mono ?_); rintro e w5 ⟨rfl, ht⟩; have ht : Turn No w1 w5 := (Turn.refl No w1).drew.trans ht))
  have HF := Lib.hid ht
  clear hs0 ht
  go_wp2_with fail
  go_ret2
  exact ⟨⟨w1, N, T, root, n, H1.out.1, H1.out.2.1, H1.out.2.2, HF.out, rfl⟩⟩

/-- A counter in memory. -/
structure Ctr (w0 : World) (vb a : Nat) (W : World) : Prop where
  c : At W vb (.cells #[.int .i64 (wrap64 (a : Int))] 3 (0, 0))
  tu : Turn No w0 W
  ge : w0.heap.size ≤ vb
theorem Ctr.no {w0 W W2 : World} {vb a : Nat} (h : Ctr w0 vb a W) (t : Turn No W W2) : Ctr w0 vb a W2 := ⟨h.c.no t, h.tu.trans t, h.ge⟩
theorem cnt_enters : Enters Tryd.prog 20 := enters_of Tryd.func20 (by kernel_rfl) rfl
theorem wrap_step (a : Nat) : wrap64 (wrap64 (a : Int) + 1) = wrap64 ((a + 1 : Nat) : Int) := by simp only [wrap64]; omega
theorem ctr_step {w0 W : World} {vb a : Nat} (h : Ctr w0 vb a W) : Calls Tryd.prog 20 #[.pointer (some ⟨vb, 0, none⟩)] W fun e w' => e = .returned (.tuple #[]) ∧ Ctr w0 vb (a + 1) w' ∧ Turn (fun i => i = vb) W w' := by
  have c0 := h.c.cell 0
  have f0 := h.c.thawed 0
  simp at c0
  have lv := h.c.lt
  have H := Lib.hid h
  have HW := Lib.hid (wrap_step a)
  obtain ⟨x, hx⟩ : ∃ x, wrap64 (a : Int) = x := ⟨_, rfl⟩
  rw [hx] at c0 HW
  clear h hx
  go_enter Tryd.func20, Tryd.ntmps20
  go_wp2_with fail
  rw [HW.out]
  go_end0
  have t : Turn (fun i => i = vb) W (W.setCell ⟨vb, 0, none⟩ (.int .i64 (wrap64 ((a + 1 : Nat) : Int)))) := Turn.set1 _ _ _ _
  exact ⟨rfl, ⟨by simpa using H.out.c.set 0 (.int .i64 (wrap64 ((a + 1 : Nat) : Int))), H.out.tu.then t fun i hi e => by have := H.out.ge; omega, H.out.ge⟩, t⟩
/-- A look that is counted. -/
theorem lookf_ctr {w0 : World} {I : Ids} {N : Nat → Option Ent} {T : List Lvl} {root : Hn} {vb : Nat} (hT : Tr w0 I N T root) (hn : T.flatten.length ≤ 4096) : LookF (.func (.func 20) #[] #[.pointer (some ⟨vb, 0, none⟩)]) I N T root (fun a W => Ctr w0 vb a W) where
  tr := fun a w h => hT.no h.tu
  no := fun a w w' h t => h.no t
  sz := hn
  look := fun a w x h hx => by
    obtain ⟨xh, xn⟩ := x
    have t0 : Turn No w (w.alloc (.cells #[.int .i64 xh.slot, .int .u64 xh.gen] 77)) := (Turn.refl _ _).alloc _
    have hne : w.heap.size ≠ vb := fun e => by have := h.c.lt; omega
    refine (look_fn (R := fun w1 N' T' root' n' => Ctr w0 vb (a + 1) w1 ∧ N' = N ∧ n' = xn) cnt_enters ((ctr_step (h.no t0)).mono ?_)).mono ?_
    · rintro e w1 ⟨rfl, h1, h2⟩
      exact ⟨rfl, N, T, root, xn, hT.no h1.tu, hx, (At.new w (.cells #[.int .i64 xh.slot, .int .u64 xh.gen] 77)).turn h2 hne, h1, rfl, rfl⟩
    · rintro e w2 ⟨⟨w1, N', T', root', n', k1, k2, ⟨k3, rfl, rfl⟩, k4, rfl⟩⟩
      exact ⟨k3.no k4, rfl⟩
end Go.Proofs.YtfplnobnmgbgoaaDoor
namespace Go.Proofs.YtfplnobnmgbgoaaDoor
open Go.RowKit Go.Lib
set_option linter.unusedVariables false
set_option maxRecDepth 20000
set_option linter.unusedSimpArgs false

set_option maxRecDepth 100000 in
set_option maxHeartbeats 8000000 in
/-- look with a visit that is a bound method. -/
theorem look_fnb {w : World} {I : Ids} {h : Hn} {fn : Nat} {v : Value} {R : World → (Nat → Option Ent) → List Lvl → Hn → Nd → Prop} (hE : Enters Tryd.prog fn)
    (hv : Calls Tryd.prog fn #[v] (w.alloc (.cells #[.int .i64 h.slot, .int .u64 h.gen] 77)) (VisV I h w.heap.size R)) :
    Calls Tryd.prog 39 #[.pointer (some ⟨I.tb, 0, none⟩), .agg #[.int .i64 h.slot, .int .u64 h.gen], .func (.func fn) #[v] #[]] w (LookV I h R) := by
  obtain ⟨g, hg⟩ : ∃ x, w.heap.size = x := ⟨_, rfl⟩
  rw [hg] at hv
  have HG := Lib.hid hg
  have HV := Lib.hid hv
  have he : ∀ (args : Array Value) (W : World), (callFunc fn args).run Tryd.prog W = .ok (.enter fn args) W := hE
  have hq0 := fun W => neq_func W (.func fn) #[v] #[]
  clear hg hv hE
  go_enter Tryd.func39, Tryd.ntmps39
  go_wp2_with fail
  rw [HG.out]
  refine HV.out.mono ?_
  rintro e w1 ⟨rfl, N, T, root, n, hT, hm, hat, hr⟩
  have HS := Lib.hid fun W (t : Turn No w1 W) => (show W.cell? ⟨I.tb, 1, none⟩ = some (.pointer (some ⟨I.ab, 0, none⟩)) ∧ W.cell? ⟨g, 0, none⟩ = some (.int .i64 h.slot) ∧ W.cell? ⟨g, 1, none⟩ = some (.int .u64 h.gen) from ⟨by simpa using At.cell (At.no hT.t t) 1, (at2 (hat.no t)).1, (at2 (hat.no t)).2⟩)
  have GY := Lib.hid fun W (t : Turn No w1 W) => hT.getY hm W t
  have H1 := Lib.hid (And.intro hT (And.intro hm hr))
  clear hT hm hat hr HV
  go_upto_region 3 with fail
  have hs0 := HS.out w1 (Turn.refl _ _)
  go_region_held3 (fun W => W.cell? ⟨I.tb, 1, none⟩ = some (.pointer (some ⟨I.ab, 0, none⟩)) ∧ W.cell? ⟨g, 0, none⟩ = some (.int .i64 h.slot) ∧ W.cell? ⟨g, 1, none⟩ = some (.int .u64 h.gen)) (first | (with_reducible exact hs0) | (exact HS.out _ (by first | assumption | exact (Turn.refl No _).drew))) (first | (go_at_call 61; (with_reducible refine (GY.out _ (Turn.refl No _).drew).mono ?_); rintro e w5 ⟨rfl, ht⟩; have ht : Turn No w1 w5 := (Turn.refl No w1).drew.trans ht))
  have HF := Lib.hid ht
  clear hs0 ht
  go_wp2_with fail
  go_ret2
  exact ⟨⟨w1, N, T, root, n, H1.out.1, H1.out.2.1, H1.out.2.2, HF.out, rfl⟩⟩

end Go.Proofs.YtfplnobnmgbgoaaDoor
namespace Go.Proofs.YtfplnobnmgbgoaaDoor
open Go.RowKit Go.Lib
set_option linter.unusedVariables false
set_option maxRecDepth 20000
set_option linter.unusedSimpArgs false


/-- Where a reader stands between its looks: the tree, how many writes and visits are done. -/
structure Vs (F0 : List Pr) (ws : List Wx) where
  T : List Lvl
  N : Nat → Option Ent
  root : Hn
  i : Nat
  n : Nat
  le : i ≤ ws.length
  fl : flatT T = cur F0 ws i
theorem vis_enters : Enters Tryd.prog 9 := enters_of Tryd.func9 (by kernel_rfl) rfl
theorem lookc_vis {w0 : World} {I : Ids} {yb : Nat} {F0 : List Pr} {ws : List Wx} {WA : Option Addr} {wk : Nat} {S : List Nat} {SA : Option Addr} {sc b0 m : Nat} (C : Vc w0 I yb ws WA S SA b0 m) (hz : 0 < w0.heap.size) (W1 : World) :
    LookC (α := Vs F0 ws) (.func (.func 9) #[.pointer (some ⟨yb, 0, none⟩)] #[]) I (fun a W => Vm w0 I yb F0 ws WA wk S SA sc b0 m a.i a.n a.T a.N a.root W ∧ Ty I yb W1 W) (fun a b => a.i ≤ b.i) (fun a => a.N) (fun a => a.T) (fun a => a.root) (fun a => ws.length - a.i) (fun a => 1000000000 - a.n) where
  tr := fun a w h => by
    obtain ⟨G, fr, h1, h2, h3, h4⟩ := h.1.tq
    exact h1.tr h2
  no := fun a w w' h t => ⟨h.1.no t, h.2.trans (Ty.no t)⟩
  sz := fun a w h => by
    obtain ⟨G, fr, h1, h2, h3, h4⟩ := h.1.tq
    have := h1.len
    omega
  rfl_ := fun a => Nat.le_refl _
  trn := fun a b c h k => Nat.le_trans h k
  look := fun a w x key d h hl hx => by
    obtain ⟨xh, xn⟩ := x
    have t0 : Turn No w (w.alloc (.cells #[.int .i64 xh.slot, .int .u64 xh.gen] 77)) := (Turn.refl _ _).alloc _
    refine (look_fnb (R := fun w1 N1 T1 root1 n1 => ∃ i1, Vm w0 I yb F0 ws WA wk S SA sc b0 m i1 (a.n + 1) T1 N1 root1 w1 ∧ Von I yb a.T T1 a.i i1 (w.alloc (.cells #[.int .i64 xh.slot, .int .u64 xh.gen] 77)) w1) vis_enters ((visit_any C hz (h.1.no t0) (by omega)).mono ?_)).mono ?_
    · rintro e w1 ⟨rfl, i1, T1, N1, root1, h1, h2, _⟩
      obtain ⟨n', d', h3, _⟩ := at10_of (h2.vis _ _ hx.vis)
      obtain ⟨G, fr, k1, k2, _⟩ := h1.tq
      refine ⟨rfl, N1, T1, root1, n', k1.tr k2, h3.mem, ?_, i1, h1, h2⟩
      have hb := At.new w (.cells #[.int .i64 xh.slot, .int .u64 xh.gen] 77)
      obtain ⟨G0, fr0, p1, _⟩ := (h.1.no t0).tq
      refine hb.turn h2.tu (not_ty p1 hb (by decide) (by decide) (by decide) fun e => ?_)
      have := h.1.y.lt
      omega
    · rintro e w2 ⟨⟨w1, N1, T1, root1, n1, k1, k2, ⟨i1, k3, k4⟩, k5, rfl⟩⟩
      refine ⟨⟨T1, N1, root1, i1, a.n + 1, k3.le, k3.fl⟩, n1, k4.le, by show 1000000000 - a.n ≤ 1000000000 - (a.n + 1) + 1; omega, k4.vis xh, ?_, ⟨k3.no k5, (h.2.trans (Ty.no t0)).trans (k4.tu.trans (Ty.no k5))⟩, k2, rfl⟩
      have h1 := k4.le
      have h2 := k3.le
      by_cases hi : i1 = a.i
      · exact .inr ⟨by show ws.length - i1 = ws.length - a.i; rw [hi], k4.same hi⟩
      · exact .inl (by show ws.length - i1 < ws.length - a.i; omega)
end Go.Proofs.YtfplnobnmgbgoaaDoor
namespace Go.Proofs.YtfplnobnmgbgoaaDoor
open Go.RowKit Go.Lib
set_option linter.unusedVariables false
set_option maxRecDepth 20000
set_option linter.unusedSimpArgs false

/-- A row of rows that is read. -/
def Rws (wx : World) (M : List (List Pr)) (B : Option Addr) : Prop := ∀ (i : Nat) (m : List Pr), M[i]? = some m → ∃ b o A c, B = some ⟨b, o, none⟩ ∧ ∀ W, Turn No wx W → W.cell? ⟨b, o + i, none⟩ = some (.slice A m.length c) ∧ Row W A (pcs m)
theorem Mos.rws {w0 wx : World} {M : List (List Pr)} {B : Option Addr} {c : Nat} (h : Mos w0 wx M B c) : Rws wx M B := fun i m hm => by
  obtain ⟨xs, h1, h2⟩ := h.row
  obtain ⟨v, h3, h4⟩ := h2 i m hm
  obtain ⟨A, c2, rfl, hr⟩ := h4.row h.tu
  obtain ⟨b, o, hB, _, _⟩ := row_of_own h1 i _ h3
  refine ⟨b, o, A, c2, hB, fun W t => ⟨?_, hr.no t⟩⟩
  obtain ⟨b', o', hB', _, hc⟩ := (row_of_own h1).no t i _ h3
  rw [hB] at hB'
  injection hB' with hB'
  injection hB' with e1 e2
  subst e1 e2
  exact hc
theorem Rws.no {wx w2 : World} {M : List (List Pr)} {B : Option Addr} (h : Rws wx M B) (t : Turn No wx w2) : Rws w2 M B := fun i m hm => by
  obtain ⟨b, o, A, c, hB, hc⟩ := h i m hm
  exact ⟨b, o, A, c, hB, fun W t2 => hc W (t.trans t2)⟩
def fndP (key value : ByteArray) (found : Bool) (m : List Pr) : Prop := (getL m key).getD ⟨#[]⟩ = value ∧ (getL m key).isSome = found
instance (key value : ByteArray) (found : Bool) (m : List Pr) : Decidable (fndP key value found m) := by unfold fndP; infer_instance
/-- Was it so at some moment? -/
def foundB (M : List (List Pr)) (key value : ByteArray) (found : Bool) : Bool := decide (∃ m ∈ M, fndP key value found m)
set_option maxRecDepth 100000 in
set_option maxHeartbeats 8000000 in
theorem found_any (M : List (List Pr)) (key value : ByteArray) (found : Bool) (B : Option Addr) (c : Nat) (w : World) (h : Rws w M B) (hn : M.length ≤ 100000) (hl : ∀ m ∈ M, m.length ≤ 100000) :
    Calls Tryd.prog 12 #[.slice B M.length c, .string key, .string value, .bool found] w fun e w' => e = .returned (.bool (foundB M key value found)) ∧ Turn No w w' := by
  obtain ⟨R, hR⟩ : ∃ x, foundB M key value found = x := ⟨_, rfl⟩
  have HR := Lib.hid hR
  have HL := Lib.hid (And.intro h hl)
  rw [hR]
  clear h hl hR
  go_enter Tryd.func12, Tryd.ntmps12
  go_wp2_with fail
  go_loopw [9] (fun x wr => ∃ i : Nat, i ≤ M.length ∧ x = .int .i64 (i : Int) ∧ Hid (Turn No w wr ∧ ∀ m ∈ M.take i, ¬ fndP key value found m)) (fun x _ => M.length - (RowKit.intOf x).toNat)
  case atStart => exact ⟨0, Nat.zero_le _, rfl, Lib.hid ⟨Turn.refl _ _, by simp⟩⟩
  case round =>
    obtain ⟨i, hi, rfl, HP⟩ := hrel
    by_cases hlt : i < M.length
    · obtain ⟨m, hm⟩ : ∃ t, M[i]? = some t := ⟨M[i], List.getElem?_eq_getElem hlt⟩
      obtain ⟨b, o, A, c2, hB, hc⟩ := HL.out.1 i m hm
      obtain ⟨y0, hrow⟩ := hc wr HP.out.1
      have CG := Lib.hid (get_any m key A c2 wr hrow (HL.out.2 m (List.mem_of_getElem? hm)))
      have HS : Hid (¬ fndP key value found m → ∀ q ∈ M.take (i + 1), ¬ fndP key value found q) := Lib.hid fun hn q hq => by
        rw [List.take_add_one, hm] at hq
        rcases List.mem_append.1 hq with h1 | h1
        · exact HP.out.2 q h1
        · simp at h1
          rw [h1]
          exact hn
      have HY : Hid (fndP key value found m → R = true) := Lib.hid fun hf => by
        rw [← HR.out]
        exact decide_eq_true ⟨m, List.mem_of_getElem? hm, hf⟩
      obtain ⟨g1, hg1⟩ : ∃ x, (getL m key).getD ⟨#[]⟩ = x := ⟨_, rfl⟩
      obtain ⟨g2, hg2⟩ : ∃ x, (getL m key).isSome = x := ⟨_, rfl⟩
      have CG2 : Hid (Calls Tryd.prog 37 #[.slice A m.length c2, .string key] wr fun e w' => e = .returned (.tuple #[.string g1, .bool g2]) ∧ Turn No wr w') := Lib.hid (CG.out.mono fun e w' ⟨h1, h2⟩ => ⟨by rw [h1]; unfold gT; rw [hg1, hg2], h2 ▸ Turn.refl _ _⟩)
      have HF : Hid (fndP key value found m ↔ g1 = value ∧ g2 = found) := Lib.hid (by unfold fndP; rw [hg1, hg2])
      subst hB
      clear hm hc hrow CG hg1 hg2
      have hq1 : (0 : Int) ≤ (i : Int) := by omega
      have hq2 : (i : Int) < (M.length : Int) := by omega
      have qe := bytes_beq g1 value
      by_cases h1 : g1 = value
      · rw [decide_eq_true h1] at qe
        by_cases h2 : g2 = found
        · have HT := Lib.hid (HY.out (HF.out.2 ⟨h1, h2⟩))
          have q2 : (g2 == found) = true := by simpa using h2
          clear h1 h2
          go_wp2_with (go_at_call 37; (with_reducible refine CG2.out.mono ?_); rintro e w2 ⟨rfl, ht⟩; have H2 := Lib.hid ht; clear ht)
          go_ret
          exact ⟨(by rw [HT.out]; rfl), HP.out.1.trans H2.out⟩
        · have HN := Lib.hid (HS.out fun h => h2 (HF.out.1 h).2)
          have q2 : (g2 == found) = false := by simpa using h2
          clear h1 h2
          go_wp2_with (go_at_call 37; (with_reducible refine CG2.out.mono ?_); rintro e w2 ⟨rfl, ht⟩; have H2 := Lib.hid ht; clear ht)
          exact ⟨⟨i + 1, by omega, by go_num, Lib.hid ⟨HP.out.1.trans H2.out, HN.out⟩⟩, by simp [RowKit.intOf]; omega⟩
      · rw [decide_eq_false h1] at qe
        have HN := Lib.hid (HS.out fun h => h1 (HF.out.1 h).1)
        clear h1
        go_wp2_with (go_at_call 37; (with_reducible refine CG2.out.mono ?_); rintro e w2 ⟨rfl, ht⟩; have H2 := Lib.hid ht; clear ht)
        exact ⟨⟨i + 1, by omega, by go_num, Lib.hid ⟨HP.out.1.trans H2.out, HN.out⟩⟩, by simp [RowKit.intOf]; omega⟩
    · obtain rfl : i = M.length := by omega
      have hq2 : ¬ (M.length : Int) < (M.length : Int) := by omega
      have HT : Hid (R = false) := Lib.hid (by
        rw [← HR.out]
        refine decide_eq_false fun ⟨m, hm, hf⟩ => ?_
        have h := HP.out.2
        rw [List.take_length] at h
        exact h m hm hf)
      go_wp2_with fail
      go_ret
      exact ⟨(by rw [HT.out]; rfl), HP.out.1⟩
end Go.Proofs.YtfplnobnmgbgoaaDoor
