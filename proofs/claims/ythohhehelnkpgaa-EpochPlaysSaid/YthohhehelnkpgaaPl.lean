/-
  What EpochPlays keeps in memory; its retire.
-/
import Derived.Test.YthohhehelnkpgaaDcE
import Derived.Test.YthohhehelnkpgaaWRel
namespace Go.Proofs.Ythohhehelnkpgaa
open Go.RowKit Go.Maps Go.IntWalk Go.Lib
set_option linter.unusedVariables false

structure AA where
  d : Int
  t : Int
  h : Int
def acells (a : AA) : Array Value := #[.int .i64 a.d, .int .i64 a.t, .int .i64 a.h]
def flatA : List AA → List Value
  | [] => []
  | a :: r => .int .i64 a.d :: .int .i64 a.t :: .int .i64 a.h :: flatA r
theorem flatA_len : ∀ l : List AA, (flatA l).length = l.length * 3
  | [] => rfl
  | a :: r => by simp only [flatA, List.length_cons, flatA_len r]; omega
theorem flatA_snoc : ∀ (l : List AA) (a : AA), flatA (l ++ [a]) = flatA l ++ [.int .i64 a.d, .int .i64 a.t, .int .i64 a.h]
  | [], a => rfl
  | b :: r, a => by simp [flatA, flatA_snoc r a]
theorem flatA_at : ∀ (l : List AA) (k : Nat) (a : AA), l[k]? = some a → (flatA l)[k * 3]? = some (.int .i64 a.d) ∧ (flatA l)[k * 3 + 1]? = some (.int .i64 a.t) ∧ (flatA l)[k * 3 + 2]? = some (.int .i64 a.h)
  | [], _, _, h => by simp at h
  | b :: r, 0, a, h => by simp at h; subst h; exact ⟨rfl, rfl, rfl⟩
  | b :: r, k + 1, a, h => by
    have := flatA_at r k a (by simpa using h)
    rw [show (k + 1) * 3 = k * 3 + 1 + 1 + 1 by omega, show k * 3 + 1 + 1 + 1 + 1 = (k * 3 + 1) + 1 + 1 + 1 by omega, show k * 3 + 1 + 1 + 1 + 2 = (k * 3 + 2) + 1 + 1 + 1 by omega]
    simpa [flatA] using this
theorem info39 : (Try.prog.info? 39).map (fun i => (i.zero, i.size, i.bytes)) = some (some (.agg #[.int .i64 0, .int .i64 0, .int .i64 0]), 3, 24) := by kernel_rfl
theorem acts_append {w : World} {Z : Nat} {v : Value} {l : List AA} (h : w.ownsRow Z 39 3 v l.length (flatA l)) (g0 : Nat) {t0 : TypeId} {z0 : Nat × Nat} (a : AA) (hg : At w g0 (.cells (acells a) t0 z0)) (hl : l.length < 1000000) (hb : Z ≤ w.heap.size) (ty : TypeId) :
    ∃ B cap w', (Builtin.append_ #[30, 30] ty #[v, .slice (some ⟨g0, 0, none⟩) 1 1]).run Try.prog w = .ok (.slice B (l.length + 1) cap) w' ∧ w'.ownsRow Z 39 3 (.slice B (l.length + 1) cap) (l.length + 1) (flatA (l ++ [a])) ∧ Turn (fun i => v.ownBlock = some i) w w' ∧ ((Value.slice B (l.length + 1) cap).ownBlock = v.ownBlock ∨ (Value.slice B (l.length + 1) cap).ownBlock = some w.heap.size) := by
  obtain ⟨i0, hi, hz0, hz1, hz2⟩ := info_parts info39
  obtain ⟨v', w', hr, h2, h3, _, h5⟩ := run_append_own_at (P := Try.prog) w Z 30 ty 39 i0 _ 3 24 Try.underlying30 hi hz0 hz1 hz2 rfl (by omega) v l.length _ h ⟨g0, 0, none⟩ 1 1 [.int .i64 a.d, .int .i64 a.t, .int .i64 a.h] rfl
    (fun j u hu => by rw [Addr.add_lit, hg.cell]; simpa [acells] using hu)
    (fun u hu => by
      simp only [List.mem_cons, List.not_mem_nil, or_false] at hu
      rcases hu with rfl | rfl | rfl <;> rfl) (by unfold maxLen; omega) (by omega) hb
  obtain ⟨B, cap, rfl⟩ := own_form h2
  exact ⟨B, cap, w', hr, by rw [flatA_snoc]; exact h2, (Turn.refl _ w).grown h3 (fun k hk => Or.inl hk), h5⟩

def FX (bx bn ba : Nat) : Value := .func (.func 36) #[] #[.pointer (some ⟨bx, 0, none⟩), .pointer (some ⟨bn, 0, none⟩), .pointer (some ⟨ba, 0, none⟩)]
def rnl (n : Nat) : List Int := (List.range n).map fun i : Nat => (i : Int)
theorem rnl_len (n : Nat) : (rnl n).length = n := by simp [rnl]
theorem rnl_succ (n : Nat) : rnl (n + 1) = rnl n ++ [(n : Int)] := by simp [rnl, List.range_succ]

/-- The law's own memory. -/
structure PlR (Z xb qb eb : Nat) (s : List AA) (fs : List Value) (gone cnt : Nat) (w : World) (rv av : Value) : Prop where
  x : At w xb (.cells #[.pointer (some ⟨eb, 0, none⟩), .pointer (some ⟨qb, 0, none⟩), rv, av, .int .i64 (cnt : Int), .bool false] 37 (0, 0))
  ran : Nums Z w rv (rnl gone)
  acts : w.ownsRow Z 39 3 av s.length (flatA s)
  funcs : ∀ i f, fs[i]? = some f → ∃ bx bn ba a, f = FX bx bn ba ∧ At w bx (.cells #[.pointer (some ⟨xb, 0, none⟩)] 31 (0, 0)) ∧ At w bn (.cells #[.int .i64 ((gone + i : Nat) : Int)] 3 (0, 0)) ∧ At w ba (.cells (acells a) 39 (0, 0)) ∧ s[gone + i]? = some a ∧ rv.ownBlock ≠ some bn ∧ av.ownBlock ≠ some ba
  slen : s.length = cnt
  base : Z ≤ xb
  ints : ∀ a ∈ s, -9223372036854775808 ≤ a.t ∧ a.t ≤ 9223372036854775807
section
variable {Z xb qb eb gone cnt : Nat} {s : List AA} {fs : List Value} {w w' : World} {rv av : Value} {E D : Ab}
theorem PlR.turn {X : Nat → Prop} (h : PlR Z xb qb eb s fs gone cnt w rv av) (t : Turn X w w') (h1 : ∀ i c ty f, X i → At w i (.cells c ty f) → Eo ty ∨ Ro ty) : PlR Z xb qb eb s fs gone cnt w' rv av := by
  have no : ∀ i c ty f, At w i (.cells c ty f) → ¬ (Eo ty ∨ Ro ty) → ¬ X i := fun i c ty f hi ht hx => ht (h1 i c ty f hx hi)
  have e37 : ¬ (Eo 37 ∨ Ro 37) := by rintro ((h | h) | (h | h)) <;> cases h
  have e3 : ¬ (Eo 3 ∨ Ro 3) := by rintro ((h | h) | (h | h)) <;> cases h
  have e39 : ¬ (Eo 39 ∨ Ro 39) := by rintro ((h | h) | (h | h)) <;> cases h
  have e31 : ¬ (Eo 31 ∨ Ro 31) := by rintro ((h | h) | (h | h)) <;> cases h
  exact ⟨h.x.turn t (no _ _ _ _ h.x e37), h.ran.turn t (fun i c _ hi _ => no _ _ _ _ hi e3), own_turn h.acts t (fun i c _ hi _ => no _ _ _ _ hi e39), fun i f hi => by
    obtain ⟨bx, bn, ba, a, q1, q2, q3, q4, q5, q6, q7⟩ := h.funcs i f hi
    exact ⟨bx, bn, ba, a, q1, q2.turn t (no _ _ _ _ q2 e31), q3.turn t (no _ _ _ _ q3 e3), q4.turn t (no _ _ _ _ q4 e39), q5, q6, q7⟩, h.slen, h.base, h.ints⟩
theorem PlR.same (h : PlR Z xb qb eb s fs gone cnt w rv av) (t : Turn (fun _ => False) w w') : PlR Z xb qb eb s fs gone cnt w' rv av := h.turn t (fun _ _ _ _ h _ => h.elim)
theorem kin_ty {T : TypeId → Prop} {i : Nat} {c : Array Value} {ty : TypeId} {f : Nat × Nat} (hx : Kin T Z w i) (hi : At w i (.cells c ty f)) : T ty := by
  rcases hx with ⟨_, (⟨es, cl, h2⟩ | ⟨c2, t2, f2, h2, h3⟩)⟩
  · cases hi.eq h2
  · have := hi.eq h3
    injection this with _ e _
    rw [e]; exact h2
theorem PlR.keep (h : PlR Z xb qb eb s fs gone cnt w rv av) (t : Tn Eo Z w w') : PlR Z xb qb eb s fs gone cnt w' rv av := h.turn t (fun i c ty f hx hi => Or.inl (kin_ty hx hi))
theorem PlR.keepR (h : PlR Z xb qb eb s fs gone cnt w rv av) (t : Tn Ro Z w w') : PlR Z xb qb eb s fs gone cnt w' rv av := h.turn t (fun i c ty f hx hi => Or.inr (kin_ty hx hi))
theorem Dc.keepE {a : Option Nat} (h : Dc Z w qb a D) (t : Tn Eo Z w w') : Dc Z w' qb a D := by
  obtain ⟨p, l, ws, h⟩ := h
  refine ⟨p, l, ws, h.turn t (fun i c ty f hi hty hx => ?_)⟩
  have := kin_ty hx hi
  rcases hty with e | e | ⟨e, _⟩ <;> subst e <;> rcases this with h | h <;> cases h
/-- The document's epoch, where a block is written that is none of its own. -/
theorem Dc.other {a : Option Nat} {g : Nat} {c : Array Value} {ty : TypeId} {f : Nat × Nat} (h : Dc Z w qb a D) (hg : At w g (.cells c ty f)) (h1 : ty ≠ 35) (h2 : ty ≠ 65) (h3 : ty ≠ 3 ∨ a = some g) (t : Turn (· = g) w w') : Dc Z w' qb a D := by
  obtain ⟨p, l, ws, h⟩ := h
  refine ⟨p, l, ws, h.turn t (fun i c ty' f hi hty e => ?_)⟩
  subst e
  have := hi.eq hg
  injection this with _ e _
  subst e
  rcases hty with e | e | ⟨e, e2⟩
  · exact h1 e
  · exact h2 e
  · rcases h3 with h3 | h3
    · exact h3 e
    · exact e2 h3
def XT (t : TypeId) : Prop := Eo t ∨ t = 3 ∨ t = 37 ∨ t = 39

/-- All that EpochPlays has: the epoch E, the law's memory, the document's epoch D. -/
structure Pl (Z xb qb eb : Nat) (s : List AA) (E D : Ab) (w : World) (rv av : Value) : Prop where
  r : PlR Z xb qb eb s E.fs E.gone E.len w rv av
  dc : Dc Z w qb rv.ownBlock D
  ep : Ep Z w eb E
theorem Pl.same (h : Pl Z xb qb eb s E D w rv av) (t : Turn (fun _ => False) w w') : Pl Z xb qb eb s E D w' rv av := ⟨h.r.same t, h.dc.same t, h.ep.same t⟩
theorem Pl.rv_old (h : Pl Z xb qb eb s E D w rv av) : ∀ i, rv.ownBlock = some i → i < w.heap.size := fun i hi => (own_block h.r.ran hi).2.2

set_option maxRecDepth 100000 in
set_option maxHeartbeats 4000000 in
theorem plretire_any (h : Pl Z xb qb eb s E D w rv av) (a : AA) (ha : -9223372036854775808 ≤ a.t ∧ a.t ≤ 9223372036854775807) (hn : E.len < 100000) :
    Calls Try.prog 22 #[.pointer (some ⟨xb, 0, none⟩), .agg (acells a)] w fun e w' => e = .returned (.bool true) ∧ ∃ F av', Pl Z xb qb eb (s ++ [a]) (E.retire F) D w' rv av' ∧ Tn XT Z w w' := by
  have hmf : ∀ (fn : Fn) (first cap : Array Value) (w : World), (Instr.makeFunc fn first cap).run Try.prog w = .ok (.func fn first cap) w := fun _ _ _ _ => rfl
  have hsl := h.r.slen
  have lx := h.r.x.lt
  have hz : Z ≤ w.heap.size := Nat.le_trans h.r.base (Nat.le_of_lt lx)
  have tA : Turn (· = xb) w (w.setCell ⟨xb, 4, none⟩ (.int .i64 ((E.len : Int) + 1))) := set_turn _ _ _ _
  have xA := h.r.x.set 4 (.int .i64 ((E.len : Int) + 1))
  have szA : (w.setCell ⟨xb, 4, none⟩ (.int .i64 ((E.len : Int) + 1))).heap.size = w.heap.size := by simp [World.setCell]
  have eA := h.ep.other h.r.x (by decide) (by decide) tA
  have dA := h.dc.other h.r.x (by decide) (by decide) (Or.inl (by decide)) tA
  obtain ⟨c0, c3, c4, z3, z4⟩ : w.cell? ⟨xb, 0, none⟩ = some (.pointer (some ⟨eb, 0, none⟩)) ∧ w.cell? ⟨xb, 3, none⟩ = some av ∧ w.cell? ⟨xb, 4, none⟩ = some (.int .i64 (E.len : Int)) ∧ w.frozen? ⟨xb, 3, none⟩ = false ∧ w.frozen? ⟨xb, 4, none⟩ = false := by
    rw [h.r.x.cell, h.r.x.cell, h.r.x.cell]
    exact ⟨rfl, rfl, rfl, h.r.x.thawed 3, h.r.x.thawed 4⟩
  obtain ⟨avA, avc, rfl⟩ := own_form h.r.acts
  generalize hwA : w.setCell ⟨xb, 4, none⟩ (.int .i64 ((E.len : Int) + 1)) = wA at tA xA szA eA dA
  have tB : Turn (fun _ => False) wA ((((wA.alloc (.cells #[.pointer (some ⟨xb, 0, none⟩)] 31)).alloc (.cells (acells a) 39)).alloc (.cells #[.int .i64 (E.len : Int)] 3))) := (((Turn.refl _ wA).alloc _).alloc _).alloc _
  have b1 : At (((wA.alloc (.cells #[.pointer (some ⟨xb, 0, none⟩)] 31)).alloc (.cells (acells a) 39)).alloc (.cells #[.int .i64 (E.len : Int)] 3)) w.heap.size (.cells #[.pointer (some ⟨xb, 0, none⟩)] 31 (0, 0)) := by
    have := (At.new wA (.cells #[.pointer (some ⟨xb, 0, none⟩)] 31)).turn (((Turn.refl (fun _ => False) _).alloc (.cells (acells a) 39)).alloc (.cells #[.int .i64 (E.len : Int)] 3)) (fun h => h)
    rwa [szA] at this
  have b2 : At (((wA.alloc (.cells #[.pointer (some ⟨xb, 0, none⟩)] 31)).alloc (.cells (acells a) 39)).alloc (.cells #[.int .i64 (E.len : Int)] 3)) (w.heap.size + 1) (.cells (acells a) 39 (0, 0)) := by
    have := (At.new (wA.alloc (.cells #[.pointer (some ⟨xb, 0, none⟩)] 31)) (.cells (acells a) 39)).turn ((Turn.refl (fun _ => False) _).alloc (.cells #[.int .i64 (E.len : Int)] 3)) (fun h => h)
    rwa [show (wA.alloc (.cells #[.pointer (some ⟨xb, 0, none⟩)] 31)).heap.size = w.heap.size + 1 by simp [szA]] at this
  have b3 : At (((wA.alloc (.cells #[.pointer (some ⟨xb, 0, none⟩)] 31)).alloc (.cells (acells a) 39)).alloc (.cells #[.int .i64 (E.len : Int)] 3)) (w.heap.size + 1 + 1) (.cells #[.int .i64 (E.len : Int)] 3 (0, 0)) := by
    have := At.new ((wA.alloc (.cells #[.pointer (some ⟨xb, 0, none⟩)] 31)).alloc (.cells (acells a) 39)) (.cells #[.int .i64 (E.len : Int)] 3)
    rwa [show ((wA.alloc (.cells #[.pointer (some ⟨xb, 0, none⟩)] 31)).alloc (.cells (acells a) 39)).heap.size = w.heap.size + 1 + 1 by simp [szA]] at this
  have szB : (((wA.alloc (.cells #[.pointer (some ⟨xb, 0, none⟩)] 31)).alloc (.cells (acells a) 39)).alloc (.cells #[.int .i64 (E.len : Int)] 3)).heap.size = w.heap.size + 1 + 1 + 1 := by simp [szA]
  have tW := tA.then tB (fun _ _ h => h.elim)
  have actsB := own_turn h.r.acts tW (fun i c _ hi _ e => by subst e; cases hi.eq h.r.x)
  generalize hV : (((wA.alloc (.cells #[.pointer (some ⟨xb, 0, none⟩)] 31)).alloc (.cells (acells a) 39)).alloc (.cells #[.int .i64 (E.len : Int)] 3)) = v1 at tB b1 b2 b3 szB tW actsB
  have tC : Turn (fun _ => False) v1 ((v1.alloc (.cells (acells a) 39)).drew) := ((Turn.refl _ v1).alloc _).drew
  have gC : At ((v1.alloc (.cells (acells a) 39)).drew) v1.heap.size (.cells (acells a) 39 (0, 0)) := At.new v1 _
  have actsC := own_turn actsB tC (fun _ _ _ _ _ h => h)
  obtain ⟨B, cap, w3, q3, r3, t3, o3⟩ := acts_append actsC v1.heap.size a gC (by omega) (Nat.le_trans hz (Nat.le_trans tW.size tC.size)) 30
  have no39 : ∀ i c ty f, At ((v1.alloc (.cells (acells a) 39)).drew) i (.cells c ty f) → ty ≠ 39 → ¬ (Value.slice avA s.length avc).ownBlock = some i := fun i c ty f hi hne e => by
    obtain ⟨⟨c2, h2⟩, _⟩ := own_block actsC e
    have := hi.eq h2
    injection this with _ e _
    exact hne e
  have xC := (xA.turn tB (fun h => h)).turn tC (fun h => h)
  have x3 := xC.turn t3 (no39 _ _ _ _ xC (by decide))
  have b1C := (b1.turn tC (fun h => h)).turn t3 (no39 _ _ _ _ (b1.turn tC (fun h => h)) (by decide))
  have eC := ((eA.same tB).same tC)
  have e3 : Ep Z w3 eb E := by
    obtain ⟨m, v, he⟩ := eC
    exact ⟨m, v, he.turn t3 (no39 _ _ _ _ he.at_ (by decide)) (fun i c f hi => no39 _ _ _ _ hi (by decide)) (fun i es c hi e => by
      obtain ⟨⟨c2, h2⟩, _⟩ := own_block actsC e
      cases hi.eq h2)⟩
  have d3 : Dc Z w3 qb rv.ownBlock D := by
    obtain ⟨p, l, ws, hd⟩ := (dA.same tB).same tC
    exact ⟨p, l, ws, hd.turn t3 (fun i c ty f hi hty => no39 _ _ _ _ hi (by rcases hty with e | e | ⟨e, _⟩ <;> subst e <;> decide))⟩
  have tz := set_turn w3 xb 3 (.slice B (s.length + 1) cap)
  have x4 := x3.set 3 (.slice B (s.length + 1) cap)
  have e4 := e3.other x3 (by decide) (by decide) tz
  have d4 := d3.other x3 (by decide) (by decide) (Or.inl (by decide)) tz
  have nox : ∀ i c ty f, At w3 i (.cells c ty f) → ty ≠ 37 → ¬ i = xb := fun i c ty f hi hne e => by
    subst e
    have := hi.eq x3
    injection this with _ e _
    exact hne e
  have no37 : ∀ i c ty f, At w i (.cells c ty f) → ty ≠ 37 → ¬ i = xb := fun i c ty f hi hne e => by
    subst e
    have := hi.eq h.r.x
    injection this with _ e _
    exact hne e
  -- what lay before, and is no row of acts that grows, lies there still
  have old : ∀ i c ty f, At w i (.cells c ty f) → ty ≠ 37 → (ty ≠ 39 ∨ (Value.slice avA s.length avc).ownBlock ≠ some i) → At (w3.setCell ⟨xb, 3, none⟩ (.slice B (s.length + 1) cap)) i (.cells c ty f) := fun i c ty f hi h1 h2 => by
    have s1 := (hi.turn tW (no37 _ _ _ _ hi h1)).turn tC (fun h => h)
    have s2 := s1.turn t3 (by
      rcases h2 with h2 | h2
      · exact no39 _ _ _ _ s1 h2
      · exact h2)
    exact s2.turn tz (nox _ _ _ _ s2 h1)
  have b1D := b1C.turn tz (nox _ _ _ _ b1C (by decide))
  have b2C := b2.turn tC (fun h => h)
  have hav : ∀ i, (Value.slice avA s.length avc).ownBlock = some i → i < w.heap.size := fun i hi => (own_block h.r.acts hi).2.2
  have b2D0 := b2C.turn t3 (fun e => by have := hav _ e; omega)
  have b2D := b2D0.turn tz (nox _ _ _ _ b2D0 (by decide))
  have b3C := b3.turn tC (fun h => h)
  have b3D0 := b3C.turn t3 (no39 _ _ _ _ b3C (by decide))
  have b3D := b3D0.turn tz (nox _ _ _ _ b3D0 (by decide))
  have hrv := h.rv_old
  have hB : ∀ i, (Value.slice B (s.length + 1) cap).ownBlock = some i → (Value.slice avA s.length avc).ownBlock = some i ∨ i = w.heap.size + 1 + 1 + 1 + 1 := fun i hi => by
    rcases o3 with e | e
    · rw [e] at hi; exact Or.inl hi
    · rw [e] at hi
      injection hi with hi
      right
      rw [← hi]
      simp [szB]
  have hr : PlR Z xb qb eb (s ++ [a]) (E.fs ++ [FX w.heap.size (w.heap.size + 1 + 1) (w.heap.size + 1)]) E.gone (E.len + 1) (w3.setCell ⟨xb, 3, none⟩ (.slice B (s.length + 1) cap)) rv (.slice B (s.length + 1) cap) := by
    refine ⟨x4, ?_, ?_, fun i f hi => ?_, by rw [List.length_append, hsl]; rfl, h.r.base, fun b hb => ?_⟩
    · have s1 := (h.r.ran.turn tW (fun i c _ hi _ => no37 _ _ _ _ hi (by decide))).same tC
      exact (s1.turn t3 (fun i c _ hi _ => no39 _ _ _ _ hi (by decide))).turn tz (fun i c _ hi _ => nox _ _ _ _ hi (by decide))
    · rw [List.length_append]
      exact own_turn r3 tz (fun i c _ hi _ => nox _ _ _ _ hi (by decide))
    · rw [List.getElem?_append] at hi
      split at hi
      · rename_i hlt
        obtain ⟨bx, bn, ba, a', q1, q2, q3', q4, q5, q6, q7⟩ := h.r.funcs i f hi
        refine ⟨bx, bn, ba, a', q1, old _ _ _ _ q2 (by decide) (Or.inl (by decide)), old _ _ _ _ q3' (by decide) (Or.inl (by decide)), old _ _ _ _ q4 (by decide) (Or.inr q7), ?_, q6, fun e => ?_⟩
        · rw [List.getElem?_append_left (by have := (List.getElem?_eq_some_iff.1 q5).1; exact this)]; exact q5
        · rcases hB _ e with e | e
          · exact q7 e
          · have := q4.lt; omega
      · rename_i hge
        have h0 : i - E.fs.length = 0 := by
          rcases Nat.eq_zero_or_pos (i - E.fs.length) with h0 | h0
          · exact h0
          · rw [List.getElem?_eq_none (by simp; omega)] at hi; cases hi
        rw [h0] at hi
        simp at hi
        have hil : i = E.fs.length := by omega
        refine ⟨w.heap.size, w.heap.size + 1 + 1, w.heap.size + 1, a, hi.symm, b1D, ?_, b2D, ?_, fun e => ?_, fun e => ?_⟩
        · rw [hil]; exact b3D
        · rw [hil, show E.gone + E.fs.length = s.length by rw [hsl]; rfl, List.getElem?_append_right (Nat.le_refl _), Nat.sub_self]; rfl
        · have := hrv _ e; omega
        · rcases hB _ e with e | e
          · have := hav _ e; omega
          · omega
    · rcases List.mem_append.1 hb with hb | hb
      · exact h.r.ints b hb
      · simp at hb; subst hb; exact ha
  have tAll : Tn XT Z w (w3.setCell ⟨xb, 3, none⟩ (.slice B (s.length + 1) cap)) := by
    have s1 : Tn XT Z w v1 := Tn.one h.r.x (Or.inr (Or.inr (Or.inl rfl))) h.r.base tW
    have s2 : Tn XT Z v1 ((v1.alloc (.cells (acells a) 39)).drew) := Tn.of_same tC
    have s3 : Tn XT Z ((v1.alloc (.cells (acells a) 39)).drew) w3 := Turn.mono t3 fun i _ e => by
      obtain ⟨⟨c2, h2⟩, h3, _⟩ := own_block actsC e
      exact ⟨h3, Or.inr ⟨c2, 39, _, Or.inr (Or.inr (Or.inr rfl)), h2⟩⟩
    exact ((s1.trans s2).trans s3).trans (Tn.set x3 (Or.inr (Or.inr (Or.inl rfl))) h.r.base 3 _)
  have CR : Hid (Calls Try.prog 13 #[.pointer (some ⟨eb, 0, none⟩), .func (.func 36) #[] #[.pointer (some ⟨w.heap.size, 0, none⟩), .pointer (some ⟨w.heap.size + 1 + 1, 0, none⟩), .pointer (some ⟨w.heap.size + 1, 0, none⟩)]] (w3.setCell ⟨xb, 3, none⟩ (.slice B (s.length + 1) cap)) fun e w' => e = .returned (.bool true) ∧ ∃ F av', Pl Z xb qb eb (s ++ [a]) (E.retire F) D w' rv av' ∧ Tn XT Z w w') :=
    Lib.hid ((retire_any e4 hn).mono fun e w' ⟨he, hep, htn⟩ => ⟨he, _, _, ⟨by
      have hl : (E.retire (FX w.heap.size (w.heap.size + 1 + 1) (w.heap.size + 1))).len = E.len + 1 := by simp [Ab.len, Ab.retire]; omega
      show PlR Z xb qb eb (s ++ [a]) (E.retire (FX w.heap.size (w.heap.size + 1 + 1) (w.heap.size + 1))).fs _ (E.retire (FX w.heap.size (w.heap.size + 1 + 1) (w.heap.size + 1))).len w' rv (.slice B (s.length + 1) cap)
      rw [hl]
      exact hr.keep htn, d4.keepE htn, hep⟩, tAll.trans (htn.mono fun t h => Or.inl h)⟩)
  have HR : AppRun 30 30 (.slice avA s.length avc) (.slice (some ⟨v1.heap.size, 0, none⟩) 1 1) (.slice B (s.length + 1) cap) ((v1.alloc (.cells (acells a) 39)).drew) w3 := ⟨q3⟩
  have y3 := x3.cell 3
  have y0 := x3.cell 0
  have yz := x3.thawed 3
  have yb := b1C.cell 0
  have nbx : ¬ w.heap.size = xb := by omega
  have u1 := b1.cell 0
  have u2 := b2.cell 0
  have u3 := b2.cell 1
  have u4 := b2.cell 2
  have v3 := (xA.turn tB (fun h => h)).cell 3
  have vl := (xA.turn tB (fun h => h)).lt
  have l3 := x3.lt
  have lx1 : xb < w.heap.size + 1 := by omega
  have lx2 : xb < w.heap.size + 1 + 1 := by omega
  have lx3 : xb < w.heap.size + 1 + 1 + 1 := by omega
  rw [szB] at HR
  simp [acells] at y3 y0 yb u1 u2 u3 u4 v3
  simp only [acells] at HR hV ⊢
  replace hsl := Lib.hid hsl
  clear hr tAll e4 d4 x4 tz e3 d3 eC x3 xC b1C b1D b2C b2D0 b2D b3C b3D0 b3D hB old nox no37 no39 hav hrv q3 r3 t3 o3 actsC gC tC actsB tW b1 b2 b3 tB eA dA xA tA h
  go_enter Try.func22, Try.ntmps22
  go_wp2_with fail
  go_region_law ((refine step_append_run (by rfl) _ _ 30 (by rfl) _ _ _ (by rfl) (by rfl) HR ?_))
  all_goals
    go_wp2_with fail
  all_goals
    refine CR.out.mono ?_
    rintro e w9 ⟨rfl, hq⟩
    replace hq := Lib.hid hq
    go_wp2_with fail
    go_ret
    exact ⟨rfl, hq.out⟩
end
end Go.Proofs.Ythohhehelnkpgaa
