/-
  The law's world: a pool, three arenas, the document's pool, the handles told; what stays where one of them turns.
-/
import Derived.Test.YtbdfbgkfhaiccaaDoorPlaysB
namespace Go.Proofs.YtbdfbgkfhaiccaaDoor
open Go.RowKit Go.Maps
set_option linter.unusedVariables false

/-- Block i is a row of things of type t. -/
def Kind (w : World) (i : Nat) (t : TypeId) : Prop := ∃ c, At w i (.cells c t (0, 0))
theorem Kind.ne {w : World} {i j : Nat} {t u : TypeId} (h : Kind w i t) (k : Kind w j u) (hne : t ≠ u) : i ≠ j := by
  obtain ⟨c, hc⟩ := h
  obtain ⟨d, hd⟩ := k
  exact hc.ne hd (by intro e; injection e with _ e; exact hne e)

/-- All that turns is a row of a type that is not among these, or a map other than mb. -/
def Off (w : World) (ts : List TypeId) (mb : Nat) (X : Nat → Prop) : Prop := ∀ i, X i → (∃ t, Kind w i t ∧ t ∉ ts) ∨ ((∃ es cl, At w i (.map es cl)) ∧ i ≠ mb)

section
variable {X : Nat → Prop} {w w' : World}
theorem Off.row {ts : List TypeId} {mb g : Nat} {t : TypeId} (h : Off w ts mb X) (hg : Kind w g t) (ht : t ∈ ts) : ¬ X g := by
  intro hx
  obtain ⟨c, hc⟩ := hg
  rcases h g hx with ⟨u, ⟨d, hd⟩, hu⟩ | ⟨⟨es, cl, hm⟩, _⟩
  · have := hc.eq hd
    injection this with _ this
    exact hu (this ▸ ht)
  · have := hc.eq hm
    cases this
theorem Off.map {ts : List TypeId} {mb : Nat} (h : Off w ts mb X) (hg : ∃ es cl, At w mb (.map es cl)) : ¬ X mb := by
  intro hx
  obtain ⟨es, cl, hm⟩ := hg
  rcases h mb hx with ⟨u, ⟨d, hd⟩, _⟩ | ⟨_, hne⟩
  · have := hm.eq hd
    cases this
  · exact hne rfl
theorem ArF.off {tA tP : TypeId} {ab mb n : Nat} {pp : Value} {M : Nat → Option (Nat × Value)} {f : Int → Option Value} (h : ArF tA tP w ab mb pp M n f) (t : Turn X w w') (hX : Off w [tA, tP] mb X) : ArF tA tP w' ab mb pp M n f :=
  h.turn t (hX.row ⟨_, h.1⟩ (by simp)) (hX.map (h.2.1.obj)) (fun q c hq => hX.row ⟨c, hq⟩ (by simp))
theorem Pool.off {pb gb fb mb : Nat} {G : List Nat} {fr : Nat → Bool} (h : Pool w pb gb fb G fr) (t : Turn X w w') (hX : Off w [85, 30] mb X) : Pool w' pb gb fb G fr := by
  obtain ⟨⟨c1, h1⟩, ⟨c2, h2⟩, ⟨c3, h3⟩⟩ := h.rows
  exact h.turn t (hX.row ⟨c3, h3⟩ (by simp)) (hX.row ⟨c1, h1⟩ (by simp)) (hX.row ⟨c2, h2⟩ (by simp))
theorem Doc.off {qb lb cap mb : Nat} {L : List Sl} (h : Doc w qb lb cap L) (t : Turn X w w') (hX : Off w [66, 110] mb X) : Doc w' qb lb cap L := by
  obtain ⟨c, hc, _⟩ := h.row
  exact h.turn t (hX.row ⟨_, h.hd⟩ (by simp)) (hX.row ⟨c, hc⟩ (by simp))
end

/-- The text of a thing of the second arena. -/
def Txt (w0 w : World) (v : Value) (x : ByteArray) : Prop := ∃ tb, v = .slice (some ⟨tb, 0, none⟩) 1 1 ∧ At w tb (.cells #[.string x] 9 (0, 0)) ∧ w0.heap.size ≤ tb

structure WSt (w0 wr : World) (n xb pb gb fb : Nat) (ab mb : Nat → Nat) (qb lb cap : Nat) (vt : Value) (G : List Nat) (fr : Nat → Bool) (MM : Nat → Nat → Option (Nat × Value)) (nn : Nat → Nat) (ff : Nat → Int → Option Value) (L : List Sl) (hs : List (Nat × Nat)) : Prop where
  pool : Pool wr pb gb fb G fr
  a : ∀ i, (i = 1 ∨ i = 3) → ArF 89 97 wr (ab i) (mb i) (.pointer (some ⟨pb, 0, none⟩)) (MM i) (nn i) (ff i)
  b : ArF 113 134 wr (ab 2) (mb 2) (.pointer (some ⟨pb, 0, none⟩)) (MM 2) (nn 2) (ff 2)
  doc : Doc wr qb lb cap L
  hd : At wr xb (.cells #[.pointer (some ⟨pb, 0, none⟩), .pointer (some ⟨ab 1, 0, none⟩), .pointer (some ⟨ab 3, 0, none⟩), .pointer (some ⟨ab 2, 0, none⟩), .pointer (some ⟨qb, 0, none⟩), vt] 60 (0, 0))
  told : Told w0 wr vt hs
  old : Turn (fun _ => False) w0 wr
  new : w0.heap.size ≤ gb ∧ w0.heap.size ≤ fb ∧ w0.heap.size ≤ lb ∧ w0.heap.size ≤ xb
  newM : ∀ i, w0.heap.size ≤ mb i
  ne : mb 1 ≠ mb 2 ∧ mb 1 ≠ mb 3 ∧ mb 2 ≠ mb 3
  newP : ∀ i x q, ff i x = some (.pointer (some ⟨q, 0, none⟩)) → w0.heap.size ≤ q
  sep : ∀ x y v, ff 1 x = some v → ff 3 y = some v → False
  txt : ∀ k q g v, L[k]? = some q → MM 2 k = some (g, v) → Txt w0 wr v q.x
  pv : PV n G fr MM nn L
  each : ∀ p ∈ hs, p.1 < n ∧ p.2 < 18446744073709551616

section
variable {w0 wr wr' : World} {n xb pb gb fb : Nat} {ab mb : Nat → Nat} {qb lb cap : Nat} {vt : Value} {G : List Nat} {fr : Nat → Bool} {MM : Nat → Nat → Option (Nat × Value)} {nn : Nat → Nat} {ff : Nat → Int → Option Value} {L : List Sl} {hs : List (Nat × Nat)}
/-- Nothing of it turns. -/
theorem WSt.same (h : WSt w0 wr n xb pb gb fb ab mb qb lb cap vt G fr MM nn ff L hs) (t : Turn (fun _ => False) wr wr') : WSt w0 wr' n xb pb gb fb ab mb qb lb cap vt G fr MM nn ff L hs where
  pool := h.pool.turn t (fun h => h) (fun h => h) (fun h => h)
  a := fun i hi => (h.a i hi).same t
  b := h.b.same t
  doc := h.doc.same t
  hd := h.hd.turn t (fun h => h)
  told := h.told.same t
  old := h.old.trans t
  new := h.new
  newM := h.newM
  ne := h.ne
  newP := h.newP
  sep := h.sep
  txt := fun k q g v hk hm => by
    obtain ⟨tb, e, ht, hl⟩ := h.txt k q g v hk hm
    exact ⟨tb, e, ht.turn t (fun h => h), hl⟩
  pv := h.pv
  each := h.each
/-- The blocks that Alloc or Release of arena i turn are no others. -/
theorem WSt.offs (h : WSt w0 wr n xb pb gb fb ab mb qb lb cap vt G fr MM nn ff L hs) {i : Nat} (h1 : 1 ≤ i) (h3 : i ≤ 3) (ts : List TypeId) (h30 : 30 ∉ ts) {j : Nat} (hj : mb j ≠ mb i) : Off wr ts (mb j) (fun k => k = gb ∨ k = fb ∨ k = mb i) := by
  intro k hk
  obtain ⟨⟨c1, p1⟩, ⟨c2, p2⟩, _⟩ := h.pool.rows
  rcases hk with rfl | rfl | rfl
  · exact Or.inl ⟨30, ⟨c1, p1⟩, h30⟩
  · exact Or.inl ⟨30, ⟨c2, p2⟩, h30⟩
  · refine Or.inr ⟨?_, Ne.symm hj⟩
    rcases (show i = 1 ∨ i = 2 ∨ i = 3 by omega) with rfl | rfl | rfl
    · exact (h.a 1 (Or.inl rfl)).2.1.obj
    · exact h.b.2.1.obj
    · exact (h.a 3 (Or.inr rfl)).2.1.obj
end
end Go.Proofs.YtbdfbgkfhaiccaaDoor
