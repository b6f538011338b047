/-
  Split.
  Kid.
-/
import Derived.Test.YtfplnobnmgbgoaaDoorJ8
import Derived.Test.YtfplnobnmgbgoaaDoorJ7
namespace Go.Proofs.YtfplnobnmgbgoaaDoor
open Go.RowKit Go.Lib
set_option linter.unusedVariables false
set_option maxRecDepth 20000
set_option maxRecDepth 20000
set_option linter.unusedSimpArgs false

/-- While a node is split: the node (g), the right one's handle, the two answers, the clone (r) and its rows. -/
structure Hv (w wx : World) (g r : Nat) (node : Array Value) (nxt : Hn) (ln rn : Array Value) (Z : Nat) (leaf : Bool) (K V : List ByteArray) (D : List Hn) (high : ByteArray) (bnd : Bool) (sl ge : Int) (B1 : Option Addr) (d1 : Nat) (B2 : Option Addr) (d2 : Nat) (B3 : Option Addr) (d3 : Nat) : Prop where
  tu : Turn No w wx
  a : At wx g (.cells node 79 (0, 0))
  nx : At wx (g + 1) (.cells #[.int .i64 nxt.slot, .int .u64 nxt.gen] 77 (0, 0))
  l : At wx (g + 2) (.cells ln 79 (0, 0))
  rr : At wx (g + 3) (.cells rn 79 (0, 0))
  b : At wx r (.cells #[.bool leaf, .slice B1 K.length d1, .slice B2 V.length d2, .slice B3 D.length d3, .string high, .bool bnd, .int .i64 sl, .int .u64 ge] 79 (0, 0))
  own : Own Z wx K V D B1 d1 B2 d2 B3 d3
  zg : g + 4 ≤ Z
  rg : g + 4 ≤ r
  wg : w.heap.size = g
section
variable {w wx : World} {g r : Nat} {node : Array Value} {nxt : Hn} {ln rn : Array Value} {Z : Nat} {leaf : Bool} {K V : List ByteArray} {D : List Hn} {high : ByteArray} {bnd : Bool} {sl ge : Int} {B1 : Option Addr} {d1 : Nat} {B2 : Option Addr} {d2 : Nat} {B3 : Option Addr} {d3 : Nat}
theorem Hv.no (h : Hv w wx g r node nxt ln rn Z leaf K V D high bnd sl ge B1 d1 B2 d2 B3 d3) {w2 : World} (t : Turn No wx w2) : Hv w w2 g r node nxt ln rn Z leaf K V D high bnd sl ge B1 d1 B2 d2 B3 d3 := ⟨h.tu.trans t, h.a.no t, h.nx.no t, h.l.no t, h.rr.no t, h.b.no t, h.own.no t, h.zg, h.rg, h.wg⟩
theorem Hv.setL (h : Hv w wx g r node nxt ln rn Z leaf K V D high bnd sl ge B1 d1 B2 d2 B3 d3) {w2 : World} {ln2 : Array Value} (t : Turn (fun k => k = g + 2) wx w2) (hl : At w2 (g + 2) (.cells ln2 79 (0, 0))) : Hv w w2 g r node nxt ln2 rn Z leaf K V D high bnd sl ge B1 d1 B2 d2 B3 d3 := by
  have hz := h.zg
  have hr := h.rg
  have hw := h.wg
  exact ⟨h.tu.then t fun i hi e => by omega, h.a.turn t (by omega), h.nx.turn t (by omega), hl, h.rr.turn t (by omega), h.b.turn t (by omega), h.own.wr h.l t, h.zg, h.rg, h.wg⟩
theorem Hv.setR (h : Hv w wx g r node nxt ln rn Z leaf K V D high bnd sl ge B1 d1 B2 d2 B3 d3) {w2 : World} {rn2 : Array Value} (t : Turn (fun k => k = g + 3) wx w2) (hl : At w2 (g + 3) (.cells rn2 79 (0, 0))) : Hv w w2 g r node nxt ln rn2 Z leaf K V D high bnd sl ge B1 d1 B2 d2 B3 d3 := by
  have hz := h.zg
  have hr := h.rg
  have hw := h.wg
  exact ⟨h.tu.then t fun i hi e => by omega, h.a.turn t (by omega), h.nx.turn t (by omega), h.l.turn t (by omega), hl, h.b.turn t (by omega), h.own.wr h.rr t, h.zg, h.rg, h.wg⟩
end
theorem row_take {w : World} {A : Option Addr} {xs : List Value} (h : Row w A xs) (m : Nat) : Row w A (xs.take m) := fun j u hj => by
  rw [List.getElem?_take] at hj
  split at hj
  · exact h j u hj
  · cases hj
theorem row_drop {w : World} {g o : Nat} {xs : List Value} (h : Row w (some ⟨g, o, none⟩) xs) (m : Nat) : Row w (some ⟨g, o + m, none⟩) (xs.drop m) := fun j u hj => by
  rw [List.getElem?_drop] at hj
  obtain ⟨b, o', hA, hb, hc⟩ := h (m + j) u hj
  injection hA with hA
  injection hA with e1 e2
  subst e1 e2
  exact ⟨g, o + m, rfl, hb, by rw [Nat.add_assoc]; exact hc⟩
theorem kcs_take (K : List ByteArray) (m : Nat) : kcs (K.take m) = (kcs K).take m := by unfold kcs; rw [List.map_take]
theorem kcs_drop (K : List ByteArray) (m : Nat) : kcs (K.drop m) = (kcs K).drop m := by unfold kcs; rw [List.map_drop]
theorem hcs_cut (D : List Hn) {m : Nat} (hm : m ≤ D.length) : hcs (D.take m) = (hcs D).take (m * 2) ∧ hcs (D.drop m) = (hcs D).drop (m * 2) := by
  have e : hcs D = hcs (D.take m) ++ hcs (D.drop m) := by rw [← hcs_append, List.take_append_drop]
  have hl : (hcs (D.take m)).length = m * 2 := by rw [hcs_length, List.length_take, Nat.min_eq_left hm]
  rw [e, List.take_left' hl, List.drop_left' hl]
  exact ⟨rfl, rfl⟩
/-- A half's row: it is read, may be written over, and lies from block Z on. -/
structure Half (Z : Nat) (w : World) (t s : Nat) (A : Option Addr) (n : Nat) (xs : List Value) : Prop where
  r : Row w A xs
  wt : Wt w t s A n
  z : ∀ b, ablk A = some b → Z ≤ b
theorem Half.nil (Z : Nat) (w : World) (t s : Nat) : Half Z w t s none 0 [] := ⟨Row.nil _ _, Or.inl rfl, fun b h => by cases h⟩
theorem Half.no {Z : Nat} {w w2 : World} {t s : Nat} {A : Option Addr} {n : Nat} {xs : List Value} (h : Half Z w t s A n xs) (tn : Turn No w w2) : Half Z w2 t s A n xs := ⟨h.r.no tn, h.wt.no tn, h.z⟩
/-- The two halves of a row of one's own. -/
theorem own_halves {w : World} {Z t s n c g : Nat} {xs : List Value} (h : w.ownsRow Z t s (.slice (some ⟨g, 0, none⟩) n c) n xs) {e b : Nat} (he : e ≤ n) (hb : b ≤ n) :
    Half Z w t s (some ⟨g, 0, none⟩) e (xs.take (e * s)) ∧ Half Z w t s (some ⟨g, b * s, none⟩) (n - b) (xs.drop (b * s)) := by
  have hr := row_of_own h
  have hz := fun i (hi : ablk (some (⟨g, 0, none⟩ : Addr)) = some i) => (own_at h hi).1
  have hgz : Z ≤ g := hz g rfl
  have hw : ∃ cur, At w g (.cells cur t (0, 0)) ∧ n * s ≤ cur.size := by
    rcases h.2 with ⟨hv, _⟩ | ⟨g', cap, cur, hv, hb', hg, hn, hc, hs, ht⟩
    · cases hv
    · injection hv with hA _ hcap
      injection hA with hA
      injection hA with hA
      subst hA hcap
      exact ⟨cur, hg, by rw [hs]; exact Nat.mul_le_mul_right s hn⟩
  obtain ⟨cur, hat, hsz⟩ := hw
  have e1 : e * s ≤ n * s := Nat.mul_le_mul_right s he
  have e2 : b * s + (n - b) * s = n * s := by rw [← Nat.add_mul]; congr 1; omega
  refine ⟨⟨row_take hr _, Or.inr ⟨g, 0, cur, rfl, hat, by omega⟩, fun i hi => hz i hi⟩, ⟨?_, Or.inr ⟨g, b * s, cur, rfl, hat, by omega⟩, fun i hi => by injection hi with hi; subst hi; exact hgz⟩⟩
  have := row_drop hr (b * s)
  rwa [Nat.zero_add] at this
theorem Half.from {Z Z' : Nat} {w : World} {t s : Nat} {A : Option Addr} {n : Nat} {xs : List Value} (h : Half Z w t s A n xs) (hz : Z' ≤ Z) : Half Z' w t s A n xs := ⟨h.r, h.wt, fun b hb => Nat.le_trans hz (h.z b hb)⟩
theorem halves_k {w : World} {Z Z' c g e b : Nat} {K KL KR : List ByteArray} (h : w.ownsRow Z 9 1 (.slice (some ⟨g, 0, none⟩) K.length c) K.length (kcs K)) (he : e ≤ K.length) (hb : b ≤ K.length) (h1 : K.take e = KL) (h2 : K.drop b = KR) (hz : Z' ≤ Z) :
    Half Z' w 9 1 (some ⟨g, 0, none⟩) KL.length (kcs KL) ∧ Half Z' w 9 1 (some ⟨g, b, none⟩) KR.length (kcs KR) := by
  obtain ⟨p, q⟩ := own_halves h he hb
  subst h1 h2
  rw [Nat.mul_one, ← kcs_take] at p
  rw [Nat.mul_one, ← kcs_drop] at q
  rw [List.length_take, Nat.min_eq_left he, List.length_drop]
  exact ⟨p.from hz, q.from hz⟩
theorem halves_h {w : World} {Z Z' c g e b : Nat} {K KL KR : List Hn} (h : w.ownsRow Z 77 2 (.slice (some ⟨g, 0, none⟩) K.length c) K.length (hcs K)) (he : e ≤ K.length) (hb : b ≤ K.length) (h1 : K.take e = KL) (h2 : K.drop b = KR) (hz : Z' ≤ Z) :
    Half Z' w 77 2 (some ⟨g, 0, none⟩) KL.length (hcs KL) ∧ Half Z' w 77 2 (some ⟨g, b * 2, none⟩) KR.length (hcs KR) := by
  obtain ⟨p, q⟩ := own_halves h he hb
  subst h1 h2
  rw [← (hcs_cut K he).1] at p
  rw [← (hcs_cut K hb).2] at q
  rw [List.length_take, Nat.min_eq_left he, List.length_drop]
  exact ⟨p.from hz, q.from hz⟩
theorem got_of {Z : Nat} {w : World} {n : Nd} {A1 A2 A3 : Option Addr} (h1 : Half Z w 9 1 A1 n.keys.length (kcs n.keys)) (h2 : Half Z w 9 1 A2 n.vals.length (kcs n.vals)) (h3 : Half Z w 77 2 A3 n.kids.length (hcs n.kids)) : Got Z w n A1 A2 A3 :=
  ⟨h1.r, h2.r, h3.r, h1.wt, h2.wt, h3.wt, h1.z, h2.z, h3.z⟩
/-- May it be split; its halves. -/
def SplO (n : Nd) : Prop := NdRight n ∧ (n.leaf = true → 2 ≤ n.keys.length) ∧ (n.leaf = false → 3 ≤ n.keys.length)
def spM (n : Nd) : Nat := n.keys.length / 2
def spL (n : Nd) (nxt : Hn) : Nd := if n.leaf = true then ⟨true, n.keys.take (spM n), n.vals.take (spM n), [], n.keys.getD (spM n) ⟨#[]⟩, true, nxt⟩ else ⟨false, n.keys.take (spM n), [], n.kids.take (spM n + 1), n.keys.getD (spM n) ⟨#[]⟩, true, nxt⟩
def spR (n : Nd) : Nd := if n.leaf = true then ⟨true, n.keys.drop (spM n), n.vals.drop (spM n), [], n.high, n.bnd, n.nx⟩ else ⟨false, n.keys.drop (spM n + 1), [], n.kids.drop (spM n + 1), n.high, n.bnd, n.nx⟩
def nd0 : Nd := ⟨false, [], [], [], ⟨#[]⟩, false, ⟨0, 0⟩⟩
def SplR (n : Nd) (nxt : Hn) (l r : Nd) (sep : ByteArray) : Prop := (SplO n → n.keys[spM n]? = some sep ∧ l = spL n nxt ∧ r = spR n) ∧ (¬ SplO n → l = n ∧ r = nd0 ∧ sep = ⟨#[]⟩)
def SplRes (n : Nd) (nxt : Hn) (w : World) (e : Ending) (w' : World) : Prop :=
  ∃ l r sep AK ck AV cv AD cd BK dk BV dv BD dd, e = .returned (.tuple #[.agg #[.bool l.leaf, .slice AK l.keys.length ck, .slice AV l.vals.length cv, .slice AD l.kids.length cd, .string l.high, .bool l.bnd, .int .i64 l.nx.slot, .int .u64 l.nx.gen], .agg #[.bool r.leaf, .slice BK r.keys.length dk, .slice BV r.vals.length dv, .slice BD r.kids.length dd, .string r.high, .bool r.bnd, .int .i64 r.nx.slot, .int .u64 r.nx.gen], .string sep]) ∧
    SplR n nxt l r sep ∧ Got w.heap.size w' l AK AV AD ∧ Got w.heap.size w' r BK BV BD ∧ (SplO n → ck = l.keys.length ∧ cv = l.vals.length ∧ cd = l.kids.length) ∧ Turn No w w'
theorem SplRes.of {n : Nd} {nxt : Hn} {w : World} {e : Ending} {w' : World} (l r : Nd) (sep : ByteArray) {AK AV AD BK BV BD : Option Addr} {ck cv cd dk dv dd : Nat} (h1 : e = .returned (.tuple #[.agg #[.bool l.leaf, .slice AK l.keys.length ck, .slice AV l.vals.length cv, .slice AD l.kids.length cd, .string l.high, .bool l.bnd, .int .i64 l.nx.slot, .int .u64 l.nx.gen], .agg #[.bool r.leaf, .slice BK r.keys.length dk, .slice BV r.vals.length dv, .slice BD r.kids.length dd, .string r.high, .bool r.bnd, .int .i64 r.nx.slot, .int .u64 r.nx.gen], .string sep]))
    (h2 : SplR n nxt l r sep) (h3 : Got w.heap.size w' l AK AV AD) (h4 : Got w.heap.size w' r BK BV BD) (h5 : SplO n → ck = l.keys.length ∧ cv = l.vals.length ∧ cd = l.kids.length) (h6 : Turn No w w') : SplRes n nxt w e w' := ⟨l, r, sep, AK, ck, AV, cv, AD, cd, BK, dk, BV, dv, BD, dd, h1, h2, h3, h4, h5, h6⟩
set_option maxRecDepth 100000 in
set_option maxHeartbeats 16000000 in
theorem splitN (leaf : Bool) (K V : List ByteArray) (D : List Hn) (high : ByteArray) (bnd : Bool) (sl ge : Int) (AK AV AD : Option Addr) (ck cv cd : Nat) (nxt : Hn) (w : World) (hin : Fits w leaf K V D high AK AV AD) :
    Calls Tryd.prog 89 #[.agg #[.bool leaf, .slice AK K.length ck, .slice AV V.length cv, .slice AD D.length cd, .string high, .bool bnd, .int .i64 sl, .int .u64 ge], .agg #[.int .i64 nxt.slot, .int .u64 nxt.gen]] w fun e w' => SplRes ⟨leaf, K, V, D, high, bnd, ⟨sl, ge⟩⟩ nxt w e w' := by
  have t1 : Turn No w (w.alloc (.cells #[.bool leaf, .slice AK K.length ck, .slice AV V.length cv, .slice AD D.length cd, .string high, .bool bnd, .int .i64 sl, .int .u64 ge] 79)) := (Turn.refl _ _).alloc _
  have t2 : Turn No (w.alloc (.cells #[.bool leaf, .slice AK K.length ck, .slice AV V.length cv, .slice AD D.length cd, .string high, .bool bnd, .int .i64 sl, .int .u64 ge] 79)) ((w.alloc (.cells #[.bool leaf, .slice AK K.length ck, .slice AV V.length cv, .slice AD D.length cd, .string high, .bool bnd, .int .i64 sl, .int .u64 ge] 79)).alloc (.cells #[.int .i64 nxt.slot, .int .u64 nxt.gen] 77)) := (Turn.refl _ _).alloc _
  have t3 : Turn No ((w.alloc (.cells #[.bool leaf, .slice AK K.length ck, .slice AV V.length cv, .slice AD D.length cd, .string high, .bool bnd, .int .i64 sl, .int .u64 ge] 79)).alloc (.cells #[.int .i64 nxt.slot, .int .u64 nxt.gen] 77)) (((w.alloc (.cells #[.bool leaf, .slice AK K.length ck, .slice AV V.length cv, .slice AD D.length cd, .string high, .bool bnd, .int .i64 sl, .int .u64 ge] 79)).alloc (.cells #[.int .i64 nxt.slot, .int .u64 nxt.gen] 77)).alloc (.cells #[.bool false, .slice none 0 0, .slice none 0 0, .slice none 0 0, .string ⟨#[]⟩, .bool false, .int .i64 0, .int .u64 0] 79)) := (Turn.refl _ _).alloc _
  have t4 : Turn No (((w.alloc (.cells #[.bool leaf, .slice AK K.length ck, .slice AV V.length cv, .slice AD D.length cd, .string high, .bool bnd, .int .i64 sl, .int .u64 ge] 79)).alloc (.cells #[.int .i64 nxt.slot, .int .u64 nxt.gen] 77)).alloc (.cells #[.bool false, .slice none 0 0, .slice none 0 0, .slice none 0 0, .string ⟨#[]⟩, .bool false, .int .i64 0, .int .u64 0] 79)) ((((w.alloc (.cells #[.bool leaf, .slice AK K.length ck, .slice AV V.length cv, .slice AD D.length cd, .string high, .bool bnd, .int .i64 sl, .int .u64 ge] 79)).alloc (.cells #[.int .i64 nxt.slot, .int .u64 nxt.gen] 77)).alloc (.cells #[.bool false, .slice none 0 0, .slice none 0 0, .slice none 0 0, .string ⟨#[]⟩, .bool false, .int .i64 0, .int .u64 0] 79)).alloc (.cells #[.bool false, .slice none 0 0, .slice none 0 0, .slice none 0 0, .string ⟨#[]⟩, .bool false, .int .i64 0, .int .u64 0] 79)) := (Turn.refl _ _).alloc _
  have a1 := (((At.new w (.cells #[.bool leaf, .slice AK K.length ck, .slice AV V.length cv, .slice AD D.length cd, .string high, .bool bnd, .int .i64 sl, .int .u64 ge] 79)).no t2).no t3).no t4
  have a2 := ((At.new (w.alloc (.cells #[.bool leaf, .slice AK K.length ck, .slice AV V.length cv, .slice AD D.length cd, .string high, .bool bnd, .int .i64 sl, .int .u64 ge] 79)) (.cells #[.int .i64 nxt.slot, .int .u64 nxt.gen] 77)).no t3).no t4
  have a3 := (At.new ((w.alloc (.cells #[.bool leaf, .slice AK K.length ck, .slice AV V.length cv, .slice AD D.length cd, .string high, .bool bnd, .int .i64 sl, .int .u64 ge] 79)).alloc (.cells #[.int .i64 nxt.slot, .int .u64 nxt.gen] 77)) (.cells #[.bool false, .slice none 0 0, .slice none 0 0, .slice none 0 0, .string ⟨#[]⟩, .bool false, .int .i64 0, .int .u64 0] 79)).no t4
  have a4 := At.new (((w.alloc (.cells #[.bool leaf, .slice AK K.length ck, .slice AV V.length cv, .slice AD D.length cd, .string high, .bool bnd, .int .i64 sl, .int .u64 ge] 79)).alloc (.cells #[.int .i64 nxt.slot, .int .u64 nxt.gen] 77)).alloc (.cells #[.bool false, .slice none 0 0, .slice none 0 0, .slice none 0 0, .string ⟨#[]⟩, .bool false, .int .i64 0, .int .u64 0] 79)) (.cells #[.bool false, .slice none 0 0, .slice none 0 0, .slice none 0 0, .string ⟨#[]⟩, .bool false, .int .i64 0, .int .u64 0] 79)
  simp only [World.size_alloc, Nat.add_assoc, Nat.reduceAdd] at a2 a3 a4
  have HB : Hid (Turn No w ((((w.alloc (.cells #[.bool leaf, .slice AK K.length ck, .slice AV V.length cv, .slice AD D.length cd, .string high, .bool bnd, .int .i64 sl, .int .u64 ge] 79)).alloc (.cells #[.int .i64 nxt.slot, .int .u64 nxt.gen] 77)).alloc (.cells #[.bool false, .slice none 0 0, .slice none 0 0, .slice none 0 0, .string ⟨#[]⟩, .bool false, .int .i64 0, .int .u64 0] 79)).alloc (.cells #[.bool false, .slice none 0 0, .slice none 0 0, .slice none 0 0, .string ⟨#[]⟩, .bool false, .int .i64 0, .int .u64 0] 79)) ∧ At ((((w.alloc (.cells #[.bool leaf, .slice AK K.length ck, .slice AV V.length cv, .slice AD D.length cd, .string high, .bool bnd, .int .i64 sl, .int .u64 ge] 79)).alloc (.cells #[.int .i64 nxt.slot, .int .u64 nxt.gen] 77)).alloc (.cells #[.bool false, .slice none 0 0, .slice none 0 0, .slice none 0 0, .string ⟨#[]⟩, .bool false, .int .i64 0, .int .u64 0] 79)).alloc (.cells #[.bool false, .slice none 0 0, .slice none 0 0, .slice none 0 0, .string ⟨#[]⟩, .bool false, .int .i64 0, .int .u64 0] 79)) w.heap.size (.cells #[.bool leaf, .slice AK K.length ck, .slice AV V.length cv, .slice AD D.length cd, .string high, .bool bnd, .int .i64 sl, .int .u64 ge] 79 (0, 0)) ∧ At ((((w.alloc (.cells #[.bool leaf, .slice AK K.length ck, .slice AV V.length cv, .slice AD D.length cd, .string high, .bool bnd, .int .i64 sl, .int .u64 ge] 79)).alloc (.cells #[.int .i64 nxt.slot, .int .u64 nxt.gen] 77)).alloc (.cells #[.bool false, .slice none 0 0, .slice none 0 0, .slice none 0 0, .string ⟨#[]⟩, .bool false, .int .i64 0, .int .u64 0] 79)).alloc (.cells #[.bool false, .slice none 0 0, .slice none 0 0, .slice none 0 0, .string ⟨#[]⟩, .bool false, .int .i64 0, .int .u64 0] 79)) (w.heap.size + 1) (.cells #[.int .i64 nxt.slot, .int .u64 nxt.gen] 77 (0, 0)) ∧ At ((((w.alloc (.cells #[.bool leaf, .slice AK K.length ck, .slice AV V.length cv, .slice AD D.length cd, .string high, .bool bnd, .int .i64 sl, .int .u64 ge] 79)).alloc (.cells #[.int .i64 nxt.slot, .int .u64 nxt.gen] 77)).alloc (.cells #[.bool false, .slice none 0 0, .slice none 0 0, .slice none 0 0, .string ⟨#[]⟩, .bool false, .int .i64 0, .int .u64 0] 79)).alloc (.cells #[.bool false, .slice none 0 0, .slice none 0 0, .slice none 0 0, .string ⟨#[]⟩, .bool false, .int .i64 0, .int .u64 0] 79)) (w.heap.size + 2) (.cells #[.bool false, .slice none 0 0, .slice none 0 0, .slice none 0 0, .string ⟨#[]⟩, .bool false, .int .i64 0, .int .u64 0] 79 (0, 0)) ∧ At ((((w.alloc (.cells #[.bool leaf, .slice AK K.length ck, .slice AV V.length cv, .slice AD D.length cd, .string high, .bool bnd, .int .i64 sl, .int .u64 ge] 79)).alloc (.cells #[.int .i64 nxt.slot, .int .u64 nxt.gen] 77)).alloc (.cells #[.bool false, .slice none 0 0, .slice none 0 0, .slice none 0 0, .string ⟨#[]⟩, .bool false, .int .i64 0, .int .u64 0] 79)).alloc (.cells #[.bool false, .slice none 0 0, .slice none 0 0, .slice none 0 0, .string ⟨#[]⟩, .bool false, .int .i64 0, .int .u64 0] 79)) (w.heap.size + 3) (.cells #[.bool false, .slice none 0 0, .slice none 0 0, .slice none 0 0, .string ⟨#[]⟩, .bool false, .int .i64 0, .int .u64 0] 79 (0, 0)) ∧ ((((w.alloc (.cells #[.bool leaf, .slice AK K.length ck, .slice AV V.length cv, .slice AD D.length cd, .string high, .bool bnd, .int .i64 sl, .int .u64 ge] 79)).alloc (.cells #[.int .i64 nxt.slot, .int .u64 nxt.gen] 77)).alloc (.cells #[.bool false, .slice none 0 0, .slice none 0 0, .slice none 0 0, .string ⟨#[]⟩, .bool false, .int .i64 0, .int .u64 0] 79)).alloc (.cells #[.bool false, .slice none 0 0, .slice none 0 0, .slice none 0 0, .string ⟨#[]⟩, .bool false, .int .i64 0, .int .u64 0] 79)).heap.size = w.heap.size + 4) := Lib.hid ⟨((t1.trans t2).trans t3).trans t4, a1, a2, a3, a4, by simp⟩
  clear t1 t2 t3 t4 a1 a2 a3 a4
  have HR := Lib.hid hin
  have CN := Lib.hid fun (W : World) (t : Turn No w W) => cloneN leaf K V D high bnd sl ge AK AV AD ck cv cd W (HR.out.k.no t) (HR.out.v.no t) (HR.out.d.no t) hin.fk hin.fv hin.fh (by have := hin.lk; omega) (by have := hin.lv; omega) (by have := hin.ld; omega)
  have CP := Lib.hid fun (W : World) (t : Turn No w W) => partsP leaf K V D high bnd sl ge AK AV AD ck cv cd W (HR.out.k.no t) (by have := hin.lk; omega)
  have CS := Lib.hid fun (a : ByteArray) (h : Fit a) (W : World) => clone_any a h W
  have hlk := hin.lk
  have HSO : Hid (PartsP leaf K V.length D.length high bnd ↔ SplO ⟨leaf, K, V, D, high, bnd, ⟨sl, ge⟩⟩) := Lib.hid ⟨fun h => ⟨h.2.2, h.1, h.2.1⟩, fun h => ⟨h.2.1, h.2.2, h.1⟩⟩
  clear hin
  go_enter Tryd.func89, Tryd.ntmps89
  go_upto_region 1 with fail
  obtain ⟨w1, hw1⟩ : ∃ x, ((((w.alloc (.cells #[.bool leaf, .slice AK K.length ck, .slice AV V.length cv, .slice AD D.length cd, .string high, .bool bnd, .int .i64 sl, .int .u64 ge] 79)).alloc (.cells #[.int .i64 nxt.slot, .int .u64 nxt.gen] 77)).alloc (.cells #[.bool false, .slice none 0 0, .slice none 0 0, .slice none 0 0, .string ⟨#[]⟩, .bool false, .int .i64 0, .int .u64 0] 79)).alloc (.cells #[.bool false, .slice none 0 0, .slice none 0 0, .slice none 0 0, .string ⟨#[]⟩, .bool false, .int .i64 0, .int .u64 0] 79)) = x := ⟨_, rfl⟩
  rw [hw1] at HB
  rw [hw1]
  obtain ⟨g, hg⟩ : ∃ x, w.heap.size = x := ⟨_, rfl⟩
  rw [hg] at HB
  rw [hg]
  have HG := Lib.hid hg
  clear hg hw1
  obtain ⟨c0, c1, c2, c3, c4, c5, c6, c7⟩ := at8 HB.out.2.1
  go_upto_region 2 with (go_at_call 66; (with_reducible refine (CN.out _ HB.out.1).mono ?_); rintro e w2 ⟨B1, d1, B2, d2, B3, d3, rfl, ho, hd, ht⟩; have H2 := Lib.hid (And.intro ho (And.intro hd ht)); clear ho hd ht c0 c1 c2 c3 c4 c5 c6 c7)
  obtain ⟨r, hr⟩ : ∃ x, w2.heap.size = x := ⟨_, rfl⟩
  rw [hr]
  have H3 : Hid (Hv w (w2.alloc (.cells #[.bool leaf, .slice B1 K.length d1, .slice B2 V.length d2, .slice B3 D.length d3, .string high, .bool bnd, .int .i64 sl, .int .u64 ge] 79)) g r #[.bool leaf, .slice AK K.length ck, .slice AV V.length cv, .slice AD D.length cd, .string high, .bool bnd, .int .i64 sl, .int .u64 ge] nxt #[.bool false, .slice none 0 0, .slice none 0 0, .slice none 0 0, .string ⟨#[]⟩, .bool false, .int .i64 0, .int .u64 0] #[.bool false, .slice none 0 0, .slice none 0 0, .slice none 0 0, .string ⟨#[]⟩, .bool false, .int .i64 0, .int .u64 0] (g + 4) leaf K V D high bnd sl ge B1 d1 B2 d2 B3 d3) := Lib.hid (by
    have hs := HB.out.2.2.2.2.2
    have hgg := HG.out
    have sz := H2.out.2.2.size
    have tn : Turn No w2 (w2.alloc (.cells #[.bool leaf, .slice B1 K.length d1, .slice B2 V.length d2, .slice B3 D.length d3, .string high, .bool bnd, .int .i64 sl, .int .u64 ge] 79)) := (Turn.refl _ _).alloc _
    have a9 := At.new w2 (.cells #[.bool leaf, .slice B1 K.length d1, .slice B2 V.length d2, .slice B3 D.length d3, .string high, .bool bnd, .int .i64 sl, .int .u64 ge] 79)
    rw [hr] at a9
    have hA : ∀ {i : Nat} {o : Obj}, At w1 i o → At (w2.alloc (.cells #[.bool leaf, .slice B1 K.length d1, .slice B2 V.length d2, .slice B3 D.length d3, .string high, .bool bnd, .int .i64 sl, .int .u64 ge] 79)) i o := fun h => (h.no H2.out.2.2).no tn
    exact ⟨(HB.out.1.trans H2.out.2.2).trans tn, hA HB.out.2.1, hA HB.out.2.2.1, hA HB.out.2.2.2.1, hA HB.out.2.2.2.2.1, a9, (H2.out.1.from (by omega)).no tn, Nat.le_refl _, by omega, hgg⟩)
  clear H2 HB CN hr
  generalize (w2.alloc (.cells #[.bool leaf, .slice B1 K.length d1, .slice B2 V.length d2, .slice B3 D.length d3, .string high, .bool bnd, .int .i64 sl, .int .u64 ge] 79)) = w3 at H3 ⊢
  obtain ⟨c0, c1, c2, c3, c4, c5, c6, c7⟩ := at8 H3.out.a
  go_upto_if 13 with (go_at_call 98; (with_reducible refine (CP.out _ H3.out.tu).mono ?_); rintro e w4 ⟨(_ | _), rfl, hb, ht⟩ <;> have H4 := Lib.hid (And.intro hb (H3.out.no ht)) <;> clear hb ht c0 c1 c2 c3 c4 c5 c6 c7)
  · have HNO : Hid (¬ SplO ⟨leaf, K, V, D, high, bnd, ⟨sl, ge⟩⟩) := Lib.hid fun h => by have := H4.out.1.2 (HSO.out.2 h); cases this
    have H5 := Lib.hid H4.out.2
    clear H4 H3 CP
    obtain ⟨c0, c1, c2, c3, c4, c5, c6, c7⟩ := at8 H5.out.b
    obtain ⟨e0, e1, e2, e3, e4, e5, e6, e7⟩ := at8 H5.out.l
    obtain ⟨r0, r1, r2, r3, r4, r5, r6, r7⟩ := at8 H5.out.rr
    obtain ⟨z0, z1, z2, z3, z4, z5, z6, z7⟩ := th8 H5.out.l
    obtain ⟨y0, y1, y2, y3, y4, y5, y6, y7⟩ := th8 H5.out.rr
    have HX := Lib.hid (H5.out.setL (turn8 w4 (g + 2) (.bool leaf) (.slice B1 K.length d1) (.slice B2 V.length d2) (.slice B3 D.length d3) (.string high) (.bool bnd) (.int .i64 sl) (.int .u64 ge)) (put8 H5.out.l _ _ _ _ _ _ _ _))
    have HX2 := Lib.hid (HX.out.setR (turn8 _ (g + 3) (.bool false) (.slice none 0 0) (.slice none 0 0) (.slice none 0 0) (.string ⟨#[]⟩) (.bool false) (.int .i64 0) (.int .u64 0)) (put8 HX.out.rr _ _ _ _ _ _ _ _))
    go_wp2_with fail
    generalize ((((((((((((((((w4.setCell ⟨g + 2, 0, none⟩ (.bool leaf)).setCell ⟨g + 2, 1, none⟩ (.slice B1 K.length d1)).setCell ⟨g + 2, 2, none⟩ (.slice B2 V.length d2)).setCell ⟨g + 2, 3, none⟩ (.slice B3 D.length d3)).setCell ⟨g + 2, 4, none⟩ (.string high)).setCell ⟨g + 2, 5, none⟩ (.bool bnd)).setCell ⟨g + 2, 6, none⟩ (.int .i64 sl)).setCell ⟨g + 2, 7, none⟩ (.int .u64 ge)).setCell ⟨g + 3, 0, none⟩ (.bool false)).setCell ⟨g + 3, 1, none⟩ (.slice none 0 0)).setCell ⟨g + 3, 2, none⟩ (.slice none 0 0)).setCell ⟨g + 3, 3, none⟩ (.slice none 0 0)).setCell ⟨g + 3, 4, none⟩ (.string ⟨#[]⟩)).setCell ⟨g + 3, 5, none⟩ (.bool false)).setCell ⟨g + 3, 6, none⟩ (.int .i64 0)).setCell ⟨g + 3, 7, none⟩ (.int .u64 0)) = w9 at HX2 ⊢
    (try simp only [Exit.inBlock, Exit.then])
    refine bodyPost_ret (results_cell21 rfl _ _ (g + 2) (g + 3) 79 79 _ _ (0, 0) (0, 0) _ _ (by rfl) (by rfl) HX2.out.l HX2.out.rr Tryd.underlying79 (by kernel_rfl) Tryd.underlying79 (by kernel_rfl)) rfl ?_
    exact SplRes.of ⟨leaf, K, V, D, high, bnd, ⟨sl, ge⟩⟩ nd0 ⟨#[]⟩ rfl ⟨fun h => absurd h HNO.out, fun _ => ⟨rfl, rfl, rfl⟩⟩ (Own.got (n := ⟨leaf, K, V, D, high, bnd, ⟨sl, ge⟩⟩) (HX2.out.own.from (by rw [HG.out]; omega))) (got_of (n := nd0) (Half.nil _ _ _ _) (Half.nil _ _ _ _) (Half.nil _ _ _ _)) (fun h => absurd h HNO.out) HX2.out.tu
  · have HYE : Hid (PartsP leaf K V.length D.length high bnd) := Lib.hid (by first | exact H4.out.1.1 rfl | exact H4.out.1.1 trivial)
    have H5 := Lib.hid H4.out.2
    clear H4 H3 CP
    obtain ⟨M, hM⟩ : ∃ x, K.length / 2 = x := ⟨_, rfl⟩
    have hMl : M < K.length := by
      cases leaf with
      | true => have := HYE.out.1 rfl; omega
      | false => have := HYE.out.2.1 rfl; omega
    obtain ⟨sep, hsep⟩ : ∃ x, K[M]? = some x := ⟨K[M], List.getElem?_eq_getElem hMl⟩
    have CSP := Lib.hid (CS.out sep (HR.out.fk sep (List.mem_of_getElem? hsep)))
    obtain ⟨ab, ao, hAK, hc⟩ := kcs_hold (HR.out.k.no H5.out.tu) hsep
    have x0 := hc w4 (Turn.refl _ _)
    have HM := Lib.hid (And.intro hM (And.intro hMl hsep))
    have c1 := H5.out.a.cell 1
    simp at c1
    go_upto_region 5 with fail
    rw [show ((K.length : Int) / 2) = (M : Int) by omega]
    have hq1 : (0 : Int) ≤ (M : Int) := by omega
    have hq2 : (M : Int) < (K.length : Int) := by omega
    clear hM hMl hsep hc
    rw [hAK] at c1
    go_upto_region 6 with fail
    clear x0 c1 hAK
    have TD := Lib.hid (Turn.refl No w4).drew
    have c0 := (H5.out.no TD.out).a.cell 0
    have n0 := (H5.out.no TD.out).nx.cell 0
    have n1 := (H5.out.no TD.out).nx.cell 1
    simp at c0 n0 n1
    go_cut [26] from 25 to 30 (fun s wx => s = .bool leaf ∧ Hid (Hv w wx g r #[.bool leaf, .slice AK K.length ck, .slice AV V.length cv, .slice AD D.length cd, .string high, .bool bnd, .int .i64 sl, .int .u64 ge] nxt #[.bool leaf, .slice none 0 0, .slice none 0 0, .slice none 0 0, .string sep, .bool true, .int .i64 nxt.slot, .int .u64 nxt.gen] #[.bool false, .slice none 0 0, .slice none 0 0, .slice none 0 0, .string ⟨#[]⟩, .bool false, .int .i64 0, .int .u64 0] (g + 4) leaf K V D high bnd sl ge B1 d1 B2 d2 B3 d3))
    case first =>
      go_region_law (go_simp; go_at_call 36; (with_reducible refine (CSP.out _).mono ?_); rintro e w6 ⟨rfl, ht⟩; have H6 := Lib.hid ((H5.out.no TD.out).no ht); clear ht c0 n0 n1; have c0 := H6.out.a.cell 0; have n0 := H6.out.nx.cell 0; have n1 := H6.out.nx.cell 1; simp at c0 n0 n1; obtain ⟨e0, e1, e2, e3, e4, e5, e6, e7⟩ := at8 H6.out.l; obtain ⟨z0, z1, z2, z3, z4, z5, z6, z7⟩ := th8 H6.out.l)
      all_goals
        have HE := Lib.hid (H6.out.setL (turn8 w6 (g + 2) (.bool leaf) (.slice none 0 0) (.slice none 0 0) (.slice none 0 0) (.string sep) (.bool true) (.int .i64 nxt.slot) (.int .u64 nxt.gen)) (put8 H6.out.l _ _ _ _ _ _ _ _))
        generalize ((((((((w6.setCell ⟨g + 2, 0, none⟩ (.bool leaf)).setCell ⟨g + 2, 1, none⟩ (.slice none 0 0)).setCell ⟨g + 2, 2, none⟩ (.slice none 0 0)).setCell ⟨g + 2, 3, none⟩ (.slice none 0 0)).setCell ⟨g + 2, 4, none⟩ (.string sep)).setCell ⟨g + 2, 5, none⟩ (.bool true)).setCell ⟨g + 2, 6, none⟩ (.int .i64 nxt.slot)).setCell ⟨g + 2, 7, none⟩ (.int .u64 nxt.gen)) = w7 at HE ⊢
        go_wp2_with fail
        go_meet
        exact ⟨rfl, HE⟩
    case rest =>
      obtain ⟨rfl, H7⟩ := hcut
      generalize wc = w7 at H7 ⊢
      clear c0 n0 n1 TD H5
      obtain ⟨c0, c1, c2, c3, c4, c5, c6, c7⟩ := at8 H7.out.a
      have b4 := H7.out.b.cell 4
      simp at b4
      obtain ⟨e0, e1, e2, e3, e4, e5, e6, e7⟩ := at8 H7.out.rr
      obtain ⟨z0, z1, z2, z3, z4, z5, z6, z7⟩ := th8 H7.out.rr
      go_upto_region 8 with fail
      have H8 := Lib.hid (H7.out.setR (turn8 w7 (g + 3) (.bool leaf) (.slice none 0 0) (.slice none 0 0) (.slice none 0 0) (.string high) (.bool bnd) (.int .i64 sl) (.int .u64 ge)) (put8 H7.out.rr _ _ _ _ _ _ _ _))
      clear c0 c1 c2 c3 c4 c5 c6 c7 b4 e0 e1 e2 e3 e4 e5 e6 e7 z0 z1 z2 z3 z4 z5 z6 z7 H7
      generalize ((((((((w7.setCell ⟨g + 3, 0, none⟩ (.bool leaf)).setCell ⟨g + 3, 1, none⟩ (.slice none 0 0)).setCell ⟨g + 3, 2, none⟩ (.slice none 0 0)).setCell ⟨g + 3, 3, none⟩ (.slice none 0 0)).setCell ⟨g + 3, 4, none⟩ (.string high)).setCell ⟨g + 3, 5, none⟩ (.bool bnd)).setCell ⟨g + 3, 6, none⟩ (.int .i64 sl)).setCell ⟨g + 3, 7, none⟩ (.int .u64 ge)) = w8 at H8 ⊢
      obtain ⟨KL, hKL⟩ : ∃ x, K.take M = x := ⟨_, rfl⟩
      have hKLl : KL.length = M := by rw [← hKL, List.length_take]; have := HM.out.2.1; omega
      cases leaf with
      | true =>
        have HXL : Hid (V.length = K.length) := Lib.hid (by exact (HYE.out.2.2.2.2.2.1 rfl).1)
        obtain ⟨KR, hKR⟩ : ∃ x, K.drop (M) = x := ⟨_, rfl⟩
        obtain ⟨VL, hXL⟩ : ∃ x, V.take (M) = x := ⟨_, rfl⟩
        obtain ⟨VR, hXR⟩ : ∃ x, V.drop (M) = x := ⟨_, rfl⟩
        have hKRl : KR.length = K.length - (M) := by rw [← hKR, List.length_drop]
        have hXLl : VL.length = M := by rw [← hXL, List.length_take]; have := HM.out.2.1; have := HXL.out; omega
        have hXRl : VR.length = V.length - (M) := by rw [← hXR, List.length_drop]
        have HKX := Lib.hid (And.intro hKL (And.intro hKLl (And.intro hKR (And.intro hKRl (And.intro hXL (And.intro hXLl (And.intro hXR hXRl)))))))
        have hMK : M < K.length := by have := HM.out.1; have := HM.out.2.1; omega
        have HMK := Lib.hid hMK
        obtain ⟨g2, rfl, _, _, _, _⟩ := own_some H8.out.own.k (by omega)
        obtain ⟨g3, rfl, _, _, _, _⟩ := own_some H8.out.own.v (by have := HXL.out; omega)
        have CI := Lib.hid fun (W : World) => halves46 g2 K.length d1 M (M) KL.length KR.length W hKLl hKRl (by have := HM.out.2.1; omega) hMK (own_capN H8.out.own.k) (own_capM H8.out.own.k)
        have CJ := Lib.hid fun (W : World) => halves46 g3 V.length d2 (M) (M) VL.length VR.length W hXLl hXRl (by have := HXL.out; have := HM.out.2.1; omega) (by have := HXL.out; have := HM.out.2.1; omega) (own_capN H8.out.own.v) (own_capM H8.out.own.v)
        clear hKL hKLl hKR hKRl hXL hXLl hXR hXRl hMK
        have hw : IntKind.i64.wrap ((M : Int) + 1) = (M : Int) + 1 := IntWalk.i64_in _ ⟨by omega, by have := HM.out.2.1; omega⟩
        have c0 := H8.out.a.cell 0
        have b1 := H8.out.b.cell 1
        simp at c0 b1
        go_upto_region 10 with (go_at_call 99; (with_reducible refine (CI.out _).mono ?_); rintro e w9 ⟨rfl, ht⟩; have H9 := Lib.hid (H8.out.no ht); clear ht c0 b1; have e1 := H9.out.l.cell 1; have z1 := H9.out.l.thawed 1; have f1 := H9.out.rr.cell 1; have y1 := H9.out.rr.thawed 1; simp at e1 f1)
        have H10 := Lib.hid ((H9.out.setL (Turn.set1 w9 (g + 2) 1 (.slice (some ⟨g2, 0, none⟩) KL.length KL.length)) (ln2 := #[.bool true, .slice (some ⟨g2, 0, none⟩) KL.length KL.length, .slice none 0 0, .slice none 0 0, .string sep, .bool true, .int .i64 nxt.slot, .int .u64 nxt.gen]) (by simpa using H9.out.l.set 1 (.slice (some ⟨g2, 0, none⟩) KL.length KL.length))).setR (Turn.set1 _ (g + 3) 1 (.slice (some ⟨g2, M, none⟩) KR.length KR.length)) (rn2 := #[.bool true, .slice (some ⟨g2, M, none⟩) KR.length KR.length, .slice none 0 0, .slice none 0 0, .string high, .bool bnd, .int .i64 sl, .int .u64 ge]) (by simpa using ((H9.out.setL (Turn.set1 w9 (g + 2) 1 (.slice (some ⟨g2, 0, none⟩) KL.length KL.length)) (ln2 := #[.bool true, .slice (some ⟨g2, 0, none⟩) KL.length KL.length, .slice none 0 0, .slice none 0 0, .string sep, .bool true, .int .i64 nxt.slot, .int .u64 nxt.gen]) (by simpa using H9.out.l.set 1 (.slice (some ⟨g2, 0, none⟩) KL.length KL.length))).rr.set 1 (.slice (some ⟨g2, M, none⟩) KR.length KR.length))))
        clear e1 z1 f1 y1 H9 H8 CI
        generalize (w9.setCell ⟨g + 2, 1, none⟩ (.slice (some ⟨g2, 0, none⟩) KL.length KL.length)).setCell ⟨g + 3, 1, none⟩ (.slice (some ⟨g2, M, none⟩) KR.length KR.length) = w10 at H10 ⊢
        have bx := H10.out.b.cell 2
        simp at bx
        go_upto_region 13 with (go_at_call 99; (with_reducible refine (CJ.out _).mono ?_); rintro e w11 ⟨rfl, ht⟩; have H11 := Lib.hid (H10.out.no ht); clear ht bx; have e1 := H11.out.l.cell 2; have z1 := H11.out.l.thawed 2; have f1 := H11.out.rr.cell 2; have y1 := H11.out.rr.thawed 2; simp at e1 f1)
        have H12 := Lib.hid ((H11.out.setL (Turn.set1 w11 (g + 2) 2 (.slice (some ⟨g3, 0, none⟩) VL.length VL.length)) (ln2 := #[.bool true, .slice (some ⟨g2, 0, none⟩) KL.length KL.length, .slice (some ⟨g3, 0, none⟩) VL.length VL.length, .slice none 0 0, .string sep, .bool true, .int .i64 nxt.slot, .int .u64 nxt.gen]) (by simpa using H11.out.l.set 2 (.slice (some ⟨g3, 0, none⟩) VL.length VL.length))).setR (Turn.set1 _ (g + 3) 2 (.slice (some ⟨g3, M, none⟩) VR.length VR.length)) (rn2 := #[.bool true, .slice (some ⟨g2, M, none⟩) KR.length KR.length, .slice (some ⟨g3, M, none⟩) VR.length VR.length, .slice none 0 0, .string high, .bool bnd, .int .i64 sl, .int .u64 ge]) (by simpa using ((H11.out.setL (Turn.set1 w11 (g + 2) 2 (.slice (some ⟨g3, 0, none⟩) VL.length VL.length)) (ln2 := #[.bool true, .slice (some ⟨g2, 0, none⟩) KL.length KL.length, .slice (some ⟨g3, 0, none⟩) VL.length VL.length, .slice none 0 0, .string sep, .bool true, .int .i64 nxt.slot, .int .u64 nxt.gen]) (by simpa using H11.out.l.set 2 (.slice (some ⟨g3, 0, none⟩) VL.length VL.length))).rr.set 2 (.slice (some ⟨g3, M, none⟩) VR.length VR.length))))
        clear e1 z1 f1 y1 H11 H10 CJ hw
        generalize (w11.setCell ⟨g + 2, 2, none⟩ (.slice (some ⟨g3, 0, none⟩) VL.length VL.length)).setCell ⟨g + 3, 2, none⟩ (.slice (some ⟨g3, M, none⟩) VR.length VR.length) = w12 at H12 ⊢
        have HSP : Hid (SplR ⟨true, K, V, D, high, bnd, ⟨sl, ge⟩⟩ nxt ⟨true, KL, VL, [], sep, true, nxt⟩ ⟨true, KR, VR, [], high, bnd, ⟨sl, ge⟩⟩ sep) := Lib.hid (by
          have hm : spM ⟨true, K, V, D, high, bnd, ⟨sl, ge⟩⟩ = M := HM.out.1
          have hgd : K.getD M ⟨#[]⟩ = sep := by rw [List.getD_eq_getElem?_getD, HM.out.2.2]; rfl
          refine ⟨fun _ => ⟨by rw [hm]; exact HM.out.2.2, ?_, ?_⟩, fun h => absurd (HSO.out.1 HYE.out) h⟩
          · unfold spL
            rw [if_pos rfl, hm]
            show _ = Nd.mk true (K.take M) (V.take M) [] (K.getD M ⟨#[]⟩) true nxt
            rw [hgd, HKX.out.1, HKX.out.2.2.2.2.1]
          · unfold spR
            rw [if_pos rfl, hm]
            show _ = Nd.mk true (K.drop M) (V.drop M) [] high bnd ⟨sl, ge⟩
            rw [HKX.out.2.2.1, HKX.out.2.2.2.2.2.2.1])
        have TD := Lib.hid (Turn.refl No w12).drew
        obtain ⟨e0, e1, e2, e3, e4, e5, e6, e7⟩ := at8 (H12.out.no TD.out).l
        obtain ⟨f0, f1, f2, f3, f4, f5, f6, f7⟩ := at8 (H12.out.no TD.out).rr
        go_region_law (go_simp; go_at_call 36; (with_reducible refine (CSP.out _).mono ?_); rintro e w13 ⟨rfl, ht⟩; have H13 := Lib.hid ((H12.out.no TD.out).no ht); clear ht e0 e1 e2 e3 e4 e5 e6 e7 f0 f1 f2 f3 f4 f5 f6 f7; obtain ⟨e0, e1, e2, e3, e4, e5, e6, e7⟩ := at8 H13.out.l; obtain ⟨f0, f1, f2, f3, f4, f5, f6, f7⟩ := at8 H13.out.rr; obtain ⟨z0, z1, z2, z3, z4, z5, z6, z7⟩ := th8 H13.out.l; obtain ⟨y0, y1, y2, y3, y4, y5, y6, y7⟩ := th8 H13.out.rr)
        all_goals
          have HX := Lib.hid (H13.out.setL (turn8 w13 (g + 2) (.bool true) (.slice (some ⟨g2, 0, none⟩) KL.length KL.length) (.slice (some ⟨g3, 0, none⟩) VL.length VL.length) (.slice none 0 0) (.string sep) (.bool true) (.int .i64 nxt.slot) (.int .u64 nxt.gen)) (put8 H13.out.l _ _ _ _ _ _ _ _))
          have HX2 := Lib.hid (HX.out.setR (turn8 _ (g + 3) (.bool true) (.slice (some ⟨g2, M, none⟩) KR.length KR.length) (.slice (some ⟨g3, M, none⟩) VR.length VR.length) (.slice none 0 0) (.string high) (.bool bnd) (.int .i64 sl) (.int .u64 ge)) (put8 HX.out.rr _ _ _ _ _ _ _ _))
          generalize ((((((((((((((((w13.setCell ⟨g + 2, 0, none⟩ (.bool true)).setCell ⟨g + 2, 1, none⟩ (.slice (some ⟨g2, 0, none⟩) KL.length KL.length)).setCell ⟨g + 2, 2, none⟩ (.slice (some ⟨g3, 0, none⟩) VL.length VL.length)).setCell ⟨g + 2, 3, none⟩ (.slice none 0 0)).setCell ⟨g + 2, 4, none⟩ (.string sep)).setCell ⟨g + 2, 5, none⟩ (.bool true)).setCell ⟨g + 2, 6, none⟩ (.int .i64 nxt.slot)).setCell ⟨g + 2, 7, none⟩ (.int .u64 nxt.gen)).setCell ⟨g + 3, 0, none⟩ (.bool true)).setCell ⟨g + 3, 1, none⟩ (.slice (some ⟨g2, M, none⟩) KR.length KR.length)).setCell ⟨g + 3, 2, none⟩ (.slice (some ⟨g3, M, none⟩) VR.length VR.length)).setCell ⟨g + 3, 3, none⟩ (.slice none 0 0)).setCell ⟨g + 3, 4, none⟩ (.string high)).setCell ⟨g + 3, 5, none⟩ (.bool bnd)).setCell ⟨g + 3, 6, none⟩ (.int .i64 sl)).setCell ⟨g + 3, 7, none⟩ (.int .u64 ge)) = w14 at HX2 ⊢
          go_wp2_with fail
          (try simp only [Exit.inBlock, Exit.then])
          refine bodyPost_ret (results_cell21 rfl _ _ (g + 2) (g + 3) 79 79 _ _ (0, 0) (0, 0) _ _ (by rfl) (by rfl) HX2.out.l HX2.out.rr Tryd.underlying79 (by kernel_rfl) Tryd.underlying79 (by kernel_rfl)) rfl ?_
          have hzz : w.heap.size ≤ g + 4 := by have := HG.out; omega
          obtain ⟨ka, kb⟩ := halves_k HX2.out.own.k (by have := HM.out.2.1; omega) (by have := HMK.out; omega) HKX.out.1 HKX.out.2.2.1 hzz
          obtain ⟨xa, xb⟩ := halves_k HX2.out.own.v (by have := HM.out.2.1; have := HXL.out; omega) (by have := HM.out.2.1; have := HXL.out; omega) HKX.out.2.2.2.2.1 HKX.out.2.2.2.2.2.2.1 hzz
          exact SplRes.of ⟨true, KL, VL, [], sep, true, nxt⟩ ⟨true, KR, VR, [], high, bnd, ⟨sl, ge⟩⟩ sep rfl HSP.out (got_of (n := ⟨true, KL, VL, [], sep, true, nxt⟩) ka xa (Half.nil _ _ _ _)) (got_of (n := ⟨true, KR, VR, [], high, bnd, ⟨sl, ge⟩⟩) kb xb (Half.nil _ _ _ _)) (fun _ => ⟨rfl, rfl, rfl⟩) HX2.out.tu
      | false =>
        have HXL : Hid (D.length = K.length + 1) := Lib.hid (by exact (HYE.out.2.2.2.2.2.2 rfl).2)
        obtain ⟨KR, hKR⟩ : ∃ x, K.drop (M + 1) = x := ⟨_, rfl⟩
        obtain ⟨DL, hXL⟩ : ∃ x, D.take (M + 1) = x := ⟨_, rfl⟩
        obtain ⟨DR, hXR⟩ : ∃ x, D.drop (M + 1) = x := ⟨_, rfl⟩
        have hKRl : KR.length = K.length - (M + 1) := by rw [← hKR, List.length_drop]
        have hXLl : DL.length = M + 1 := by rw [← hXL, List.length_take]; have := HM.out.2.1; have := HXL.out; omega
        have hXRl : DR.length = D.length - (M + 1) := by rw [← hXR, List.length_drop]
        have HKX := Lib.hid (And.intro hKL (And.intro hKLl (And.intro hKR (And.intro hKRl (And.intro hXL (And.intro hXLl (And.intro hXR hXRl)))))))
        have hMK : M + 1 < K.length := by have := HM.out.1; have := HM.out.2.1; have := HYE.out.2.1 rfl; omega
        have HMK := Lib.hid hMK
        obtain ⟨g2, rfl, _, _, _, _⟩ := own_some H8.out.own.k (by omega)
        obtain ⟨g3, rfl, _, _, _, _⟩ := own_some H8.out.own.d (by have := HXL.out; omega)
        have hcast : ((M + 1 : Nat) : Int) = (M : Int) + 1 := by omega
        have CI := Lib.hid fun (W : World) => by
          have ci := halves46 g2 K.length d1 M (M + 1) KL.length KR.length W hKLl hKRl (by have := HM.out.2.1; omega) hMK (own_capN H8.out.own.k) (own_capM H8.out.own.k)
          rw [hcast] at ci
          exact ci
        have CJ := Lib.hid fun (W : World) => by
          have ci := halves47 g3 D.length d3 (M + 1) (M + 1) DL.length DR.length W hXLl hXRl (by have := HXL.out; have := HM.out.2.1; omega) (by have := HXL.out; have := HM.out.2.1; omega) (own_capN H8.out.own.d) (own_capM H8.out.own.d)
          rw [hcast] at ci
          exact ci
        clear hKL hKLl hKR hKRl hXL hXLl hXR hXRl hMK
        have hw : IntKind.i64.wrap ((M : Int) + 1) = (M : Int) + 1 := IntWalk.i64_in _ ⟨by omega, by have := HM.out.2.1; omega⟩
        have c0 := H8.out.a.cell 0
        have b1 := H8.out.b.cell 1
        simp at c0 b1
        go_upto_region 12 with (go_at_call 99; (with_reducible refine (CI.out _).mono ?_); rintro e w9 ⟨rfl, ht⟩; have H9 := Lib.hid (H8.out.no ht); clear ht c0 b1; have e1 := H9.out.l.cell 1; have z1 := H9.out.l.thawed 1; have f1 := H9.out.rr.cell 1; have y1 := H9.out.rr.thawed 1; simp at e1 f1)
        have H10 := Lib.hid ((H9.out.setL (Turn.set1 w9 (g + 2) 1 (.slice (some ⟨g2, 0, none⟩) KL.length KL.length)) (ln2 := #[.bool false, .slice (some ⟨g2, 0, none⟩) KL.length KL.length, .slice none 0 0, .slice none 0 0, .string sep, .bool true, .int .i64 nxt.slot, .int .u64 nxt.gen]) (by simpa using H9.out.l.set 1 (.slice (some ⟨g2, 0, none⟩) KL.length KL.length))).setR (Turn.set1 _ (g + 3) 1 (.slice (some ⟨g2, M + 1, none⟩) KR.length KR.length)) (rn2 := #[.bool false, .slice (some ⟨g2, M + 1, none⟩) KR.length KR.length, .slice none 0 0, .slice none 0 0, .string high, .bool bnd, .int .i64 sl, .int .u64 ge]) (by simpa using ((H9.out.setL (Turn.set1 w9 (g + 2) 1 (.slice (some ⟨g2, 0, none⟩) KL.length KL.length)) (ln2 := #[.bool false, .slice (some ⟨g2, 0, none⟩) KL.length KL.length, .slice none 0 0, .slice none 0 0, .string sep, .bool true, .int .i64 nxt.slot, .int .u64 nxt.gen]) (by simpa using H9.out.l.set 1 (.slice (some ⟨g2, 0, none⟩) KL.length KL.length))).rr.set 1 (.slice (some ⟨g2, M + 1, none⟩) KR.length KR.length))))
        clear e1 z1 f1 y1 H9 H8 CI
        generalize (w9.setCell ⟨g + 2, 1, none⟩ (.slice (some ⟨g2, 0, none⟩) KL.length KL.length)).setCell ⟨g + 3, 1, none⟩ (.slice (some ⟨g2, M + 1, none⟩) KR.length KR.length) = w10 at H10 ⊢
        have bx := H10.out.b.cell 3
        simp at bx
        go_upto_region 13 with (go_at_call 100; (with_reducible refine (CJ.out _).mono ?_); rintro e w11 ⟨rfl, ht⟩; have H11 := Lib.hid (H10.out.no ht); clear ht bx; have e1 := H11.out.l.cell 3; have z1 := H11.out.l.thawed 3; have f1 := H11.out.rr.cell 3; have y1 := H11.out.rr.thawed 3; simp at e1 f1)
        have H12 := Lib.hid ((H11.out.setL (Turn.set1 w11 (g + 2) 3 (.slice (some ⟨g3, 0, none⟩) DL.length DL.length)) (ln2 := #[.bool false, .slice (some ⟨g2, 0, none⟩) KL.length KL.length, .slice none 0 0, .slice (some ⟨g3, 0, none⟩) DL.length DL.length, .string sep, .bool true, .int .i64 nxt.slot, .int .u64 nxt.gen]) (by simpa using H11.out.l.set 3 (.slice (some ⟨g3, 0, none⟩) DL.length DL.length))).setR (Turn.set1 _ (g + 3) 3 (.slice (some ⟨g3, (M + 1) * 2, none⟩) DR.length DR.length)) (rn2 := #[.bool false, .slice (some ⟨g2, M + 1, none⟩) KR.length KR.length, .slice none 0 0, .slice (some ⟨g3, (M + 1) * 2, none⟩) DR.length DR.length, .string high, .bool bnd, .int .i64 sl, .int .u64 ge]) (by simpa using ((H11.out.setL (Turn.set1 w11 (g + 2) 3 (.slice (some ⟨g3, 0, none⟩) DL.length DL.length)) (ln2 := #[.bool false, .slice (some ⟨g2, 0, none⟩) KL.length KL.length, .slice none 0 0, .slice (some ⟨g3, 0, none⟩) DL.length DL.length, .string sep, .bool true, .int .i64 nxt.slot, .int .u64 nxt.gen]) (by simpa using H11.out.l.set 3 (.slice (some ⟨g3, 0, none⟩) DL.length DL.length))).rr.set 3 (.slice (some ⟨g3, (M + 1) * 2, none⟩) DR.length DR.length))))
        clear e1 z1 f1 y1 H11 H10 CJ hw
        generalize (w11.setCell ⟨g + 2, 3, none⟩ (.slice (some ⟨g3, 0, none⟩) DL.length DL.length)).setCell ⟨g + 3, 3, none⟩ (.slice (some ⟨g3, (M + 1) * 2, none⟩) DR.length DR.length) = w12 at H12 ⊢
        have HSP : Hid (SplR ⟨false, K, V, D, high, bnd, ⟨sl, ge⟩⟩ nxt ⟨false, KL, [], DL, sep, true, nxt⟩ ⟨false, KR, [], DR, high, bnd, ⟨sl, ge⟩⟩ sep) := Lib.hid (by
          have hm : spM ⟨false, K, V, D, high, bnd, ⟨sl, ge⟩⟩ = M := HM.out.1
          have hgd : K.getD M ⟨#[]⟩ = sep := by rw [List.getD_eq_getElem?_getD, HM.out.2.2]; rfl
          refine ⟨fun _ => ⟨by rw [hm]; exact HM.out.2.2, ?_, ?_⟩, fun h => absurd (HSO.out.1 HYE.out) h⟩
          · unfold spL
            rw [if_neg (fun h => by cases h), hm]
            show _ = Nd.mk false (K.take M) [] (D.take (M + 1)) (K.getD M ⟨#[]⟩) true nxt
            rw [hgd, HKX.out.1, HKX.out.2.2.2.2.1]
          · unfold spR
            rw [if_neg (fun h => by cases h), hm]
            show _ = Nd.mk false (K.drop (M + 1)) [] (D.drop (M + 1)) high bnd ⟨sl, ge⟩
            rw [HKX.out.2.2.1, HKX.out.2.2.2.2.2.2.1])
        have TD := Lib.hid (Turn.refl No w12).drew
        obtain ⟨e0, e1, e2, e3, e4, e5, e6, e7⟩ := at8 (H12.out.no TD.out).l
        obtain ⟨f0, f1, f2, f3, f4, f5, f6, f7⟩ := at8 (H12.out.no TD.out).rr
        go_region_law (go_simp; go_at_call 36; (with_reducible refine (CSP.out _).mono ?_); rintro e w13 ⟨rfl, ht⟩; have H13 := Lib.hid ((H12.out.no TD.out).no ht); clear ht e0 e1 e2 e3 e4 e5 e6 e7 f0 f1 f2 f3 f4 f5 f6 f7; obtain ⟨e0, e1, e2, e3, e4, e5, e6, e7⟩ := at8 H13.out.l; obtain ⟨f0, f1, f2, f3, f4, f5, f6, f7⟩ := at8 H13.out.rr; obtain ⟨z0, z1, z2, z3, z4, z5, z6, z7⟩ := th8 H13.out.l; obtain ⟨y0, y1, y2, y3, y4, y5, y6, y7⟩ := th8 H13.out.rr)
        all_goals
          have HX := Lib.hid (H13.out.setL (turn8 w13 (g + 2) (.bool false) (.slice (some ⟨g2, 0, none⟩) KL.length KL.length) (.slice none 0 0) (.slice (some ⟨g3, 0, none⟩) DL.length DL.length) (.string sep) (.bool true) (.int .i64 nxt.slot) (.int .u64 nxt.gen)) (put8 H13.out.l _ _ _ _ _ _ _ _))
          have HX2 := Lib.hid (HX.out.setR (turn8 _ (g + 3) (.bool false) (.slice (some ⟨g2, M + 1, none⟩) KR.length KR.length) (.slice none 0 0) (.slice (some ⟨g3, (M + 1) * 2, none⟩) DR.length DR.length) (.string high) (.bool bnd) (.int .i64 sl) (.int .u64 ge)) (put8 HX.out.rr _ _ _ _ _ _ _ _))
          generalize ((((((((((((((((w13.setCell ⟨g + 2, 0, none⟩ (.bool false)).setCell ⟨g + 2, 1, none⟩ (.slice (some ⟨g2, 0, none⟩) KL.length KL.length)).setCell ⟨g + 2, 2, none⟩ (.slice none 0 0)).setCell ⟨g + 2, 3, none⟩ (.slice (some ⟨g3, 0, none⟩) DL.length DL.length)).setCell ⟨g + 2, 4, none⟩ (.string sep)).setCell ⟨g + 2, 5, none⟩ (.bool true)).setCell ⟨g + 2, 6, none⟩ (.int .i64 nxt.slot)).setCell ⟨g + 2, 7, none⟩ (.int .u64 nxt.gen)).setCell ⟨g + 3, 0, none⟩ (.bool false)).setCell ⟨g + 3, 1, none⟩ (.slice (some ⟨g2, M + 1, none⟩) KR.length KR.length)).setCell ⟨g + 3, 2, none⟩ (.slice none 0 0)).setCell ⟨g + 3, 3, none⟩ (.slice (some ⟨g3, (M + 1) * 2, none⟩) DR.length DR.length)).setCell ⟨g + 3, 4, none⟩ (.string high)).setCell ⟨g + 3, 5, none⟩ (.bool bnd)).setCell ⟨g + 3, 6, none⟩ (.int .i64 sl)).setCell ⟨g + 3, 7, none⟩ (.int .u64 ge)) = w14 at HX2 ⊢
          go_wp2_with fail
          (try simp only [Exit.inBlock, Exit.then])
          refine bodyPost_ret (results_cell21 rfl _ _ (g + 2) (g + 3) 79 79 _ _ (0, 0) (0, 0) _ _ (by rfl) (by rfl) HX2.out.l HX2.out.rr Tryd.underlying79 (by kernel_rfl) Tryd.underlying79 (by kernel_rfl)) rfl ?_
          have hzz : w.heap.size ≤ g + 4 := by have := HG.out; omega
          obtain ⟨ka, kb⟩ := halves_k HX2.out.own.k (by have := HM.out.2.1; omega) (by have := HMK.out; omega) HKX.out.1 HKX.out.2.2.1 hzz
          obtain ⟨xa, xb⟩ := halves_h HX2.out.own.d (by have := HM.out.2.1; have := HXL.out; omega) (by have := HM.out.2.1; have := HXL.out; omega) HKX.out.2.2.2.2.1 HKX.out.2.2.2.2.2.2.1 hzz
          exact SplRes.of ⟨false, KL, [], DL, sep, true, nxt⟩ ⟨false, KR, [], DR, high, bnd, ⟨sl, ge⟩⟩ sep rfl HSP.out (got_of (n := ⟨false, KL, [], DL, sep, true, nxt⟩) ka (Half.nil _ _ _ _) xa) (got_of (n := ⟨false, KR, [], DR, high, bnd, ⟨sl, ge⟩⟩) kb (Half.nil _ _ _ _) xb) (fun _ => ⟨rfl, rfl, rfl⟩) HX2.out.tu
end Go.Proofs.YtfplnobnmgbgoaaDoor
namespace Go.Proofs.YtfplnobnmgbgoaaDoor
open Go.RowKit Go.Lib
set_option linter.unusedVariables false
set_option maxRecDepth 20000
set_option maxRecDepth 20000
set_option linter.unusedSimpArgs false

def KidRes (n : Nd) (key : ByteArray) (w : World) (e : Ending) (w' : World) : Prop := ∃ h is, e = .returned (.tuple #[.agg #[.int .i64 h.slot, .int .u64 h.gen], .bool is]) ∧ KidR n key h is ∧ Turn No w w'
theorem KidRes.of {n : Nd} {key : ByteArray} {w : World} {e : Ending} {w' : World} (h : Hn) (is : Bool) (h1 : e = .returned (.tuple #[.agg #[.int .i64 h.slot, .int .u64 h.gen], .bool is])) (h2 : KidR n key h is) (h3 : Turn No w w') : KidRes n key w e w' := ⟨h, is, h1, h2, h3⟩
theorem put2 {w : World} {g : Nat} {x0 x1 : Value} {t : TypeId} (h : At w g (.cells #[x0, x1] t (0, 0))) (y0 y1 : Value) : At ((w.setCell ⟨g, 0, none⟩ y0).setCell ⟨g, 1, none⟩ y1) g (.cells #[y0, y1] t (0, 0)) := by simpa using (h.set 0 y0).set 1 y1
theorem turn2 (w : World) (g : Nat) (y0 y1 : Value) : Turn (fun k => k = g) w ((w.setCell ⟨g, 0, none⟩ y0).setCell ⟨g, 1, none⟩ y1) := (Turn.set1 w g 0 y0).trans (Turn.set1 _ g 1 y1)
set_option maxRecDepth 100000 in
set_option maxHeartbeats 16000000 in
theorem kidN (leaf : Bool) (K V : List ByteArray) (D : List Hn) (high : ByteArray) (bnd : Bool) (sl ge : Int) (AK AV AD : Option Addr) (ck cv cd : Nat) (key : ByteArray) (w : World) (hin : Fits w leaf K V D high AK AV AD) :
    Calls Tryd.prog 65 #[.agg #[.bool leaf, .slice AK K.length ck, .slice AV V.length cv, .slice AD D.length cd, .string high, .bool bnd, .int .i64 sl, .int .u64 ge], .string key] w fun e w' => KidRes ⟨leaf, K, V, D, high, bnd, ⟨sl, ge⟩⟩ key w e w' := by
  have t1 : Turn No w (w.alloc (.cells #[.bool leaf, .slice AK K.length ck, .slice AV V.length cv, .slice AD D.length cd, .string high, .bool bnd, .int .i64 sl, .int .u64 ge] 79)) := (Turn.refl _ _).alloc _
  have t2 : Turn No (w.alloc (.cells #[.bool leaf, .slice AK K.length ck, .slice AV V.length cv, .slice AD D.length cd, .string high, .bool bnd, .int .i64 sl, .int .u64 ge] 79)) ((w.alloc (.cells #[.bool leaf, .slice AK K.length ck, .slice AV V.length cv, .slice AD D.length cd, .string high, .bool bnd, .int .i64 sl, .int .u64 ge] 79)).alloc (.cells #[.int .i64 0, .int .u64 0] 77)) := (Turn.refl _ _).alloc _
  have a1 := (At.new w (.cells #[.bool leaf, .slice AK K.length ck, .slice AV V.length cv, .slice AD D.length cd, .string high, .bool bnd, .int .i64 sl, .int .u64 ge] 79)).no t2
  have a2 := At.new (w.alloc (.cells #[.bool leaf, .slice AK K.length ck, .slice AV V.length cv, .slice AD D.length cd, .string high, .bool bnd, .int .i64 sl, .int .u64 ge] 79)) (.cells #[.int .i64 0, .int .u64 0] 77)
  rw [World.size_alloc] at a2
  have HB : Hid (Turn No w ((w.alloc (.cells #[.bool leaf, .slice AK K.length ck, .slice AV V.length cv, .slice AD D.length cd, .string high, .bool bnd, .int .i64 sl, .int .u64 ge] 79)).alloc (.cells #[.int .i64 0, .int .u64 0] 77)) ∧ At ((w.alloc (.cells #[.bool leaf, .slice AK K.length ck, .slice AV V.length cv, .slice AD D.length cd, .string high, .bool bnd, .int .i64 sl, .int .u64 ge] 79)).alloc (.cells #[.int .i64 0, .int .u64 0] 77)) w.heap.size (.cells #[.bool leaf, .slice AK K.length ck, .slice AV V.length cv, .slice AD D.length cd, .string high, .bool bnd, .int .i64 sl, .int .u64 ge] 79 (0, 0)) ∧ At ((w.alloc (.cells #[.bool leaf, .slice AK K.length ck, .slice AV V.length cv, .slice AD D.length cd, .string high, .bool bnd, .int .i64 sl, .int .u64 ge] 79)).alloc (.cells #[.int .i64 0, .int .u64 0] 77)) (w.heap.size + 1) (.cells #[.int .i64 0, .int .u64 0] 77 (0, 0)) ∧ True) := Lib.hid ⟨t1.trans t2, a1, a2, trivial⟩
  clear t1 t2 a1 a2
  have HR := Lib.hid hin
  have CT := Lib.hid fun (W : World) (t : Turn No w W) => takesP leaf K V D high bnd sl ge AK AV AD ck cv cd key W (HR.out.k.no t) (by have := hin.lk; omega)
  have CF := Lib.hid fun (W : World) (t : Turn No w W) => behindP leaf K V D high bnd sl ge AK AV AD ck cv cd key W (HR.out.k.no t) (by have := hin.lk; omega)
  obtain ⟨I, hI⟩ : ∃ x, plc K key + (if inK K key = true then 1 else 0) = x := ⟨_, rfl⟩
  rw [hI] at CF
  have HI := Lib.hid hI
  have hld := hin.ld
  clear hI hin
  go_enter Tryd.func65, Tryd.ntmps65
  go_upto_region 1 with fail
  generalize ((w.alloc (.cells #[.bool leaf, .slice AK K.length ck, .slice AV V.length cv, .slice AD D.length cd, .string high, .bool bnd, .int .i64 sl, .int .u64 ge] 79)).alloc (.cells #[.int .i64 0, .int .u64 0] 77)) = w1 at HB ⊢
  obtain ⟨g, hg⟩ : ∃ x, w.heap.size = x := ⟨_, rfl⟩
  rw [hg] at HB
  rw [hg]
  have HG := Lib.hid hg
  clear hg
  obtain ⟨c0, c1, c2, c3, c4, c5, c6, c7⟩ := at8 HB.out.2.1
  cases leaf with
  | true =>
    have HNO : Hid (KidR ⟨true, K, V, D, high, bnd, ⟨sl, ge⟩⟩ key ⟨0, 0⟩ false) := Lib.hid ⟨fun h => (by cases h.2.1), fun _ => ⟨rfl, rfl⟩⟩
    go_upto_region 2 with fail
    have k0 := (HB.out.2.2.1.no (Turn.refl No w1)).cell 0
    have k1 := (HB.out.2.2.1.no (Turn.refl No w1)).cell 1
    have z0 := (HB.out.2.2.1.no (Turn.refl No w1)).thawed 0
    have z1 := (HB.out.2.2.1.no (Turn.refl No w1)).thawed 1
    simp at k0 k1
    have HZ := Lib.hid (And.intro (put2 (HB.out.2.2.1.no (Turn.refl No w1)) (.int .i64 0) (.int .u64 0)) ((HB.out.1.trans (Turn.refl No w1)).then (turn2 _ (g + 1) (.int .i64 0) (.int .u64 0)) fun i hi e => by have := HG.out; omega))
    go_wp2_with fail
    generalize ((w1.setCell ⟨g + 1, 0, none⟩ (.int .i64 0)).setCell ⟨g + 1, 1, none⟩ (.int .u64 0)) = w9 at HZ ⊢
    (try simp only [Exit.inBlock, Exit.then])
    refine bodyPost_ret (results_cell11 rfl _ _ (g + 1) 77 _ (0, 0) _ (by rfl) HZ.out.1 Tryd.underlying77 (by kernel_rfl)) rfl ?_
    exact KidRes.of ⟨0, 0⟩ false rfl HNO.out HZ.out.2
  | false =>
    go_upto_if 13 with (go_at_call 67; (with_reducible refine (CT.out _ HB.out.1).mono ?_); rintro e w2 ⟨(_ | _), rfl, hb, ht⟩ <;> have H2 := Lib.hid (And.intro hb ht) <;> clear hb ht c0 c1 c2 c3 c4 c5 c6 c7)
    · have HNO : Hid (KidR ⟨false, K, V, D, high, bnd, ⟨sl, ge⟩⟩ key ⟨0, 0⟩ false) := Lib.hid ⟨fun h => (by have := H2.out.1.2 ⟨h.1, h.2.2⟩; cases this), fun _ => ⟨rfl, rfl⟩⟩
      go_upto_region 2 with fail
      have k0 := (HB.out.2.2.1.no H2.out.2).cell 0
      have k1 := (HB.out.2.2.1.no H2.out.2).cell 1
      have z0 := (HB.out.2.2.1.no H2.out.2).thawed 0
      have z1 := (HB.out.2.2.1.no H2.out.2).thawed 1
      simp at k0 k1
      have HZ := Lib.hid (And.intro (put2 (HB.out.2.2.1.no H2.out.2) (.int .i64 0) (.int .u64 0)) ((HB.out.1.trans H2.out.2).then (turn2 _ (g + 1) (.int .i64 0) (.int .u64 0)) fun i hi e => by have := HG.out; omega))
      go_wp2_with fail
      generalize ((w2.setCell ⟨g + 1, 0, none⟩ (.int .i64 0)).setCell ⟨g + 1, 1, none⟩ (.int .u64 0)) = w9 at HZ ⊢
      (try simp only [Exit.inBlock, Exit.then])
      refine bodyPost_ret (results_cell11 rfl _ _ (g + 1) 77 _ (0, 0) _ (by rfl) HZ.out.1 Tryd.underlying77 (by kernel_rfl)) rfl ?_
      exact KidRes.of ⟨0, 0⟩ false rfl HNO.out HZ.out.2
    · have HYE : Hid (RightP false K V.length D.length high bnd ∧ (bnd = true → kl key high)) := Lib.hid (by first | exact H2.out.1.1 rfl | exact H2.out.1.1 trivial)
      have hD : D.length = K.length + 1 := (HYE.out.1.2.2.2.2 rfl).2
      have hik : kix K key = I := by rw [kix_plc HYE.out.1.1, HI.out]
      have hil : I < D.length := by have := kix_le K key; omega
      obtain ⟨h, hh⟩ : ∃ h, D[I]? = some h := ⟨D[I], List.getElem?_eq_getElem hil⟩
      have HH : Hid (KidR ⟨false, K, V, D, high, bnd, ⟨sl, ge⟩⟩ key h true) := Lib.hid ⟨fun _ => ⟨rfl, by show D[kix K key]? = _; rw [hik]; exact hh⟩, fun hn => absurd ⟨HYE.out.1, rfl, HYE.out.2⟩ hn⟩
      have HHH := Lib.hid hh
      obtain ⟨b, o, hA, hx1, hx2⟩ := Row.hn HR.out.d hh
      clear hx1 hx2
      have HX : Hid (∀ W, Turn No w2 W → W.cell? ⟨b, o + I * 2, none⟩ = some (.int .i64 h.slot) ∧ W.cell? ⟨b, o + I * 2 + 1, none⟩ = some (.int .u64 h.gen)) := Lib.hid fun W t => by
        obtain ⟨b', o', hA', q0, q1⟩ := Row.hn (HR.out.d.no ((HB.out.1.trans H2.out.2).trans t)) HHH.out
        rw [hA] at hA'
        injection hA' with hA'
        injection hA' with e1 e2
        subst e1 e2
        exact ⟨q0, q1⟩
      subst hA
      have hq1 : (0 : Int) ≤ (I : Int) := by omega
      have hq2 : (I : Int) < (D.length : Int) := by omega
      have HC : Hid (∀ W, Turn No w2 W → At W g (.cells #[.bool false, .slice AK K.length ck, .slice AV V.length cv, .slice (some ⟨b, o, none⟩) D.length cd, .string high, .bool bnd, .int .i64 sl, .int .u64 ge] 79 (0, 0)) ∧ At W (g + 1) (.cells #[.int .i64 0, .int .u64 0] 77 (0, 0))) := Lib.hid fun W t => ⟨HB.out.2.1.no (H2.out.2.trans t), HB.out.2.2.1.no (H2.out.2.trans t)⟩
      clear hD hik hil hh CT
      go_upto_region 3 with fail
      have TD : Hid (Turn No w2 w2.drew) := Lib.hid (Turn.refl No w2).drew
      obtain ⟨c0, c1, c2, c3, c4, c5, c6, c7⟩ := at8 (HC.out _ TD.out).1
      go_region_law (go_simp; go_at_call 83; (with_reducible refine (CF.out _ ((HB.out.1.trans H2.out.2).trans TD.out)).mono ?_); rintro e w3 ⟨rfl, ht⟩; have H3 := Lib.hid (TD.out.trans ht); clear ht c0 c1 c2 c3 c4 c5 c6 c7; have c3 := (HC.out _ H3.out).1.cell 3; simp at c3; have k0 := (HC.out _ H3.out).2.cell 0; have k1 := (HC.out _ H3.out).2.cell 1; simp at k0 k1; have z0 := (HC.out _ H3.out).2.thawed 0; have z1 := (HC.out _ H3.out).2.thawed 1; obtain ⟨q0, q1⟩ := HX.out _ H3.out)
      all_goals
        have HZ := Lib.hid (And.intro (put2 (HC.out _ H3.out).2 (.int .i64 h.slot) (.int .u64 h.gen)) (((HB.out.1.trans H2.out.2).trans H3.out).then (turn2 _ (g + 1) (.int .i64 h.slot) (.int .u64 h.gen)) fun i hi e => by have := HG.out; omega))
        generalize ((w3.setCell ⟨g + 1, 0, none⟩ (.int .i64 h.slot)).setCell ⟨g + 1, 1, none⟩ (.int .u64 h.gen)) = w9 at HZ ⊢
        go_wp2_with fail
        (try simp only [Exit.inBlock, Exit.then])
        refine bodyPost_ret (results_cell11 rfl _ _ (g + 1) 77 _ (0, 0) _ (by rfl) HZ.out.1 Tryd.underlying77 (by kernel_rfl)) rfl ?_
        exact KidRes.of h true rfl HH.out HZ.out.2
end Go.Proofs.YtfplnobnmgbgoaaDoor
