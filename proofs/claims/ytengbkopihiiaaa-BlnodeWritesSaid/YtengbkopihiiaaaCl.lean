/-
  An answer while it is made: the node that came in, the clone, its rows.
-/
import Derived.Test.YtengbkopihiiaaaPn
namespace Go.Proofs.Ytengbkopihiiaaa
open Go.RowKit Go.Lib
set_option linter.unusedVariables false
set_option maxRecDepth 20000
set_option linter.unusedSimpArgs false

/-- What stands while an answer is made: the node that came in (block g), the answer (block r), whose rows are its own, from block Z on. -/
structure Cl (w wx : World) (g r : Nat) (node : Array Value) (Z : Nat) (leaf : Bool) (K V : List ByteArray) (D : List Hn) (high : ByteArray) (bnd : Bool) (sl ge : Int) (B1 : Option Addr) (d1 : Nat) (B2 : Option Addr) (d2 : Nat) (B3 : Option Addr) (d3 : Nat) : Prop where
  tu : Turn No w wx
  a : At wx g (.cells node 29 (0, 0))
  b : At wx r (.cells #[.bool leaf, .slice B1 K.length d1, .slice B2 V.length d2, .slice B3 D.length d3, .string high, .bool bnd, .int .i64 sl, .int .u64 ge] 29 (0, 0))
  own : Own Z wx K V D B1 d1 B2 d2 B3 d3
  dis : ∀ i, ablk B1 = some i → ¬ ablk B2 = some i
  zr : w.heap.size ≤ r
  gr : g ≠ r
  zz : w.heap.size ≤ Z
  zx : Z ≤ wx.heap.size
section
variable {w wx : World} {g r : Nat} {node : Array Value} {Z : Nat} {leaf : Bool} {K V : List ByteArray} {D : List Hn} {high : ByteArray} {bnd : Bool} {sl ge : Int} {B1 : Option Addr} {d1 : Nat} {B2 : Option Addr} {d2 : Nat} {B3 : Option Addr} {d3 : Nat}
theorem Cl.no (h : Cl w wx g r node Z leaf K V D high bnd sl ge B1 d1 B2 d2 B3 d3) {w2 : World} (t : Turn No wx w2) : Cl w w2 g r node Z leaf K V D high bnd sl ge B1 d1 B2 d2 B3 d3 :=
  ⟨h.tu.trans t, h.a.no t, h.b.no t, h.own.no t, h.dis, h.zr, h.gr, h.zz, Nat.le_trans h.zx t.size⟩
theorem Cl.thawed (h : Cl w wx g r node Z leaf K V D high bnd sl ge B1 d1 B2 d2 B3 d3) (i : Nat) : wx.frozen? ⟨r, i, none⟩ = false := h.b.thawed i
/-- The answer written anew, as it is. -/
theorem Cl.again (h : Cl w wx g r node Z leaf K V D high bnd sl ge B1 d1 B2 d2 B3 d3) : Cl w ((((((((wx.setCell ⟨r, 0, none⟩ (.bool leaf)).setCell ⟨r, 1, none⟩ (.slice B1 K.length d1)).setCell ⟨r, 2, none⟩ (.slice B2 V.length d2)).setCell ⟨r, 3, none⟩ (.slice B3 D.length d3)).setCell ⟨r, 4, none⟩ (.string high)).setCell ⟨r, 5, none⟩ (.bool bnd)).setCell ⟨r, 6, none⟩ (.int .i64 sl)).setCell ⟨r, 7, none⟩ (.int .u64 ge)) g r node Z leaf K V D high bnd sl ge B1 d1 B2 d2 B3 d3 := by
  have tw := turn8 wx r (.bool leaf) (.slice B1 K.length d1) (.slice B2 V.length d2) (.slice B3 D.length d3) (.string high) (.bool bnd) (.int .i64 sl) (.int .u64 ge)
  exact ⟨h.tu.then tw fun i hi e => by have := h.zr; omega, h.a.turn tw h.gr, put8 h.b _ _ _ _ _ _ _ _, h.own.wr h.b tw, h.dis, h.zr, h.gr, h.zz, Nat.le_trans h.zx tw.size⟩
theorem Cl.got (h : Cl w wx g r node Z leaf K V D high bnd sl ge B1 d1 B2 d2 B3 d3) : Got w.heap.size wx ⟨leaf, K, V, D, high, bnd, ⟨sl, ge⟩⟩ B1 B2 B3 :=
  Own.got (n := ⟨leaf, K, V, D, high, bnd, ⟨sl, ge⟩⟩) (h.own.from h.zz)
theorem blk_ne {w : World} {Z n c : Nat} {t s : Nat} {A : Option Addr} {xs : List Value} (h : w.ownsRow Z t s (.slice A n c) n xs) {g : Nat} {cc : Array Value} {t' : Nat} {f : Nat × Nat} (hg : At w g (.cells cc t' f)) (ht : t' ≠ t) : ablk A ≠ some g := by
  have := own_neG h hg ht
  rwa [own_ablk] at this
theorem blk_two {w : World} {Z n c : Nat} {t s : Nat} {A : Option Addr} {xs : List Value} {Z' n' c' : Nat} {t' s' : Nat} {A' : Option Addr} {xs' : List Value} (h : w.ownsRow Z t s (.slice A n c) n xs) (h' : w.ownsRow Z' t' s' (.slice A' n' c') n' xs') (ht : t ≠ t') : ∀ i, ablk A = some i → ¬ ablk A' = some i := fun i h1 h2 => by
  obtain ⟨_, cur, hat⟩ := own_at h' h2
  exact blk_ne h hat (fun e => ht e.symm) h1
theorem Cl.setK (h : Cl w wx g r node Z leaf K V D high bnd sl ge B1 d1 B2 d2 B3 d3) {w2 : World} {Kn : List ByteArray} {Bn : Option Addr} {dn : Nat} (ho : w2.ownsRow Z 9 1 (.slice Bn Kn.length dn) Kn.length (kcs Kn)) (t : Turn (fun k => ablk B1 = some k) wx w2) (hB : ∀ i, ablk Bn = some i → ablk B1 = some i ∨ wx.heap.size ≤ i) :
    Cl w (w2.setCell ⟨r, 1, none⟩ (.slice Bn Kn.length dn)) g r node Z leaf Kn V D high bnd sl ge Bn dn B2 d2 B3 d3 := by
  have tw := Turn.set1 w2 r 1 (.slice Bn Kn.length dn)
  have hb2 : At w2 r (.cells #[.bool leaf, .slice B1 K.length d1, .slice B2 V.length d2, .slice B3 D.length d3, .string high, .bool bnd, .int .i64 sl, .int .u64 ge] 29 (0, 0)) := h.b.turn t (blk_ne h.own.k h.b (by decide))
  have ha2 : At w2 g (.cells node 29 (0, 0)) := h.a.turn t (blk_ne h.own.k h.a (by decide))
  have ho2 : Own Z w2 Kn V D Bn dn B2 d2 B3 d3 := ⟨ho, own_grown h.own.v t (fun k hk e => h.dis k e (by rw [own_ablk] at hk; exact hk)), own_grown h.own.d t (fun k hk e => blk_two h.own.d h.own.k (by decide) k (by rw [own_ablk] at hk; exact hk) e)⟩
  have hlt : ∀ i, ablk B1 = some i → Z ≤ i ∧ i < wx.heap.size := fun i hi => by
    obtain ⟨hz, cur, hat⟩ := own_at h.own.k hi
    exact ⟨hz, hat.lt⟩
  refine ⟨(h.tu.then t fun i hi e => ?_).then tw fun i hi e => ?_, ha2.turn tw h.gr, by simpa using hb2.set 1 (.slice Bn Kn.length dn), ho2.wr hb2 tw, fun i h1 h2 => ?_, h.zr, h.gr, h.zz, Nat.le_trans (Nat.le_trans h.zx t.size) tw.size⟩
  · have := (hlt i e).1
    have := h.zz
    omega
  · have := h.zr
    omega
  · rcases hB i h1 with h3 | h3
    · exact h.dis i h3 h2
    · obtain ⟨_, cur, hat⟩ := own_at h.own.v h2
      have := hat.lt
      omega
theorem Cl.setV (h : Cl w wx g r node Z leaf K V D high bnd sl ge B1 d1 B2 d2 B3 d3) {w2 : World} {Vn : List ByteArray} {Bn : Option Addr} {dn : Nat} (ho : w2.ownsRow Z 9 1 (.slice Bn Vn.length dn) Vn.length (kcs Vn)) (t : Turn (fun k => ablk B2 = some k) wx w2) (hB : ∀ i, ablk Bn = some i → ablk B2 = some i ∨ wx.heap.size ≤ i) :
    Cl w (w2.setCell ⟨r, 2, none⟩ (.slice Bn Vn.length dn)) g r node Z leaf K Vn D high bnd sl ge B1 d1 Bn dn B3 d3 := by
  have tw := Turn.set1 w2 r 2 (.slice Bn Vn.length dn)
  have hb2 : At w2 r (.cells #[.bool leaf, .slice B1 K.length d1, .slice B2 V.length d2, .slice B3 D.length d3, .string high, .bool bnd, .int .i64 sl, .int .u64 ge] 29 (0, 0)) := h.b.turn t (blk_ne h.own.v h.b (by decide))
  have ha2 : At w2 g (.cells node 29 (0, 0)) := h.a.turn t (blk_ne h.own.v h.a (by decide))
  have ho2 : Own Z w2 K Vn D B1 d1 Bn dn B3 d3 := ⟨own_grown h.own.k t (fun k hk e => h.dis k (by rw [own_ablk] at hk; exact hk) e), ho, own_grown h.own.d t (fun k hk e => blk_two h.own.d h.own.v (by decide) k (by rw [own_ablk] at hk; exact hk) e)⟩
  have hlt : ∀ i, ablk B2 = some i → Z ≤ i ∧ i < wx.heap.size := fun i hi => by
    obtain ⟨hz, cur, hat⟩ := own_at h.own.v hi
    exact ⟨hz, hat.lt⟩
  refine ⟨(h.tu.then t fun i hi e => ?_).then tw fun i hi e => ?_, ha2.turn tw h.gr, by simpa using hb2.set 2 (.slice Bn Vn.length dn), ho2.wr hb2 tw, fun i h1 h2 => ?_, h.zr, h.gr, h.zz, Nat.le_trans (Nat.le_trans h.zx t.size) tw.size⟩
  · have := (hlt i e).1
    have := h.zz
    omega
  · have := h.zr
    omega
  · rcases hB i h2 with h3 | h3
    · exact h.dis i h1 h3
    · obtain ⟨_, cur, hat⟩ := own_at h.own.k h1
      have := hat.lt
      omega
theorem Cl.setD (h : Cl w wx g r node Z leaf K V D high bnd sl ge B1 d1 B2 d2 B3 d3) {w2 : World} {Dn : List Hn} {Bn : Option Addr} {dn : Nat} (ho : w2.ownsRow Z 27 2 (.slice Bn Dn.length dn) Dn.length (hcs Dn)) (t : Turn (fun k => ablk B3 = some k) wx w2) (hB : ∀ i, ablk Bn = some i → ablk B3 = some i ∨ wx.heap.size ≤ i) :
    Cl w (w2.setCell ⟨r, 3, none⟩ (.slice Bn Dn.length dn)) g r node Z leaf K V Dn high bnd sl ge B1 d1 B2 d2 Bn dn := by
  have tw := Turn.set1 w2 r 3 (.slice Bn Dn.length dn)
  have hb2 : At w2 r (.cells #[.bool leaf, .slice B1 K.length d1, .slice B2 V.length d2, .slice B3 D.length d3, .string high, .bool bnd, .int .i64 sl, .int .u64 ge] 29 (0, 0)) := h.b.turn t (blk_ne h.own.d h.b (by decide))
  have ha2 : At w2 g (.cells node 29 (0, 0)) := h.a.turn t (blk_ne h.own.d h.a (by decide))
  have ho2 : Own Z w2 K V Dn B1 d1 B2 d2 Bn dn := ⟨own_grown h.own.k t (fun k hk e => blk_two h.own.k h.own.d (by decide) k (by rw [own_ablk] at hk; exact hk) e), own_grown h.own.v t (fun k hk e => blk_two h.own.v h.own.d (by decide) k (by rw [own_ablk] at hk; exact hk) e), ho⟩
  have hlt : ∀ i, ablk B3 = some i → Z ≤ i ∧ i < wx.heap.size := fun i hi => by
    obtain ⟨hz, cur, hat⟩ := own_at h.own.d hi
    exact ⟨hz, hat.lt⟩
  refine ⟨(h.tu.then t fun i hi e => ?_).then tw fun i hi e => ?_, ha2.turn tw h.gr, by simpa using hb2.set 3 (.slice Bn Dn.length dn), ho2.wr hb2 tw, fun i h1 h2 => ?_, h.zr, h.gr, h.zz, Nat.le_trans (Nat.le_trans h.zx t.size) tw.size⟩
  · have := (hlt i e).1
    have := h.zz
    omega
  · have := h.zr
    omega
  · exact h.dis i h1 h2
theorem Cl.stK (h : Cl w wx g r node Z leaf K V D high bnd sl ge B1 d1 B2 d2 B3 d3) {w2 : World} (t : Turn (fun k => ablk B1 = some k) wx w2) : At w2 r (.cells #[.bool leaf, .slice B1 K.length d1, .slice B2 V.length d2, .slice B3 D.length d3, .string high, .bool bnd, .int .i64 sl, .int .u64 ge] 29 (0, 0)) := h.b.turn t (blk_ne h.own.k h.b (by decide))
theorem Cl.stV (h : Cl w wx g r node Z leaf K V D high bnd sl ge B1 d1 B2 d2 B3 d3) {w2 : World} (t : Turn (fun k => ablk B2 = some k) wx w2) : At w2 r (.cells #[.bool leaf, .slice B1 K.length d1, .slice B2 V.length d2, .slice B3 D.length d3, .string high, .bool bnd, .int .i64 sl, .int .u64 ge] 29 (0, 0)) := h.b.turn t (blk_ne h.own.v h.b (by decide))
theorem Cl.stD (h : Cl w wx g r node Z leaf K V D high bnd sl ge B1 d1 B2 d2 B3 d3) {w2 : World} (t : Turn (fun k => ablk B3 = some k) wx w2) : At w2 r (.cells #[.bool leaf, .slice B1 K.length d1, .slice B2 V.length d2, .slice B3 D.length d3, .string high, .bool bnd, .int .i64 sl, .int .u64 ge] 29 (0, 0)) := h.b.turn t (blk_ne h.own.d h.b (by decide))
theorem blk_lt {w : World} {Z n c : Nat} {t s : Nat} {A : Option Addr} {xs : List Value} (h : w.ownsRow Z t s (.slice A n c) n xs) {i : Nat} (hi : ablk A = some i) : Z ≤ i ∧ i < w.heap.size := by
  obtain ⟨hz, cur, hat⟩ := own_at h hi
  exact ⟨hz, hat.lt⟩
/-- A value written over in its place. -/
theorem Cl.putV {g2 : Nat} (h : Cl w wx g r node Z leaf K V D high bnd sl ge B1 d1 (some ⟨g2, 0, none⟩) d2 B3 d3) (P : Nat) (val : ByteArray) {V1 : List ByteArray} (hV : V.set P val = V1) : Cl w (wx.setCell ⟨g2, P, none⟩ (.string val)) g r node Z leaf K V1 D high bnd sl ge B1 d1 (some ⟨g2, 0, none⟩) d2 B3 d3 := by
  have tw := Turn.set1 wx g2 P (.string val)
  have hl : V1.length = V.length := by rw [← hV, List.length_set]
  have hne : ∀ i, ablk (some ⟨g2, 0, none⟩) = some i ↔ i = g2 := fun i => ⟨fun h => by injection h with h; exact h.symm, fun h => by rw [h]; rfl⟩
  have t2 : Turn (fun k => ablk (some ⟨g2, 0, none⟩) = some k) wx (wx.setCell ⟨g2, P, none⟩ (.string val)) := tw.mono fun k _ e => (hne k).2 e
  have hb := h.stV t2
  obtain ⟨hz, hlt⟩ := blk_lt h.own.v ((hne g2).2 rfl)
  refine ⟨h.tu.then tw fun i hi e => by have := h.zz; omega, h.a.turn t2 (blk_ne h.own.v h.a (by decide)), by rw [hl]; exact hb, ⟨own_grown h.own.k tw fun k hk e => h.dis k (by rw [own_ablk] at hk; exact hk) ((hne k).2 e), ?_, own_grown h.own.d tw fun k hk e => blk_two h.own.d h.own.v (by decide) k (by rw [own_ablk] at hk; exact hk) ((hne k).2 e)⟩, h.dis, h.zr, h.gr, h.zz, Nat.le_trans h.zx tw.size⟩
  have := own_set h.own.v P (.string val)
  rw [kcs_set, hV] at this
  rw [hl]
  exact this
end
end Go.Proofs.Ytengbkopihiiaaa
