/-
  Add.
  May a node be split; halves of a row.
-/
import Derived.Test.YtfplnobnmgbgoaaDoorJ7
namespace Go.Proofs.YtfplnobnmgbgoaaDoor
open Go.RowKit Go.Lib
set_option linter.unusedVariables false
set_option maxRecDepth 20000
set_option maxRecDepth 20000
set_option linter.unusedSimpArgs false

/-- An answer while it is made, with a handle beside it and a result's cell. -/
structure Ad (w wx : World) (g r : Nat) (node : Array Value) (kid : Hn) (Z : Nat) (leaf : Bool) (K V : List ByteArray) (D : List Hn) (high : ByteArray) (bnd : Bool) (sl ge : Int) (B1 : Option Addr) (d1 : Nat) (B2 : Option Addr) (d2 : Nat) (B3 : Option Addr) (d3 : Nat) : Prop where
  cl : Cl w wx g r node Z leaf K V D high bnd sl ge B1 d1 B2 d2 B3 d3
  kd : At wx (g + 1) (.cells #[.int .i64 kid.slot, .int .u64 kid.gen] 77 (0, 0))
  rs : At wx (g + 2) (.cells #[.bool false, .slice none 0 0, .slice none 0 0, .slice none 0 0, .string ⟨#[]⟩, .bool false, .int .i64 0, .int .u64 0] 79 (0, 0))
  zg : g + 3 ≤ Z
  rg : g + 3 ≤ r
section
variable {w wx : World} {g r : Nat} {node : Array Value} {kid : Hn} {Z : Nat} {leaf : Bool} {K V : List ByteArray} {D : List Hn} {high : ByteArray} {bnd : Bool} {sl ge : Int} {B1 : Option Addr} {d1 : Nat} {B2 : Option Addr} {d2 : Nat} {B3 : Option Addr} {d3 : Nat}
theorem Ad.no (h : Ad w wx g r node kid Z leaf K V D high bnd sl ge B1 d1 B2 d2 B3 d3) {w2 : World} (t : Turn No wx w2) : Ad w w2 g r node kid Z leaf K V D high bnd sl ge B1 d1 B2 d2 B3 d3 := ⟨h.cl.no t, h.kd.no t, h.rs.no t, h.zg, h.rg⟩
theorem Ad.setK (h : Ad w wx g r node kid Z leaf K V D high bnd sl ge B1 d1 B2 d2 B3 d3) {w2 : World} {Kn : List ByteArray} {Bn : Option Addr} {dn : Nat} (ho : w2.ownsRow Z 9 1 (.slice Bn Kn.length dn) Kn.length (kcs Kn)) (t : Turn (fun k => ablk B1 = some k) wx w2) (hB : ∀ i, ablk Bn = some i → ablk B1 = some i ∨ wx.heap.size ≤ i) :
    Ad w (w2.setCell ⟨r, 1, none⟩ (.slice Bn Kn.length dn)) g r node kid Z leaf Kn V D high bnd sl ge Bn dn B2 d2 B3 d3 := by
  have tw := Turn.set1 w2 r 1 (.slice Bn Kn.length dn)
  have hz := h.zg
  have hr := h.rg
  exact ⟨h.cl.setK ho t hB, (h.kd.turn t fun e => by have := (blk_lt h.cl.own.k e).1; omega).turn tw (by omega), (h.rs.turn t fun e => by have := (blk_lt h.cl.own.k e).1; omega).turn tw (by omega), h.zg, h.rg⟩
theorem Ad.setD (h : Ad w wx g r node kid Z leaf K V D high bnd sl ge B1 d1 B2 d2 B3 d3) {w2 : World} {Dn : List Hn} {Bn : Option Addr} {dn : Nat} (ho : w2.ownsRow Z 77 2 (.slice Bn Dn.length dn) Dn.length (hcs Dn)) (t : Turn (fun k => ablk B3 = some k) wx w2) (hB : ∀ i, ablk Bn = some i → ablk B3 = some i ∨ wx.heap.size ≤ i) :
    Ad w (w2.setCell ⟨r, 3, none⟩ (.slice Bn Dn.length dn)) g r node kid Z leaf K V Dn high bnd sl ge B1 d1 B2 d2 Bn dn := by
  have tw := Turn.set1 w2 r 3 (.slice Bn Dn.length dn)
  have hz := h.zg
  have hr := h.rg
  exact ⟨h.cl.setD ho t hB, (h.kd.turn t fun e => by have := (blk_lt h.cl.own.d e).1; omega).turn tw (by omega), (h.rs.turn t fun e => by have := (blk_lt h.cl.own.d e).1; omega).turn tw (by omega), h.zg, h.rg⟩
/-- The result's cell written. -/
theorem Ad.fin (h : Ad w wx g r node kid Z leaf K V D high bnd sl ge B1 d1 B2 d2 B3 d3) : At ((((((((wx.setCell ⟨g + 2, 0, none⟩ (.bool leaf)).setCell ⟨g + 2, 1, none⟩ (.slice B1 K.length d1)).setCell ⟨g + 2, 2, none⟩ (.slice B2 V.length d2)).setCell ⟨g + 2, 3, none⟩ (.slice B3 D.length d3)).setCell ⟨g + 2, 4, none⟩ (.string high)).setCell ⟨g + 2, 5, none⟩ (.bool bnd)).setCell ⟨g + 2, 6, none⟩ (.int .i64 sl)).setCell ⟨g + 2, 7, none⟩ (.int .u64 ge)) (g + 2) (.cells #[.bool leaf, .slice B1 K.length d1, .slice B2 V.length d2, .slice B3 D.length d3, .string high, .bool bnd, .int .i64 sl, .int .u64 ge] 79 (0, 0)) ∧ Got w.heap.size ((((((((wx.setCell ⟨g + 2, 0, none⟩ (.bool leaf)).setCell ⟨g + 2, 1, none⟩ (.slice B1 K.length d1)).setCell ⟨g + 2, 2, none⟩ (.slice B2 V.length d2)).setCell ⟨g + 2, 3, none⟩ (.slice B3 D.length d3)).setCell ⟨g + 2, 4, none⟩ (.string high)).setCell ⟨g + 2, 5, none⟩ (.bool bnd)).setCell ⟨g + 2, 6, none⟩ (.int .i64 sl)).setCell ⟨g + 2, 7, none⟩ (.int .u64 ge)) ⟨leaf, K, V, D, high, bnd, ⟨sl, ge⟩⟩ B1 B2 B3 ∧ (w.heap.size ≤ g → Turn No w ((((((((wx.setCell ⟨g + 2, 0, none⟩ (.bool leaf)).setCell ⟨g + 2, 1, none⟩ (.slice B1 K.length d1)).setCell ⟨g + 2, 2, none⟩ (.slice B2 V.length d2)).setCell ⟨g + 2, 3, none⟩ (.slice B3 D.length d3)).setCell ⟨g + 2, 4, none⟩ (.string high)).setCell ⟨g + 2, 5, none⟩ (.bool bnd)).setCell ⟨g + 2, 6, none⟩ (.int .i64 sl)).setCell ⟨g + 2, 7, none⟩ (.int .u64 ge))) := by
  have tw := turn8 wx (g + 2) (.bool leaf) (.slice B1 K.length d1) (.slice B2 V.length d2) (.slice B3 D.length d3) (.string high) (.bool bnd) (.int .i64 sl) (.int .u64 ge)
  exact ⟨put8 h.rs _ _ _ _ _ _ _ _, Own.got (n := ⟨leaf, K, V, D, high, bnd, ⟨sl, ge⟩⟩) ((h.cl.own.wr h.rs tw).from h.cl.zz), fun hg => h.cl.tu.then tw fun i hi e => by omega⟩
end
def AddRes (n : Nd) (sep : ByteArray) (kid : Hn) (w : World) (e : Ending) (w' : World) : Prop :=
  ∃ m BK dk BV dv BD dd, e = .returned (.agg #[.bool m.leaf, .slice BK m.keys.length dk, .slice BV m.vals.length dv, .slice BD m.kids.length dd, .string m.high, .bool m.bnd, .int .i64 m.nx.slot, .int .u64 m.nx.gen]) ∧ AddR n sep kid m ∧ Got w.heap.size w' m BK BV BD ∧ Turn No w w'
theorem AddRes.of {n : Nd} {sep : ByteArray} {kid : Hn} {w : World} {e : Ending} {w' : World} (m : Nd) {BK BV BD : Option Addr} {dk dv dd : Nat} (h1 : e = .returned (.agg #[.bool m.leaf, .slice BK m.keys.length dk, .slice BV m.vals.length dv, .slice BD m.kids.length dd, .string m.high, .bool m.bnd, .int .i64 m.nx.slot, .int .u64 m.nx.gen])) (h2 : AddR n sep kid m) (h3 : Got w.heap.size w' m BK BV BD) (h4 : Turn No w w') : AddRes n sep kid w e w' :=
  ⟨m, BK, dk, BV, dv, BD, dd, h1, h2, h3, h4⟩
set_option maxRecDepth 100000 in
set_option maxHeartbeats 16000000 in
theorem addN (leaf : Bool) (K V : List ByteArray) (D : List Hn) (high : ByteArray) (bnd : Bool) (sl ge : Int) (AK AV AD : Option Addr) (ck cv cd : Nat) (key : ByteArray) (kid : Hn) (w : World) (hin : Fits w leaf K V D high AK AV AD) (hk : Fit key) :
    Calls Tryd.prog 73 #[.agg #[.bool leaf, .slice AK K.length ck, .slice AV V.length cv, .slice AD D.length cd, .string high, .bool bnd, .int .i64 sl, .int .u64 ge], .string key, .agg #[.int .i64 kid.slot, .int .u64 kid.gen]] w fun e w' => AddRes ⟨leaf, K, V, D, high, bnd, ⟨sl, ge⟩⟩ key kid w e w' := by
  have CS := Lib.hid fun (W : World) => clone_any key hk W
  have t1 : Turn No w (w.alloc (.cells #[.bool leaf, .slice AK K.length ck, .slice AV V.length cv, .slice AD D.length cd, .string high, .bool bnd, .int .i64 sl, .int .u64 ge] 79)) := (Turn.refl _ _).alloc _
  have t2 : Turn No (w.alloc (.cells #[.bool leaf, .slice AK K.length ck, .slice AV V.length cv, .slice AD D.length cd, .string high, .bool bnd, .int .i64 sl, .int .u64 ge] 79)) ((w.alloc (.cells #[.bool leaf, .slice AK K.length ck, .slice AV V.length cv, .slice AD D.length cd, .string high, .bool bnd, .int .i64 sl, .int .u64 ge] 79)).alloc (.cells #[.int .i64 kid.slot, .int .u64 kid.gen] 77)) := (Turn.refl _ _).alloc _
  have t3 : Turn No ((w.alloc (.cells #[.bool leaf, .slice AK K.length ck, .slice AV V.length cv, .slice AD D.length cd, .string high, .bool bnd, .int .i64 sl, .int .u64 ge] 79)).alloc (.cells #[.int .i64 kid.slot, .int .u64 kid.gen] 77)) (((w.alloc (.cells #[.bool leaf, .slice AK K.length ck, .slice AV V.length cv, .slice AD D.length cd, .string high, .bool bnd, .int .i64 sl, .int .u64 ge] 79)).alloc (.cells #[.int .i64 kid.slot, .int .u64 kid.gen] 77)).alloc (.cells #[.bool false, .slice none 0 0, .slice none 0 0, .slice none 0 0, .string ⟨#[]⟩, .bool false, .int .i64 0, .int .u64 0] 79)) := (Turn.refl _ _).alloc _
  have a1 := ((At.new w (.cells #[.bool leaf, .slice AK K.length ck, .slice AV V.length cv, .slice AD D.length cd, .string high, .bool bnd, .int .i64 sl, .int .u64 ge] 79)).no t2).no t3
  have a2 := (At.new (w.alloc (.cells #[.bool leaf, .slice AK K.length ck, .slice AV V.length cv, .slice AD D.length cd, .string high, .bool bnd, .int .i64 sl, .int .u64 ge] 79)) (.cells #[.int .i64 kid.slot, .int .u64 kid.gen] 77)).no t3
  have a3 := At.new ((w.alloc (.cells #[.bool leaf, .slice AK K.length ck, .slice AV V.length cv, .slice AD D.length cd, .string high, .bool bnd, .int .i64 sl, .int .u64 ge] 79)).alloc (.cells #[.int .i64 kid.slot, .int .u64 kid.gen] 77)) (.cells #[.bool false, .slice none 0 0, .slice none 0 0, .slice none 0 0, .string ⟨#[]⟩, .bool false, .int .i64 0, .int .u64 0] 79)
  rw [World.size_alloc] at a2 a3
  rw [World.size_alloc] at a3
  have HB : Hid (Turn No w (((w.alloc (.cells #[.bool leaf, .slice AK K.length ck, .slice AV V.length cv, .slice AD D.length cd, .string high, .bool bnd, .int .i64 sl, .int .u64 ge] 79)).alloc (.cells #[.int .i64 kid.slot, .int .u64 kid.gen] 77)).alloc (.cells #[.bool false, .slice none 0 0, .slice none 0 0, .slice none 0 0, .string ⟨#[]⟩, .bool false, .int .i64 0, .int .u64 0] 79)) ∧ At (((w.alloc (.cells #[.bool leaf, .slice AK K.length ck, .slice AV V.length cv, .slice AD D.length cd, .string high, .bool bnd, .int .i64 sl, .int .u64 ge] 79)).alloc (.cells #[.int .i64 kid.slot, .int .u64 kid.gen] 77)).alloc (.cells #[.bool false, .slice none 0 0, .slice none 0 0, .slice none 0 0, .string ⟨#[]⟩, .bool false, .int .i64 0, .int .u64 0] 79)) w.heap.size (.cells #[.bool leaf, .slice AK K.length ck, .slice AV V.length cv, .slice AD D.length cd, .string high, .bool bnd, .int .i64 sl, .int .u64 ge] 79 (0, 0)) ∧ At (((w.alloc (.cells #[.bool leaf, .slice AK K.length ck, .slice AV V.length cv, .slice AD D.length cd, .string high, .bool bnd, .int .i64 sl, .int .u64 ge] 79)).alloc (.cells #[.int .i64 kid.slot, .int .u64 kid.gen] 77)).alloc (.cells #[.bool false, .slice none 0 0, .slice none 0 0, .slice none 0 0, .string ⟨#[]⟩, .bool false, .int .i64 0, .int .u64 0] 79)) (w.heap.size + 1) (.cells #[.int .i64 kid.slot, .int .u64 kid.gen] 77 (0, 0)) ∧ At (((w.alloc (.cells #[.bool leaf, .slice AK K.length ck, .slice AV V.length cv, .slice AD D.length cd, .string high, .bool bnd, .int .i64 sl, .int .u64 ge] 79)).alloc (.cells #[.int .i64 kid.slot, .int .u64 kid.gen] 77)).alloc (.cells #[.bool false, .slice none 0 0, .slice none 0 0, .slice none 0 0, .string ⟨#[]⟩, .bool false, .int .i64 0, .int .u64 0] 79)) (w.heap.size + 2) (.cells #[.bool false, .slice none 0 0, .slice none 0 0, .slice none 0 0, .string ⟨#[]⟩, .bool false, .int .i64 0, .int .u64 0] 79 (0, 0)) ∧ (((w.alloc (.cells #[.bool leaf, .slice AK K.length ck, .slice AV V.length cv, .slice AD D.length cd, .string high, .bool bnd, .int .i64 sl, .int .u64 ge] 79)).alloc (.cells #[.int .i64 kid.slot, .int .u64 kid.gen] 77)).alloc (.cells #[.bool false, .slice none 0 0, .slice none 0 0, .slice none 0 0, .string ⟨#[]⟩, .bool false, .int .i64 0, .int .u64 0] 79)).heap.size = w.heap.size + 3) := Lib.hid ⟨(t1.trans t2).trans t3, a1, a2, a3, by simp⟩
  clear t1 t2 t3 a1 a2 a3 hk
  have HR := Lib.hid hin
  have CN := Lib.hid fun (W : World) (t : Turn No w W) => cloneN leaf K V D high bnd sl ge AK AV AD ck cv cd W (HR.out.k.no t) (HR.out.v.no t) (HR.out.d.no t) hin.fk hin.fv hin.fh (by have := hin.lk; omega) (by have := hin.lv; omega) (by have := hin.ld; omega)
  have CT := Lib.hid fun (W : World) (t : Turn No w W) => takesP leaf K V D high bnd sl ge AK AV AD ck cv cd key W (HR.out.k.no t) (by have := hin.lk; omega)
  have CF := Lib.hid fun (W : World) (t : Turn No w W) => findP leaf K V D high bnd sl ge AK AV AD ck cv cd key W (HR.out.k.no t) (by have := hin.lk; omega)
  have hPle := plc_le K key
  have HPL := Lib.hid (And.intro hPle (And.intro hin.lk hin.ld))
  obtain ⟨P, hP⟩ : ∃ x, plc K key = x := ⟨_, rfl⟩
  obtain ⟨Q, hQ⟩ : ∃ x, inK K key = x := ⟨_, rfl⟩
  rw [hP, hQ] at CF
  rw [hP] at HPL
  have HPQ := Lib.hid (And.intro hP hQ)
  clear hP hQ hin hPle
  go_enter Tryd.func73, Tryd.ntmps73
  go_upto_region 1 with fail
  obtain ⟨w1, hw1⟩ : ∃ x, (((w.alloc (.cells #[.bool leaf, .slice AK K.length ck, .slice AV V.length cv, .slice AD D.length cd, .string high, .bool bnd, .int .i64 sl, .int .u64 ge] 79)).alloc (.cells #[.int .i64 kid.slot, .int .u64 kid.gen] 77)).alloc (.cells #[.bool false, .slice none 0 0, .slice none 0 0, .slice none 0 0, .string ⟨#[]⟩, .bool false, .int .i64 0, .int .u64 0] 79)) = x := ⟨_, rfl⟩
  rw [hw1] at HB
  rw [hw1]
  obtain ⟨g, hg⟩ : ∃ x, w.heap.size = x := ⟨_, rfl⟩
  rw [hg] at HB
  rw [hg]
  have HG := Lib.hid hg
  clear hg hw1
  obtain ⟨c0, c1, c2, c3, c4, c5, c6, c7⟩ := at8 HB.out.2.1
  go_upto_region 2 with (go_at_call 66; (with_reducible refine (CN.out _ HB.out.1).mono ?_); rintro e w2 ⟨B1, d1, B2, d2, B3, d3, rfl, ho, hd, ht⟩; have H2 := Lib.hid (And.intro ho (And.intro hd ht)); clear ho hd ht c0 c1 c2 c3 c4 c5 c6 c7)
  obtain ⟨r, hr⟩ : ∃ x, w2.heap.size = x := ⟨_, rfl⟩
  rw [hr]
  have H3 : Hid (Ad w (w2.alloc (.cells #[.bool leaf, .slice B1 K.length d1, .slice B2 V.length d2, .slice B3 D.length d3, .string high, .bool bnd, .int .i64 sl, .int .u64 ge] 79)) g r #[.bool leaf, .slice AK K.length ck, .slice AV V.length cv, .slice AD D.length cd, .string high, .bool bnd, .int .i64 sl, .int .u64 ge] kid (g + 3) leaf K V D high bnd sl ge B1 d1 B2 d2 B3 d3) := Lib.hid (by
    have hs := HB.out.2.2.2.2
    have hgg := HG.out
    have sz := H2.out.2.2.size
    have tn : Turn No w2 (w2.alloc (.cells #[.bool leaf, .slice B1 K.length d1, .slice B2 V.length d2, .slice B3 D.length d3, .string high, .bool bnd, .int .i64 sl, .int .u64 ge] 79)) := (Turn.refl _ _).alloc _
    have a9 := At.new w2 (.cells #[.bool leaf, .slice B1 K.length d1, .slice B2 V.length d2, .slice B3 D.length d3, .string high, .bool bnd, .int .i64 sl, .int .u64 ge] 79)
    rw [hr] at a9
    have hA : ∀ {i : Nat} {o : Obj}, At w1 i o → i < g + 3 → At (w2.alloc (.cells #[.bool leaf, .slice B1 K.length d1, .slice B2 V.length d2, .slice B3 D.length d3, .string high, .bool bnd, .int .i64 sl, .int .u64 ge] 79)) i o := fun h hi => (h.no H2.out.2.2).no tn
    refine ⟨⟨(HB.out.1.trans H2.out.2.2).trans tn, hA HB.out.2.1 (by omega), a9, (H2.out.1.from (by omega)).no tn, H2.out.2.1, by omega, by omega, by omega, ?_⟩, hA HB.out.2.2.1 (by omega), hA HB.out.2.2.2.1 (by omega), by omega, by omega⟩
    have := tn.size
    omega)
  clear H2 HB CN hr
  generalize (w2.alloc (.cells #[.bool leaf, .slice B1 K.length d1, .slice B2 V.length d2, .slice B3 D.length d3, .string high, .bool bnd, .int .i64 sl, .int .u64 ge] 79)) = w3 at H3 ⊢
  obtain ⟨c0, c1, c2, c3, c4, c5, c6, c7⟩ := at8 H3.out.cl.a
  go_upto_region 3 with (go_at_call 35; (with_reducible refine (CF.out _ H3.out.cl.tu).mono ?_); rintro e w4 ⟨rfl, ht⟩; have H4 := Lib.hid (H3.out.no ht); clear ht c0 c1 c2 c3 c4 c5 c6 c7)
  clear H3 CF
  have hw : IntKind.i64.wrap ((P : Int) + 1) = (P : Int) + 1 := IntWalk.i64_in _ ⟨by have := HPL.out; omega, by have := HPL.out; omega⟩
  cases Q with
  | true =>
    have HNO : Hid (¬ AddO ⟨leaf, K, V, D, high, bnd, ⟨sl, ge⟩⟩ key) := Lib.hid fun h => h.2.2.2 (inK_iff.1 HPQ.out.2)
    go_upto_region 4 with fail
    obtain ⟨e0, e1, e2, e3, e4, e5, e6, e7⟩ := at8 H4.out.cl.b
    obtain ⟨r0, r1, r2, r3, r4, r5, r6, r7⟩ := at8 H4.out.rs
    obtain ⟨z0, z1, z2, z3, z4, z5, z6, z7⟩ := th8 H4.out.rs
    have HZ := Lib.hid H4.out.fin
    go_wp2_with fail
    generalize ((((((((w4.setCell ⟨g + 2, 0, none⟩ (.bool leaf)).setCell ⟨g + 2, 1, none⟩ (.slice B1 K.length d1)).setCell ⟨g + 2, 2, none⟩ (.slice B2 V.length d2)).setCell ⟨g + 2, 3, none⟩ (.slice B3 D.length d3)).setCell ⟨g + 2, 4, none⟩ (.string high)).setCell ⟨g + 2, 5, none⟩ (.bool bnd)).setCell ⟨g + 2, 6, none⟩ (.int .i64 sl)).setCell ⟨g + 2, 7, none⟩ (.int .u64 ge)) = w19 at HZ ⊢
    (try simp only [Exit.inBlock, Exit.then])
    refine bodyPost_ret (results_cell_row rfl _ _ (g + 2) 79 _ (0, 0) _ (by rfl) HZ.out.1 Tryd.underlying79 rfl (by kernel_rfl)) rfl ?_
    exact AddRes.of ⟨leaf, K, V, D, high, bnd, ⟨sl, ge⟩⟩ rfl ⟨fun h => absurd h HNO.out, fun _ => rfl⟩ HZ.out.2.1 (HZ.out.2.2 (by rw [HG.out]; exact Nat.le_refl _))
  | false =>
    cases leaf with
    | true =>
      have HNO : Hid (¬ AddO ⟨true, K, V, D, high, bnd, ⟨sl, ge⟩⟩ key) := Lib.hid fun h => by cases h.2.1
      obtain ⟨c0, c1, c2, c3, c4, c5, c6, c7⟩ := at8 H4.out.cl.a
      go_upto_region 4 with fail
      obtain ⟨e0, e1, e2, e3, e4, e5, e6, e7⟩ := at8 H4.out.cl.b
      obtain ⟨r0, r1, r2, r3, r4, r5, r6, r7⟩ := at8 H4.out.rs
      obtain ⟨z0, z1, z2, z3, z4, z5, z6, z7⟩ := th8 H4.out.rs
      have HZ := Lib.hid H4.out.fin
      go_wp2_with fail
      generalize ((((((((w4.setCell ⟨g + 2, 0, none⟩ (.bool true)).setCell ⟨g + 2, 1, none⟩ (.slice B1 K.length d1)).setCell ⟨g + 2, 2, none⟩ (.slice B2 V.length d2)).setCell ⟨g + 2, 3, none⟩ (.slice B3 D.length d3)).setCell ⟨g + 2, 4, none⟩ (.string high)).setCell ⟨g + 2, 5, none⟩ (.bool bnd)).setCell ⟨g + 2, 6, none⟩ (.int .i64 sl)).setCell ⟨g + 2, 7, none⟩ (.int .u64 ge)) = w19 at HZ ⊢
      (try simp only [Exit.inBlock, Exit.then])
      refine bodyPost_ret (results_cell_row rfl _ _ (g + 2) 79 _ (0, 0) _ (by rfl) HZ.out.1 Tryd.underlying79 rfl (by kernel_rfl)) rfl ?_
      exact AddRes.of ⟨true, K, V, D, high, bnd, ⟨sl, ge⟩⟩ rfl ⟨fun h => absurd h HNO.out, fun _ => rfl⟩ HZ.out.2.1 (HZ.out.2.2 (by rw [HG.out]; exact Nat.le_refl _))
    | false =>
      obtain ⟨c0, c1, c2, c3, c4, c5, c6, c7⟩ := at8 H4.out.cl.a
      go_upto_if 28 with (go_at_call 67; (with_reducible refine (CT.out _ H4.out.cl.tu).mono ?_); rintro e w5 ⟨(_ | _), rfl, hb, ht⟩ <;> have H5 := Lib.hid (And.intro hb (H4.out.no ht)) <;> clear hb ht c0 c1 c2 c3 c4 c5 c6 c7)
      · have HNO : Hid (¬ AddO ⟨false, K, V, D, high, bnd, ⟨sl, ge⟩⟩ key) := Lib.hid fun h => by have := H5.out.1.2 ⟨h.1, h.2.2.1⟩; cases this
        have H6 := Lib.hid H5.out.2
        go_upto_region 4 with fail
        obtain ⟨e0, e1, e2, e3, e4, e5, e6, e7⟩ := at8 H6.out.cl.b
        obtain ⟨r0, r1, r2, r3, r4, r5, r6, r7⟩ := at8 H6.out.rs
        obtain ⟨z0, z1, z2, z3, z4, z5, z6, z7⟩ := th8 H6.out.rs
        have HZ := Lib.hid H6.out.fin
        go_wp2_with fail
        generalize ((((((((w5.setCell ⟨g + 2, 0, none⟩ (.bool false)).setCell ⟨g + 2, 1, none⟩ (.slice B1 K.length d1)).setCell ⟨g + 2, 2, none⟩ (.slice B2 V.length d2)).setCell ⟨g + 2, 3, none⟩ (.slice B3 D.length d3)).setCell ⟨g + 2, 4, none⟩ (.string high)).setCell ⟨g + 2, 5, none⟩ (.bool bnd)).setCell ⟨g + 2, 6, none⟩ (.int .i64 sl)).setCell ⟨g + 2, 7, none⟩ (.int .u64 ge)) = w19 at HZ ⊢
        (try simp only [Exit.inBlock, Exit.then])
        refine bodyPost_ret (results_cell_row rfl _ _ (g + 2) 79 _ (0, 0) _ (by rfl) HZ.out.1 Tryd.underlying79 rfl (by kernel_rfl)) rfl ?_
        exact AddRes.of ⟨false, K, V, D, high, bnd, ⟨sl, ge⟩⟩ rfl ⟨fun h => absurd h HNO.out, fun _ => rfl⟩ HZ.out.2.1 (HZ.out.2.2 (by rw [HG.out]; exact Nat.le_refl _))
      · have HYE : Hid (RightP false K V.length D.length high bnd ∧ (bnd = true → kl key high)) := Lib.hid (by first | exact H5.out.1.1 rfl | exact H5.out.1.1 trivial)
        have H6 := Lib.hid H5.out.2
        clear H4 H5 CT
        have hDl : D.length = K.length + 1 := (HYE.out.1.2.2.2.2 rfl).2
        obtain ⟨K1, hK1⟩ : ∃ x, ins K P key = x := ⟨_, rfl⟩
        obtain ⟨D1, hD1⟩ : ∃ x, ins D (P + 1) kid = x := ⟨_, rfl⟩
        have hKl : K1.length = K.length + 1 := by rw [← hK1]; exact ins_length K HPL.out.1 key
        have hVl : D1.length = D.length + 1 := by rw [← hD1]; exact ins_length D (by have := HPL.out.1; omega) kid
        have HKD := Lib.hid (And.intro hK1 (And.intro hD1 (And.intro hKl (And.intro hVl hDl))))
        have CI := Lib.hid fun (W : World) (h : Ad w W g r #[.bool false, .slice AK K.length ck, .slice AV V.length cv, .slice AD D.length cd, .string high, .bool bnd, .int .i64 sl, .int .u64 ge] kid (g + 3) false K V D high bnd sl ge B1 d1 B2 d2 B3 d3) => by
          have tn : Turn No W (W.alloc (.cells #[.string key] 9)) := (Turn.refl _ _).alloc _
          have ha := h.no tn
          have ci := insK K HPL.out.1 ha.cl.own.k (by have := HPL.out.2.1; omega) W.heap.size key (At.new _ _) (fun e => by have := (blk_lt h.cl.own.k e).2; omega) ha.cl.zx
          rw [hK1, ← hKl] at ci
          exact ci
        clear hK1 hD1 hKl hVl hDl
        have TD := Lib.hid (Turn.refl No w5).drew
        have e1 := (H6.out.no TD.out).cl.b.cell 1
        simp at e1
        go_upto_region 5 with fail
        go_cut [31] from 30 to 37 (fun s wx => ∃ B4 d4, s = .slice B1 K.length d1 ∧ Hid (Ad w wx g r #[.bool false, .slice AK K.length ck, .slice AV V.length cv, .slice AD D.length cd, .string high, .bool bnd, .int .i64 sl, .int .u64 ge] kid (g + 3) false K1 V D high bnd sl ge (some ⟨B4, 0, none⟩) d4 B2 d2 B3 d3))
        case first =>
          go_region_law (first | (go_simp; go_at_call 36; (with_reducible refine (CS.out _).mono ?_); rintro e w6 ⟨rfl, ht⟩; have H7 := Lib.hid ((H6.out.no TD.out).no ht); clear ht e1; have e1 := H7.out.cl.b.cell 1; have f1 := (H7.out.no ((Turn.refl No w6).alloc (.cells #[.string key] 9))).cl.b.cell 1; simp at e1 f1) | (go_simp; go_at_call 68; (with_reducible refine (CI.out _ H7.out).mono ?_); rintro e w8 ⟨B4, d4, rfl, ho, ht, hB⟩; have HA := Lib.hid (H7.out.no ((Turn.refl No w6).alloc (.cells #[.string key] 9))); have H9 := Lib.hid (HA.out.setK ho ht (fun i hi => by injection hi with hi; subst hi; exact hB)); obtain ⟨y1, z1⟩ := And.intro ((HA.out.cl.stK ht).cell 1) ((HA.out.cl.stK ht).thawed 1); simp at y1; clear ho ht hB))
          all_goals go_wp2_with fail
          all_goals go_meet
          all_goals exact ⟨B4, d4, rfl, H9⟩
        case rest =>
          obtain ⟨B4, d4, rfl, H9⟩ := hcut
          generalize wc = w9 at H9 ⊢
          clear e1 CI H6
          have tn : Turn No w9 (w9.alloc (.cells #[.int .i64 kid.slot, .int .u64 kid.gen] 77)) := (Turn.refl _ _).alloc _
          have HA := Lib.hid (H9.out.no tn)
          have ci := insH D (i := P + 1) (by have := HPL.out.1; have := HKD.out.2.2.2.2; omega) HA.out.cl.own.d (by have := HPL.out.2.2; omega) w9.heap.size kid (At.new _ _) (fun h => by have := (blk_lt H9.out.cl.own.d h).2; omega) HA.out.cl.zx
          rw [HKD.out.2.1, ← HKD.out.2.2.2.1, show ((P + 1 : Nat) : Int) = (P : Int) + 1 by omega] at ci
          have CI := Lib.hid ci
          have e3 := H9.out.cl.b.cell 3
          have k0 := H9.out.kd.cell 0
          have k1 := H9.out.kd.cell 1
          simp at e3 k0 k1
          clear tn ci
          go_upto_region 6 with fail
          go_upto_region 7 with (go_at_call 90; (with_reducible refine CI.out.mono ?_); rintro e w10 ⟨B5, d5, rfl, ho, ht, hB⟩; have H10 := Lib.hid (HA.out.setD ho ht (fun i hi => by injection hi with hi; subst hi; exact hB)); obtain ⟨y1, z1⟩ := And.intro ((HA.out.cl.stD ht).cell 3) ((HA.out.cl.stD ht).thawed 3); simp at y1; clear ho ht hB)
          clear e3 k0 k1 y1 z1 CI HA H9
          generalize w10.setCell ⟨r, 3, none⟩ (.slice (some ⟨B5, 0, none⟩) D1.length d5) = w11 at H10 ⊢
          have HAD : Hid (AddR ⟨false, K, V, D, high, bnd, ⟨sl, ge⟩⟩ key kid ⟨false, K1, V, D1, high, bnd, ⟨sl, ge⟩⟩) := Lib.hid (by
            refine ⟨fun _ => ?_, fun h => absurd ⟨HYE.out.1, rfl, HYE.out.2, inK_no.1 HPQ.out.2⟩ h⟩
            show _ = Nd.mk false (ins K (plc K key) key) V (ins D (plc K key + 1) kid) high bnd ⟨sl, ge⟩
            rw [HPQ.out.1, HKD.out.1, HKD.out.2.1])
          obtain ⟨e0, e1, e2, e3, e4, e5, e6, e7⟩ := at8 H10.out.cl.b
          obtain ⟨r0, r1, r2, r3, r4, r5, r6, r7⟩ := at8 H10.out.rs
          obtain ⟨z0, z1, z2, z3, z4, z5, z6, z7⟩ := th8 H10.out.rs
          have HZ := Lib.hid H10.out.fin
          go_wp2_with fail
          generalize ((((((((w11.setCell ⟨g + 2, 0, none⟩ (.bool false)).setCell ⟨g + 2, 1, none⟩ (.slice (some ⟨B4, 0, none⟩) K1.length d4)).setCell ⟨g + 2, 2, none⟩ (.slice B2 V.length d2)).setCell ⟨g + 2, 3, none⟩ (.slice (some ⟨B5, 0, none⟩) D1.length d5)).setCell ⟨g + 2, 4, none⟩ (.string high)).setCell ⟨g + 2, 5, none⟩ (.bool bnd)).setCell ⟨g + 2, 6, none⟩ (.int .i64 sl)).setCell ⟨g + 2, 7, none⟩ (.int .u64 ge)) = w19 at HZ ⊢
          (try simp only [Exit.inBlock, Exit.then])
          refine bodyPost_ret (results_cell_row rfl _ _ (g + 2) 79 _ (0, 0) _ (by rfl) HZ.out.1 Tryd.underlying79 rfl (by kernel_rfl)) rfl ?_
          exact AddRes.of ⟨false, K1, V, D1, high, bnd, ⟨sl, ge⟩⟩ rfl HAD.out HZ.out.2.1 (HZ.out.2.2 (by rw [HG.out]; exact Nat.le_refl _))
end Go.Proofs.YtfplnobnmgbgoaaDoor
namespace Go.Proofs.YtfplnobnmgbgoaaDoor
open Go.RowKit Go.Lib
set_option linter.unusedVariables false
set_option maxRecDepth 20000
set_option maxRecDepth 20000
set_option linter.unusedSimpArgs false

/-- May a node be split? -/
def PartsP (leaf : Bool) (K : List ByteArray) (nv nd : Nat) (high : ByteArray) (bnd : Bool) : Prop := (leaf = true → 2 ≤ K.length) ∧ (leaf = false → 3 ≤ K.length) ∧ RightP leaf K nv nd high bnd
set_option maxHeartbeats 4000000 in
theorem partsP (leaf : Bool) (K V : List ByteArray) (D : List Hn) (high : ByteArray) (bnd : Bool) (sl ge : Int) (AK AV AD : Option Addr) (ck cv cd : Nat) (w : World) (hK : Row w AK (kcs K)) (hn : K.length ≤ 100000) :
    Calls Tryd.prog 98 #[.agg #[.bool leaf, .slice AK K.length ck, .slice AV V.length cv, .slice AD D.length cd, .string high, .bool bnd, .int .i64 sl, .int .u64 ge]] w fun e w' => BRes (PartsP leaf K V.length D.length high bnd) w e w' := by
  have HB := Lib.hid (And.intro ((Turn.refl No w).alloc (.cells #[.bool leaf, .slice AK K.length ck, .slice AV V.length cv, .slice AD D.length cd, .string high, .bool bnd, .int .i64 sl, .int .u64 ge] 79)) (At.new w (.cells #[.bool leaf, .slice AK K.length ck, .slice AV V.length cv, .slice AD D.length cd, .string high, .bool bnd, .int .i64 sl, .int .u64 ge] 79)))
  have HR := Lib.hid (hK.no HB.out.1)
  clear hK
  go_enter Tryd.func98, Tryd.ntmps98
  go_upto_region 1 with fail
  generalize w.alloc (.cells #[.bool leaf, .slice AK K.length ck, .slice AV V.length cv, .slice AD D.length cd, .string high, .bool bnd, .int .i64 sl, .int .u64 ge] 79) = w1 at HB HR ⊢
  generalize w.heap.size = g at HB ⊢
  have CI := Lib.hid (rightQ leaf K V D high bnd sl ge AK AV AD ck cv cd w1 HR.out hn)
  obtain ⟨c0, c1, c2, c3, c4, c5, c6, c7⟩ := at8 HB.out.2
  have TW := Lib.hid HB.out.1
  cases leaf with
  | true =>
    by_cases h2 : 2 ≤ K.length
    · have q2 : (2 : Int) ≤ (K.length : Int) := by omega
      have H2N := Lib.hid h2
      clear h2
      go_wp2_with (go_at_call 80; (with_reducible refine CI.out.mono ?_); rintro e w2 ⟨bb, rfl, hb, ht⟩; have H2 := Lib.hid (And.intro hb ht); clear hb ht)
      go_ret
      exact BRes.of bb rfl ⟨fun h => ⟨fun _ => H2N.out, fun h => (by cases h), H2.out.1.1 h⟩, fun h => H2.out.1.2 h.2.2⟩ (TW.out.trans H2.out.2)
    · have q2 : ¬ (2 : Int) ≤ (K.length : Int) := by omega
      have H2N := Lib.hid h2
      clear h2
      go_wp2_with fail
      go_ret
      exact BRes.of false rfl ⟨fun h => by (cases h), fun h => absurd (h.1 rfl) H2N.out⟩ TW.out
  | false =>
    by_cases h2 : 3 ≤ K.length
    · have q2 : (3 : Int) ≤ (K.length : Int) := by omega
      have H2N := Lib.hid h2
      clear h2
      go_wp2_with (go_at_call 80; (with_reducible refine CI.out.mono ?_); rintro e w2 ⟨bb, rfl, hb, ht⟩; have H2 := Lib.hid (And.intro hb ht); clear hb ht)
      go_ret
      exact BRes.of bb rfl ⟨fun h => ⟨fun h => (by cases h), fun _ => H2N.out, H2.out.1.1 h⟩, fun h => H2.out.1.2 h.2.2⟩ (TW.out.trans H2.out.2)
    · have q2 : ¬ (3 : Int) ≤ (K.length : Int) := by omega
      have H2N := Lib.hid h2
      clear h2
      go_wp2_with fail
      go_ret
      exact BRes.of false rfl ⟨fun h => by (cases h), fun h => absurd (h.2.1 rfl) H2N.out⟩ TW.out
set_option maxHeartbeats 4000000 in
theorem halves46 (g n cap e b e2 b2 : Nat) (w : World) (h2 : e2 = e) (h3 : b2 = n - b) (he : e ≤ n) (hb : b < n) (hc : n ≤ cap) (hn : cap ≤ maxLen) :
    Calls Tryd.prog 99 #[.slice (some ⟨g, 0, none⟩) n cap, .int .i64 (e : Int), .int .i64 (b : Int)] w fun r w' => r = .returned (.tuple #[.slice (some ⟨g, 0, none⟩) e2 e2, .slice (some ⟨g, b, none⟩) b2 b2]) ∧ Turn No w w' := by
  unfold maxLen at hn
  subst h2 h3
  have q0 : (0 : Int) ≤ (e2 : Int) := by omega
  have q1 : (e2 : Int) ≤ (cap : Int) := by omega
  have q2 : (0 : Int) ≤ (b : Int) := by omega
  have q3 : (b : Int) ≤ (n : Int) := by omega
  have q4 : (n : Int) ≤ (cap : Int) := by omega
  have q5 : e2 ≤ cap := by omega
  have q6 : b ≤ n := by omega
  have q7 : ¬ n = b := by omega
  have q8 : ¬ n - b = 0 := by omega
  go_enter Tryd.func99, Tryd.ntmps99
  go_wp2_with fail
  go_region
  all_goals go_wp2_with fail
  all_goals go_ret2
  all_goals exact ⟨rfl, (Turn.refl No w).drew⟩
set_option maxHeartbeats 4000000 in
theorem halves47 (g n cap e b e2 b2 : Nat) (w : World) (h2 : e2 = e) (h3 : b2 = n - b) (he : e ≤ n) (hb : b < n) (hc : n ≤ cap) (hn : cap ≤ maxLen) :
    Calls Tryd.prog 100 #[.slice (some ⟨g, 0, none⟩) n cap, .int .i64 (e : Int), .int .i64 (b : Int)] w fun r w' => r = .returned (.tuple #[.slice (some ⟨g, 0, none⟩) e2 e2, .slice (some ⟨g, b * 2, none⟩) b2 b2]) ∧ Turn No w w' := by
  unfold maxLen at hn
  subst h2 h3
  have q0 : (0 : Int) ≤ (e2 : Int) := by omega
  have q1 : (e2 : Int) ≤ (cap : Int) := by omega
  have q2 : (0 : Int) ≤ (b : Int) := by omega
  have q3 : (b : Int) ≤ (n : Int) := by omega
  have q4 : (n : Int) ≤ (cap : Int) := by omega
  have q5 : e2 ≤ cap := by omega
  have q6 : b ≤ n := by omega
  have q7 : ¬ n = b := by omega
  have q8 : ¬ n - b = 0 := by omega
  go_enter Tryd.func100, Tryd.ntmps100
  go_wp2_with fail
  go_region
  all_goals go_wp2_with fail
  all_goals go_ret2
  all_goals exact ⟨rfl, (Turn.refl No w).drew⟩
theorem own_capM {w : World} {Z : Nat} {e size : Nat} {B : Option Addr} {n c : Nat} {xs : List Value} (h : w.ownsRow Z e size (.slice B n c) n xs) : c ≤ maxLen := by
  rcases h.2 with ⟨hv, _⟩ | ⟨g, cap, cur, hv, hb, hg, hn, hc, _⟩
  · injection hv with _ _ e3
    subst e3
    exact Nat.zero_le _
  · injection hv with _ _ e3
    subst e3
    exact hc
end Go.Proofs.YtfplnobnmgbgoaaDoor
