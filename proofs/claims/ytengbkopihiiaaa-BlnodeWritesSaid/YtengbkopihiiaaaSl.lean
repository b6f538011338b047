/-
  Texts held against each other by the walk; Covers and Kid where it is known what they tell; a node that is added to.
-/
import Derived.Test.YtengbkopihiiaaaLw
namespace Go.Proofs.Ytengbkopihiiaaa
open Go.RowKit Go.Lib
set_option linter.unusedVariables false
set_option maxRecDepth 20000
set_option linter.unusedSimpArgs false

theorem bytesLess_cmp : ∀ a b : List UInt8, Op.bytesLess a b = decide (Math.cmp a b = -1)
  | [], [] => by rfl
  | x :: a, [] => by rfl
  | [], y :: b => by rfl
  | x :: a, y :: b => by
    show (decide (x < y) || (x == y && Op.bytesLess a b)) = _
    rcases Math.u8_tri x y with h | h | h
    · rw [Math.cmp_lt h, decide_eq_true h]; rfl
    · subst h
      rw [Math.cmp_eq, bytesLess_cmp a b, decide_eq_false (UInt8.lt_irrefl x)]
      simp
    · have h1 : ¬ x < y := fun h2 => UInt8.lt_irrefl x (UInt8.lt_trans h2 h)
      have h2 : (x == y) = false := by
        rw [beq_eq_false_iff_ne]
        intro e
        subst e
        exact UInt8.lt_irrefl x h
      rw [Math.cmp_gt h, decide_eq_false h1, h2]
      rfl
/-- The walk's '<' on texts. -/
theorem sless (a b : ByteArray) : Op.bytesLess a.toList b.toList = decide (kl a b) := by
  rw [bytesLess_cmp, ByteArray.toList_eq, ByteArray.toList_eq]
  have h : Math.cmp a.data.toList b.data.toList = kcmp a b := rfl
  rw [h]
  have := kcmp_range a b
  unfold kl
  exact decide_eq_decide.2 (by omega)
theorem covers_yes (n : Nd) (AK AV AD : Option Addr) (ck cv cd : Nat) (key : ByteArray) (w : World) (h : In w n AK AV AD) (fk : Fit key) (hr : NdCov n key) : Calls Try.prog 26 #[.agg #[.bool n.leaf, .slice AK n.keys.length ck, .slice AV n.vals.length cv, .slice AD n.kids.length cd, .string n.high, .bool n.bnd, .int .i64 n.nx.slot, .int .u64 n.nx.gen], .string key] w fun e w' => e = .returned (.bool true) ∧ Turn No w w' := by
  refine (covers_c n AK AV AD ck cv cd key w h fk).mono ?_
  rintro e w' ⟨b, rfl, hb, ht⟩
  exact ⟨by rw [hb.2 hr], ht⟩
theorem covers_no (n : Nd) (AK AV AD : Option Addr) (ck cv cd : Nat) (key : ByteArray) (w : World) (h : In w n AK AV AD) (fk : Fit key) (hr : ¬ NdCov n key) : Calls Try.prog 26 #[.agg #[.bool n.leaf, .slice AK n.keys.length ck, .slice AV n.vals.length cv, .slice AD n.kids.length cd, .string n.high, .bool n.bnd, .int .i64 n.nx.slot, .int .u64 n.nx.gen], .string key] w fun e w' => e = .returned (.bool false) ∧ Turn No w w' := by
  refine (covers_c n AK AV AD ck cv cd key w h fk).mono ?_
  rintro e w' ⟨b, rfl, hb, ht⟩
  cases b with
  | false => exact ⟨rfl, ht⟩
  | true => exact absurd (hb.1 rfl) hr
theorem kid_yes (n : Nd) (AK AV AD : Option Addr) (ck cv cd : Nat) (key : ByteArray) (w : World) (h : In w n AK AV AD) (fk : Fit key) (hr : NdRight n ∧ n.leaf = false ∧ NdCov n key) {hh : Hn} (hk : n.kids[kix n.keys key]? = some hh) : Calls Try.prog 15 #[.agg #[.bool n.leaf, .slice AK n.keys.length ck, .slice AV n.vals.length cv, .slice AD n.kids.length cd, .string n.high, .bool n.bnd, .int .i64 n.nx.slot, .int .u64 n.nx.gen], .string key] w fun e w' => e = .returned (.tuple #[.agg #[.int .i64 hh.slot, .int .u64 hh.gen], .bool true]) ∧ Turn No w w' := by
  refine (kid_c n AK AV AD ck cv cd key w h fk).mono ?_
  rintro e w' ⟨h2, is, rfl, hb, ht⟩
  obtain ⟨rfl, h3⟩ := hb.1 hr
  rw [hk] at h3
  injection h3 with h3
  subst h3
  exact ⟨rfl, ht⟩
theorem kid_no (n : Nd) (AK AV AD : Option Addr) (ck cv cd : Nat) (key : ByteArray) (w : World) (h : In w n AK AV AD) (fk : Fit key) (hr : ¬ (NdRight n ∧ n.leaf = false ∧ NdCov n key)) : Calls Try.prog 15 #[.agg #[.bool n.leaf, .slice AK n.keys.length ck, .slice AV n.vals.length cv, .slice AD n.kids.length cd, .string n.high, .bool n.bnd, .int .i64 n.nx.slot, .int .u64 n.nx.gen], .string key] w fun e w' => e = .returned (.tuple #[.agg #[.int .i64 0, .int .u64 0], .bool false]) ∧ Turn No w w' := by
  refine (kid_c n AK AV AD ck cv cd key w h fk).mono ?_
  rintro e w' ⟨h2, is, rfl, hb, ht⟩
  obtain ⟨rfl, rfl⟩ := hb.2 hr
  exact ⟨rfl, ht⟩
/-- The kid that a right node leads to is there. -/
theorem kid_there {n : Nd} (h : NdRight n) (hl : n.leaf = false) (key : ByteArray) : ∃ hh, n.kids[kix n.keys key]? = some hh := by
  have h1 := (h.2.2.2.2 hl).2
  have h2 := kix_le n.keys key
  exact ⟨n.kids[kix n.keys key]'(by omega), List.getElem?_eq_getElem (by omega)⟩
/-- What Add makes of a right inner node is right. -/
theorem right_add {leaf : Bool} {K V : List ByteArray} {D : List Hn} {high : ByteArray} {bnd : Bool} {nx : Hn} {sep : ByteArray} {kid : Hn} (h : AddO ⟨leaf, K, V, D, high, bnd, nx⟩ sep) : NdRight ⟨leaf, ins K (plc K sep) sep, V, ins D (plc K sep + 1) kid, high, bnd, nx⟩ := by
  obtain ⟨⟨a, b, c, d, e⟩, hl, hc, hn⟩ := h
  have hl : leaf = false := hl
  subst hl
  obtain ⟨e1, e2⟩ := e rfl
  have e1 : V.length = 0 := e1
  have e2 : D.length = K.length + 1 := e2
  have hp := plc_le K sep
  refine ⟨rk_ins a hn, b, fun hb k hk => ?_, fun h => (by cases h), fun _ => ⟨e1, ?_⟩⟩
  · rcases mem_ins.1 hk with e | e
    · rw [e]; exact hc hb
    · exact c hb k e
  · show (ins D (plc K sep + 1) kid).length = (ins K (plc K sep) sep).length + 1
    rw [ins_length D (by omega), ins_length K hp, e2]
section
variable {leaf : Bool} {K V : List ByteArray} {D : List Hn} {high : ByteArray} {bnd : Bool} {sl ge : Int} {AK AV AD : Option Addr} (ck cv cd : Nat) {sep : ByteArray} {kid : Hn} {w : World}
theorem add_yes (hin : In w ⟨leaf, K, V, D, high, bnd, ⟨sl, ge⟩⟩ AK AV AD) (fs : Fit sep) (ho : AddO ⟨leaf, K, V, D, high, bnd, ⟨sl, ge⟩⟩ sep) {K1 : List ByteArray} {D1 : List Hn} (h1 : ins K (plc K sep) sep = K1) (h2 : ins D (plc K sep + 1) kid = D1) :
    Calls Try.prog 16 #[.agg #[.bool leaf, .slice AK K.length ck, .slice AV V.length cv, .slice AD D.length cd, .string high, .bool bnd, .int .i64 sl, .int .u64 ge], .string sep, .agg #[.int .i64 kid.slot, .int .u64 kid.gen]] w fun e w' =>
      ∃ BK dk BV dv BD dd, e = .returned (.agg #[.bool leaf, .slice BK K1.length dk, .slice BV V.length dv, .slice BD D1.length dd, .string high, .bool bnd, .int .i64 sl, .int .u64 ge]) ∧ Got w.heap.size w' ⟨leaf, K1, V, D1, high, bnd, ⟨sl, ge⟩⟩ BK BV BD ∧ Turn No w w' := by
  refine (add_c ⟨leaf, K, V, D, high, bnd, ⟨sl, ge⟩⟩ AK AV AD ck cv cd sep kid w hin fs).mono ?_
  rintro e w' ⟨m, BK, dk, BV, dv, BD, dd, rfl, hp, hg, ht⟩
  have hm := hp.1 ho
  subst hm
  subst h1 h2
  exact ⟨BK, dk, BV, dv, BD, dd, rfl, hg, ht⟩
theorem add_no (hin : In w ⟨leaf, K, V, D, high, bnd, ⟨sl, ge⟩⟩ AK AV AD) (fs : Fit sep) (ho : ¬ AddO ⟨leaf, K, V, D, high, bnd, ⟨sl, ge⟩⟩ sep) :
    Calls Try.prog 16 #[.agg #[.bool leaf, .slice AK K.length ck, .slice AV V.length cv, .slice AD D.length cd, .string high, .bool bnd, .int .i64 sl, .int .u64 ge], .string sep, .agg #[.int .i64 kid.slot, .int .u64 kid.gen]] w fun e w' =>
      ∃ BK dk BV dv BD dd, e = .returned (.agg #[.bool leaf, .slice BK K.length dk, .slice BV V.length dv, .slice BD D.length dd, .string high, .bool bnd, .int .i64 sl, .int .u64 ge]) ∧ Got w.heap.size w' ⟨leaf, K, V, D, high, bnd, ⟨sl, ge⟩⟩ BK BV BD ∧ Turn No w w' := by
  refine (add_c ⟨leaf, K, V, D, high, bnd, ⟨sl, ge⟩⟩ AK AV AD ck cv cd sep kid w hin fs).mono ?_
  rintro e w' ⟨m, BK, dk, BV, dv, BD, dd, rfl, hp, hg, ht⟩
  have hm := hp.2 ho
  subst hm
  exact ⟨BK, dk, BV, dv, BD, dd, rfl, hg, ht⟩
end
theorem in_same {w w0 : World} {Z : Nat} {n : Nd} {AK AV AD BK BV BD : Option Addr} (h : In w0 n AK AV AD) (g : Got Z w n BK BV BD) : In w n BK BV BD := ⟨g.k, g.v, g.d, h.fk, h.fv, h.fh, h.lk, h.lv, h.ld⟩
end Go.Proofs.Ytengbkopihiiaaa
