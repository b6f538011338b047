/-
  What Put, Delete, Add, Split make of right nodes.
-/
import Derived.Test.YtengbkopihiiaaaWKds
namespace Go.Proofs.Ytengbkopihiiaaa
open Go.RowKit Go.Lib
set_option linter.unusedVariables false
set_option maxRecDepth 20000
set_option linter.unusedSimpArgs false

/-- What Put makes of a right node. -/
theorem put_ok {leaf : Bool} {K V : List ByteArray} {D : List Hn} {high : ByteArray} {bnd : Bool} {nx : Hn} {key val old : ByteArray} {had : Bool} {m : Nd} (hr : NdRight ⟨leaf, K, V, D, high, bnd, nx⟩) (h : PutR ⟨leaf, K, V, D, high, bnd, nx⟩ key val m old had) :
    ∃ K1 V1, m = ⟨leaf, K1, V1, D, high, bnd, nx⟩ ∧ NdRight ⟨leaf, K1, V1, D, high, bnd, nx⟩ ∧ (∀ k ∈ K1, k ∈ K ∨ k = key) ∧ (∀ v ∈ V1, v ∈ V ∨ v = val) ∧ K1.length ≤ K.length + 1 ∧ V1.length ≤ V.length + 1 ∧ (LeafR ⟨leaf, K, V, D, high, bnd, nx⟩ key → Lf (putL (zipP K V) key val) K1 V1 ∧ had = (getL (zipP K V) key).isSome) ∧ (¬ LeafR ⟨leaf, K, V, D, high, bnd, nx⟩ key → K1 = K ∧ V1 = V ∧ had = false) := by
  by_cases hl : LeafR ⟨leaf, K, V, D, high, bnd, nx⟩ key
  · obtain ⟨rfl, rfl, rfl⟩ := h.1 hl
    obtain ⟨_, hlf, hc⟩ := hl
    have hlf : leaf = true := hlf
    subst hlf
    have hvl : V.length = K.length := (hr.2.2.2.1 rfl).1
    have hD : D.length = 0 := (hr.2.2.2.1 rfl).2
    have hLf := Lf.of hvl
    have hok : LeafOK (zipP K V) high bnd := (right_lf hLf).1 (by have := hr; unfold NdRight at this; simp only [hD] at this; exact this)
    refine ⟨_, _, rfl, ?_, ?_, ?_, ?_, ?_, fun _ => ⟨⟨rfl, rfl⟩, rfl⟩, fun h => absurd ⟨hr, rfl, hc⟩ h⟩
    · show RightP true _ _ D.length high bnd
      rw [hD]
      exact (right_lf (L := putL (zipP K V) key val) ⟨rfl, rfl⟩).2 (hok.put hc val)
    · intro k hk
      obtain ⟨p, hp, rfl⟩ := List.mem_map.1 hk
      rcases mem_put hp with e | e
      · exact .inl (by have : p.k ∈ (zipP K V).map Pr.k := List.mem_map.2 ⟨p, e, rfl⟩; rwa [hLf.1] at this)
      · exact .inr (by rw [e])
    · intro k hk
      obtain ⟨p, hp, rfl⟩ := List.mem_map.1 hk
      rcases mem_put hp with e | e
      · exact .inl (by have : p.v ∈ (zipP K V).map Pr.v := List.mem_map.2 ⟨p, e, rfl⟩; rwa [hLf.2] at this)
      · exact .inr (by rw [e])
    · rw [List.length_map, hLf.len.1]; exact put_length _ _ _
    · rw [List.length_map, hLf.len.2]; exact put_length _ _ _
  · obtain ⟨rfl, rfl, rfl⟩ := h.2 hl
    exact ⟨K, V, rfl, hr, fun k hk => .inl hk, fun k hk => .inl hk, by omega, by omega, fun h => absurd h hl, fun _ => ⟨rfl, rfl, rfl⟩⟩
theorem del_ok {leaf : Bool} {K V : List ByteArray} {D : List Hn} {high : ByteArray} {bnd : Bool} {nx : Hn} {key old : ByteArray} {had : Bool} {m : Nd} (hr : NdRight ⟨leaf, K, V, D, high, bnd, nx⟩) (h : DelR ⟨leaf, K, V, D, high, bnd, nx⟩ key m old had) :
    ∃ K1 V1, m = ⟨leaf, K1, V1, D, high, bnd, nx⟩ ∧ NdRight ⟨leaf, K1, V1, D, high, bnd, nx⟩ ∧ (∀ k ∈ K1, k ∈ K) ∧ (∀ v ∈ V1, v ∈ V) ∧ K1.length ≤ K.length ∧ V1.length ≤ V.length ∧ (LeafR ⟨leaf, K, V, D, high, bnd, nx⟩ key → Lf (delL (zipP K V) key) K1 V1 ∧ had = (getL (zipP K V) key).isSome) ∧ (¬ LeafR ⟨leaf, K, V, D, high, bnd, nx⟩ key → K1 = K ∧ V1 = V ∧ had = false) := by
  by_cases hl : LeafR ⟨leaf, K, V, D, high, bnd, nx⟩ key
  · obtain ⟨rfl, rfl, rfl⟩ := h.1 hl
    obtain ⟨_, hlf, hc⟩ := hl
    have hlf : leaf = true := hlf
    subst hlf
    have hvl : V.length = K.length := (hr.2.2.2.1 rfl).1
    have hD : D.length = 0 := (hr.2.2.2.1 rfl).2
    have hLf := Lf.of hvl
    have hok : LeafOK (zipP K V) high bnd := (right_lf hLf).1 (by have := hr; unfold NdRight at this; simp only [hD] at this; exact this)
    refine ⟨_, _, rfl, ?_, ?_, ?_, ?_, ?_, fun _ => ⟨⟨rfl, rfl⟩, rfl⟩, fun h => absurd ⟨hr, rfl, hc⟩ h⟩
    · show RightP true _ _ D.length high bnd
      rw [hD]
      exact (right_lf (L := delL (zipP K V) key) ⟨rfl, rfl⟩).2 (hok.del key)
    · intro k hk
      obtain ⟨p, hp, rfl⟩ := List.mem_map.1 hk
      have : p.k ∈ (zipP K V).map Pr.k := List.mem_map.2 ⟨p, mem_del hp, rfl⟩
      rwa [hLf.1] at this
    · intro k hk
      obtain ⟨p, hp, rfl⟩ := List.mem_map.1 hk
      have : p.v ∈ (zipP K V).map Pr.v := List.mem_map.2 ⟨p, mem_del hp, rfl⟩
      rwa [hLf.2] at this
    · rw [List.length_map, hLf.len.1]; exact del_length _ _
    · rw [List.length_map, hLf.len.2]; exact del_length _ _
  · obtain ⟨rfl, rfl, rfl⟩ := h.2 hl
    exact ⟨K, V, rfl, hr, fun k hk => hk, fun k hk => hk, by omega, by omega, fun h => absurd h hl, fun _ => ⟨rfl, rfl, rfl⟩⟩
theorem in_ch {w w0 : World} {Z : Nat} {leaf : Bool} {K V K1 V1 : List ByteArray} {D : List Hn} {high : ByteArray} {bnd : Bool} {nx : Hn} {AK AV AD BK BV BD : Option Addr} (h : In w0 ⟨leaf, K, V, D, high, bnd, nx⟩ AK AV AD) (g : Got Z w ⟨leaf, K1, V1, D, high, bnd, nx⟩ BK BV BD) (fk : ∀ k ∈ K1, Fit k) (fv : ∀ k ∈ V1, Fit k) (l1 : K1.length ≤ 10000) (l2 : V1.length ≤ 10000) : In w ⟨leaf, K1, V1, D, high, bnd, nx⟩ BK BV BD := ⟨g.k, g.v, g.d, fk, fv, h.fh, l1, l2, h.ld⟩
section
variable {leaf : Bool} {K V : List ByteArray} {D : List Hn} {high : ByteArray} {bnd : Bool} {sl ge : Int} {AK AV AD : Option Addr} (ck cv cd : Nat) {key val : ByteArray} {w : World}
theorem put_g (hin : In w ⟨leaf, K, V, D, high, bnd, ⟨sl, ge⟩⟩ AK AV AD) (hr : NdRight ⟨leaf, K, V, D, high, bnd, ⟨sl, ge⟩⟩) (k3 : K.length ≤ 9000) (v3 : V.length ≤ 9000) (fk : Fit key) (fv : Fit val) :
    Calls Try.prog 12 #[.agg #[.bool leaf, .slice AK K.length ck, .slice AV V.length cv, .slice AD D.length cd, .string high, .bool bnd, .int .i64 sl, .int .u64 ge], .string key, .string val] w fun e w' =>
      ∃ K1 V1 BK dk BV dv BD dd old had, e = .returned (.tuple #[.agg #[.bool leaf, .slice BK K1.length dk, .slice BV V1.length dv, .slice BD D.length dd, .string high, .bool bnd, .int .i64 sl, .int .u64 ge], .string old, .bool had]) ∧ In w' ⟨leaf, K1, V1, D, high, bnd, ⟨sl, ge⟩⟩ BK BV BD ∧ NdRight ⟨leaf, K1, V1, D, high, bnd, ⟨sl, ge⟩⟩ ∧ (LeafR ⟨leaf, K, V, D, high, bnd, ⟨sl, ge⟩⟩ key → Lf (putL (zipP K V) key val) K1 V1 ∧ had = (getL (zipP K V) key).isSome) ∧ (¬ LeafR ⟨leaf, K, V, D, high, bnd, ⟨sl, ge⟩⟩ key → K1 = K ∧ V1 = V ∧ had = false) ∧ Turn No w w' := by
  refine (put_c ⟨leaf, K, V, D, high, bnd, ⟨sl, ge⟩⟩ AK AV AD ck cv cd key val w hin fk fv).mono ?_
  rintro e w' ⟨m, BK, dk, BV, dv, BD, dd, old, had, rfl, hp, hg, ht⟩
  obtain ⟨K1, V1, rfl, h1, h2, h3, h4, h5, h6, h7⟩ := put_ok hr hp
  exact ⟨K1, V1, BK, dk, BV, dv, BD, dd, old, had, rfl, in_ch hin hg (fun k hk => (h2 k hk).elim (hin.fk k) fun e => e ▸ fk) (fun k hk => (h3 k hk).elim (hin.fv k) fun e => e ▸ fv) (by omega) (by omega), h1, h6, h7, ht⟩
theorem del_g (hin : In w ⟨leaf, K, V, D, high, bnd, ⟨sl, ge⟩⟩ AK AV AD) (hr : NdRight ⟨leaf, K, V, D, high, bnd, ⟨sl, ge⟩⟩) (fk : Fit key) :
    Calls Try.prog 13 #[.agg #[.bool leaf, .slice AK K.length ck, .slice AV V.length cv, .slice AD D.length cd, .string high, .bool bnd, .int .i64 sl, .int .u64 ge], .string key] w fun e w' =>
      ∃ K1 V1 BK dk BV dv BD dd old had, e = .returned (.tuple #[.agg #[.bool leaf, .slice BK K1.length dk, .slice BV V1.length dv, .slice BD D.length dd, .string high, .bool bnd, .int .i64 sl, .int .u64 ge], .string old, .bool had]) ∧ In w' ⟨leaf, K1, V1, D, high, bnd, ⟨sl, ge⟩⟩ BK BV BD ∧ NdRight ⟨leaf, K1, V1, D, high, bnd, ⟨sl, ge⟩⟩ ∧ (LeafR ⟨leaf, K, V, D, high, bnd, ⟨sl, ge⟩⟩ key → Lf (delL (zipP K V) key) K1 V1 ∧ had = (getL (zipP K V) key).isSome) ∧ (¬ LeafR ⟨leaf, K, V, D, high, bnd, ⟨sl, ge⟩⟩ key → K1 = K ∧ V1 = V ∧ had = false) ∧ Turn No w w' := by
  refine (del_c ⟨leaf, K, V, D, high, bnd, ⟨sl, ge⟩⟩ AK AV AD ck cv cd key w hin fk).mono ?_
  rintro e w' ⟨m, BK, dk, BV, dv, BD, dd, old, had, rfl, hp, hg, ht⟩
  obtain ⟨K1, V1, rfl, h1, h2, h3, h4, h5, h6, h7⟩ := del_ok hr hp
  have := hin.lk
  have := hin.lv
  exact ⟨K1, V1, BK, dk, BV, dv, BD, dd, old, had, rfl, in_ch hin hg (fun k hk => hin.fk k (h2 k hk)) (fun k hk => hin.fv k (h3 k hk)) (Nat.le_trans h4 hin.lk) (Nat.le_trans h5 hin.lv), h1, h6, h7, ht⟩
theorem add_g {kid : Hn} (hin : In w ⟨leaf, K, V, D, high, bnd, ⟨sl, ge⟩⟩ AK AV AD) (hr : NdRight ⟨leaf, K, V, D, high, bnd, ⟨sl, ge⟩⟩) (k3 : K.length ≤ 9000) (d3 : D.length ≤ 9000) (fk : Fit key) :
    Calls Try.prog 16 #[.agg #[.bool leaf, .slice AK K.length ck, .slice AV V.length cv, .slice AD D.length cd, .string high, .bool bnd, .int .i64 sl, .int .u64 ge], .string key, .agg #[.int .i64 kid.slot, .int .u64 kid.gen]] w fun e w' =>
      ∃ K1 D1 BK dk BV dv BD dd, e = .returned (.agg #[.bool leaf, .slice BK K1.length dk, .slice BV V.length dv, .slice BD D1.length dd, .string high, .bool bnd, .int .i64 sl, .int .u64 ge]) ∧ In w' ⟨leaf, K1, V, D1, high, bnd, ⟨sl, ge⟩⟩ BK BV BD ∧ NdRight ⟨leaf, K1, V, D1, high, bnd, ⟨sl, ge⟩⟩ ∧ Turn No w w' := by
  by_cases ho : AddO ⟨leaf, K, V, D, high, bnd, ⟨sl, ge⟩⟩ key
  · refine (add_yes ck cv cd hin fk ho rfl rfl).mono ?_
    rintro e w' ⟨BK, dk, BV, dv, BD, dd, rfl, hg, ht⟩
    have hl : leaf = false := ho.2.1
    subst hl
    have e : D.length = K.length + 1 := (hr.2.2.2.2 rfl).2
    exact ⟨_, _, BK, dk, BV, dv, BD, dd, rfl, in_add hin k3 d3 fk (by have := plc_le K key; omega) hg, right_add ho, ht⟩
  · refine (add_no ck cv cd hin fk ho).mono ?_
    rintro e w' ⟨BK, dk, BV, dv, BD, dd, rfl, hg, ht⟩
    exact ⟨K, D, BK, dk, BV, dv, BD, dd, rfl, in_same hin hg, hr, ht⟩
end
theorem right_no (n : Nd) (AK AV AD : Option Addr) (ck cv cd : Nat) (w : World) (h : In w n AK AV AD) (hr : ¬ NdRight n) : Calls Try.prog 25 #[.agg #[.bool n.leaf, .slice AK n.keys.length ck, .slice AV n.vals.length cv, .slice AD n.kids.length cd, .string n.high, .bool n.bnd, .int .i64 n.nx.slot, .int .u64 n.nx.gen]] w fun e w' => e = .returned (.bool false) ∧ Turn No w w' := by
  refine (right_c n AK AV AD ck cv cd w h).mono ?_
  rintro e w' ⟨b, rfl, hb, ht⟩
  cases b with
  | false => exact ⟨rfl, ht⟩
  | true => exact absurd (hb.1 rfl) hr
/-- Put into a node that takes nothing: the node itself. -/
theorem put_no (n : Nd) (AK AV AD : Option Addr) (ck cv cd : Nat) (key val : ByteArray) (w : World) (h : In w n AK AV AD) (fk : Fit key) (fv : Fit val) (hl : ¬ LeafR n key) : Calls Try.prog 12 #[.agg #[.bool n.leaf, .slice AK n.keys.length ck, .slice AV n.vals.length cv, .slice AD n.kids.length cd, .string n.high, .bool n.bnd, .int .i64 n.nx.slot, .int .u64 n.nx.gen], .string key, .string val] w fun e w' =>
    ∃ BK dk BV dv BD dd, e = .returned (.tuple #[.agg #[.bool n.leaf, .slice BK n.keys.length dk, .slice BV n.vals.length dv, .slice BD n.kids.length dd, .string n.high, .bool n.bnd, .int .i64 n.nx.slot, .int .u64 n.nx.gen], .string ⟨#[]⟩, .bool false]) ∧ In w' n BK BV BD ∧ Turn No w w' := by
  refine (put_c n AK AV AD ck cv cd key val w h fk fv).mono ?_
  rintro e w' ⟨m, BK, dk, BV, dv, BD, dd, old, had, rfl, hp, hg, ht⟩
  obtain ⟨rfl, rfl, rfl⟩ := hp.2 hl
  exact ⟨BK, dk, BV, dv, BD, dd, rfl, in_same h hg, ht⟩
/-- Split of what isn't split. -/
theorem split_no (n : Nd) (AK AV AD : Option Addr) (ck cv cd : Nat) (nxt : Hn) (w : World) (h : In w n AK AV AD) (hl : ¬ SplO n) : Calls Try.prog 17 #[.agg #[.bool n.leaf, .slice AK n.keys.length ck, .slice AV n.vals.length cv, .slice AD n.kids.length cd, .string n.high, .bool n.bnd, .int .i64 n.nx.slot, .int .u64 n.nx.gen], .agg #[.int .i64 nxt.slot, .int .u64 nxt.gen]] w fun e w' =>
    ∃ BK dk BV dv BD dd CK ek CV ev CD ed, e = .returned (.tuple #[.agg #[.bool n.leaf, .slice BK n.keys.length dk, .slice BV n.vals.length dv, .slice BD n.kids.length dd, .string n.high, .bool n.bnd, .int .i64 n.nx.slot, .int .u64 n.nx.gen], .agg #[.bool false, .slice CK 0 ek, .slice CV 0 ev, .slice CD 0 ed, .string ⟨#[]⟩, .bool false, .int .i64 0, .int .u64 0], .string ⟨#[]⟩]) ∧ In w' n BK BV BD ∧ Turn No w w' := by
  refine (split_c n AK AV AD ck cv cd nxt w h).mono ?_
  rintro e w' ⟨l, r, sep, BK, dk, BV, dv, BD, dd, CK, ek, CV, ev, CD, ed, rfl, hs, hg, hg2, _, ht⟩
  obtain ⟨rfl, rfl, rfl⟩ := hs.2 hl
  exact ⟨BK, dk, BV, dv, BD, dd, CK, ek, CV, ev, CD, ed, rfl, in_same h hg, ht⟩
end Go.Proofs.Ytengbkopihiiaaa
