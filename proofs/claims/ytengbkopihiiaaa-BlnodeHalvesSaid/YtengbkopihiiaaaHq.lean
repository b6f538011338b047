/-
  Halves: right, with what the node had.
-/
import Derived.Test.YtengbkopihiiaaaHp
namespace Go.Proofs.Ytengbkopihiiaaa
open Go.RowKit Go.Lib
set_option linter.unusedVariables false
set_option maxRecDepth 20000
set_option linter.unusedSimpArgs false

theorem getL_app (A B : List Pr) (k : ByteArray) : getL (A ++ B) k = (getL A k).or (getL B k) := by
  unfold getL
  rw [List.find?_append]
  cases A.find? (fun p => decide (p.k = k)) <;> rfl
theorem getL_none {A : List Pr} {k : ByteArray} (h : ∀ p ∈ A, p.k ≠ k) : getL A k = none := by
  unfold getL
  rw [List.find?_eq_none.2 fun p hp => by simpa using h p hp]
  rfl
/-- What value answers of a leaf that rises. -/
theorem valT_lf {L : List Pr} {K V : List ByteArray} (h : Lf L K V) (ha : Asc L) (key : ByteArray) : valT K V key = .tuple #[.string ((getL L key).getD ⟨#[]⟩), .bool (getL L key).isSome] := by
  have hk : Rk K := by rw [← h.1]; exact asc_keys.1 ha
  have hg := get_plc (k := key) ha
  rw [h.1, h.2] at hg
  unfold valT
  by_cases hm : inK K key = true
  · have hP : plc K key < V.length := by rw [h.len.2, ← h.len.1]; exact plc_lt hk hm
    rw [if_pos hm] at hg
    rw [if_pos ⟨hm, hP⟩, hg, List.getD_eq_getElem?_getD]
    obtain ⟨v, hv⟩ : ∃ v, V[plc K key]? = some v := ⟨V[plc K key], List.getElem?_eq_getElem hP⟩
    rw [hv]
    rfl
  · rw [if_neg hm] at hg
    rw [if_neg fun h => hm h.1, hg]
    rfl
/-- What value answers of any node: some text, and whether. -/
theorem valT_some (K V : List ByteArray) (key : ByteArray) : ∃ u b, valT K V key = .tuple #[.string u, .bool b] := by
  unfold valT
  split
  · exact ⟨_, _, rfl⟩
  · exact ⟨_, _, rfl⟩
theorem lf_take {L : List Pr} {K V : List ByteArray} (h : Lf L K V) (m : Nat) : Lf (L.take m) (K.take m) (V.take m) := ⟨by rw [List.map_take, h.1], by rw [List.map_take, h.2]⟩
theorem lf_drop {L : List Pr} {K V : List ByteArray} (h : Lf L K V) (m : Nat) : Lf (L.drop m) (K.drop m) (V.drop m) := ⟨by rw [List.map_drop, h.1], by rw [List.map_drop, h.2]⟩
theorem put_len {l : List Pr} (ha : Asc l) (k v : ByteArray) : (putL l k v).length = if (getL l k).isSome = true then l.length else l.length + 1 := by
  have hl : (l.map Pr.v).length = (l.map Pr.k).length := by rw [List.length_map, List.length_map]
  have hk : Rk (l.map Pr.k) := asc_keys.1 ha
  have hz : zipP (l.map Pr.k) (l.map Pr.v) = l := Lf.zip ⟨rfl, rfl⟩
  have hg := get_zip hl hk (key := k)
  rw [hz] at hg
  cases hm : inK (l.map Pr.k) k with
  | true =>
    have h1 := (putL_yes hl hk hm v).1
    rw [hz] at h1
    have h2 := congrArg List.length h1
    rw [List.length_map, List.length_map] at h2
    have hP := plc_lt hk hm
    rw [hm, if_pos rfl, List.getElem?_eq_getElem (by rw [hl]; exact hP)] at hg
    rw [hg, h2]
    rfl
  | false =>
    have h1 := (putL_no hl hk hm v).1
    rw [hz] at h1
    have h2 := congrArg List.length h1
    rw [ins_length _ (plc_le _ _), List.length_map, List.length_map] at h2
    rw [hm, if_neg (by decide)] at hg
    rw [hg, h2]
    rfl
section
variable {leaf : Bool} {K V : List ByteArray} {D : List Hn} {high : ByteArray} {bnd : Bool} {nx : Hn} (h : SplO ⟨leaf, K, V, D, high, bnd, nx⟩) {M : Nat} (hM : K.length / 2 = M) {sep : ByteArray} (hs : K[M]? = some sep)
include h hM hs
omit hs in
theorem spl_m : 1 ≤ M ∧ M < K.length ∧ (leaf = false → M + 1 < K.length) := by
  have h1 := h.2.1
  have h2 := h.2.2
  simp only at h1 h2
  cases leaf with
  | true => have := h1 rfl; exact ⟨by omega, by omega, fun h => by cases h⟩
  | false => have := h2 rfl; exact ⟨by omega, by omega, fun _ => by omega⟩
omit hM in
theorem spl_cov : bnd = true → kl sep high := fun hb => h.1.2.2.1 hb sep (List.mem_of_getElem? hs)
theorem spl_left (nxt : Hn) : spL ⟨leaf, K, V, D, high, bnd, nx⟩ nxt = ⟨leaf, K.take M, if leaf = true then V.take M else [], if leaf = true then [] else D.take (M + 1), sep, true, nxt⟩ ∧ NdRight (spL ⟨leaf, K, V, D, high, bnd, nx⟩ nxt) := by
  obtain ⟨hk, hb, hw, h1, h2⟩ := h.1
  obtain ⟨m1, m2, m3⟩ := spl_m h hM
  obtain ⟨e, ha, hbb⟩ := half_cut hk hs
  have hm : spM ⟨leaf, K, V, D, high, bnd, nx⟩ = M := hM
  have hgd : K.getD M ⟨#[]⟩ = sep := by rw [List.getD_eq_getElem?_getD, hs]; rfl
  cases leaf with
  | true =>
    have e1 : spL ⟨true, K, V, D, high, bnd, nx⟩ nxt = ⟨true, K.take M, V.take M, [], sep, true, nxt⟩ := by
      unfold spL
      rw [if_pos rfl, hm]
      show Nd.mk true (K.take M) (V.take M) [] (K.getD M ⟨#[]⟩) true nxt = _
      rw [hgd]
    refine ⟨e1, ?_⟩
    rw [e1]
    have hv : V.length = K.length := (h1 rfl).1
    exact ⟨(half_rk hk).1, fun h => (by cases h), fun _ => ha, fun _ => ⟨by show (V.take M).length = (K.take M).length; rw [List.length_take, List.length_take, hv], rfl⟩, fun h => (by cases h)⟩
  | false =>
    have e1 : spL ⟨false, K, V, D, high, bnd, nx⟩ nxt = ⟨false, K.take M, [], D.take (M + 1), sep, true, nxt⟩ := by
      unfold spL
      rw [if_neg (fun h => by cases h), hm]
      show Nd.mk false (K.take M) [] (D.take (M + 1)) (K.getD M ⟨#[]⟩) true nxt = _
      rw [hgd]
    refine ⟨e1, ?_⟩
    rw [e1]
    have hd : D.length = K.length + 1 := (h2 rfl).2
    exact ⟨(half_rk hk).1, fun h => (by cases h), fun _ => ha, fun h => (by cases h), fun _ => ⟨rfl, by show (D.take (M + 1)).length = (K.take M).length + 1; rw [List.length_take, List.length_take]; omega⟩⟩
omit hs in
theorem spl_right : spR ⟨leaf, K, V, D, high, bnd, nx⟩ = ⟨leaf, if leaf = true then K.drop M else K.drop (M + 1), if leaf = true then V.drop M else [], if leaf = true then [] else D.drop (M + 1), high, bnd, nx⟩ ∧ NdRight (spR ⟨leaf, K, V, D, high, bnd, nx⟩) := by
  obtain ⟨hk, hb, hw, h1, h2⟩ := h.1
  obtain ⟨m1, m2, m3⟩ := spl_m h hM
  have hm : spM ⟨leaf, K, V, D, high, bnd, nx⟩ = M := hM
  cases leaf with
  | true =>
    have e1 : spR ⟨true, K, V, D, high, bnd, nx⟩ = ⟨true, K.drop M, V.drop M, [], high, bnd, nx⟩ := by
      unfold spR
      rw [if_pos rfl, hm]
    refine ⟨e1, ?_⟩
    rw [e1]
    have hv : V.length = K.length := (h1 rfl).1
    exact ⟨(half_rk hk).2.1, hb, fun hbb k hk => hw hbb k (List.mem_of_mem_drop hk), fun _ => ⟨by show (V.drop M).length = (K.drop M).length; rw [List.length_drop, List.length_drop, hv], rfl⟩, fun h => (by cases h)⟩
  | false =>
    have e1 : spR ⟨false, K, V, D, high, bnd, nx⟩ = ⟨false, K.drop (M + 1), [], D.drop (M + 1), high, bnd, nx⟩ := by
      unfold spR
      rw [if_neg (fun h => by cases h), hm]
    refine ⟨e1, ?_⟩
    rw [e1]
    have hd : D.length = K.length + 1 := (h2 rfl).2
    exact ⟨(half_rk hk).2.2, hb, fun hbb k hk => hw hbb k (List.mem_of_mem_drop hk), fun h => (by cases h), fun _ => ⟨rfl, by show (D.drop (M + 1)).length = (K.drop (M + 1)).length + 1; rw [List.length_drop, List.length_drop]; have := m3 rfl; omega⟩⟩
omit hM in
/-- The halves' values: what the node had. -/
theorem spl_val (hl : leaf = true) (key : ByteArray) : valT K V key = if kl key sep then valT (K.take M) (V.take M) key else valT (K.drop M) (V.drop M) key := by
  subst hl
  obtain ⟨hk, hb, hw, h1, h2⟩ := h.1
  have hv : V.length = K.length := (h1 rfl).1
  obtain ⟨e, ha, hbb⟩ := half_cut hk hs
  have hLf := Lf.of hv
  have hasc := zip_asc hv hk
  have ht : Asc ((zipP K V).take M) := List.Pairwise.sublist (List.take_sublist _ _) hasc
  have hd : Asc ((zipP K V).drop M) := List.Pairwise.sublist (List.drop_sublist _ _) hasc
  have hg : getL (zipP K V) key = (getL ((zipP K V).take M) key).or (getL ((zipP K V).drop M) key) := by
    conv => lhs; rw [← List.take_append_drop M (zipP K V)]
    exact getL_app _ _ _
  rw [valT_lf hLf hasc, valT_lf (lf_take hLf M) ht, valT_lf (lf_drop hLf M) hd, hg]
  have hdk : ∀ p ∈ (zipP K V).drop M, ¬ kl p.k sep := fun p hp hlt => by
    have h3 : p.k ∈ K.drop M := by rw [← (lf_drop hLf M).1]; exact List.mem_map.2 ⟨p, hp, rfl⟩
    rw [List.drop_eq_getElem_cons (List.getElem?_eq_some_iff.1 hs).1] at h3
    rcases List.mem_cons.1 h3 with h4 | h4
    · rw [h4, (List.getElem?_eq_some_iff.1 hs).2] at hlt; exact kl_irrefl _ hlt
    · exact kl_asymm (hbb _ h4) hlt
  have htk : ∀ p ∈ (zipP K V).take M, kl p.k sep := fun p hp => ha _ (by rw [← (lf_take hLf M).1]; exact List.mem_map.2 ⟨p, hp, rfl⟩)
  by_cases hlt : kl key sep
  · rw [if_pos hlt, getL_none (A := (zipP K V).drop M) fun p hp e => hdk p hp (by rw [e]; exact hlt)]
    cases getL ((zipP K V).take M) key <;> rfl
  · rw [if_neg hlt, getL_none (A := (zipP K V).take M) fun p hp e => hlt (by rw [← e]; exact htk p hp)]
    rfl
end
/-- What is known of the halves of a right node. -/
structure SpF (leaf : Bool) (K V : List ByteArray) (D : List Hn) (high : ByteArray) (bnd : Bool) (nx nxt : Hn) (sep : ByteArray) (KL VL : List ByteArray) (DL : List Hn) (KR VR : List ByteArray) (DR : List Hn) : Prop where
  l : NdRight ⟨leaf, KL, VL, DL, sep, true, nxt⟩
  r : NdRight ⟨leaf, KR, VR, DR, high, bnd, nx⟩
  l0 : 0 < KL.length
  r0 : 0 < KR.length
  cov : bnd = true → kl sep high
  fit : Fit sep
  val : leaf = true → ∀ key, valT K V key = if kl key sep then valT KL VL key else valT KR VR key
  kid : leaf = false → ∀ key, (kl key sep → DL[kix KL key]? = D[kix K key]?) ∧ (¬ kl key sep → DR[kix KR key]? = D[kix K key]?)
theorem sub_take {α : Type} {L : List α} {m : Nat} {P : α → Prop} (h : ∀ x ∈ L, P x) : ∀ x ∈ L.take m, P x := fun x hx => h x (List.mem_of_mem_take hx)
theorem sub_drop {α : Type} {L : List α} {m : Nat} {P : α → Prop} (h : ∀ x ∈ L, P x) : ∀ x ∈ L.drop m, P x := fun x hx => h x (List.mem_of_mem_drop hx)
/-- Split of a node that may be split. -/
theorem split_g {leaf : Bool} {K V : List ByteArray} {D : List Hn} {high : ByteArray} {bnd : Bool} {sl ge : Int} {AK AV AD : Option Addr} (ck cv cd : Nat) (nxt : Hn) {w : World} (hin : In w ⟨leaf, K, V, D, high, bnd, ⟨sl, ge⟩⟩ AK AV AD) (hso : SplO ⟨leaf, K, V, D, high, bnd, ⟨sl, ge⟩⟩) :
    Calls Try.prog 17 #[.agg #[.bool leaf, .slice AK K.length ck, .slice AV V.length cv, .slice AD D.length cd, .string high, .bool bnd, .int .i64 sl, .int .u64 ge], .agg #[.int .i64 nxt.slot, .int .u64 nxt.gen]] w fun e w' =>
      ∃ sep KL VL DL KR VR DR A1 c1 A2 c2 A3 c3 B1 d1 B2 d2 B3 d3, e = .returned (.tuple #[.agg #[.bool leaf, .slice A1 KL.length c1, .slice A2 VL.length c2, .slice A3 DL.length c3, .string sep, .bool true, .int .i64 nxt.slot, .int .u64 nxt.gen], .agg #[.bool leaf, .slice B1 KR.length d1, .slice B2 VR.length d2, .slice B3 DR.length d3, .string high, .bool bnd, .int .i64 sl, .int .u64 ge], .string sep]) ∧
        SpF leaf K V D high bnd ⟨sl, ge⟩ nxt sep KL VL DL KR VR DR ∧ In w' ⟨leaf, KL, VL, DL, sep, true, nxt⟩ A1 A2 A3 ∧ In w' ⟨leaf, KR, VR, DR, high, bnd, ⟨sl, ge⟩⟩ B1 B2 B3 ∧ Turn No w w' := by
  refine (split_c ⟨leaf, K, V, D, high, bnd, ⟨sl, ge⟩⟩ AK AV AD ck cv cd nxt w hin).mono ?_
  rintro e w' ⟨l, r, sep, A1, c1, A2, c2, A3, c3, B1, d1, B2, d2, B3, d3, rfl, hs, hg, hg2, _, ht⟩
  obtain ⟨hsep, rfl, rfl⟩ := hs.1 hso
  obtain ⟨M, hM⟩ : ∃ M, K.length / 2 = M := ⟨_, rfl⟩
  have hsp : K[M]? = some sep := by rw [← hM]; exact hsep
  clear hsep
  obtain ⟨m1, m2, m3⟩ := spl_m hso hM
  obtain ⟨e1, r1⟩ := spl_left hso hM hsp nxt
  obtain ⟨e2, r2⟩ := spl_right hso hM
  have hfs : Fit sep := hin.fk sep (List.mem_of_getElem? hsp)
  rw [e1] at hg r1 ⊢
  rw [e2] at hg2 r2 ⊢
  have hcov := spl_cov hso hsp
  have hval := fun h => spl_val hso hsp h
  have lk := hin.lk
  have lv := hin.lv
  have ld := hin.ld
  simp only at lk lv ld
  cases leaf with
  | true =>
    simp only [if_true] at hg hg2 r1 r2 ⊢
    refine ⟨sep, _, _, _, _, _, _, A1, c1, A2, c2, A3, c3, B1, d1, B2, d2, B3, d3, rfl, ⟨r1, r2, ?_, ?_, hcov, hfs, hval, fun h => by cases h⟩, ⟨hg.k, hg.v, hg.d, sub_take hin.fk, sub_take hin.fv, hfs, ?_, ?_, Nat.zero_le _⟩, ⟨hg2.k, hg2.v, hg2.d, sub_drop hin.fk, sub_drop hin.fv, hin.fh, ?_, ?_, Nat.zero_le _⟩, ht⟩
    all_goals (simp only [List.length_take, List.length_drop]; omega)
  | false =>
    simp only [Bool.false_eq_true, if_false] at hg hg2 r1 r2 ⊢
    refine ⟨sep, _, _, _, _, _, _, A1, c1, A2, c2, A3, c3, B1, d1, B2, d2, B3, d3, rfl, ⟨r1, r2, ?_, ?_, hcov, hfs, (fun h => by cases h), fun _ key => half_kid (K := K) (m := M) (sep := sep) (L := D) hso.1.1 hsp key⟩, ⟨hg.k, hg.v, hg.d, sub_take hin.fk, (fun k hk => by cases hk), hfs, ?_, Nat.zero_le _, ?_⟩, ⟨hg2.k, hg2.v, hg2.d, sub_drop hin.fk, (fun k hk => by cases hk), hin.fh, ?_, Nat.zero_le _, ?_⟩, ht⟩
    all_goals (have := m3 rfl; simp only [List.length_take, List.length_drop]; omega)
end Go.Proofs.Ytengbkopihiiaaa
