/-
  The law's copied: a node of its own.
-/
import Derived.Test.YtengbkopihiiaaaWNj
namespace Go.Proofs.Ytengbkopihiiaaa
open Go.RowKit Go.Lib
set_option linter.unusedVariables false
set_option maxRecDepth 20000
set_option maxRecDepth 20000
set_option linter.unusedSimpArgs false

theorem info27 : (Try.prog.info? 27).map (fun i => (i.zero, i.size, i.bytes)) = some (some (.agg #[.int .i64 0, .int .u64 0]), 2, 16) := by kernel_rfl
theorem one_kcs (K : List ByteArray) : ∀ u ∈ kcs K, u.oneCell' = true := by
  intro u hu
  obtain ⟨i, _, rfl⟩ := List.mem_map.1 hu
  rfl
theorem one_hcs (l : List Hn) : ∀ u ∈ hcs l, u.oneCell' = true := by
  intro u hu
  obtain ⟨h, _, hh⟩ := List.mem_flatMap.1 hu
  simp only [Hn.cs, List.mem_cons, List.not_mem_nil, or_false] at hh
  rcases hh with rfl | rfl <;> rfl
/-- append([]T{}, xs...): a row of one's own. -/
theorem app_copy {t e size bytes : Nat} {z : Value} (ht : Try.prog.underlying t = some (.slice e)) (hinf : (Try.prog.info? e).map (fun i => (i.zero, i.size, i.bytes)) = some (some z, size, bytes)) (hzs : z.cells.size = size) (hsz : 0 < size) (hby : bytes ≤ 1000)
    {W : World} {Z g : Nat} (hE : W.ownsRow Z e size (.slice (some ⟨g, 0, none⟩) 0 0) 0 []) (hz : Z ≤ W.heap.size) {n : Nat} {A : Option Addr} {c : Nat} {xs : List Value} (hx : xs.length = n * size) (hR : Row W A xs) (h1 : ∀ u ∈ xs, u.oneCell' = true) (hn : n ≤ 100000) :
    ∃ B' c' W', AppRun t t (.slice (some ⟨g, 0, none⟩) 0 0) (.slice A n c) (.slice B' n c') W W' ∧ W'.ownsRow Z e size (.slice B' n c') n xs ∧ Turn (fun i => i = g) W W' := by
  cases A with
  | none =>
    have hx0 : xs = [] := by
      cases xs with
      | nil => rfl
      | cons a l => obtain ⟨b, o, hA, _⟩ := hR 0 a rfl; cases hA
    subst hx0
    have hn0 : n = 0 := by
      cases n with
      | zero => rfl
      | succ m =>
        rw [List.length_nil] at hx
        have h2 := Nat.mul_pos (Nat.succ_pos m) hsz
        rw [Nat.succ_eq_add_one, ← hx] at h2
        exact absurd h2 (Nat.lt_irrefl 0)
    subst hn0
    obtain ⟨i0, hi, _, hs, _⟩ := info_parts hinf
    exact ⟨some ⟨g, 0, none⟩, 0, W, ⟨run_append_nothing (P := Try.prog) W t t t e i0 ht hi (some ⟨g, 0, none⟩) 0 0 (Nat.le_refl _) _ (Src.ofNil (w := W) ht c)⟩, hE, Turn.refl _ _⟩
  | some a =>
    have hnw : ∀ j u, xs[j]? = some u → W.cell? (a.add j) = some u := by
      intro j u hj
      obtain ⟨b, o, hA, _, hc⟩ := hR j u hj
      injection hA with hA
      subst hA
      rwa [Addr.add_lit]
    obtain ⟨B', c', W', q, ho, ht2, _⟩ := app_gen ht hinf hzs hsz hby hE a n c xs hx hnw h1 (by omega) hz t
    rw [Nat.zero_add] at q ho
    refine ⟨B', c', W', q, ho, ht2.mono fun k _ h => ?_⟩
    injection h with h
    exact h.symm
theorem new_e {W : World} {Z e size : Nat} (hz : Z ≤ W.heap.size) : (W.alloc (.cells #[] e)).ownsRow Z e size (.slice (some ⟨W.heap.size, 0, none⟩) 0 0) 0 [] := World.ownsRow_lit W #[] 0 hz (by decide) (by simp)
/-- A node whose rows are its own, from block Z on. -/
structure Own (Z : Nat) (w : World) (K V : List ByteArray) (D : List Hn) (AK : Option Addr) (ck : Nat) (AV : Option Addr) (cv : Nat) (AD : Option Addr) (cd : Nat) : Prop where
  k : w.ownsRow Z 9 1 (.slice AK K.length ck) K.length (kcs K)
  v : w.ownsRow Z 9 1 (.slice AV V.length cv) V.length (kcs V)
  d : w.ownsRow Z 27 2 (.slice AD D.length cd) D.length (hcs D)
def CopyRes (leaf : Bool) (K V : List ByteArray) (D : List Hn) (high : ByteArray) (bnd : Bool) (slot gen : Int) (w : World) (e : Ending) (w' : World) : Prop :=
  ∃ AK ck AV cv AD cd, e = .returned (.agg #[.bool leaf, .slice AK K.length ck, .slice AV V.length cv, .slice AD D.length cd, .string high, .bool bnd, .int .i64 slot, .int .u64 gen]) ∧ Own w.heap.size w' K V D AK ck AV cv AD cd ∧ Turn No w w'
set_option maxRecDepth 100000 in
set_option maxHeartbeats 8000000 in
theorem copied_any (leaf : Bool) (K V : List ByteArray) (D : List Hn) (high : ByteArray) (bnd : Bool) (slot gen : Int) (AK AV AD : Option Addr) (ck cv cd : Nat) (w : World) (hK : Row w AK (kcs K)) (hV : Row w AV (kcs V)) (hD : Row w AD (hcs D)) (n1 : K.length ≤ 100000) (n2 : V.length ≤ 100000) (n3 : D.length ≤ 100000) :
    Calls Try.prog 29 #[.agg #[.bool leaf, .slice AK K.length ck, .slice AV V.length cv, .slice AD D.length cd, .string high, .bool bnd, .int .i64 slot, .int .u64 gen]] w fun e w' => CopyRes leaf K V D high bnd slot gen w e w' := by
  have t1 : Turn No w (w.alloc (.cells #[.bool leaf, .slice AK K.length ck, .slice AV V.length cv, .slice AD D.length cd, .string high, .bool bnd, .int .i64 slot, .int .u64 gen] 29)) := (Turn.refl _ _).alloc _
  have t2 : Turn No (w.alloc (.cells #[.bool leaf, .slice AK K.length ck, .slice AV V.length cv, .slice AD D.length cd, .string high, .bool bnd, .int .i64 slot, .int .u64 gen] 29)) ((w.alloc (.cells #[.bool leaf, .slice AK K.length ck, .slice AV V.length cv, .slice AD D.length cd, .string high, .bool bnd, .int .i64 slot, .int .u64 gen] 29)).alloc (.cells #[.bool false, .slice none 0 0, .slice none 0 0, .slice none 0 0, .string ⟨#[]⟩, .bool false, .int .i64 0, .int .u64 0] 29)) := (Turn.refl _ _).alloc _
  have a1 := (At.new w (.cells #[.bool leaf, .slice AK K.length ck, .slice AV V.length cv, .slice AD D.length cd, .string high, .bool bnd, .int .i64 slot, .int .u64 gen] 29)).no t2
  have a2 := At.new (w.alloc (.cells #[.bool leaf, .slice AK K.length ck, .slice AV V.length cv, .slice AD D.length cd, .string high, .bool bnd, .int .i64 slot, .int .u64 gen] 29)) (.cells #[.bool false, .slice none 0 0, .slice none 0 0, .slice none 0 0, .string ⟨#[]⟩, .bool false, .int .i64 0, .int .u64 0] 29)
  rw [World.size_alloc] at a2
  have HB : Hid (Turn No w ((w.alloc (.cells #[.bool leaf, .slice AK K.length ck, .slice AV V.length cv, .slice AD D.length cd, .string high, .bool bnd, .int .i64 slot, .int .u64 gen] 29)).alloc (.cells #[.bool false, .slice none 0 0, .slice none 0 0, .slice none 0 0, .string ⟨#[]⟩, .bool false, .int .i64 0, .int .u64 0] 29)) ∧ At ((w.alloc (.cells #[.bool leaf, .slice AK K.length ck, .slice AV V.length cv, .slice AD D.length cd, .string high, .bool bnd, .int .i64 slot, .int .u64 gen] 29)).alloc (.cells #[.bool false, .slice none 0 0, .slice none 0 0, .slice none 0 0, .string ⟨#[]⟩, .bool false, .int .i64 0, .int .u64 0] 29)) w.heap.size (.cells #[.bool leaf, .slice AK K.length ck, .slice AV V.length cv, .slice AD D.length cd, .string high, .bool bnd, .int .i64 slot, .int .u64 gen] 29 (0, 0)) ∧ At ((w.alloc (.cells #[.bool leaf, .slice AK K.length ck, .slice AV V.length cv, .slice AD D.length cd, .string high, .bool bnd, .int .i64 slot, .int .u64 gen] 29)).alloc (.cells #[.bool false, .slice none 0 0, .slice none 0 0, .slice none 0 0, .string ⟨#[]⟩, .bool false, .int .i64 0, .int .u64 0] 29)) (w.heap.size + 1) (.cells #[.bool false, .slice none 0 0, .slice none 0 0, .slice none 0 0, .string ⟨#[]⟩, .bool false, .int .i64 0, .int .u64 0] 29 (0, 0)) ∧ Row ((w.alloc (.cells #[.bool leaf, .slice AK K.length ck, .slice AV V.length cv, .slice AD D.length cd, .string high, .bool bnd, .int .i64 slot, .int .u64 gen] 29)).alloc (.cells #[.bool false, .slice none 0 0, .slice none 0 0, .slice none 0 0, .string ⟨#[]⟩, .bool false, .int .i64 0, .int .u64 0] 29)) AK (kcs K) ∧ Row ((w.alloc (.cells #[.bool leaf, .slice AK K.length ck, .slice AV V.length cv, .slice AD D.length cd, .string high, .bool bnd, .int .i64 slot, .int .u64 gen] 29)).alloc (.cells #[.bool false, .slice none 0 0, .slice none 0 0, .slice none 0 0, .string ⟨#[]⟩, .bool false, .int .i64 0, .int .u64 0] 29)) AV (kcs V) ∧ Row ((w.alloc (.cells #[.bool leaf, .slice AK K.length ck, .slice AV V.length cv, .slice AD D.length cd, .string high, .bool bnd, .int .i64 slot, .int .u64 gen] 29)).alloc (.cells #[.bool false, .slice none 0 0, .slice none 0 0, .slice none 0 0, .string ⟨#[]⟩, .bool false, .int .i64 0, .int .u64 0] 29)) AD (hcs D) ∧ w.heap.size ≤ w.heap.size) := Lib.hid ⟨t1.trans t2, a1, a2, hK.no (t1.trans t2), hV.no (t1.trans t2), hD.no (t1.trans t2), Nat.le_refl _⟩
  clear t1 t2 a1 a2
  go_enter Try.func29, Try.ntmps29
  go_upto_region 1 with fail
  try rw [World.size_alloc]
  obtain ⟨wb, hwb⟩ : ∃ x, ((w.alloc (.cells #[.bool leaf, .slice AK K.length ck, .slice AV V.length cv, .slice AD D.length cd, .string high, .bool bnd, .int .i64 slot, .int .u64 gen] 29)).alloc (.cells #[.bool false, .slice none 0 0, .slice none 0 0, .slice none 0 0, .string ⟨#[]⟩, .bool false, .int .i64 0, .int .u64 0] 29)) = x := ⟨_, rfl⟩
  rw [hwb] at HB ⊢
  clear hwb
  have HZ : Hid (w.heap.size + 1 < wb.heap.size) := Lib.hid HB.out.2.2.1.lt
  generalize hg2 : w.heap.size + 1 = g2 at HB HZ ⊢
  generalize hg1 : w.heap.size = g1 at HB HZ hg2 ⊢
  have HL : Hid (¬ g1 = g2) := Lib.hid (by omega)
  have H0 : Hid (Turn No w wb ∧ At wb g1 (.cells #[.bool leaf, .slice AK K.length ck, .slice AV V.length cv, .slice AD D.length cd, .string high, .bool bnd, .int .i64 slot, .int .u64 gen] 29 (0, 0)) ∧ At wb g2 (.cells #[.bool false, .slice none 0 0, .slice none 0 0, .slice none 0 0, .string ⟨#[]⟩, .bool false, .int .i64 0, .int .u64 0] 29 (0, 0)) ∧ Row wb AK (kcs K) ∧ Row wb AV (kcs V) ∧ Row wb AD (hcs D) ∧ g1 ≤ wb.heap.size) := Lib.hid ⟨HB.out.1, HB.out.2.1, HB.out.2.2.1, HB.out.2.2.2.1, HB.out.2.2.2.2.1, HB.out.2.2.2.2.2.1, by have := HZ.out; omega⟩
  have HZZ : Hid (w.heap.size = g1 ∧ g2 = g1 + 1) := Lib.hid ⟨hg1, by omega⟩
  have HRW := Lib.hid (And.intro hK (And.intro hV hD))
  clear HB HZ hg1 hg2 hK hV hD
  obtain ⟨B1, c1, wc0, q0, hq0, tq0⟩ := app_copy (c := ck) (A := AK) Try.underlying23 infw9 rfl (by decide) (by decide) (new_e (W := wb) (Z := g1) (e := 9) (size := 1) H0.out.2.2.2.2.2.2) (Nat.le_trans H0.out.2.2.2.2.2.2 ((Turn.refl No wb).alloc (.cells #[] 9)).size) (by simp [kcs]) (H0.out.2.2.2.1.no ((Turn.refl No wb).alloc (.cells #[] 9))) (one_kcs K) (n := K.length) (by omega)
  have HQ0 := Lib.hid (And.intro hq0 tq0)
  have HA0 : Hid (At (wb.alloc (.cells #[] 9)) g1 (.cells #[.bool leaf, .slice AK K.length ck, .slice AV V.length cv, .slice AD D.length cd, .string high, .bool bnd, .int .i64 slot, .int .u64 gen] 29 (0, 0)) ∧ At wc0 g1 (.cells #[.bool leaf, .slice AK K.length ck, .slice AV V.length cv, .slice AD D.length cd, .string high, .bool bnd, .int .i64 slot, .int .u64 gen] 29 (0, 0)) ∧ At wc0 g2 (.cells #[.bool false, .slice none 0 0, .slice none 0 0, .slice none 0 0, .string ⟨#[]⟩, .bool false, .int .i64 0, .int .u64 0] 29 (0, 0)) ∧ Turn No w wc0 ∧ Turn No wb wc0) := Lib.hid (by
    have tn : Turn No wb (wb.alloc (.cells #[] 9)) := (Turn.refl _ _).alloc _
    have h1 := H0.out.2.1.lt
    have h2 := H0.out.2.2.1.lt
    have t3 : Turn No wb wc0 := tn.then tq0 fun k hk e => by omega
    exact ⟨H0.out.2.1.no tn, H0.out.2.1.no t3, H0.out.2.2.1.no t3, H0.out.1.trans t3, t3⟩)
  have x1 := HA0.out.1.cell 1
  have y1 := HA0.out.2.1.cell 1
  have z1 := HA0.out.2.1.thawed 1
  simp at x1 y1
  clear hq0 tq0
  go_upto_region 2 with (at_builtin; refine wpList_append_run rfl _ _ 23 rfl _ _ _ rfl rfl q0 ?_)
  clear q0 x1 y1 z1
  have H1 : Hid (Turn No w (wc0.setCell ⟨g1, 1, none⟩ (.slice B1 K.length c1)) ∧ At (wc0.setCell ⟨g1, 1, none⟩ (.slice B1 K.length c1)) g1 (.cells #[.bool leaf, .slice B1 K.length c1, .slice AV V.length cv, .slice AD D.length cd, .string high, .bool bnd, .int .i64 slot, .int .u64 gen] 29 (0, 0)) ∧ At (wc0.setCell ⟨g1, 1, none⟩ (.slice B1 K.length c1)) g2 (.cells #[.bool false, .slice none 0 0, .slice none 0 0, .slice none 0 0, .string ⟨#[]⟩, .bool false, .int .i64 0, .int .u64 0] 29 (0, 0)) ∧ Row (wc0.setCell ⟨g1, 1, none⟩ (.slice B1 K.length c1)) AK (kcs K) ∧ Row (wc0.setCell ⟨g1, 1, none⟩ (.slice B1 K.length c1)) AV (kcs V) ∧ Row (wc0.setCell ⟨g1, 1, none⟩ (.slice B1 K.length c1)) AD (hcs D) ∧ g1 ≤ (wc0.setCell ⟨g1, 1, none⟩ (.slice B1 K.length c1)).heap.size ∧ (wc0.setCell ⟨g1, 1, none⟩ (.slice B1 K.length c1)).ownsRow g1 9 1 (.slice B1 K.length c1) K.length (kcs K)) := Lib.hid (by
    have s1 := Turn.set1 wc0 g1 1 (.slice B1 K.length c1)
    have tz : Turn No w (wc0.setCell ⟨g1, 1, none⟩ (.slice B1 K.length c1)) := HA0.out.2.2.2.1.then s1 fun k hk e => by have := HZZ.out.1; omega
    have hw : ∀ {x : Option Addr} {ys : List Value}, Row w x ys → Row (wc0.setCell ⟨g1, 1, none⟩ (.slice B1 K.length c1)) x ys := fun h => h.no tz
    refine ⟨tz, by simpa using HA0.out.2.1.set 1 (.slice B1 K.length c1), HA0.out.2.2.1.turn s1 (fun e => HL.out e.symm), hw HRW.out.1, hw HRW.out.2.1, hw HRW.out.2.2, by have := s1.size; have := HA0.out.2.1.lt; omega, own_grown HQ0.out.1 s1 (fun k hk e => own_neG HQ0.out.1 HA0.out.2.1 (by decide) (by rw [← e]; exact hk))⟩)
  clear HA0 HQ0 H0
  generalize (wc0.setCell ⟨g1, 1, none⟩ (.slice B1 K.length c1)) = wd0 at H1 ⊢
  obtain ⟨B2, c2, wc1, q1, hq1, tq1⟩ := app_copy (c := cv) (A := AV) Try.underlying23 infw9 rfl (by decide) (by decide) (new_e (W := wd0) (Z := g1) (e := 9) (size := 1) H1.out.2.2.2.2.2.2.1) (Nat.le_trans H1.out.2.2.2.2.2.2.1 ((Turn.refl No wd0).alloc (.cells #[] 9)).size) (by simp [kcs]) (H1.out.2.2.2.2.1.no ((Turn.refl No wd0).alloc (.cells #[] 9))) (one_kcs V) (n := V.length) (by omega)
  have HQ1 := Lib.hid (And.intro hq1 tq1)
  have HA1 : Hid (At (wd0.alloc (.cells #[] 9)) g1 (.cells #[.bool leaf, .slice B1 K.length c1, .slice AV V.length cv, .slice AD D.length cd, .string high, .bool bnd, .int .i64 slot, .int .u64 gen] 29 (0, 0)) ∧ At wc1 g1 (.cells #[.bool leaf, .slice B1 K.length c1, .slice AV V.length cv, .slice AD D.length cd, .string high, .bool bnd, .int .i64 slot, .int .u64 gen] 29 (0, 0)) ∧ At wc1 g2 (.cells #[.bool false, .slice none 0 0, .slice none 0 0, .slice none 0 0, .string ⟨#[]⟩, .bool false, .int .i64 0, .int .u64 0] 29 (0, 0)) ∧ Turn No w wc1 ∧ Turn No wd0 wc1) := Lib.hid (by
    have tn : Turn No wd0 (wd0.alloc (.cells #[] 9)) := (Turn.refl _ _).alloc _
    have h1 := H1.out.2.1.lt
    have h2 := H1.out.2.2.1.lt
    have t3 : Turn No wd0 wc1 := tn.then tq1 fun k hk e => by omega
    exact ⟨H1.out.2.1.no tn, H1.out.2.1.no t3, H1.out.2.2.1.no t3, H1.out.1.trans t3, t3⟩)
  have x1 := HA1.out.1.cell 2
  have y1 := HA1.out.2.1.cell 2
  have z1 := HA1.out.2.1.thawed 2
  simp at x1 y1
  clear hq1 tq1
  go_upto_region 3 with (at_builtin; refine wpList_append_run rfl _ _ 23 rfl _ _ _ rfl rfl q1 ?_)
  clear q1 x1 y1 z1
  have H2 : Hid (Turn No w (wc1.setCell ⟨g1, 2, none⟩ (.slice B2 V.length c2)) ∧ At (wc1.setCell ⟨g1, 2, none⟩ (.slice B2 V.length c2)) g1 (.cells #[.bool leaf, .slice B1 K.length c1, .slice B2 V.length c2, .slice AD D.length cd, .string high, .bool bnd, .int .i64 slot, .int .u64 gen] 29 (0, 0)) ∧ At (wc1.setCell ⟨g1, 2, none⟩ (.slice B2 V.length c2)) g2 (.cells #[.bool false, .slice none 0 0, .slice none 0 0, .slice none 0 0, .string ⟨#[]⟩, .bool false, .int .i64 0, .int .u64 0] 29 (0, 0)) ∧ Row (wc1.setCell ⟨g1, 2, none⟩ (.slice B2 V.length c2)) AK (kcs K) ∧ Row (wc1.setCell ⟨g1, 2, none⟩ (.slice B2 V.length c2)) AV (kcs V) ∧ Row (wc1.setCell ⟨g1, 2, none⟩ (.slice B2 V.length c2)) AD (hcs D) ∧ g1 ≤ (wc1.setCell ⟨g1, 2, none⟩ (.slice B2 V.length c2)).heap.size ∧ (wc1.setCell ⟨g1, 2, none⟩ (.slice B2 V.length c2)).ownsRow g1 9 1 (.slice B1 K.length c1) K.length (kcs K) ∧ (wc1.setCell ⟨g1, 2, none⟩ (.slice B2 V.length c2)).ownsRow g1 9 1 (.slice B2 V.length c2) V.length (kcs V)) := Lib.hid (by
    have s1 := Turn.set1 wc1 g1 2 (.slice B2 V.length c2)
    have tz : Turn No w (wc1.setCell ⟨g1, 2, none⟩ (.slice B2 V.length c2)) := HA1.out.2.2.2.1.then s1 fun k hk e => by have := HZZ.out.1; omega
    have hw : ∀ {x : Option Addr} {ys : List Value}, Row w x ys → Row (wc1.setCell ⟨g1, 2, none⟩ (.slice B2 V.length c2)) x ys := fun h => h.no tz
    refine ⟨tz, by simpa using HA1.out.2.1.set 2 (.slice B2 V.length c2), HA1.out.2.2.1.turn s1 (fun e => HL.out e.symm), hw HRW.out.1, hw HRW.out.2.1, hw HRW.out.2.2, by have := s1.size; have := HA1.out.2.1.lt; omega, own_grown (own_grown (H1.out.2.2.2.2.2.2.2) HA1.out.2.2.2.2 (fun _ _ h => h)) s1 (fun k hk e => own_neG (own_grown (H1.out.2.2.2.2.2.2.2) HA1.out.2.2.2.2 (fun _ _ h => h)) HA1.out.2.1 (by decide) (by rw [← e]; exact hk)), own_grown HQ1.out.1 s1 (fun k hk e => own_neG HQ1.out.1 HA1.out.2.1 (by decide) (by rw [← e]; exact hk))⟩)
  clear HA1 HQ1 H1
  generalize (wc1.setCell ⟨g1, 2, none⟩ (.slice B2 V.length c2)) = wd1 at H2 ⊢
  obtain ⟨B3, c3, wc2, q2, hq2, tq2⟩ := app_copy (c := cd) (A := AD) Try.underlying24 info27 rfl (by decide) (by decide) (new_e (W := wd1) (Z := g1) (e := 27) (size := 2) H2.out.2.2.2.2.2.2.1) (Nat.le_trans H2.out.2.2.2.2.2.2.1 ((Turn.refl No wd1).alloc (.cells #[] 27)).size) (hcs_length D) (H2.out.2.2.2.2.2.1.no ((Turn.refl No wd1).alloc (.cells #[] 27))) (one_hcs D) (n := D.length) (by omega)
  have HQ2 := Lib.hid (And.intro hq2 tq2)
  have HA2 : Hid (At (wd1.alloc (.cells #[] 27)) g1 (.cells #[.bool leaf, .slice B1 K.length c1, .slice B2 V.length c2, .slice AD D.length cd, .string high, .bool bnd, .int .i64 slot, .int .u64 gen] 29 (0, 0)) ∧ At wc2 g1 (.cells #[.bool leaf, .slice B1 K.length c1, .slice B2 V.length c2, .slice AD D.length cd, .string high, .bool bnd, .int .i64 slot, .int .u64 gen] 29 (0, 0)) ∧ At wc2 g2 (.cells #[.bool false, .slice none 0 0, .slice none 0 0, .slice none 0 0, .string ⟨#[]⟩, .bool false, .int .i64 0, .int .u64 0] 29 (0, 0)) ∧ Turn No w wc2 ∧ Turn No wd1 wc2) := Lib.hid (by
    have tn : Turn No wd1 (wd1.alloc (.cells #[] 27)) := (Turn.refl _ _).alloc _
    have h1 := H2.out.2.1.lt
    have h2 := H2.out.2.2.1.lt
    have t3 : Turn No wd1 wc2 := tn.then tq2 fun k hk e => by omega
    exact ⟨H2.out.2.1.no tn, H2.out.2.1.no t3, H2.out.2.2.1.no t3, H2.out.1.trans t3, t3⟩)
  have x1 := HA2.out.1.cell 3
  have y1 := HA2.out.2.1.cell 3
  have z1 := HA2.out.2.1.thawed 3
  simp at x1 y1
  clear hq2 tq2
  go_upto_region 4 with (at_builtin; refine wpList_append_run rfl _ _ 24 rfl _ _ _ rfl rfl q2 ?_)
  clear q2 x1 y1 z1
  have H3 : Hid (Turn No w (wc2.setCell ⟨g1, 3, none⟩ (.slice B3 D.length c3)) ∧ At (wc2.setCell ⟨g1, 3, none⟩ (.slice B3 D.length c3)) g1 (.cells #[.bool leaf, .slice B1 K.length c1, .slice B2 V.length c2, .slice B3 D.length c3, .string high, .bool bnd, .int .i64 slot, .int .u64 gen] 29 (0, 0)) ∧ At (wc2.setCell ⟨g1, 3, none⟩ (.slice B3 D.length c3)) g2 (.cells #[.bool false, .slice none 0 0, .slice none 0 0, .slice none 0 0, .string ⟨#[]⟩, .bool false, .int .i64 0, .int .u64 0] 29 (0, 0)) ∧ Row (wc2.setCell ⟨g1, 3, none⟩ (.slice B3 D.length c3)) AK (kcs K) ∧ Row (wc2.setCell ⟨g1, 3, none⟩ (.slice B3 D.length c3)) AV (kcs V) ∧ Row (wc2.setCell ⟨g1, 3, none⟩ (.slice B3 D.length c3)) AD (hcs D) ∧ g1 ≤ (wc2.setCell ⟨g1, 3, none⟩ (.slice B3 D.length c3)).heap.size ∧ (wc2.setCell ⟨g1, 3, none⟩ (.slice B3 D.length c3)).ownsRow g1 9 1 (.slice B1 K.length c1) K.length (kcs K) ∧ (wc2.setCell ⟨g1, 3, none⟩ (.slice B3 D.length c3)).ownsRow g1 9 1 (.slice B2 V.length c2) V.length (kcs V) ∧ (wc2.setCell ⟨g1, 3, none⟩ (.slice B3 D.length c3)).ownsRow g1 27 2 (.slice B3 D.length c3) D.length (hcs D)) := Lib.hid (by
    have s1 := Turn.set1 wc2 g1 3 (.slice B3 D.length c3)
    have tz : Turn No w (wc2.setCell ⟨g1, 3, none⟩ (.slice B3 D.length c3)) := HA2.out.2.2.2.1.then s1 fun k hk e => by have := HZZ.out.1; omega
    have hw : ∀ {x : Option Addr} {ys : List Value}, Row w x ys → Row (wc2.setCell ⟨g1, 3, none⟩ (.slice B3 D.length c3)) x ys := fun h => h.no tz
    refine ⟨tz, by simpa using HA2.out.2.1.set 3 (.slice B3 D.length c3), HA2.out.2.2.1.turn s1 (fun e => HL.out e.symm), hw HRW.out.1, hw HRW.out.2.1, hw HRW.out.2.2, by have := s1.size; have := HA2.out.2.1.lt; omega, own_grown (own_grown (H2.out.2.2.2.2.2.2.2.1) HA2.out.2.2.2.2 (fun _ _ h => h)) s1 (fun k hk e => own_neG (own_grown (H2.out.2.2.2.2.2.2.2.1) HA2.out.2.2.2.2 (fun _ _ h => h)) HA2.out.2.1 (by decide) (by rw [← e]; exact hk)), own_grown (own_grown (H2.out.2.2.2.2.2.2.2.2) HA2.out.2.2.2.2 (fun _ _ h => h)) s1 (fun k hk e => own_neG (own_grown (H2.out.2.2.2.2.2.2.2.2) HA2.out.2.2.2.2 (fun _ _ h => h)) HA2.out.2.1 (by decide) (by rw [← e]; exact hk)), own_grown HQ2.out.1 s1 (fun k hk e => own_neG HQ2.out.1 HA2.out.2.1 (by decide) (by rw [← e]; exact hk))⟩)
  clear HA2 HQ2 H2
  generalize (wc2.setCell ⟨g1, 3, none⟩ (.slice B3 D.length c3)) = wd2 at H3 ⊢
  have c0' := H3.out.2.1.cell 0
  have c1' := H3.out.2.1.cell 1
  have c2' := H3.out.2.1.cell 2
  have c3' := H3.out.2.1.cell 3
  have c4' := H3.out.2.1.cell 4
  have c5' := H3.out.2.1.cell 5
  have c6' := H3.out.2.1.cell 6
  have c7' := H3.out.2.1.cell 7
  have d0' := H3.out.2.2.1.cell 0
  have d1' := H3.out.2.2.1.cell 1
  have d2' := H3.out.2.2.1.cell 2
  have d3' := H3.out.2.2.1.cell 3
  have d4' := H3.out.2.2.1.cell 4
  have d5' := H3.out.2.2.1.cell 5
  have d6' := H3.out.2.2.1.cell 6
  have d7' := H3.out.2.2.1.cell 7
  have e0' := H3.out.2.2.1.thawed 0
  have e1' := H3.out.2.2.1.thawed 1
  have e2' := H3.out.2.2.1.thawed 2
  have e3' := H3.out.2.2.1.thawed 3
  have e4' := H3.out.2.2.1.thawed 4
  have e5' := H3.out.2.2.1.thawed 5
  have e6' := H3.out.2.2.1.thawed 6
  have e7' := H3.out.2.2.1.thawed 7
  simp at c0' c1' c2' c3' c4' c5' c6' c7' d0' d1' d2' d3' d4' d5' d6' d7'
  have HZ : Hid (At ((((((((wd2.setCell ⟨g2, 0, none⟩ (.bool leaf)).setCell ⟨g2, 1, none⟩ (.slice B1 K.length c1)).setCell ⟨g2, 2, none⟩ (.slice B2 V.length c2)).setCell ⟨g2, 3, none⟩ (.slice B3 D.length c3)).setCell ⟨g2, 4, none⟩ (.string high)).setCell ⟨g2, 5, none⟩ (.bool bnd)).setCell ⟨g2, 6, none⟩ (.int .i64 slot)).setCell ⟨g2, 7, none⟩ (.int .u64 gen)) g2 (.cells #[.bool leaf, .slice B1 K.length c1, .slice B2 V.length c2, .slice B3 D.length c3, .string high, .bool bnd, .int .i64 slot, .int .u64 gen] 29 (0, 0)) ∧ Own w.heap.size ((((((((wd2.setCell ⟨g2, 0, none⟩ (.bool leaf)).setCell ⟨g2, 1, none⟩ (.slice B1 K.length c1)).setCell ⟨g2, 2, none⟩ (.slice B2 V.length c2)).setCell ⟨g2, 3, none⟩ (.slice B3 D.length c3)).setCell ⟨g2, 4, none⟩ (.string high)).setCell ⟨g2, 5, none⟩ (.bool bnd)).setCell ⟨g2, 6, none⟩ (.int .i64 slot)).setCell ⟨g2, 7, none⟩ (.int .u64 gen)) K V D B1 c1 B2 c2 B3 c3 ∧ Turn No w ((((((((wd2.setCell ⟨g2, 0, none⟩ (.bool leaf)).setCell ⟨g2, 1, none⟩ (.slice B1 K.length c1)).setCell ⟨g2, 2, none⟩ (.slice B2 V.length c2)).setCell ⟨g2, 3, none⟩ (.slice B3 D.length c3)).setCell ⟨g2, 4, none⟩ (.string high)).setCell ⟨g2, 5, none⟩ (.bool bnd)).setCell ⟨g2, 6, none⟩ (.int .i64 slot)).setCell ⟨g2, 7, none⟩ (.int .u64 gen))) := Lib.hid (by
    have tw : Turn (fun k => k = g2) wd2 ((((((((wd2.setCell ⟨g2, 0, none⟩ (.bool leaf)).setCell ⟨g2, 1, none⟩ (.slice B1 K.length c1)).setCell ⟨g2, 2, none⟩ (.slice B2 V.length c2)).setCell ⟨g2, 3, none⟩ (.slice B3 D.length c3)).setCell ⟨g2, 4, none⟩ (.string high)).setCell ⟨g2, 5, none⟩ (.bool bnd)).setCell ⟨g2, 6, none⟩ (.int .i64 slot)).setCell ⟨g2, 7, none⟩ (.int .u64 gen)) := (((((((((Turn.refl (fun k => k = g2) wd2).trans (Turn.set1 _ g2 0 (.bool leaf))).trans (Turn.set1 _ g2 1 (.slice B1 K.length c1))).trans (Turn.set1 _ g2 2 (.slice B2 V.length c2))).trans (Turn.set1 _ g2 3 (.slice B3 D.length c3))).trans (Turn.set1 _ g2 4 (.string high))).trans (Turn.set1 _ g2 5 (.bool bnd))).trans (Turn.set1 _ g2 6 (.int .i64 slot))).trans (Turn.set1 _ g2 7 (.int .u64 gen)))
    have hs := HZZ.out
    refine ⟨by simpa using ((((((((H3.out.2.2.1.set 0 (.bool leaf)).set 1 (.slice B1 K.length c1)).set 2 (.slice B2 V.length c2)).set 3 (.slice B3 D.length c3)).set 4 (.string high)).set 5 (.bool bnd)).set 6 (.int .i64 slot)).set 7 (.int .u64 gen)), ⟨?_, ?_, ?_⟩, H3.out.1.then tw fun k hk e => by omega⟩
    · rw [hs.1]; exact own_grown H3.out.2.2.2.2.2.2.2.1 tw (fun k hk e => own_neG H3.out.2.2.2.2.2.2.2.1 H3.out.2.2.1 (by decide) (by rw [← e]; exact hk))
    · rw [hs.1]; exact own_grown H3.out.2.2.2.2.2.2.2.2.1 tw (fun k hk e => own_neG H3.out.2.2.2.2.2.2.2.2.1 H3.out.2.2.1 (by decide) (by rw [← e]; exact hk))
    · rw [hs.1]; exact own_grown H3.out.2.2.2.2.2.2.2.2.2 tw (fun k hk e => own_neG H3.out.2.2.2.2.2.2.2.2.2 H3.out.2.2.1 (by decide) (by rw [← e]; exact hk)))
  go_wp2_with fail
  generalize ((((((((wd2.setCell ⟨g2, 0, none⟩ (.bool leaf)).setCell ⟨g2, 1, none⟩ (.slice B1 K.length c1)).setCell ⟨g2, 2, none⟩ (.slice B2 V.length c2)).setCell ⟨g2, 3, none⟩ (.slice B3 D.length c3)).setCell ⟨g2, 4, none⟩ (.string high)).setCell ⟨g2, 5, none⟩ (.bool bnd)).setCell ⟨g2, 6, none⟩ (.int .i64 slot)).setCell ⟨g2, 7, none⟩ (.int .u64 gen)) = w9 at HZ ⊢
  (try simp only [Exit.inBlock, Exit.then])
  refine bodyPost_ret (results_cell_row rfl _ _ g2 29 _ (0, 0) _ (by rfl) HZ.out.1 Try.underlying29 rfl (by kernel_rfl)) rfl ?_
  exact ⟨B1, c1, B2, c2, B3, c3, rfl, HZ.out.2.1, HZ.out.2.2⟩
end Go.Proofs.Ytengbkopihiiaaa
