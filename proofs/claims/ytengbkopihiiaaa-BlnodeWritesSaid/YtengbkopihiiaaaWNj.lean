/-
  The law's great and pairs.
-/
import Derived.Test.YtengbkopihiiaaaWNi
namespace Go.Proofs.Ytengbkopihiiaaa
open Go.RowKit Go.Lib
set_option linter.unusedVariables false
set_option maxRecDepth 20000
set_option maxRecDepth 20000
set_option linter.unusedSimpArgs false

/-- A node that is let by. -/
def SmallN (K : List ByteArray) (nv nd : Nat) (high : ByteArray) : Prop := K.length ≤ 300 ∧ nv ≤ 300 ∧ nd ≤ 301 ∧ high.size ≤ 20000 ∧ ∀ k ∈ K, k.size ≤ 20000
def GRes (P : Prop) (w : World) (e : Ending) (w' : World) : Prop := ∃ b, e = .returned (.bool b) ∧ (b = false → P) ∧ Turn No w w'
theorem GRes.of {P : Prop} {w w' : World} {e : Ending} (b : Bool) (h1 : e = .returned (.bool b)) (h2 : b = false → P) (h3 : Turn No w w') : GRes P w e w' := ⟨b, h1, h2, h3⟩
set_option maxRecDepth 100000 in
set_option maxHeartbeats 8000000 in
theorem great_any (leaf : Bool) (K : List ByteArray) (nv nd : Nat) (high : ByteArray) (bnd : Bool) (slot gen : Int) (AK AV AD : Option Addr) (ck cv cd : Nat) (w : World) (hR : Row w AK (kcs K)) (hf : ∀ k ∈ K, Fit k) (hh : Fit high) (hl : K.length ≤ maxLen) (hv : nv ≤ maxLen) (hd : nd ≤ maxLen) :
    Calls Try.prog 21 #[.agg #[.bool leaf, .slice AK K.length ck, .slice AV nv cv, .slice AD nd cd, .string high, .bool bnd, .int .i64 slot, .int .u64 gen]] w fun e w' => GRes (SmallN K nv nd high) w e w' := by
  have HB : Hid (Turn No w (w.alloc (.cells #[.bool leaf, .slice AK K.length ck, .slice AV nv cv, .slice AD nd cd, .string high, .bool bnd, .int .i64 slot, .int .u64 gen] 29)) ∧ At (w.alloc (.cells #[.bool leaf, .slice AK K.length ck, .slice AV nv cv, .slice AD nd cd, .string high, .bool bnd, .int .i64 slot, .int .u64 gen] 29)) w.heap.size (.cells #[.bool leaf, .slice AK K.length ck, .slice AV nv cv, .slice AD nd cd, .string high, .bool bnd, .int .i64 slot, .int .u64 gen] 29 (0, 0))) := Lib.hid ⟨(Turn.refl _ _).alloc _, At.new _ _⟩
  have HR := Lib.hid (And.intro (hR.no HB.out.1) hf)
  unfold Fit at hh
  unfold maxLen at hl hv hd
  clear hR hf
  go_enter Try.func21, Try.ntmps21
  go_upto_region 1 with fail
  generalize w.alloc (.cells #[.bool leaf, .slice AK K.length ck, .slice AV nv cv, .slice AD nd cd, .string high, .bool bnd, .int .i64 slot, .int .u64 gen] 29) = w1 at HB HR ⊢
  generalize w.heap.size = g at HB ⊢
  obtain ⟨e1, e2, e3, e4⟩ : w1.cell? ⟨g, 1, none⟩ = some (.slice AK K.length ck) ∧ w1.cell? ⟨g, 2, none⟩ = some (.slice AV nv cv) ∧ w1.cell? ⟨g, 3, none⟩ = some (.slice AD nd cd) ∧ w1.cell? ⟨g, 4, none⟩ = some (.string high) := ⟨HB.out.2.cell 1, HB.out.2.cell 2, HB.out.2.cell 3, HB.out.2.cell 4⟩
  go_wp2_with fail
  go_loopw [3, 4] (fun s x wr => ∃ i t : Nat, i ≤ K.length ∧ i ≤ 301 ∧ high.size ≤ t ∧ t ≤ high.size + 20001 * i ∧ x = .int .i64 (i : Int) ∧ s = .int .i64 (t : Int) ∧ wr = w1 ∧ Hid (t ≤ 20000 → ∀ k ∈ K.take i, k.size ≤ 20000)) (fun _ x _ => K.length - (RowKit.intOf x).toNat)
  case atStart => exact ⟨0, high.size, Nat.zero_le _, by omega, Nat.le_refl _, by omega, rfl, rfl, rfl, Lib.hid (by simp)⟩
  case round =>
    obtain ⟨i, t, hi, hi2, ht1, ht2, rfl, rfl, hwr, HP⟩ := hrel
    subst hwr
    by_cases hgo : i < K.length ∧ i ≤ 300
    · obtain ⟨hlt, h300⟩ := hgo
      obtain ⟨x, hx⟩ : ∃ u, K[i]? = some u := ⟨K[i], List.getElem?_eq_getElem hlt⟩
      obtain ⟨b, o, hB, x0⟩ := kcs_get HR.out.1 hx
      have HS := Lib.hid (all_snoc (Q := fun k => k.size ≤ 20000) hx)
      have hxf := HR.out.2 x (List.mem_of_getElem? hx)
      unfold Fit at hxf
      subst hB
      clear hx
      have hq1 : (0 : Int) ≤ (i : Int) := by omega
      have hq2 : (i : Int) < (K.length : Int) := by omega
      have hq3 : (i : Int) ≤ 300 := by omega
      by_cases hs : x.size ≤ 20000
      · have hm : (x.size : Int) < 20001 := by omega
        have HX : Hid (t + x.size ≤ 20000 → ∀ k ∈ K.take (i + 1), k.size ≤ 20000) := Lib.hid fun h => HS.out.2 ⟨HP.out (by omega), hs⟩
        go_wp2_with fail
        exact ⟨⟨i + 1, t + x.size, by omega, by omega, by omega, by omega, by go_num, by go_num, trivial, HX⟩, by simp [RowKit.intOf]; omega⟩
      · have hm : ¬ (x.size : Int) < 20001 := by omega
        have HX : Hid (t + 20001 ≤ 20000 → ∀ k ∈ K.take (i + 1), k.size ≤ 20000) := Lib.hid fun h => by omega
        go_wp2_with fail
        exact ⟨⟨i + 1, t + 20001, by omega, by omega, by omega, by omega, by go_num, by go_num, trivial, HX⟩, by simp [RowKit.intOf]; omega⟩
    · have HE : Hid (K.length ≤ 300 → t ≤ 20000 → ∀ k ∈ K, k.size ≤ 20000) := Lib.hid fun h1 h2 => by
        have h := HP.out h2
        have : i = K.length := by omega
        rw [this, List.take_length] at h
        exact h
      by_cases hlt : i < K.length
      · have g1 : (i : Int) < (K.length : Int) := by omega
        have g2 : ¬ (i : Int) ≤ 300 := by omega
        clear hgo
        have q1 : (300 : Int) < (K.length : Int) := by omega
        go_wp2_with fail
        go_ret
        exact GRes.of true rfl (fun h => by cases h) HB.out.1
      · have g1 : ¬ (i : Int) < (K.length : Int) := by omega
        clear hgo
        go_upto_region 6 with fail
        by_cases c1 : K.length ≤ 300
        · have q1 : ¬ (300 : Int) < (K.length : Int) := by omega
          by_cases c2 : nv ≤ 300
          · have q2 : ¬ (300 : Int) < (nv : Int) := by omega
            by_cases c3 : nd ≤ 301
            · have q3 : ¬ (301 : Int) < (nd : Int) := by omega
              by_cases c4 : t ≤ 20000
              · have q4 : ¬ (20000 : Int) < (t : Int) := by omega
                have HF : Hid (SmallN K nv nd high) := Lib.hid ⟨c1, c2, c3, by omega, HE.out c1 c4⟩
                go_wp2_with fail
                go_ret
                exact GRes.of false rfl (fun _ => HF.out) HB.out.1
              · have q4 : (20000 : Int) < (t : Int) := by omega
                go_wp2_with fail
                go_ret
                exact GRes.of true rfl (fun h => by cases h) HB.out.1
            · have q3 : (301 : Int) < (nd : Int) := by omega
              go_wp2_with fail
              go_ret
              exact GRes.of true rfl (fun h => by cases h) HB.out.1
          · have q2 : (300 : Int) < (nv : Int) := by omega
            go_wp2_with fail
            go_ret
            exact GRes.of true rfl (fun h => by cases h) HB.out.1
        · have q1 : (300 : Int) < (K.length : Int) := by omega
          go_wp2_with fail
          go_ret
          exact GRes.of true rfl (fun h => by cases h) HB.out.1
theorem Ps.appendD {w0 w : World} {L : List Pr} {B : Option Addr} {c : Nat} (h : Ps w0 w L B c) (hl : L.length < 1000000) (p : Pr) :
    ∃ B' c' w', AppRun 51 51 (.slice B L.length c) (.slice (some ⟨w.heap.size, 0, none⟩) 1 1) (.slice B' (L.length + 1) c') (w.alloc (.cells p.cs.toArray 74)).drew w' ∧ Ps w0 w' (L ++ [p]) B' c' ∧ ∀ g cs, At w g (.cells cs 29 (0, 0)) → At w' g (.cells cs 29 (0, 0)) := by
  have tn : Turn No w (w.alloc (.cells p.cs.toArray 74)).drew := ((Turn.refl No w).alloc _).drew
  have h2 := h.no tn
  have hn := (At.new w (.cells p.cs.toArray 74)).no (Turn.refl No _).drew
  obtain ⟨B', c', w', q, ho, ht, hB⟩ := app_gen Try.underlying51 info64 rfl (by decide) (by decide) h2.row ⟨w.heap.size, 0, none⟩ 1 1 p.cs rfl
    (fun j u hj => by rw [Addr.add_lit, Nat.zero_add, hn.cell]; simpa using hj) (one_pr p) (by omega) h2.tu.size 51
  refine ⟨B', c', w', q, ⟨h2.tu.then ht fun k hk hb => ?_, ?_⟩, fun g cs hg => (hg.no tn).turn ht fun e => own_neG h2.row (hg.no tn) (by decide) e⟩
  · rw [own_ablk] at hb
    have := (own_at h2.row hb).1
    omega
  · have e : pcs (L ++ [p]) = pcs L ++ p.cs := by rw [pcs_append]; simp [pcs]
    rw [List.length_append, e]
    exact ho
/-- A leaf's pairs, as far as both rows go. -/
def zipP (K V : List ByteArray) : List Pr := (K.zip V).map fun p => ⟨p.1, p.2⟩
theorem zipP_length (K V : List ByteArray) : (zipP K V).length = min K.length V.length := by unfold zipP; rw [List.length_map, List.length_zip]
theorem zipP_get {K V : List ByteArray} {i : Nat} {x y : ByteArray} (hx : K[i]? = some x) (hy : V[i]? = some y) : (zipP K V)[i]? = some ⟨x, y⟩ := by
  unfold zipP
  rw [List.getElem?_map, List.getElem?_zip_eq_some (z := (x, y)).2 ⟨hx, hy⟩]
  rfl
theorem take_get {l : List Pr} {i : Nat} {p : Pr} (h : l[i]? = some p) : l.take (i + 1) = l.take i ++ [p] := by rw [List.take_add_one, h]; rfl
set_option maxRecDepth 100000 in
set_option maxHeartbeats 8000000 in
theorem pairs_any (leaf : Bool) (K V : List ByteArray) (nd : Nat) (high : ByteArray) (bnd : Bool) (slot gen : Int) (AK AV AD : Option Addr) (ck cv cd : Nat) (w : World) (hK : Row w AK (kcs K)) (hV : Row w AV (kcs V)) (n1 : K.length ≤ 100000) (n2 : V.length ≤ 100000) :
    Calls Try.prog 31 #[.agg #[.bool leaf, .slice AK K.length ck, .slice AV V.length cv, .slice AD nd cd, .string high, .bool bnd, .int .i64 slot, .int .u64 gen]] w fun e w' => ∃ B c, e = .returned (.slice B (zipP K V).length c) ∧ Ps w w' (zipP K V) B c := by
  have HB : Hid (Turn No w (w.alloc (.cells #[.bool leaf, .slice AK K.length ck, .slice AV V.length cv, .slice AD nd cd, .string high, .bool bnd, .int .i64 slot, .int .u64 gen] 29)) ∧ At (w.alloc (.cells #[.bool leaf, .slice AK K.length ck, .slice AV V.length cv, .slice AD nd cd, .string high, .bool bnd, .int .i64 slot, .int .u64 gen] 29)) w.heap.size (.cells #[.bool leaf, .slice AK K.length ck, .slice AV V.length cv, .slice AD nd cd, .string high, .bool bnd, .int .i64 slot, .int .u64 gen] 29 (0, 0))) := Lib.hid ⟨(Turn.refl _ _).alloc _, At.new _ _⟩
  have HR := Lib.hid (And.intro hK hV)
  clear hK hV
  go_enter Try.func31, Try.ntmps31
  go_upto_region 1 with fail
  obtain ⟨w1, hw1⟩ : ∃ x, w.alloc (.cells #[.bool leaf, .slice AK K.length ck, .slice AV V.length cv, .slice AD nd cd, .string high, .bool bnd, .int .i64 slot, .int .u64 gen] 29) = x := ⟨_, rfl⟩
  obtain ⟨g, hg⟩ : ∃ x, w.heap.size = x := ⟨_, rfl⟩
  rw [hw1, hg] at HB
  rw [hw1, hg]
  clear hw1 hg
  go_wp2_with fail
  go_loopw [3, 4] (fun s x wr => ∃ (i : Nat) (B : Option Addr) (c : Nat), i ≤ K.length ∧ i ≤ V.length ∧ x = .int .i64 (i : Int) ∧ s = .slice B i c ∧ Hid (((zipP K V).take i).length = i ∧ Ps w wr ((zipP K V).take i) B c ∧ At wr g (.cells #[.bool leaf, .slice AK K.length ck, .slice AV V.length cv, .slice AD nd cd, .string high, .bool bnd, .int .i64 slot, .int .u64 gen] 29 (0, 0)))) (fun _ x _ => K.length - (RowKit.intOf x).toNat)
  case atStart => exact ⟨0, none, 0, Nat.zero_le _, Nat.zero_le _, rfl, rfl, Lib.hid ⟨rfl, ⟨HB.out.1, World.ownsRow_nil _ _ _ _⟩, HB.out.2⟩⟩
  case round =>
    obtain ⟨i, B, c, hi1, hi2, rfl, rfl, HP⟩ := hrel
    obtain ⟨e1, e2⟩ : wr.cell? ⟨g, 1, none⟩ = some (.slice AK K.length ck) ∧ wr.cell? ⟨g, 2, none⟩ = some (.slice AV V.length cv) := ⟨HP.out.2.2.cell 1, HP.out.2.2.cell 2⟩
    by_cases hgo : i < K.length ∧ i < V.length
    · obtain ⟨h1, h2⟩ := hgo
      obtain ⟨x, hx⟩ : ∃ u, K[i]? = some u := ⟨K[i], List.getElem?_eq_getElem h1⟩
      obtain ⟨y, hy⟩ : ∃ u, V[i]? = some u := ⟨V[i], List.getElem?_eq_getElem h2⟩
      obtain ⟨b1, o1, hB1, hc1⟩ := kcs_hold (HR.out.1.no HP.out.2.1.tu) hx
      obtain ⟨b2, o2, hB2, hc2⟩ := kcs_hold (HR.out.2.no HP.out.2.1.tu) hy
      have x0 := hc1 wr (Turn.refl _ _)
      have y0 := hc2 wr (Turn.refl _ _)
      have HZ := Lib.hid (zipP_get hx hy)
      obtain ⟨B9, c9, w9, q, hq, ha⟩ := HP.out.2.1.appendD (by rw [HP.out.1]; omega) ⟨x, y⟩
      have HQ := Lib.hid (And.intro hq (ha _ _ HP.out.2.2))
      rw [HP.out.1] at q
      simp only [Pr.cs] at q
      subst hB1 hB2
      clear hx hy hc1 hc2 hq ha
      have hq1 : (0 : Int) ≤ (i : Int) := by omega
      have hq2 : (i : Int) < (K.length : Int) := by omega
      have hq3 : (i : Int) < (V.length : Int) := by omega
      go_upto_region 5 with fail
      go_region_law ((refine step_append_run (by rfl) _ _ 51 (by rfl) _ _ _ (by rfl) (by rfl) q ?_))
      all_goals go_wp2_with fail
      all_goals exact ⟨⟨i + 1, B9, c9, by omega, by omega, by go_num, rfl, Lib.hid (by rw [take_get HZ.out]; exact ⟨by rw [List.length_append, HP.out.1]; rfl, HQ.out⟩)⟩, by simp [RowKit.intOf]; omega⟩
    · have HE : Hid (i = (zipP K V).length ∧ (zipP K V).take i = zipP K V) := Lib.hid (by
        have h := zipP_length K V
        have e : i = (zipP K V).length := by omega
        exact ⟨e, by rw [e, List.take_length]⟩)
      by_cases hlt : i < K.length
      · have g1 : (i : Int) < (K.length : Int) := by omega
        have g2 : ¬ (i : Int) < (V.length : Int) := by omega
        clear hgo
        go_wp2_with fail
        go_ret
        exact ⟨B, c, by first | exact HE.out.1 | exact congrArg _ (congrArg (fun m => Value.slice B m c) HE.out.1), by have h := HP.out.2.1; rwa [HE.out.2] at h⟩
      · have g1 : ¬ (i : Int) < (K.length : Int) := by omega
        clear hgo
        go_wp2_with fail
        go_ret
        exact ⟨B, c, by first | exact HE.out.1 | exact congrArg _ (congrArg (fun m => Value.slice B m c) HE.out.1), by have h := HP.out.2.1; rwa [HE.out.2] at h⟩
end Go.Proofs.Ytengbkopihiiaaa
