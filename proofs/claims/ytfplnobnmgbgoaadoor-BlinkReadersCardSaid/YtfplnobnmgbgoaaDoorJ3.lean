/-
  Less: byte by byte.
  The document's Rises and Place; the law's same.
  The document's Place; the law's same, covers, right.
  The law's right.
  The law's equal.
  The document's Get, Delete and Put over pairs.
  The document's Put over pairs.
  The law's great and pairs.
  The law's copied: a node of its own.
  The law's spoil: writes over what an answer has.
  The law's of: a leaf with pairs.
  The law's leaf and inner: the chapter's examples.
  What is asked of the program's Find; the law's value over it.
  What is asked of the program (a node that comes in, an answer that shares nothing with it), and the law's awake over that.
-/
import Derived.Test.YtfplnobnmgbgoaaDoorJ2
namespace Go.Proofs.YtfplnobnmgbgoaaDoor
open Go.RowKit Go.Lib
set_option linter.unusedVariables false
set_option maxRecDepth 20000
set_option maxRecDepth 20000
set_option linter.unusedSimpArgs false

theorem getD_at (a : ByteArray) (k : Nat) (h : k < a.size) : a.data.toList.getD k 0 = a[k] := by
  have h' : k < a.data.toList.length := by simpa using h
  rw [List.getD, List.getElem?_eq_getElem h']
  rfl
theorem alike_of {a b : ByteArray} {k : Nat} (ha : k < a.size) (hb : k < b.size) (h : ((a[k].toNat : Int) != (b[k].toNat : Int)) = false) : a.data.toList.getD k 0 = b.data.toList.getD k 0 := by
  rw [getD_at a k ha, getD_at b k hb]
  have h1 : (a[k].toNat : Int) = (b[k].toNat : Int) := by simpa using h
  exact UInt8.toNat_inj.1 (by omega)
theorem cmp_at : ∀ (k : Nat) (a b : List UInt8), (∀ j, j < k → a.getD j 0 = b.getD j 0) → k < a.length → k < b.length → a.getD k 0 ≠ b.getD k 0 → (Math.cmp a b < 0 ↔ (a.getD k 0).toNat < (b.getD k 0).toNat)
  | 0, x :: a, y :: b, _, _, _, hne => by
    simp only [List.getD_cons_zero] at hne ⊢
    rw [Math.cmp_cons]
    by_cases h : x < y
    · rw [if_pos h]
      have := UInt8.lt_iff_toNat_lt.1 h
      simp [this]
    · have h2 : ¬ x.toNat < y.toNat := fun e => h (UInt8.lt_iff_toNat_lt.2 e)
      rw [if_neg h]
      by_cases h3 : y < x
      · rw [if_pos h3]; simp [h2]
      · exfalso
        rcases Math.u8_tri x y with e | e | e
        · exact h e
        · exact hne e
        · exact h3 e
  | k + 1, x :: a, y :: b, hs, ha, hb, hne => by
    have h0 : x = y := by simpa using hs 0 (by omega)
    subst h0
    rw [Math.cmp_eq]
    simp only [List.getD_cons_succ] at hne ⊢
    exact cmp_at k a b (fun j hj => by simpa using hs (j + 1) (by omega)) (by simpa using ha) (by simpa using hb) hne
  | _, [], _, _, h, _, _ => by simp at h
  | _, _ :: _, [], _, _, h, _ => by simp at h
theorem cmp_end : ∀ (k : Nat) (a b : List UInt8), (∀ j, j < k → a.getD j 0 = b.getD j 0) → k ≤ a.length → k ≤ b.length → (k = a.length ∨ k = b.length) → (Math.cmp a b < 0 ↔ a.length < b.length)
  | 0, [], [], _, _, _, _ => by simp [Math.cmp, Lib.compareBytes]
  | 0, [], _ :: _, _, _, _, _ => by simp [Math.cmp, Lib.compareBytes]
  | 0, _ :: _, [], _, _, _, _ => by simp [Math.cmp, Lib.compareBytes]
  | 0, _ :: _, _ :: _, _, _, _, h => by simp at h
  | k + 1, [], _, _, h, _, _ => by simp at h
  | k + 1, _ :: _, [], _, _, h, _ => by simp at h
  | k + 1, x :: a, y :: b, hs, ha, hb, h => by
    have h0 : x = y := by simpa using hs 0 (by omega)
    subst h0
    rw [Math.cmp_eq, cmp_end k a b (fun j hj => by simpa using hs (j + 1) (by omega)) (by simpa using ha) (by simpa using hb) (by simpa using h)]
    simp
instance (a b : ByteArray) : Decidable (kl a b) := by unfold kl; infer_instance
set_option maxHeartbeats 1000000 in
theorem less_any (a b : ByteArray) (w : World) (ha : Fit a) (hb : Fit b) :
    Calls Tryd.prog 40 #[.string a, .string b] w fun e w' => e = .returned (.bool (decide (kl a b))) ∧ ∃ n, w' = w.drewN n := by
  unfold Fit at ha hb
  obtain ⟨r, hr⟩ : ∃ r, decide (kl a b) = r := ⟨_, rfl⟩
  have HR : Hid ((kl a b → r = true) ∧ (¬ kl a b → r = false)) := Lib.hid ⟨fun h => by rw [← hr]; exact decide_eq_true h, fun h => by rw [← hr]; exact decide_eq_false h⟩
  rw [hr]
  clear hr
  go_enter Tryd.func40, Tryd.ntmps40
  go_wp2_with fail
  go_loopw [5] (fun i wr => ∃ k n : Nat, k ≤ a.size ∧ k ≤ b.size ∧ i = .int .i64 (k : Int) ∧ Hid (∀ j, j < k → a.data.toList.getD j 0 = b.data.toList.getD j 0) ∧ wr = w.drewN n) (fun i _ => a.size - (RowKit.intOf i).toNat)
  case atStart => exact ⟨0, 0, Nat.zero_le _, Nat.zero_le _, rfl, Lib.hid fun j hj => by omega, rfl⟩
  case round =>
    obtain ⟨k, n, hka, hkb, rfl, HS, rfl⟩ := hrel
    by_cases h1 : k < a.size
    · have g1 : (k : Int) < (a.size : Int) := by omega
      by_cases h2 : k < b.size
      · have g2 : (k : Int) < (b.size : Int) := by omega
        have g0 : (0 : Int) ≤ (k : Int) := by omega
        by_cases hne : a.data.toList.getD k 0 = b.data.toList.getD k 0
        · have hd : ((a[k].toNat : Int) != (b[k].toNat : Int)) = false := by
            rw [getD_at a k h1, getD_at b k h2] at hne
            rw [hne]
            simp
          have HE := Lib.hid hne
          clear hne
          go_wp2_with fail
          go_quiet (fail)
          all_goals go_wp2_with fail
          all_goals refine ⟨⟨k + 1, _, by omega, by omega, by go_num, Lib.hid fun j hj => ?_, rfl⟩, by simp [RowKit.intOf]; omega⟩
          all_goals (by_cases e : j = k; (subst e; exact HE.out); exact HS.out j (by omega))
        · have hc := cmp_at k _ _ HS.out (by simpa using h1) (by simpa using h2) hne
          rw [getD_at a k h1, getD_at b k h2] at hc hne
          have hd : ((a[k].toNat : Int) != (b[k].toNat : Int)) = true := by
            simp only [bne_iff_ne, ne_eq]
            intro e
            exact hne (UInt8.toNat_inj.1 (by omega))
          have HC := Lib.hid hc
          clear hc hne
          by_cases hlt : a[k].toNat < b[k].toNat
          · have hr : r = true := HR.out.1 (HC.out.2 hlt)
            have hi : (a[k].toNat : Int) < (b[k].toNat : Int) := by omega
            subst hr
            clear hlt
            go_wp2_with fail
            go_quiet (fail)
            all_goals go_wp2_with fail
            all_goals go_quiet (fail)
            all_goals go_wp2_with fail
            all_goals go_ret
            all_goals exact ⟨rfl, _, by rw [World.drewN_drewN, World.drewN_drewN]⟩
          · have hr : r = false := HR.out.2 (fun h => hlt (HC.out.1 h))
            have hi : ¬ (a[k].toNat : Int) < (b[k].toNat : Int) := by omega
            subst hr
            have hdd : decide (a[k].toNat < b[k].toNat) = false := decide_eq_false hlt
            clear hlt
            go_wp2_with fail
            go_quiet (fail)
            all_goals go_wp2_with fail
            all_goals go_quiet (fail)
            all_goals go_wp2_with fail
            all_goals go_ret
            all_goals exact ⟨(by first | rfl | (show Ending.returned (.bool (decide (a[k].toNat < b[k].toNat))) = _; rw [hdd])), _, by rw [World.drewN_drewN, World.drewN_drewN]⟩
      · have g2 : ¬ (k : Int) < (b.size : Int) := by omega
        have hk : k = b.size := by omega
        have hc := cmp_end k _ _ HS.out (by simpa using hka) (by simpa using hkb) (.inr (by simpa using hk))
        have g3 : ¬ (a.size : Int) < (b.size : Int) := by omega
        have hr : r = false := HR.out.2 (fun h => by have := hc.1 h; simp at this; omega)
        subst hr
        clear hc
        go_wp2_with fail
        go_ret
        exact ⟨rfl, n, rfl⟩
    · have g1 : ¬ (k : Int) < (a.size : Int) := by omega
      have hk : k = a.size := by omega
      have hc := cmp_end k _ _ HS.out (by simpa using hka) (by simpa using hkb) (.inl (by simpa using hk))
      by_cases h3 : a.size < b.size
      · have g3 : (a.size : Int) < (b.size : Int) := by omega
        have hr : r = true := HR.out.1 (hc.2 (by simpa using h3))
        subst hr
        clear hc
        go_wp2_with fail
        go_ret
        exact ⟨rfl, n, rfl⟩
      · have g3 : ¬ (a.size : Int) < (b.size : Int) := by omega
        have hr : r = false := HR.out.2 (fun h => by have := hc.1 h; simp at this; omega)
        subst hr
        clear hc
        go_wp2_with fail
        go_ret
        exact ⟨rfl, n, rfl⟩
end Go.Proofs.YtfplnobnmgbgoaaDoor
namespace Go.Proofs.YtfplnobnmgbgoaaDoor
open Go.RowKit Go.Lib
set_option linter.unusedVariables false
set_option maxRecDepth 20000
set_option maxRecDepth 20000
set_option maxRecDepth 20000
set_option linter.unusedSimpArgs false

/-- An answer that tells whether. -/
def BRes (P : Prop) (w : World) (e : Ending) (w' : World) : Prop := ∃ b, e = .returned (.bool b) ∧ (b = true ↔ P) ∧ Turn No w w'
theorem BRes.of {P : Prop} {w w' : World} {e : Ending} (b : Bool) (h1 : e = .returned (.bool b)) (h2 : b = true ↔ P) (h3 : Turn No w w') : BRes P w e w' := ⟨b, h1, h2, h3⟩
theorem kcs_hold {w : World} {B : Option Addr} {K : List ByteArray} (h : Row w B (kcs K)) {j : Nat} {k : ByteArray} (hj : K[j]? = some k) : ∃ b o, B = some ⟨b, o, none⟩ ∧ ∀ W, Turn No w W → W.cell? ⟨b, o + j, none⟩ = some (.string k) := by
  obtain ⟨b, o, hA, hc⟩ := kcs_get h hj
  refine ⟨b, o, hA, fun W t => ?_⟩
  obtain ⟨b2, o2, hA2, hc2⟩ := kcs_get (h.no t) hj
  rw [hA] at hA2
  injection hA2 with hA2
  injection hA2 with e1 e2
  subst e1 e2
  exact hc2
theorem lessT (a b : ByteArray) (w : World) (ha : Fit a) (hb : Fit b) : Calls Tryd.prog 40 #[.string a, .string b] w fun e w' => BRes (kl a b) w e w' := by
  refine (less_any a b w ha hb).mono ?_
  rintro e w' ⟨rfl, n, rfl⟩
  exact ⟨_, rfl, decide_eq_true_iff, (Turn.refl _ _).drewN _⟩
theorem rk_last {K : List ByteArray} {i : Nat} {x y : ByteArray} (h : Rk (K.take (i + 1))) (hx : K[i]? = some x) (hy : K[i + 1]? = some y) : Rk (K.take (i + 2)) ↔ kl x y := by
  have e1 : K.take (i + 2) = K.take (i + 1) ++ [y] := by rw [List.take_add_one, hy]; rfl
  have e2 : K.take (i + 1) = K.take i ++ [x] := by rw [List.take_add_one, hx]; rfl
  unfold Rk at h ⊢
  rw [e1, List.pairwise_append]
  constructor
  · rintro ⟨_, _, h3⟩
    exact h3 x (by rw [e2]; simp) y (by simp)
  · intro hk
    refine ⟨h, List.pairwise_singleton _ _, fun a ha b hb => ?_⟩
    simp at hb
    subst hb
    rw [e2, List.pairwise_append] at h
    rw [e2] at ha
    rcases List.mem_append.1 ha with ha | ha
    · exact kl_trans (h.2.2 a ha x (by simp)) hk
    · simp at ha
      subst ha
      exact hk
theorem rk_take {K : List ByteArray} (h : Rk K) (n : Nat) : Rk (K.take n) := List.Pairwise.sublist (List.take_sublist _ _) h
end Go.Proofs.YtfplnobnmgbgoaaDoor
namespace Go.Proofs.YtfplnobnmgbgoaaDoor
open Go.RowKit Go.Lib
set_option linter.unusedVariables false
set_option maxRecDepth 20000
set_option maxRecDepth 20000
set_option maxRecDepth 20000
set_option linter.unusedSimpArgs false

theorem plc_snoc {K : List ByteArray} {i : Nat} {y : ByteArray} (h : K[i]? = some y) (k : ByteArray) : plc (K.take (i + 1)) k = plc (K.take i) k + if kl y k then 1 else 0 := by
  rw [List.take_add_one, h, plc_append]
  show plc (K.take i) k + plc [y] k = _
  rw [plc_cons]
  rfl
theorem inK_snoc {K : List ByteArray} {i : Nat} {y : ByteArray} (h : K[i]? = some y) (k : ByteArray) : inK (K.take (i + 1)) k = (inK (K.take i) k || decide (y = k)) := by
  rw [List.take_add_one, h]
  unfold inK
  rw [List.any_append]
  simp
theorem take_eq {K L : List ByteArray} {i : Nat} {x y : ByteArray} (hx : K[i]? = some x) (hy : L[i]? = some y) (h : K.take i = L.take i) : K.take (i + 1) = L.take (i + 1) ↔ x = y := by
  rw [List.take_add_one, List.take_add_one, hx, hy, h]
  simp
/-- A node as plain data. -/
structure Hn where
  slot : Int
  gen : Int
structure Nd where
  leaf : Bool
  keys : List ByteArray
  vals : List ByteArray
  kids : List Hn
  high : ByteArray
  bnd : Bool
  nx : Hn
def Hn.cs (h : Hn) : List Value := [.int .i64 h.slot, .int .u64 h.gen]
def hcs (l : List Hn) : List Value := l.flatMap Hn.cs
def RightP (leaf : Bool) (K : List ByteArray) (nv nd : Nat) (high : ByteArray) (bnd : Bool) : Prop := Rk K ∧ (bnd = false → high = ⟨#[]⟩) ∧ (bnd = true → ∀ k ∈ K, kl k high) ∧ (leaf = true → nv = K.length ∧ nd = 0) ∧ (leaf = false → nv = 0 ∧ nd = K.length + 1)
def NdRight (n : Nd) : Prop := RightP n.leaf n.keys n.vals.length n.kids.length n.high n.bnd
def NdCov (n : Nd) (k : ByteArray) : Prop := n.bnd = true → kl k n.high
end Go.Proofs.YtfplnobnmgbgoaaDoor
namespace Go.Proofs.YtfplnobnmgbgoaaDoor
open Go.RowKit Go.Lib
set_option linter.unusedVariables false
set_option maxRecDepth 20000
set_option maxRecDepth 20000
set_option maxRecDepth 20000
set_option linter.unusedSimpArgs false

theorem emp_dec (a : ByteArray) : a.toList.isEmpty = decide (a = ⟨#[]⟩) := by
  rw [← bytes_beq]
  have h : (⟨#[]⟩ : ByteArray).toList = [] := by rw [ByteArray.toList_eq]
  rw [h]
  cases a.toList <;> rfl
theorem all_snoc {Q : ByteArray → Prop} {K : List ByteArray} {k : Nat} {x : ByteArray} (h : K[k]? = some x) : (∀ a ∈ K.take (k + 1), Q a) ↔ (∀ a ∈ K.take k, Q a) ∧ Q x := by
  rw [List.take_add_one, h]
  constructor
  · intro h1
    exact ⟨fun a ha => h1 a (List.mem_append.2 (.inl ha)), h1 x (by simp)⟩
  · rintro ⟨h1, h2⟩ a ha
    rcases List.mem_append.1 ha with h3 | h3
    · exact h1 a h3
    · simp at h3
      subst h3
      exact h2
end Go.Proofs.YtfplnobnmgbgoaaDoor
namespace Go.Proofs.YtfplnobnmgbgoaaDoor
open Go.RowKit Go.Lib
set_option linter.unusedVariables false
set_option maxRecDepth 20000
set_option maxRecDepth 20000
set_option maxRecDepth 20000
set_option linter.unusedSimpArgs false

def hnEq (s1 s2 g1 g2 : Int) : Bool := decide (s1 = s2) && decide (g1 = g2)
theorem hnEq_iff {a b : Hn} : hnEq a.slot b.slot a.gen b.gen = true ↔ a = b := by
  obtain ⟨s, g⟩ := a
  obtain ⟨t, h⟩ := b
  simp [hnEq]
theorem hnEq_same (s g : Int) : hnEq s s g g = true := by simp [hnEq]
set_option maxRecDepth 10000 in
theorem eql_hn (s1 s2 g1 g2 : Int) (w : World) : (binOp .eql 77 (.agg #[.int .i64 s1, .int .u64 g1]) (.agg #[.int .i64 s2, .int .u64 g2])).run Tryd.prog w = .ok (.bool (hnEq s1 s2 g1 g2)) w := by
  rw [run_eql_struct]
  rw [show (10000 : Nat) = 9998 + 1 + 1 from rfl, run_equalIn_struct (P := Tryd.prog) w (9998 + 1) 77 #[.int .i64 s1, .int .u64 g1] #[.int .i64 s2, .int .u64 g2] (by kernel_rfl) (by kernel_rfl)]
  simp only [Program.fieldsOf, Tryd.underlying77]
  rw [eqf_cons (by decide) (by rfl) (by rfl) (run_equalIn_int w 9998 3 .i64 .i64 s1 s2 (by kernel_rfl)),
    eqf_cons (by decide) (by rfl) (by rfl) (run_equalIn_int w 9998 68 .u64 .u64 g1 g2 (by kernel_rfl)), eqf_nil]
  unfold hnEq
  by_cases a1 : s1 = s2 <;> by_cases a2 : g1 = g2 <;> simp [a1, a2, Result.andThen]
set_option maxRecDepth 10000 in
theorem neq_hn (s1 s2 g1 g2 : Int) (w : World) : (binOp .neq 77 (.agg #[.int .i64 s1, .int .u64 g1]) (.agg #[.int .i64 s2, .int .u64 g2])).run Tryd.prog w = .ok (.bool (!hnEq s1 s2 g1 g2)) w := by
  rw [run_neq_struct]
  rw [show (10000 : Nat) = 9998 + 1 + 1 from rfl, run_equalIn_struct (P := Tryd.prog) w (9998 + 1) 77 #[.int .i64 s1, .int .u64 g1] #[.int .i64 s2, .int .u64 g2] (by kernel_rfl) (by kernel_rfl)]
  simp only [Program.fieldsOf, Tryd.underlying77]
  rw [eqf_cons (by decide) (by rfl) (by rfl) (run_equalIn_int w 9998 3 .i64 .i64 s1 s2 (by kernel_rfl)),
    eqf_cons (by decide) (by rfl) (by rfl) (run_equalIn_int w 9998 68 .u64 .u64 g1 g2 (by kernel_rfl)), eqf_nil]
  unfold hnEq
  by_cases a1 : s1 = s2 <;> by_cases a2 : g1 = g2 <;> simp [a1, a2, Result.andThen]
theorem hcs_length (l : List Hn) : (hcs l).length = l.length * 2 := flat_length _ 2 (fun _ => rfl) l
theorem hcs_at {l : List Hn} {j : Nat} {x : Hn} (h : l[j]? = some x) (i : Nat) (hi : i < 2) : (hcs l)[j * 2 + i]? = x.cs[i]? := flat_at _ 2 (fun _ => rfl) l j i x h hi
theorem hcs_append (l m : List Hn) : hcs (l ++ m) = hcs l ++ hcs m := List.flatMap_append ..
theorem Row.hn {w : World} {A : Option Addr} {l : List Hn} (h : Row w A (hcs l)) {j : Nat} {x : Hn} (hj : l[j]? = some x) :
    ∃ b o, A = some ⟨b, o, none⟩ ∧ w.cell? ⟨b, o + j * 2, none⟩ = some (.int .i64 x.slot) ∧ w.cell? ⟨b, o + j * 2 + 1, none⟩ = some (.int .u64 x.gen) := by
  obtain ⟨b, o, hA, hb, h0⟩ := h (j * 2 + 0) (.int .i64 x.slot) (by rw [hcs_at hj 0 (by decide)]; rfl)
  obtain ⟨b', o', hA', _, h1⟩ := h (j * 2 + 1) (.int .u64 x.gen) (by rw [hcs_at hj 1 (by decide)]; rfl)
  rw [hA] at hA'
  injection hA' with hA'
  injection hA' with e1 e2
  subst e1 e2
  exact ⟨b, o, hA, h0, h1⟩
theorem take_eqH {K L : List Hn} {i : Nat} {x y : Hn} (hx : K[i]? = some x) (hy : L[i]? = some y) (h : K.take i = L.take i) : K.take (i + 1) = L.take (i + 1) ↔ x = y := by
  rw [List.take_add_one, List.take_add_one, hx, hy, h]
  simp
/-- All the parts of two nodes, alike. -/
def EqP (l1 l2 : Bool) (K1 K2 V1 V2 : List ByteArray) (D1 D2 : List Hn) (h1 h2 : ByteArray) (b1 b2 : Bool) (s1 g1 s2 g2 : Int) : Prop := D1 = D2 ∧ l1 = l2 ∧ h1 = h2 ∧ b1 = b2 ∧ (s1 = s2 ∧ g1 = g2) ∧ K1 = K2 ∧ V1 = V2
end Go.Proofs.YtfplnobnmgbgoaaDoor
namespace Go.Proofs.YtfplnobnmgbgoaaDoor
open Go.RowKit Go.Lib
set_option linter.unusedVariables false
set_option maxRecDepth 20000
set_option maxRecDepth 20000
set_option maxRecDepth 20000
set_option linter.unusedSimpArgs false

theorem info64 : (Tryd.prog.info? 95).map (fun i => (i.zero, i.size, i.bytes)) = some (some (.agg #[.string ⟨#[]⟩, .string ⟨#[]⟩]), 2, 32) := by kernel_rfl
/-- A row of pairs of one's own. -/
structure Ps (w0 w : World) (L : List Pr) (B : Option Addr) (c : Nat) : Prop where
  tu : Turn No w0 w
  row : w.ownsRow w0.heap.size 95 2 (.slice B L.length c) L.length (pcs L)
theorem Ps.no {w0 w w' : World} {L : List Pr} {B : Option Addr} {c : Nat} (h : Ps w0 w L B c) (t : Turn No w w') : Ps w0 w' L B c := ⟨h.tu.trans t, own_grown h.row t fun _ _ h => h⟩
theorem one_pr (p : Pr) : ∀ u ∈ p.cs, u.oneCell' = true := by
  intro u hu
  simp only [Pr.cs, List.mem_cons, List.not_mem_nil, or_false] at hu
  rcases hu with rfl | rfl <;> rfl
theorem Ps.append {w0 w : World} {L : List Pr} {B : Option Addr} {c : Nat} (h : Ps w0 w L B c) (hl : L.length < 1000000) (p : Pr) :
    ∃ B' c' w', AppRun 37 37 (.slice B L.length c) (.slice (some ⟨w.heap.size, 0, none⟩) 1 1) (.slice B' (L.length + 1) c') (w.alloc (.cells p.cs.toArray 95)) w' ∧ Ps w0 w' (L ++ [p]) B' c' ∧ ∀ g cs, At w g (.cells cs 79 (0, 0)) → At w' g (.cells cs 79 (0, 0)) := by
  have tn : Turn No w (w.alloc (.cells p.cs.toArray 95)) := (Turn.refl No w).alloc _
  have h2 := h.no tn
  have hn := At.new w (.cells p.cs.toArray 95)
  obtain ⟨B', c', w', q, ho, ht, hB⟩ := app_gen Tryd.underlying37 info64 rfl (by decide) (by decide) h2.row ⟨w.heap.size, 0, none⟩ 1 1 p.cs rfl
    (fun j u hj => by rw [Addr.add_lit, Nat.zero_add, hn.cell]; simpa using hj) (one_pr p) (by omega) h2.tu.size 37
  refine ⟨B', c', w', q, ⟨h2.tu.then ht fun k hk hb => ?_, ?_⟩, fun g cs hg => (hg.no tn).turn ht fun e => own_neG h2.row (hg.no tn) (by decide) e⟩
  · rw [own_ablk] at hb
    have := (own_at h2.row hb).1
    omega
  · have e : pcs (L ++ [p]) = pcs L ++ p.cs := by rw [pcs_append]; simp [pcs]
    rw [List.length_append, e]
    exact ho
theorem Row.prN {w : World} {A : Option Addr} {l : List Pr} (h : Row w A (pcs l)) {j : Nat} {p : Pr} (hj : l[j]? = some p) :
    ∃ b o, A = some ⟨b, o, none⟩ ∧ ∀ W, Turn No w W → W.cell? ⟨b, o + j * 2, none⟩ = some (.string p.k) ∧ W.cell? ⟨b, o + j * 2 + 1, none⟩ = some (.string p.v) := by
  obtain ⟨b, o, hA, _, _, _⟩ := h.pair hj
  refine ⟨b, o, hA, fun W t => ?_⟩
  obtain ⟨b2, o2, hA2, _, h1, h2⟩ := (h.no t).pair hj
  rw [hA] at hA2
  injection hA2 with hA2
  injection hA2 with e1 e2
  subst e1 e2
  exact ⟨h1, h2⟩
def gT (l : List Pr) (k : ByteArray) : Value := .tuple #[.string ((getL l k).getD ⟨#[]⟩), .bool (getL l k).isSome]
theorem get_first {l : List Pr} {i : Nat} {p : Pr} (hp : l[i]? = some p) {k : ByteArray} (hn : ∀ q ∈ l.take i, ¬ q.k = k) (he : p.k = k) : getL l k = some p.v := by
  unfold getL
  have : l.find? (fun p => decide (p.k = k)) = some p := by
    rw [List.find?_eq_some_iff_append]
    refine ⟨decide_eq_true he, l.take i, l.drop (i + 1), ?_, fun a ha => by simp [hn a ha]⟩
    obtain ⟨hl, rfl⟩ := List.getElem?_eq_some_iff.1 hp
    rw [List.getElem_cons_drop, List.take_append_drop]
  rw [this]
  rfl
theorem get_none {l : List Pr} {k : ByteArray} (hn : ∀ q ∈ l, ¬ q.k = k) : getL l k = none := by
  unfold getL
  rw [List.find?_eq_none.2 fun a ha => by simp [hn a ha]]
  rfl
theorem nokey_snoc {l : List Pr} {i : Nat} {p : Pr} (hp : l[i]? = some p) {Q : Pr → Prop} : (∀ q ∈ l.take (i + 1), Q q) ↔ (∀ q ∈ l.take i, Q q) ∧ Q p := by
  rw [List.take_add_one, hp]
  constructor
  · intro h1
    exact ⟨fun a ha => h1 a (List.mem_append.2 (.inl ha)), h1 p (by simp)⟩
  · rintro ⟨h1, h2⟩ a ha
    rcases List.mem_append.1 ha with h3 | h3
    · exact h1 a h3
    · simp at h3
      subst h3
      exact h2
set_option maxHeartbeats 4000000 in
theorem get_any (l : List Pr) (key : ByteArray) (B : Option Addr) (c : Nat) (w : World) (hR : Row w B (pcs l)) (hn : l.length ≤ 100000) :
    Calls Tryd.prog 37 #[.slice B l.length c, .string key] w fun e w' => e = .returned (gT l key) ∧ w' = w := by
  have HL := Lib.hid hR
  obtain ⟨T, hT⟩ : ∃ x, gT l key = x := ⟨_, rfl⟩
  have HT := Lib.hid hT
  rw [hT]
  clear hR hT
  go_enter Tryd.func37, Tryd.ntmps37
  go_wp2_with fail
  go_loopw [6] (fun x wr => ∃ i : Nat, i ≤ l.length ∧ x = .int .i64 (i : Int) ∧ wr = w ∧ Hid (∀ q ∈ l.take i, ¬ q.k = key)) (fun x _ => l.length - (RowKit.intOf x).toNat)
  case atStart => exact ⟨0, Nat.zero_le _, rfl, rfl, Lib.hid (by simp)⟩
  case round =>
    obtain ⟨i, hi, rfl, hwr, HP⟩ := hrel
    subst hwr
    by_cases hlt : i < l.length
    · obtain ⟨p, hp⟩ : ∃ t, l[i]? = some t := ⟨l[i], List.getElem?_eq_getElem hlt⟩
      obtain ⟨b, o, hB, hb, x0, x1⟩ := HL.out.pair hp
      have HN := Lib.hid (nokey_snoc hp (Q := fun q => ¬ q.k = key))
      have HG : Hid (p.k = key → T = .tuple #[.string p.v, .bool true]) := Lib.hid fun h => by rw [← HT.out]; unfold gT; rw [get_first hp HP.out h]; rfl
      obtain ⟨pk, pv⟩ := p
      simp only at x0 x1 HN HG
      subst hB
      clear hp hb
      have hq1 : (0 : Int) ≤ (i : Int) := by omega
      have hq2 : (i : Int) < (l.length : Int) := by omega
      have qe := bytes_beq pk key
      by_cases he : pk = key
      · rw [decide_eq_true he] at qe
        have HE := Lib.hid (HG.out he)
        clear he HG
        go_wp2_with fail
        go_ret2
        rw [HE.out]
        first | exact ⟨rfl, rfl⟩ | exact ⟨trivial, rfl⟩
      · rw [decide_eq_false he] at qe
        have HX := Lib.hid (HN.out.2 ⟨HP.out, he⟩)
        clear he HG
        go_wp2_with fail
        exact ⟨⟨i + 1, by omega, by go_num, trivial, HX⟩, by simp [RowKit.intOf]; omega⟩
    · obtain rfl : i = l.length := by omega
      have HE : Hid (T = .tuple #[.string ⟨#[]⟩, .bool false]) := Lib.hid (by
        have h := HP.out
        rw [List.take_length] at h
        rw [← HT.out]
        unfold gT
        rw [get_none h]
        rfl)
      go_wp2_with fail
      go_ret2
      rw [HE.out]
      first | exact ⟨rfl, rfl⟩ | exact ⟨trivial, rfl⟩
theorem del_snoc {l : List Pr} {i : Nat} {p : Pr} (hp : l[i]? = some p) (k : ByteArray) : delL (l.take (i + 1)) k = delL (l.take i) k ++ if p.k = k then [] else [p] := by
  unfold delL
  rw [List.take_add_one, hp, List.filter_append]
  by_cases h : p.k = k <;> simp [h]
theorem del_takelen (l : List Pr) (k : ByteArray) (i : Nat) : (delL (l.take i) k).length ≤ l.length := by
  have := del_length (l.take i) k
  rw [List.length_take] at this
  omega
set_option maxHeartbeats 4000000 in
theorem rdel_any (l : List Pr) (key : ByteArray) (B : Option Addr) (c : Nat) (w : World) (hR : Row w B (pcs l)) (hn : l.length ≤ 100000) :
    Calls Tryd.prog 32 #[.slice B l.length c, .string key] w fun e w' => ∃ B' c', e = .returned (.slice B' (delL l key).length c') ∧ Ps w w' (delL l key) B' c' := by
  have HL := Lib.hid hR
  clear hR
  go_enter Tryd.func32, Tryd.ntmps32
  go_wp2_with fail
  go_loopw [5, 6] (fun s x wr => ∃ (i n : Nat) (B' : Option Addr) (c' : Nat), i ≤ l.length ∧ x = .int .i64 (i : Int) ∧ s = .slice B' n c' ∧ Hid (n = (delL (l.take i) key).length ∧ Ps w wr (delL (l.take i) key) B' c')) (fun _ x _ => l.length - (RowKit.intOf x).toNat)
  case atStart => exact ⟨0, 0, none, 0, Nat.zero_le _, rfl, rfl, Lib.hid ⟨rfl, Turn.refl _ _, World.ownsRow_nil _ _ _ _⟩⟩
  case round =>
    obtain ⟨i, n, B', c', hi, rfl, rfl, HP⟩ := hrel
    by_cases hlt : i < l.length
    · obtain ⟨p, hp⟩ : ∃ t, l[i]? = some t := ⟨l[i], List.getElem?_eq_getElem hlt⟩
      obtain ⟨b, o, hB, hc⟩ := (HL.out.no HP.out.2.tu).prN hp
      obtain ⟨x0, x1⟩ := hc wr (Turn.refl _ _)
      have HS := Lib.hid (del_snoc hp key)
      have HN := Lib.hid (del_takelen l key i)
      obtain ⟨B9, c9, w9, q, hq, _⟩ := HP.out.2.append (by have := HN.out; omega) p
      have HQ := Lib.hid hq
      rw [← HP.out.1] at q
      obtain ⟨pk, pv⟩ := p
      simp only [Pr.cs] at x0 x1 HS q
      subst hB
      clear hp hc hq
      have hq1 : (0 : Int) ≤ (i : Int) := by omega
      have hq2 : (i : Int) < (l.length : Int) := by omega
      have qe := bytes_beq pk key
      by_cases he : pk = key
      · rw [decide_eq_true he] at qe
        have qn : (pk.toList != key.toList) = false := by rw [bne, qe]; rfl
        have HE : Hid (delL (l.take (i + 1)) key = delL (l.take i) key) := Lib.hid (by rw [HS.out, if_pos he, List.append_nil])
        clear he q
        go_wp2_with fail
        exact ⟨⟨i + 1, n, B', c', by omega, by go_num, rfl, Lib.hid (by rw [HE.out]; exact HP.out)⟩, by simp [RowKit.intOf]; omega⟩
      · rw [decide_eq_false he] at qe
        have qn : (pk.toList != key.toList) = true := by rw [bne, qe]; rfl
        have HE : Hid (delL (l.take (i + 1)) key = delL (l.take i) key ++ [⟨pk, pv⟩]) := Lib.hid (by rw [HS.out, if_neg he])
        clear he
        go_upto_region 6 with fail
        go_wp2_with (at_builtin; refine wpList_append_run rfl _ _ 37 rfl _ _ _ rfl rfl q ?_)
        exact ⟨⟨i + 1, n + 1, B9, c9, by omega, by go_num, rfl, Lib.hid (by rw [HE.out]; exact ⟨by rw [HP.out.1]; simp, HQ.out⟩)⟩, by simp [RowKit.intOf]; omega⟩
    · obtain rfl : i = l.length := by omega
      have HE : Hid (n = (delL l key).length ∧ Ps w wr (delL l key) B' c') := Lib.hid (by have h := HP.out; rwa [List.take_length] at h)
      go_wp2_with fail
      go_ret
      exact ⟨B', c', by first | exact HE.out.1 | exact congrArg _ (congrArg (fun m => Value.slice B' m c') HE.out.1) | exact ⟨rfl, HE.out.1, rfl⟩, HE.out.2⟩
end Go.Proofs.YtfplnobnmgbgoaaDoor
namespace Go.Proofs.YtfplnobnmgbgoaaDoor
open Go.RowKit Go.Lib
set_option linter.unusedVariables false
set_option maxRecDepth 20000
set_option maxRecDepth 20000
set_option maxRecDepth 20000
set_option linter.unusedSimpArgs false

theorem put_low_all {k v : ByteArray} {T : List Pr} : ∀ {A : List Pr}, (∀ p ∈ A, kl p.k k) → putL (A ++ T) k v = A ++ putL T k v
  | [], _ => rfl
  | p :: A, h => by
    show (if kl p.k k then p :: putL (A ++ T) k v else _) = _
    rw [if_pos (h p List.mem_cons_self), put_low_all fun q hq => h q (List.mem_cons_of_mem _ hq)]
    rfl
theorem put_done {k v : ByteArray} {x : Pr} : ∀ {A : List Pr}, (∃ p ∈ A, ¬ kl p.k k) → putL (A ++ [x]) k v = putL A k v ++ [x]
  | [], ⟨p, h, _⟩ => by cases h
  | p :: A, ⟨q, hq, hn⟩ => by
    by_cases hp : kl p.k k
    · have hA : ∃ r ∈ A, ¬ kl r.k k := ⟨q, (List.mem_cons.1 hq).elim (fun e => absurd (e ▸ hp) hn) id, hn⟩
      show (if kl p.k k then p :: putL (A ++ [x]) k v else _) = (if kl p.k k then p :: putL A k v else _) ++ [x]
      rw [if_pos hp, if_pos hp, put_done hA]
      rfl
    · show (if kl p.k k then p :: putL (A ++ [x]) k v else if p.k = k then ⟨k, v⟩ :: (A ++ [x]) else ⟨k, v⟩ :: p :: (A ++ [x])) = (if kl p.k k then p :: putL A k v else if p.k = k then ⟨k, v⟩ :: A else ⟨k, v⟩ :: p :: A) ++ [x]
      rw [if_neg hp, if_neg hp]
      by_cases he : p.k = k
      · rw [if_pos he, if_pos he]; rfl
      · rw [if_neg he, if_neg he]; rfl
theorem put_one {k v : ByteArray} {x : Pr} (h : ¬ kl x.k k) : putL [x] k v = ⟨k, v⟩ :: (if x.k = k then [] else [x]) := by
  show (if kl x.k k then _ else if x.k = k then [⟨k, v⟩] else [⟨k, v⟩, x]) = _
  rw [if_neg h]
  by_cases he : x.k = k
  · rw [if_pos he, if_pos he]
  · rw [if_neg he, if_neg he]
theorem put_takelen {l : List Pr} (k v : ByteArray) (i : Nat) : (putL (l.take i) k v).length ≤ l.length + 1 := by
  have := put_length (l.take i) k v
  rw [List.length_take] at this
  omega
def PutI (l : List Pr) (k v : ByteArray) (i : Nat) (d : Bool) (m : List Pr) : Prop := if d = true then m = putL (l.take i) k v ∧ ∃ q ∈ l.take i, ¬ kl q.k k else m = l.take i ∧ ∀ q ∈ l.take i, kl q.k k
theorem take_x {l : List Pr} {i : Nat} {x : Pr} (_ : Asc l) (hx : l[i]? = some x) : l.take (i + 1) = l.take i ++ [x] := by rw [List.take_add_one, hx]; rfl
section
variable {l : List Pr} {k v : ByteArray} {i : Nat} {m : List Pr} {x : Pr} (ha : Asc l) (hx : l[i]? = some x)
include ha hx
theorem before_x : ∀ q ∈ l.take i, kl q.k x.k := fun q hq => by
  have h : Asc (l.take i ++ [x]) := by rw [← take_x ha hx]; exact List.Pairwise.sublist (List.take_sublist _ _) ha
  unfold Asc at h
  rw [List.pairwise_append] at h
  exact h.2.2 q hq x (by simp)
theorem putI_done (h : PutI l k v i true m) : ¬ x.k = k ∧ PutI l k v (i + 1) true (m ++ [x]) := by
  obtain ⟨h1, q, hq, hn⟩ := h
  have hlt := before_x ha hx q hq
  refine ⟨fun e => hn (e ▸ hlt), ?_, q, ?_, hn⟩
  · rw [take_x ha hx, put_done ⟨q, hq, hn⟩, h1]
  · rw [take_x ha hx]; exact List.mem_append.2 (.inl hq)
theorem putI_low (h : PutI l k v i false m) (hl : kl x.k k) : ¬ x.k = k ∧ PutI l k v (i + 1) false (m ++ [x]) := by
  obtain ⟨h1, h2⟩ := (show m = l.take i ∧ ∀ q ∈ l.take i, kl q.k k from h)
  refine ⟨kl_ne hl, ?_⟩
  show m ++ [x] = l.take (i + 1) ∧ ∀ q ∈ l.take (i + 1), kl q.k k
  rw [take_x ha hx, h1]
  refine ⟨rfl, fun q hq => ?_⟩
  rcases List.mem_append.1 hq with h | h
  · exact h2 q h
  · simp at h; subst h; exact hl
theorem putI_new (h : PutI l k v i false m) (hl : ¬ kl x.k k) : PutI l k v (i + 1) true (m ++ ⟨k, v⟩ :: (if x.k = k then [] else [x])) := by
  obtain ⟨h1, h2⟩ := (show m = l.take i ∧ ∀ q ∈ l.take i, kl q.k k from h)
  show _ = putL (l.take (i + 1)) k v ∧ ∃ q ∈ l.take (i + 1), ¬ kl q.k k
  rw [take_x ha hx, put_low_all h2, put_one hl, h1]
  exact ⟨rfl, x, by simp, hl⟩
end
theorem putI_len {l : List Pr} {k v : ByteArray} {i : Nat} {d : Bool} {m : List Pr} (h : PutI l k v i d m) : m.length ≤ l.length + 1 := by
  unfold PutI at h
  split at h
  · rw [h.1]; exact put_takelen k v i
  · rw [h.1, List.length_take]; omega
theorem putI_end {l : List Pr} {k v : ByteArray} {d : Bool} {m : List Pr} (h : PutI l k v l.length d m) : putL l k v = if d = true then m else m ++ [⟨k, v⟩] := by
  unfold PutI at h
  rw [List.take_length] at h
  cases d with
  | true => rw [if_pos rfl] at h; rw [if_pos rfl, h.1]
  | false =>
    rw [if_neg (by decide)] at h
    rw [if_neg (by decide), h.1]
    have := put_low_all (T := []) (v := v) h.2
    rw [List.append_nil] at this
    rw [this]
    rfl
set_option maxRecDepth 100000 in
set_option maxHeartbeats 8000000 in
theorem rput_any (l : List Pr) (key val : ByteArray) (B : Option Addr) (c : Nat) (w : World) (ha : Asc l) (hR : Row w B (pcs l)) (hf : ∀ p ∈ l, Fit p.k) (hk : Fit key) (hn : l.length ≤ 100000) :
    Calls Tryd.prog 33 #[.slice B l.length c, .string key, .string val] w fun e w' => ∃ B' c', e = .returned (.slice B' (putL l key val).length c') ∧ Ps w w' (putL l key val) B' c' := by
  have HL := Lib.hid (And.intro hR (And.intro ha (And.intro hf hk)))
  clear hR ha hf hk
  go_enter Tryd.func33, Tryd.ntmps33
  go_wp2_with fail
  go_loopw [7, 8, 9] (fun s d x wr => ∃ (i n : Nat) (B' : Option Addr) (c' : Nat) (dn : Bool), i ≤ l.length ∧ x = .int .i64 (i : Int) ∧ s = .slice B' n c' ∧ d = .bool dn ∧ Hid (∃ m : List Pr, n = m.length ∧ PutI l key val i dn m ∧ Ps w wr m B' c')) (fun _ _ x _ => l.length - (RowKit.intOf x).toNat)
  case atStart => exact ⟨0, 0, none, 0, false, Nat.zero_le _, rfl, rfl, rfl, Lib.hid ⟨[], rfl, ⟨rfl, by simp⟩, Turn.refl _ _, World.ownsRow_nil _ _ _ _⟩⟩
  case round =>
    obtain ⟨i, n, B', c', dn, hi, rfl, rfl, rfl, HQ⟩ := hrel
    obtain ⟨m', hm1, hm2, hm3⟩ := HQ.out
    obtain ⟨m, hm⟩ : ∃ x, x = m' := ⟨_, rfl⟩
    subst hm
    have HM := Lib.hid (And.intro hm1 (And.intro hm2 hm3))
    clear hm1 hm2 hm3 HQ
    by_cases hlt : i < l.length
    · obtain ⟨p, hp⟩ : ∃ t, l[i]? = some t := ⟨l[i], List.getElem?_eq_getElem hlt⟩
      obtain ⟨b, o, hB, hc⟩ := (HL.out.1.no HM.out.2.2.tu).prN hp
      have HC := Lib.hid hc
      obtain ⟨x0, x1⟩ := hc wr (Turn.refl _ _)
      have HPP := Lib.hid hp
      have CL := Lib.hid (lessT p.k key wr (HL.out.2.2.1 p (List.mem_of_getElem? hp)) HL.out.2.2.2)
      obtain ⟨pk, pv⟩ := p
      simp only at x0 x1 CL HC
      subst hB
      clear hp hc
      have hq1 : (0 : Int) ≤ (i : Int) := by omega
      have hq2 : (i : Int) < (l.length : Int) := by omega
      have HLN := Lib.hid (putI_len HM.out.2.1)
      cases dn with
      | true =>
        have HS := Lib.hid (putI_done HL.out.2.1 HPP.out HM.out.2.1)
        obtain ⟨B9, c9, w9, q, hq, _⟩ := HM.out.2.2.append (by have := HLN.out; omega) ⟨pk, pv⟩
        have HQ9 := Lib.hid hq
        rw [← HM.out.1] at q
        simp only [Pr.cs] at q
        have qe := bytes_beq pk key
        rw [decide_eq_false HS.out.1] at qe
        have qn : (pk.toList != key.toList) = true := by rw [bne, qe]; rfl
        clear hq CL
        go_upto_region 10 with fail
        go_wp2_with (at_builtin; refine wpList_append_run rfl _ _ 37 rfl _ _ _ rfl rfl q ?_)
        exact ⟨⟨i + 1, n + 1, B9, c9, true, by omega, by go_num, rfl, rfl, Lib.hid ⟨m ++ [⟨pk, pv⟩], by rw [HM.out.1]; simp, HS.out.2, HQ9.out⟩⟩, by simp [RowKit.intOf]; omega⟩
      | false =>
        go_upto_if 27 with (go_at_call 40; (with_reducible refine CL.out.mono ?_); rintro e w2 ⟨bb, rfl, hbb, ht⟩; have H2 := Lib.hid (And.intro hbb ht); clear hbb ht)
        clear CL x0 x1
        obtain ⟨x0, x1⟩ := HC.out w2 H2.out.2
        have hps := HM.out.2.2.no H2.out.2
        obtain ⟨br, hbr⟩ : ∃ x, x = bb := ⟨_, rfl⟩
        subst hbr
        cases br with
        | true =>
          have HS := Lib.hid (putI_low HL.out.2.1 HPP.out HM.out.2.1 (by first | exact H2.out.1.1 rfl | exact H2.out.1.1 trivial))
          obtain ⟨B9, c9, w9, q, hq, _⟩ := hps.append (by have := HLN.out; omega) ⟨pk, pv⟩
          have HQ9 := Lib.hid hq
          rw [← HM.out.1] at q
          simp only [Pr.cs] at q
          have qe := bytes_beq pk key
          rw [decide_eq_false HS.out.1] at qe
          have qn : (pk.toList != key.toList) = true := by rw [bne, qe]; rfl
          clear hq hps
          go_upto_region 10 with fail
          go_wp2_with (at_builtin; refine wpList_append_run rfl _ _ 37 rfl _ _ _ rfl rfl q ?_)
          exact ⟨⟨i + 1, n + 1, B9, c9, false, by omega, by go_num, rfl, rfl, Lib.hid ⟨m ++ [⟨pk, pv⟩], by rw [HM.out.1]; simp, HS.out.2, HQ9.out⟩⟩, by simp [RowKit.intOf]; omega⟩
        | false =>
          have HS := Lib.hid (putI_new HL.out.2.1 HPP.out HM.out.2.1 (v := val) (fun h => by have := H2.out.1.2 h; cases this))
          obtain ⟨B9, c9, w9, q, hq, _⟩ := hps.append (by have := HLN.out; omega) ⟨key, val⟩
          have HQ9 := Lib.hid hq
          rw [← HM.out.1] at q
          simp only [Pr.cs] at q
          clear hq hps x0 x1
          go_upto_region 7 with fail
          go_upto_region 9 with (at_builtin; refine wpList_append_run rfl _ _ 37 rfl _ _ _ rfl rfl q ?_)
          clear q
          obtain ⟨b3, o3, hB3, hc3⟩ := (HL.out.1.no HQ9.out.tu).prN HPP.out
          injection hB3 with hB3
          injection hB3 with e1 e2
          subst e1 e2
          obtain ⟨x0, x1⟩ := hc3 w9 (Turn.refl _ _)
          simp only at x0 x1
          clear hc3
          have qe := bytes_beq pk key
          by_cases he : pk = key
          · rw [decide_eq_true he] at qe
            have qn : (pk.toList != key.toList) = false := by rw [bne, qe]; rfl
            have HE : Hid (PutI l key val (i + 1) true (m ++ [⟨key, val⟩])) := Lib.hid (by have h := HS.out; rwa [if_pos he] at h)
            clear he
            go_wp2_with fail
            exact ⟨⟨i + 1, n + 1, B9, c9, true, by omega, by go_num, rfl, rfl, Lib.hid ⟨m ++ [⟨key, val⟩], by rw [HM.out.1]; simp, HE.out, HQ9.out⟩⟩, by simp [RowKit.intOf]; omega⟩
          · rw [decide_eq_false he] at qe
            have qn : (pk.toList != key.toList) = true := by rw [bne, qe]; rfl
            have HE : Hid (PutI l key val (i + 1) true (m ++ [⟨key, val⟩] ++ [⟨pk, pv⟩])) := Lib.hid (by have h := HS.out; rw [if_neg he] at h; simpa using h)
            obtain ⟨B8, c8, w8, q, hq, _⟩ := HQ9.out.append (by have := HLN.out; simp; omega) ⟨pk, pv⟩
            have HQ8 := Lib.hid hq
            have hml : (m ++ [(⟨key, val⟩ : Pr)]).length = n + 1 := by rw [HM.out.1]; simp
            rw [hml] at q
            simp only [Pr.cs] at q
            clear he hq hml
            go_upto_region 10 with fail
            go_wp2_with (at_builtin; refine wpList_append_run rfl _ _ 37 rfl _ _ _ rfl rfl q ?_)
            exact ⟨⟨i + 1, n + 1 + 1, B8, c8, true, by omega, by go_num, rfl, rfl, Lib.hid ⟨m ++ [⟨key, val⟩] ++ [⟨pk, pv⟩], by rw [HM.out.1]; simp, HE.out, HQ8.out⟩⟩, by simp [RowKit.intOf]; omega⟩
    · obtain rfl : i = l.length := by omega
      have HE := Lib.hid (putI_end HM.out.2.1)
      have HLN := Lib.hid (putI_len HM.out.2.1)
      cases dn with
      | true =>
        have HF : Hid (putL l key val = m) := Lib.hid (by rw [HE.out, if_pos rfl])
        go_wp2_with fail
        go_ret
        rw [HF.out]
        exact ⟨B', c', by first | exact HM.out.1 | exact congrArg _ (congrArg (fun m => Value.slice B' m c') HM.out.1), HM.out.2.2⟩
      | false =>
        have HF : Hid (putL l key val = m ++ [⟨key, val⟩]) := Lib.hid (by rw [HE.out, if_neg (by decide)])
        obtain ⟨B9, c9, w9, q, hq, _⟩ := HM.out.2.2.append (by have := HLN.out; omega) ⟨key, val⟩
        have HQ9 := Lib.hid hq
        rw [← HM.out.1] at q
        simp only [Pr.cs] at q
        clear hq
        go_upto_region 12 with fail
        go_wp2_with (at_builtin; refine wpList_append_run rfl _ _ 37 rfl _ _ _ rfl rfl q ?_)
        go_ret
        rw [HF.out]
        have hml : n + 1 = (m ++ [(⟨key, val⟩ : Pr)]).length := by rw [HM.out.1]; simp
        exact ⟨B9, c9, by first | exact hml | exact congrArg _ (congrArg (fun m => Value.slice B9 m c9) hml), HQ9.out⟩
end Go.Proofs.YtfplnobnmgbgoaaDoor
namespace Go.Proofs.YtfplnobnmgbgoaaDoor
open Go.RowKit Go.Lib
set_option linter.unusedVariables false
set_option maxRecDepth 20000
set_option maxRecDepth 20000
set_option maxRecDepth 20000
set_option linter.unusedSimpArgs false

/-- A node that is let by. -/
def SmallN (K : List ByteArray) (nv nd : Nat) (high : ByteArray) : Prop := K.length ≤ 300 ∧ nv ≤ 300 ∧ nd ≤ 301 ∧ high.size ≤ 20000 ∧ ∀ k ∈ K, k.size ≤ 20000
def GRes (P : Prop) (w : World) (e : Ending) (w' : World) : Prop := ∃ b, e = .returned (.bool b) ∧ (b = false → P) ∧ Turn No w w'
theorem GRes.of {P : Prop} {w w' : World} {e : Ending} (b : Bool) (h1 : e = .returned (.bool b)) (h2 : b = false → P) (h3 : Turn No w w') : GRes P w e w' := ⟨b, h1, h2, h3⟩
theorem Ps.appendD {w0 w : World} {L : List Pr} {B : Option Addr} {c : Nat} (h : Ps w0 w L B c) (hl : L.length < 1000000) (p : Pr) :
    ∃ B' c' w', AppRun 37 37 (.slice B L.length c) (.slice (some ⟨w.heap.size, 0, none⟩) 1 1) (.slice B' (L.length + 1) c') (w.alloc (.cells p.cs.toArray 95)).drew w' ∧ Ps w0 w' (L ++ [p]) B' c' ∧ ∀ g cs, At w g (.cells cs 79 (0, 0)) → At w' g (.cells cs 79 (0, 0)) := by
  have tn : Turn No w (w.alloc (.cells p.cs.toArray 95)).drew := ((Turn.refl No w).alloc _).drew
  have h2 := h.no tn
  have hn := (At.new w (.cells p.cs.toArray 95)).no (Turn.refl No _).drew
  obtain ⟨B', c', w', q, ho, ht, hB⟩ := app_gen Tryd.underlying37 info64 rfl (by decide) (by decide) h2.row ⟨w.heap.size, 0, none⟩ 1 1 p.cs rfl
    (fun j u hj => by rw [Addr.add_lit, Nat.zero_add, hn.cell]; simpa using hj) (one_pr p) (by omega) h2.tu.size 37
  refine ⟨B', c', w', q, ⟨h2.tu.then ht fun k hk hb => ?_, ?_⟩, fun g cs hg => (hg.no tn).turn ht fun e => own_neG h2.row (hg.no tn) (by decide) e⟩
  · rw [own_ablk] at hb
    have := (own_at h2.row hb).1
    omega
  · have e : pcs (L ++ [p]) = pcs L ++ p.cs := by rw [pcs_append]; simp [pcs]
    rw [List.length_append, e]
    exact ho
/-- A leaf's pairs, as far as both rows go. -/
def zipP (K V : List ByteArray) : List Pr := (K.zip V).map fun p => ⟨p.1, p.2⟩
theorem zipP_length (K V : List ByteArray) : (zipP K V).length = min K.length V.length := by unfold zipP; rw [List.length_map, List.length_zip]
theorem zipP_get {K V : List ByteArray} {i : Nat} {x y : ByteArray} (hx : K[i]? = some x) (hy : V[i]? = some y) : (zipP K V)[i]? = some ⟨x, y⟩ := by
  unfold zipP
  rw [List.getElem?_map, List.getElem?_zip_eq_some (z := (x, y)).2 ⟨hx, hy⟩]
  rfl
theorem take_get {l : List Pr} {i : Nat} {p : Pr} (h : l[i]? = some p) : l.take (i + 1) = l.take i ++ [p] := by rw [List.take_add_one, h]; rfl
end Go.Proofs.YtfplnobnmgbgoaaDoor
namespace Go.Proofs.YtfplnobnmgbgoaaDoor
open Go.RowKit Go.Lib
set_option linter.unusedVariables false
set_option maxRecDepth 20000
set_option maxRecDepth 20000
set_option maxRecDepth 20000
set_option linter.unusedSimpArgs false

theorem info27 : (Tryd.prog.info? 77).map (fun i => (i.zero, i.size, i.bytes)) = some (some (.agg #[.int .i64 0, .int .u64 0]), 2, 16) := by kernel_rfl
theorem one_kcs (K : List ByteArray) : ∀ u ∈ kcs K, u.oneCell' = true := by
  intro u hu
  obtain ⟨i, _, rfl⟩ := List.mem_map.1 hu
  rfl
theorem one_hcs (l : List Hn) : ∀ u ∈ hcs l, u.oneCell' = true := by
  intro u hu
  obtain ⟨h, _, hh⟩ := List.mem_flatMap.1 hu
  simp only [Hn.cs, List.mem_cons, List.not_mem_nil, or_false] at hh
  rcases hh with rfl | rfl <;> rfl
/-- append([]T{}, xs...): a row of one's own. -/
theorem app_copy {t e size bytes : Nat} {z : Value} (ht : Tryd.prog.underlying t = some (.slice e)) (hinf : (Tryd.prog.info? e).map (fun i => (i.zero, i.size, i.bytes)) = some (some z, size, bytes)) (hzs : z.cells.size = size) (hsz : 0 < size) (hby : bytes ≤ 1000)
    {W : World} {Z g : Nat} (hE : W.ownsRow Z e size (.slice (some ⟨g, 0, none⟩) 0 0) 0 []) (hz : Z ≤ W.heap.size) {n : Nat} {A : Option Addr} {c : Nat} {xs : List Value} (hx : xs.length = n * size) (hR : Row W A xs) (h1 : ∀ u ∈ xs, u.oneCell' = true) (hn : n ≤ 100000) :
    ∃ B' c' W', AppRun t t (.slice (some ⟨g, 0, none⟩) 0 0) (.slice A n c) (.slice B' n c') W W' ∧ W'.ownsRow Z e size (.slice B' n c') n xs ∧ Turn (fun i => i = g) W W' := by
  cases A with
  | none =>
    have hx0 : xs = [] := by
      cases xs with
      | nil => rfl
      | cons a l => obtain ⟨b, o, hA, _⟩ := hR 0 a rfl; cases hA
    subst hx0
    have hn0 : n = 0 := by
      cases n with
      | zero => rfl
      | succ m =>
        rw [List.length_nil] at hx
        have h2 := Nat.mul_pos (Nat.succ_pos m) hsz
        rw [Nat.succ_eq_add_one, ← hx] at h2
        exact absurd h2 (Nat.lt_irrefl 0)
    subst hn0
    obtain ⟨i0, hi, _, hs, _⟩ := info_parts hinf
    exact ⟨some ⟨g, 0, none⟩, 0, W, ⟨run_append_nothing (P := Tryd.prog) W t t t e i0 ht hi (some ⟨g, 0, none⟩) 0 0 (Nat.le_refl _) _ (Src.ofNil (w := W) ht c)⟩, hE, Turn.refl _ _⟩
  | some a =>
    have hnw : ∀ j u, xs[j]? = some u → W.cell? (a.add j) = some u := by
      intro j u hj
      obtain ⟨b, o, hA, _, hc⟩ := hR j u hj
      injection hA with hA
      subst hA
      rwa [Addr.add_lit]
    obtain ⟨B', c', W', q, ho, ht2, _⟩ := app_gen ht hinf hzs hsz hby hE a n c xs hx hnw h1 (by omega) hz t
    rw [Nat.zero_add] at q ho
    refine ⟨B', c', W', q, ho, ht2.mono fun k _ h => ?_⟩
    injection h with h
    exact h.symm
theorem new_e {W : World} {Z e size : Nat} (hz : Z ≤ W.heap.size) : (W.alloc (.cells #[] e)).ownsRow Z e size (.slice (some ⟨W.heap.size, 0, none⟩) 0 0) 0 [] := World.ownsRow_lit W #[] 0 hz (by decide) (by simp)
/-- A node whose rows are its own, from block Z on. -/
structure Own (Z : Nat) (w : World) (K V : List ByteArray) (D : List Hn) (AK : Option Addr) (ck : Nat) (AV : Option Addr) (cv : Nat) (AD : Option Addr) (cd : Nat) : Prop where
  k : w.ownsRow Z 9 1 (.slice AK K.length ck) K.length (kcs K)
  v : w.ownsRow Z 9 1 (.slice AV V.length cv) V.length (kcs V)
  d : w.ownsRow Z 77 2 (.slice AD D.length cd) D.length (hcs D)
def CopyRes (leaf : Bool) (K V : List ByteArray) (D : List Hn) (high : ByteArray) (bnd : Bool) (slot gen : Int) (w : World) (e : Ending) (w' : World) : Prop :=
  ∃ AK ck AV cv AD cd, e = .returned (.agg #[.bool leaf, .slice AK K.length ck, .slice AV V.length cv, .slice AD D.length cd, .string high, .bool bnd, .int .i64 slot, .int .u64 gen]) ∧ Own w.heap.size w' K V D AK ck AV cv AD cd ∧ Turn No w w'
end Go.Proofs.YtfplnobnmgbgoaaDoor
namespace Go.Proofs.YtfplnobnmgbgoaaDoor
open Go.RowKit Go.Lib
set_option linter.unusedVariables false
set_option maxRecDepth 20000
set_option maxRecDepth 20000
set_option maxRecDepth 20000
set_option linter.unusedSimpArgs false

/-- A row that may be written over: at any place of its block. -/
def Wt (w : World) (t s : Nat) (A : Option Addr) (n : Nat) : Prop := n = 0 ∨ ∃ b off cur, A = some ⟨b, off, none⟩ ∧ At w b (.cells cur t (0, 0)) ∧ off + n * s ≤ cur.size
theorem wt_own {w : World} {Z t s n c : Nat} {A : Option Addr} {xs : List Value} (h : w.ownsRow Z t s (.slice A n c) n xs) : Wt w t s A n := by
  rcases h.2 with ⟨hv, hn⟩ | ⟨g, cap, cur, hv, hb, hg, hn, hc, hs, ht⟩
  · exact Or.inl hn
  · injection hv with hA _ hcap
    subst hA hcap
    refine Or.inr ⟨g, 0, cur, rfl, hg, ?_⟩
    rw [hs, Nat.zero_add]
    exact Nat.mul_le_mul_right s hn
theorem Wt.no {w w' : World} {t s n : Nat} {A : Option Addr} (h : Wt w t s A n) (tn : Turn No w w') : Wt w' t s A n := by
  rcases h with h | ⟨b, off, cur, hA, hat, hs⟩
  · exact Or.inl h
  · exact Or.inr ⟨b, off, cur, hA, hat.no tn, hs⟩
theorem Wt.set {w : World} {t s n : Nat} {A : Option Addr} (h : Wt w t s A n) (g o : Nat) (v : Value) : Wt (w.setCell ⟨g, o, none⟩ v) t s A n := by
  rcases h with h | ⟨b, off, cur, hA, hat, hs⟩
  · exact Or.inl h
  · by_cases e : g = b
    · subst e
      exact Or.inr ⟨g, off, cur.setIfInBounds o v, hA, hat.set o v, by simpa using hs⟩
    · exact Or.inr ⟨b, off, cur, hA, hat.turn (Turn.set1 w g o v) fun h => e h.symm, hs⟩
theorem Wt.at_ {w : World} {t s n i : Nat} {A : Option Addr} (h : Wt w t s A n) (hi : i < n * s) : ∃ b off cur u, A = some ⟨b, off, none⟩ ∧ ablk A = some b ∧ At w b (.cells cur t (0, 0)) ∧ (∀ j, j < n * s → ∃ u, cur[off + j]? = some u) ∧ cur[off + i]? = some u := by
  rcases h with h | ⟨b, off, cur, hA, hat, hs⟩
  · subst h
    rw [Nat.zero_mul] at hi
    omega
  · have hall : ∀ j, j < n * s → ∃ u, cur[off + j]? = some u := fun j hj => ⟨cur[off + j]'(by omega), Array.getElem?_eq_getElem (by omega)⟩
    obtain ⟨u, hu⟩ := hall i hi
    exact ⟨b, off, cur, u, hA, by rw [hA]; rfl, hat, hall, hu⟩
/-- What stands while an answer is spoilt. -/
structure Sp (w wr : World) (g : Nat) (node : Array Value) (nk : Nat) (AK : Option Addr) (ck : Nat) (nv : Nat) (AV : Option Addr) (cv : Nat) (nd : Nat) (AD : Option Addr) (cd : Nat) : Prop where
  tu : Turn (fun k => ablk AK = some k ∨ ablk AV = some k ∨ ablk AD = some k) w wr
  ob : At wr g (.cells node 79 (0, 0))
  k : Wt wr 9 1 AK nk
  v : Wt wr 9 1 AV nv
  d : Wt wr 77 2 AD nd
theorem Sp.set {w wr : World} {g : Nat} {node : Array Value} {nk nv nd ck cv cd : Nat} {AK AV AD : Option Addr} (h : Sp w wr g node nk AK ck nv AV cv nd AD cd) {b t : Nat} {cur : Array Value} (hb : At wr b (.cells cur t (0, 0))) (ht : t ≠ 79) (hX : ablk AK = some b ∨ ablk AV = some b ∨ ablk AD = some b) (o : Nat) (v : Value) :
    Sp w (wr.setCell ⟨b, o, none⟩ v) g node nk AK ck nv AV cv nd AD cd := by
  have s1 := Turn.set1 wr b o v
  refine ⟨h.tu.trans (s1.mono fun k _ e => by rw [e]; exact hX), h.ob.turn s1 fun e => ?_, h.k.set b o v, h.v.set b o v, h.d.set b o v⟩
  have e2 := h.ob.eq (e ▸ hb)
  injection e2 with _ e3 _
  exact ht e3.symm
end Go.Proofs.YtfplnobnmgbgoaaDoor
namespace Go.Proofs.YtfplnobnmgbgoaaDoor
open Go.RowKit Go.Lib
set_option linter.unusedVariables false
set_option maxRecDepth 20000
set_option maxRecDepth 20000
set_option maxRecDepth 20000
set_option linter.unusedSimpArgs false

theorem kcs_snoc (K : List ByteArray) (x : ByteArray) : kcs (K ++ [x]) = kcs K ++ [.string x] := by simp [kcs]
/-- A leaf in the making: two rows of its own. -/
structure Ofs (w wr : World) (g g2 : Nat) (leaf : Bool) (high : ByteArray) (bnd : Bool) (slot gen : Int) (AD : Option Addr) (nd cd : Nat) (nk : Nat) (K : List ByteArray) (A : Option Addr) (ca : Nat) (nv : Nat) (V : List ByteArray) (B : Option Addr) (cb : Nat) : Prop where
  tu : Turn No w wr
  ob : At wr g (.cells #[.bool leaf, .slice A nk ca, .slice B nv cb, .slice AD nd cd, .string high, .bool bnd, .int .i64 slot, .int .u64 gen] 79 (0, 0))
  res : At wr g2 (.cells #[.bool false, .slice none 0 0, .slice none 0 0, .slice none 0 0, .string ⟨#[]⟩, .bool false, .int .i64 0, .int .u64 0] 79 (0, 0))
  k : wr.ownsRow w.heap.size 9 1 (.slice A nk ca) nk (kcs K)
  v : wr.ownsRow w.heap.size 9 1 (.slice B nv cb) nv (kcs V)
  df : ∀ b, ablk A = some b → ablk B = some b → False
  fr : w.heap.size ≤ g ∧ g ≠ g2
theorem Ofs.appK {w wr : World} {g g2 : Nat} {leaf : Bool} {high : ByteArray} {bnd : Bool} {slot gen : Int} {AD : Option Addr} {nd cd nk nv ca cb : Nat} {K V : List ByteArray} {A B : Option Addr} (h : Ofs w wr g g2 leaf high bnd slot gen AD nd cd nk K A ca nv V B cb) (hl : nk ≤ 100000) (x : ByteArray) :
    ∃ A2 c2 w1, AppRun 74 74 (.slice A nk ca) (.slice (some ⟨wr.heap.size, 0, none⟩) 1 1) (.slice A2 (nk + 1) c2) (wr.alloc (.cells #[.string x] 9)).drew w1 ∧ At w1 g (.cells #[.bool leaf, .slice A nk ca, .slice B nv cb, .slice AD nd cd, .string high, .bool bnd, .int .i64 slot, .int .u64 gen] 79 (0, 0)) ∧ Ofs w (w1.setCell ⟨g, 1, none⟩ (.slice A2 (nk + 1) c2)) g g2 leaf high bnd slot gen AD nd cd (nk + 1) (K ++ [x]) A2 c2 nv V B cb := by
  have tn : Turn No wr (wr.alloc (.cells #[.string x] 9)).drew := ((Turn.refl No wr).alloc _).drew
  have hk := own_grown h.k tn fun _ _ h => h
  have hv := own_grown h.v tn fun _ _ h => h
  have hn := (At.new wr (.cells #[.string x] 9)).no (Turn.refl No _).drew
  obtain ⟨A2, c2, w1, q, ho, ht, hB⟩ := app_gen Tryd.underlying74 infw9 rfl (by decide) (by decide) hk ⟨wr.heap.size, 0, none⟩ 1 1 [.string x] rfl
    (fun j u hj => by rw [Addr.add_lit, Nat.zero_add, hn.cell]; simpa using hj) (fun u hu => by simp only [List.mem_cons, List.not_mem_nil, or_false] at hu; subst hu; rfl) (by omega) (Nat.le_trans h.tu.size tn.size) 74
  have h2 := (h.ob.no tn).turn ht fun e => own_neG hk (h.ob.no tn) (by decide) e
  have h3 := (h.res.no tn).turn ht fun e => own_neG hk (h.res.no tn) (by decide) e
  have s1 := Turn.set1 w1 g 1 (.slice A2 (nk + 1) c2)
  have hf := h.fr
  have tw : Turn No w w1 := (h.tu.trans tn).then ht fun k hk1 e => by
    rw [own_ablk] at e
    have := (own_at hk e).1
    omega
  have hvw : w1.ownsRow w.heap.size 9 1 (.slice B nv cb) nv (kcs V) := own_grown hv ht fun k e1 e2 => by
    rw [own_ablk] at e1 e2
    exact h.df k e2 e1
  refine ⟨A2, c2, w1, q, h2, ⟨tw.then s1 fun k hk1 e => by omega, by simpa using h2.set 1 (.slice A2 (nk + 1) c2), h3.turn s1 fun e => hf.2 e.symm, ?_, ?_, fun b hb hb2 => ?_, hf⟩⟩
  · rw [kcs_snoc]
    exact own_grown ho s1 fun k hk1 e => own_neG ho h2 (by decide) (by rw [← e]; exact hk1)
  · skip
    exact own_grown hvw s1 fun k hk1 e => own_neG hvw h2 (by decide) (by rw [← e]; exact hk1)
  · rw [own_ablk, own_ablk] at hB
    rcases hB with e | e
    · exact h.df b (by rw [← e]; exact hb) hb2
    · rw [e] at hb
      injection hb with hb
      obtain ⟨cur, hc⟩ := (own_at hv hb2).2
      have := hc.lt
      omega
theorem Ofs.appV {w wr : World} {g g2 : Nat} {leaf : Bool} {high : ByteArray} {bnd : Bool} {slot gen : Int} {AD : Option Addr} {nd cd nk nv ca cb : Nat} {K V : List ByteArray} {A B : Option Addr} (h : Ofs w wr g g2 leaf high bnd slot gen AD nd cd nk K A ca nv V B cb) (hl : nv ≤ 100000) (x : ByteArray) :
    ∃ A2 c2 w1, AppRun 74 74 (.slice B nv cb) (.slice (some ⟨wr.heap.size, 0, none⟩) 1 1) (.slice A2 (nv + 1) c2) (wr.alloc (.cells #[.string x] 9)).drew w1 ∧ At w1 g (.cells #[.bool leaf, .slice A nk ca, .slice B nv cb, .slice AD nd cd, .string high, .bool bnd, .int .i64 slot, .int .u64 gen] 79 (0, 0)) ∧ Ofs w (w1.setCell ⟨g, 2, none⟩ (.slice A2 (nv + 1) c2)) g g2 leaf high bnd slot gen AD nd cd nk K A ca (nv + 1) (V ++ [x]) A2 c2 := by
  have tn : Turn No wr (wr.alloc (.cells #[.string x] 9)).drew := ((Turn.refl No wr).alloc _).drew
  have hk := own_grown h.v tn fun _ _ h => h
  have hv := own_grown h.k tn fun _ _ h => h
  have hn := (At.new wr (.cells #[.string x] 9)).no (Turn.refl No _).drew
  obtain ⟨A2, c2, w1, q, ho, ht, hB⟩ := app_gen Tryd.underlying74 infw9 rfl (by decide) (by decide) hk ⟨wr.heap.size, 0, none⟩ 1 1 [.string x] rfl
    (fun j u hj => by rw [Addr.add_lit, Nat.zero_add, hn.cell]; simpa using hj) (fun u hu => by simp only [List.mem_cons, List.not_mem_nil, or_false] at hu; subst hu; rfl) (by omega) (Nat.le_trans h.tu.size tn.size) 74
  have h2 := (h.ob.no tn).turn ht fun e => own_neG hk (h.ob.no tn) (by decide) e
  have h3 := (h.res.no tn).turn ht fun e => own_neG hk (h.res.no tn) (by decide) e
  have s1 := Turn.set1 w1 g 2 (.slice A2 (nv + 1) c2)
  have hf := h.fr
  have tw : Turn No w w1 := (h.tu.trans tn).then ht fun k hk1 e => by
    rw [own_ablk] at e
    have := (own_at hk e).1
    omega
  have hvw : w1.ownsRow w.heap.size 9 1 (.slice A nk ca) nk (kcs K) := own_grown hv ht fun k e1 e2 => by
    rw [own_ablk] at e1 e2
    exact h.df k e1 e2
  refine ⟨A2, c2, w1, q, h2, ⟨tw.then s1 fun k hk1 e => by omega, by simpa using h2.set 2 (.slice A2 (nv + 1) c2), h3.turn s1 fun e => hf.2 e.symm, ?_, ?_, fun b hb2 hb => ?_, hf⟩⟩
  · skip
    exact own_grown hvw s1 fun k hk1 e => own_neG hvw h2 (by decide) (by rw [← e]; exact hk1)
  · rw [kcs_snoc]
    exact own_grown ho s1 fun k hk1 e => own_neG ho h2 (by decide) (by rw [← e]; exact hk1)
  · rw [own_ablk, own_ablk] at hB
    rcases hB with e | e
    · exact h.df b hb2 (by rw [← e]; exact hb)
    · rw [e] at hb
      injection hb with hb
      obtain ⟨cur, hc⟩ := (own_at hv hb2).2
      have := hc.lt
      omega
/-- What of answers. -/
def OfRes (leaf : Bool) (high : ByteArray) (bnd : Bool) (slot gen : Int) (AD : Option Addr) (nd cd : Nat) (L : List Pr) (w : World) (e : Ending) (w' : World) : Prop :=
  ∃ A ca B cb, e = .returned (.agg #[.bool leaf, .slice A L.length ca, .slice B L.length cb, .slice AD nd cd, .string high, .bool bnd, .int .i64 slot, .int .u64 gen]) ∧ w'.ownsRow w.heap.size 9 1 (.slice A L.length ca) L.length (kcs (L.map Pr.k)) ∧ w'.ownsRow w.heap.size 9 1 (.slice B L.length cb) L.length (kcs (L.map Pr.v)) ∧ Turn No w w'
theorem Ofs.fin {w wr : World} {g g2 : Nat} {leaf : Bool} {high : ByteArray} {bnd : Bool} {slot gen : Int} {AD : Option Addr} {nd cd ca cb : Nat} {L : List Pr} {A B : Option Addr} (h : Ofs w wr g g2 leaf high bnd slot gen AD nd cd L.length (L.map Pr.k) A ca L.length (L.map Pr.v) B cb) (hg2 : w.heap.size ≤ g2) :
    At ((((((((wr.setCell ⟨g2, 0, none⟩ (.bool leaf)).setCell ⟨g2, 1, none⟩ (.slice A L.length ca)).setCell ⟨g2, 2, none⟩ (.slice B L.length cb)).setCell ⟨g2, 3, none⟩ (.slice AD nd cd)).setCell ⟨g2, 4, none⟩ (.string high)).setCell ⟨g2, 5, none⟩ (.bool bnd)).setCell ⟨g2, 6, none⟩ (.int .i64 slot)).setCell ⟨g2, 7, none⟩ (.int .u64 gen)) g2 (.cells #[.bool leaf, .slice A L.length ca, .slice B L.length cb, .slice AD nd cd, .string high, .bool bnd, .int .i64 slot, .int .u64 gen] 79 (0, 0)) ∧ ((((((((wr.setCell ⟨g2, 0, none⟩ (.bool leaf)).setCell ⟨g2, 1, none⟩ (.slice A L.length ca)).setCell ⟨g2, 2, none⟩ (.slice B L.length cb)).setCell ⟨g2, 3, none⟩ (.slice AD nd cd)).setCell ⟨g2, 4, none⟩ (.string high)).setCell ⟨g2, 5, none⟩ (.bool bnd)).setCell ⟨g2, 6, none⟩ (.int .i64 slot)).setCell ⟨g2, 7, none⟩ (.int .u64 gen)).ownsRow w.heap.size 9 1 (.slice A L.length ca) L.length (kcs (L.map Pr.k)) ∧ ((((((((wr.setCell ⟨g2, 0, none⟩ (.bool leaf)).setCell ⟨g2, 1, none⟩ (.slice A L.length ca)).setCell ⟨g2, 2, none⟩ (.slice B L.length cb)).setCell ⟨g2, 3, none⟩ (.slice AD nd cd)).setCell ⟨g2, 4, none⟩ (.string high)).setCell ⟨g2, 5, none⟩ (.bool bnd)).setCell ⟨g2, 6, none⟩ (.int .i64 slot)).setCell ⟨g2, 7, none⟩ (.int .u64 gen)).ownsRow w.heap.size 9 1 (.slice B L.length cb) L.length (kcs (L.map Pr.v)) ∧ Turn No w ((((((((wr.setCell ⟨g2, 0, none⟩ (.bool leaf)).setCell ⟨g2, 1, none⟩ (.slice A L.length ca)).setCell ⟨g2, 2, none⟩ (.slice B L.length cb)).setCell ⟨g2, 3, none⟩ (.slice AD nd cd)).setCell ⟨g2, 4, none⟩ (.string high)).setCell ⟨g2, 5, none⟩ (.bool bnd)).setCell ⟨g2, 6, none⟩ (.int .i64 slot)).setCell ⟨g2, 7, none⟩ (.int .u64 gen)) := by
  have tw : Turn (fun k => k = g2) wr ((((((((wr.setCell ⟨g2, 0, none⟩ (.bool leaf)).setCell ⟨g2, 1, none⟩ (.slice A L.length ca)).setCell ⟨g2, 2, none⟩ (.slice B L.length cb)).setCell ⟨g2, 3, none⟩ (.slice AD nd cd)).setCell ⟨g2, 4, none⟩ (.string high)).setCell ⟨g2, 5, none⟩ (.bool bnd)).setCell ⟨g2, 6, none⟩ (.int .i64 slot)).setCell ⟨g2, 7, none⟩ (.int .u64 gen)) := (((((((((Turn.refl (fun k => k = g2) wr).trans (Turn.set1 _ g2 0 (.bool leaf))).trans (Turn.set1 _ g2 1 (.slice A L.length ca))).trans (Turn.set1 _ g2 2 (.slice B L.length cb))).trans (Turn.set1 _ g2 3 (.slice AD nd cd))).trans (Turn.set1 _ g2 4 (.string high))).trans (Turn.set1 _ g2 5 (.bool bnd))).trans (Turn.set1 _ g2 6 (.int .i64 slot))).trans (Turn.set1 _ g2 7 (.int .u64 gen)))
  refine ⟨by simpa using ((((((((h.res.set 0 (.bool leaf)).set 1 (.slice A L.length ca)).set 2 (.slice B L.length cb)).set 3 (.slice AD nd cd)).set 4 (.string high)).set 5 (.bool bnd)).set 6 (.int .i64 slot)).set 7 (.int .u64 gen)), ?_, ?_, h.tu.then tw fun k hk e => by omega⟩
  · exact own_grown h.k tw fun k hk e => own_neG h.k h.res (by decide) (by rw [← e]; exact hk)
  · exact own_grown h.v tw fun k hk e => own_neG h.v h.res (by decide) (by rw [← e]; exact hk)
end Go.Proofs.YtfplnobnmgbgoaaDoor
namespace Go.Proofs.YtfplnobnmgbgoaaDoor
open Go.RowKit Go.Lib
set_option linter.unusedVariables false
set_option maxRecDepth 20000
set_option maxRecDepth 20000
set_option maxRecDepth 20000
set_option linter.unusedSimpArgs false

end Go.Proofs.YtfplnobnmgbgoaaDoor
namespace Go.Proofs.YtfplnobnmgbgoaaDoor
open Go.RowKit Go.Lib
set_option linter.unusedVariables false
set_option maxRecDepth 20000
set_option maxRecDepth 20000
set_option maxRecDepth 20000
set_option linter.unusedSimpArgs false

/-- A row of keys may be asked of: it is read, small, fit. -/
def FindC : Prop := ∀ (leaf : Bool) (K : List ByteArray) (nv nd : Nat) (high : ByteArray) (bnd : Bool) (slot gen : Int) (AK AV AD : Option Addr) (ck cv cd : Nat) (key : ByteArray) (w : World), Row w AK (kcs K) → (∀ k ∈ K, Fit k) → Fit key → K.length ≤ 100000 →
  Calls Tryd.prog 35 #[.agg #[.bool leaf, .slice AK K.length ck, .slice AV nv cv, .slice AD nd cd, .string high, .bool bnd, .int .i64 slot, .int .u64 gen], .string key] w fun e w' => e = .returned (.tuple #[.int .i64 (plc K key : Int), .bool (inK K key)]) ∧ Turn No w w'
/-- What value answers. -/
def valT (K V : List ByteArray) (key : ByteArray) : Value := if inK K key = true ∧ plc K key < V.length then .tuple #[.string (V.getD (plc K key) ⟨#[]⟩), .bool true] else .tuple #[.string ⟨#[]⟩, .bool false]
end Go.Proofs.YtfplnobnmgbgoaaDoor
namespace Go.Proofs.YtfplnobnmgbgoaaDoor
open Go.RowKit Go.Lib
set_option linter.unusedVariables false
set_option maxRecDepth 20000
set_option maxRecDepth 20000
set_option maxRecDepth 20000
set_option linter.unusedSimpArgs false

/-- A node that comes in. -/
structure In (w : World) (n : Nd) (AK AV AD : Option Addr) : Prop where
  k : Row w AK (kcs n.keys)
  v : Row w AV (kcs n.vals)
  d : Row w AD (hcs n.kids)
  fk : ∀ k ∈ n.keys, Fit k
  fv : ∀ k ∈ n.vals, Fit k
  fh : Fit n.high
  lk : n.keys.length ≤ 10000
  lv : n.vals.length ≤ 10000
  ld : n.kids.length ≤ 10000
/-- An answer: rows that lie from block Z on, and may be written over. -/
structure Got (Z : Nat) (w : World) (n : Nd) (AK AV AD : Option Addr) : Prop where
  k : Row w AK (kcs n.keys)
  v : Row w AV (kcs n.vals)
  d : Row w AD (hcs n.kids)
  wk : Wt w 9 1 AK n.keys.length
  wv : Wt w 9 1 AV n.vals.length
  wd : Wt w 77 2 AD n.kids.length
  zk : ∀ b, ablk AK = some b → Z ≤ b
  zv : ∀ b, ablk AV = some b → Z ≤ b
  zd : ∀ b, ablk AD = some b → Z ≤ b
theorem Own.got {Z : Nat} {w : World} {n : Nd} {AK AV AD : Option Addr} {ck cv cd : Nat} (h : Own Z w n.keys n.vals n.kids AK ck AV cv AD cd) : Got Z w n AK AV AD :=
  ⟨row_of_own h.k, row_of_own h.v, row_of_own h.d, wt_own h.k, wt_own h.v, wt_own h.d, fun b hb => (own_at h.k hb).1, fun b hb => (own_at h.v hb).1, fun b hb => (own_at h.d hb).1⟩
theorem Got.no {Z : Nat} {w w' : World} {n : Nd} {AK AV AD : Option Addr} (h : Got Z w n AK AV AD) (t : Turn No w w') : Got Z w' n AK AV AD := ⟨h.k.no t, h.v.no t, h.d.no t, h.wk.no t, h.wv.no t, h.wd.no t, h.zk, h.zv, h.zd⟩
theorem In.no {w w' : World} {n : Nd} {AK AV AD : Option Addr} (h : In w n AK AV AD) (t : Turn No w w') : In w' n AK AV AD := ⟨h.k.no t, h.v.no t, h.d.no t, h.fk, h.fv, h.fh, h.lk, h.lv, h.ld⟩
/-- A leaf that is right and covers. -/
def LeafR (n : Nd) (key : ByteArray) : Prop := NdRight n ∧ n.leaf = true ∧ NdCov n key
def PutR (n : Nd) (key val : ByteArray) (m : Nd) (old : ByteArray) (had : Bool) : Prop :=
  (LeafR n key → m = { n with keys := (putL (zipP n.keys n.vals) key val).map Pr.k, vals := (putL (zipP n.keys n.vals) key val).map Pr.v } ∧ old = (getL (zipP n.keys n.vals) key).getD ⟨#[]⟩ ∧ had = (getL (zipP n.keys n.vals) key).isSome) ∧ (¬ LeafR n key → m = n ∧ old = ⟨#[]⟩ ∧ had = false)
def DelR (n : Nd) (key : ByteArray) (m : Nd) (old : ByteArray) (had : Bool) : Prop :=
  (LeafR n key → m = { n with keys := (delL (zipP n.keys n.vals) key).map Pr.k, vals := (delL (zipP n.keys n.vals) key).map Pr.v } ∧ old = (getL (zipP n.keys n.vals) key).getD ⟨#[]⟩ ∧ had = (getL (zipP n.keys n.vals) key).isSome) ∧ (¬ LeafR n key → m = n ∧ old = ⟨#[]⟩ ∧ had = false)
/-- An inner node that is right, covers, and has it not. -/
def AddO (n : Nd) (sep : ByteArray) : Prop := NdRight n ∧ n.leaf = false ∧ NdCov n sep ∧ sep ∉ n.keys
def AddR (n : Nd) (sep : ByteArray) (kid : Hn) (m : Nd) : Prop :=
  (AddO n sep → m = { n with keys := ins n.keys (plc n.keys sep) sep, kids := ins n.kids (plc n.keys sep + 1) kid }) ∧ (¬ AddO n sep → m = n)
def KidR (n : Nd) (key : ByteArray) (h : Hn) (is : Bool) : Prop :=
  (NdRight n ∧ n.leaf = false ∧ NdCov n key → is = true ∧ n.kids[kix n.keys key]? = some h) ∧ (¬ (NdRight n ∧ n.leaf = false ∧ NdCov n key) → is = false ∧ h = ⟨0, 0⟩)
def RightC : Prop := ∀ (n : Nd) (AK AV AD : Option Addr) (ck cv cd : Nat) (w : World), In w n AK AV AD → Calls Tryd.prog 80 #[.agg #[.bool n.leaf, .slice AK n.keys.length ck, .slice AV n.vals.length cv, .slice AD n.kids.length cd, .string n.high, .bool n.bnd, .int .i64 n.nx.slot, .int .u64 n.nx.gen]] w fun e w' => BRes (NdRight n) w e w'
def CoversC : Prop := ∀ (n : Nd) (AK AV AD : Option Addr) (ck cv cd : Nat) (key : ByteArray) (w : World), In w n AK AV AD → Fit key → Calls Tryd.prog 57 #[.agg #[.bool n.leaf, .slice AK n.keys.length ck, .slice AV n.vals.length cv, .slice AD n.kids.length cd, .string n.high, .bool n.bnd, .int .i64 n.nx.slot, .int .u64 n.nx.gen], .string key] w fun e w' => BRes (NdCov n key) w e w'
def FullC : Prop := ∀ (n : Nd) (AK AV AD : Option Addr) (ck cv cd : Nat) (w : World), In w n AK AV AD → Calls Tryd.prog 70 #[.agg #[.bool n.leaf, .slice AK n.keys.length ck, .slice AV n.vals.length cv, .slice AD n.kids.length cd, .string n.high, .bool n.bnd, .int .i64 n.nx.slot, .int .u64 n.nx.gen]] w fun e w' => BRes (4 < n.keys.length) w e w'
def KidC : Prop := ∀ (n : Nd) (AK AV AD : Option Addr) (ck cv cd : Nat) (key : ByteArray) (w : World), In w n AK AV AD → Fit key → Calls Tryd.prog 65 #[.agg #[.bool n.leaf, .slice AK n.keys.length ck, .slice AV n.vals.length cv, .slice AD n.kids.length cd, .string n.high, .bool n.bnd, .int .i64 n.nx.slot, .int .u64 n.nx.gen], .string key] w fun e w' => ∃ h is, e = .returned (.tuple #[.agg #[.int .i64 h.slot, .int .u64 h.gen], .bool is]) ∧ KidR n key h is ∧ Turn No w w'
def PutC : Prop := ∀ (n : Nd) (AK AV AD : Option Addr) (ck cv cd : Nat) (key val : ByteArray) (w : World), In w n AK AV AD → Fit key → Fit val → Calls Tryd.prog 47 #[.agg #[.bool n.leaf, .slice AK n.keys.length ck, .slice AV n.vals.length cv, .slice AD n.kids.length cd, .string n.high, .bool n.bnd, .int .i64 n.nx.slot, .int .u64 n.nx.gen], .string key, .string val] w fun e w' =>
  ∃ m BK dk BV dv BD dd old had, e = .returned (.tuple #[.agg #[.bool m.leaf, .slice BK m.keys.length dk, .slice BV m.vals.length dv, .slice BD m.kids.length dd, .string m.high, .bool m.bnd, .int .i64 m.nx.slot, .int .u64 m.nx.gen], .string old, .bool had]) ∧ PutR n key val m old had ∧ Got w.heap.size w' m BK BV BD ∧ Turn No w w'
def DelC : Prop := ∀ (n : Nd) (AK AV AD : Option Addr) (ck cv cd : Nat) (key : ByteArray) (w : World), In w n AK AV AD → Fit key → Calls Tryd.prog 51 #[.agg #[.bool n.leaf, .slice AK n.keys.length ck, .slice AV n.vals.length cv, .slice AD n.kids.length cd, .string n.high, .bool n.bnd, .int .i64 n.nx.slot, .int .u64 n.nx.gen], .string key] w fun e w' =>
  ∃ m BK dk BV dv BD dd old had, e = .returned (.tuple #[.agg #[.bool m.leaf, .slice BK m.keys.length dk, .slice BV m.vals.length dv, .slice BD m.kids.length dd, .string m.high, .bool m.bnd, .int .i64 m.nx.slot, .int .u64 m.nx.gen], .string old, .bool had]) ∧ DelR n key m old had ∧ Got w.heap.size w' m BK BV BD ∧ Turn No w w'
def AddC : Prop := ∀ (n : Nd) (AK AV AD : Option Addr) (ck cv cd : Nat) (sep : ByteArray) (kid : Hn) (w : World), In w n AK AV AD → Fit sep → Calls Tryd.prog 73 #[.agg #[.bool n.leaf, .slice AK n.keys.length ck, .slice AV n.vals.length cv, .slice AD n.kids.length cd, .string n.high, .bool n.bnd, .int .i64 n.nx.slot, .int .u64 n.nx.gen], .string sep, .agg #[.int .i64 kid.slot, .int .u64 kid.gen]] w fun e w' =>
  ∃ m BK dk BV dv BD dd, e = .returned (.agg #[.bool m.leaf, .slice BK m.keys.length dk, .slice BV m.vals.length dv, .slice BD m.kids.length dd, .string m.high, .bool m.bnd, .int .i64 m.nx.slot, .int .u64 m.nx.gen]) ∧ AddR n sep kid m ∧ Got w.heap.size w' m BK BV BD ∧ Turn No w w'
/-- The chapter's leaf. -/
def ndL : Nd := ⟨true, [⟨#[98]⟩, ⟨#[100]⟩], [⟨#[49]⟩, ⟨#[50]⟩], [], ⟨#[]⟩, false, ⟨0, 0⟩⟩
def ndL2 : Nd := ⟨true, [⟨#[98]⟩, ⟨#[99]⟩, ⟨#[100]⟩], [⟨#[49]⟩, ⟨#[57]⟩, ⟨#[50]⟩], [], ⟨#[]⟩, false, ⟨0, 0⟩⟩
theorem rk_L : Rk ndL.keys := by unfold Rk ndL; decide
theorem rk_L2 : Rk ndL2.keys := by unfold Rk ndL2; decide
end Go.Proofs.YtfplnobnmgbgoaaDoor
namespace Go.Proofs.YtfplnobnmgbgoaaDoor
theorem putL_L : putL (zipP ndL.keys ndL.vals) ⟨#[99]⟩ ⟨#[57]⟩ = [⟨⟨#[98]⟩, ⟨#[49]⟩⟩, ⟨⟨#[99]⟩, ⟨#[57]⟩⟩, ⟨⟨#[100]⟩, ⟨#[50]⟩⟩] := by rfl
theorem getL_L : getL (zipP ndL.keys ndL.vals) ⟨#[99]⟩ = none := by decide
theorem plc_L2 : plc ndL2.keys ⟨#[99]⟩ = 1 ∧ inK ndL2.keys ⟨#[99]⟩ = true := by decide
end Go.Proofs.YtfplnobnmgbgoaaDoor
