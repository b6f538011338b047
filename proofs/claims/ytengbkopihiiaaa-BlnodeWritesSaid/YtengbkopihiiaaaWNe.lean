/-
  The document's Place; the law's same, covers, right.
-/
import Derived.Test.YtengbkopihiiaaaWNd
namespace Go.Proofs.Ytengbkopihiiaaa
open Go.RowKit Go.Lib
set_option linter.unusedVariables false
set_option maxRecDepth 20000
set_option maxRecDepth 20000
set_option linter.unusedSimpArgs false

theorem plc_snoc {K : List ByteArray} {i : Nat} {y : ByteArray} (h : K[i]? = some y) (k : ByteArray) : plc (K.take (i + 1)) k = plc (K.take i) k + if kl y k then 1 else 0 := by
  rw [List.take_add_one, h, plc_append]
  show plc (K.take i) k + plc [y] k = _
  rw [plc_cons]
  rfl
theorem inK_snoc {K : List ByteArray} {i : Nat} {y : ByteArray} (h : K[i]? = some y) (k : ByteArray) : inK (K.take (i + 1)) k = (inK (K.take i) k || decide (y = k)) := by
  rw [List.take_add_one, h]
  unfold inK
  rw [List.any_append]
  simp
set_option maxHeartbeats 4000000 in
theorem place_any (K : List ByteArray) (key : ByteArray) (B : Option Addr) (c : Nat) (w : World) (hR : Row w B (kcs K)) (hf : ∀ k ∈ K, Fit k) (hk : Fit key) (hn : K.length ≤ 100000) :
    Calls Try.prog 24 #[.slice B K.length c, .string key] w fun e w' => e = .returned (.tuple #[.int .i64 (plc K key : Int), .bool (inK K key)]) ∧ Turn No w w' := by
  obtain ⟨P, hP⟩ : ∃ x, plc K key = x := ⟨_, rfl⟩
  obtain ⟨Q, hQ⟩ : ∃ x, inK K key = x := ⟨_, rfl⟩
  have HL := Lib.hid (And.intro hR (And.intro hf (And.intro hk (And.intro hP hQ))))
  rw [hP, hQ]
  clear hR hf hk hP hQ
  go_enter Try.func24, Try.ntmps24
  go_wp2_with fail
  go_loopw [6, 7, 8] (fun n s x wr => ∃ (i p : Nat) (b : Bool), i ≤ K.length ∧ p ≤ i ∧ x = .int .i64 (i : Int) ∧ n = .int .i64 (p : Int) ∧ s = .bool b ∧ Hid (Turn No w wr ∧ p = plc (K.take i) key ∧ b = inK (K.take i) key)) (fun _ _ x _ => K.length - (RowKit.intOf x).toNat)
  case atStart => exact ⟨0, 0, false, Nat.zero_le _, Nat.le_refl _, rfl, rfl, rfl, Lib.hid ⟨Turn.refl _ _, rfl, rfl⟩⟩
  case round =>
    obtain ⟨i, p, b, hi, hpi, rfl, rfl, rfl, HP⟩ := hrel
    by_cases hlt : i < K.length
    · obtain ⟨y, hy⟩ : ∃ t, K[i]? = some t := ⟨K[i], List.getElem?_eq_getElem hlt⟩
      obtain ⟨bl, o, hB, hc⟩ := kcs_hold (HL.out.1.no HP.out.1) hy
      have x0 := hc wr (Turn.refl _ _)
      have HC := Lib.hid hc
      have CL := Lib.hid (lessT y key wr (HL.out.2.1 y (List.mem_of_getElem? hy)) HL.out.2.2.1)
      have HPS := Lib.hid (plc_snoc hy key)
      have HIS := Lib.hid (inK_snoc hy key)
      subst hB
      clear hy hc
      have hq1 : (0 : Int) ≤ (i : Int) := by omega
      have hq2 : (i : Int) < (K.length : Int) := by omega
      go_upto_if 20 with (go_at_call 48; (with_reducible refine CL.out.mono ?_); rintro e w2 ⟨bb, rfl, hbb, ht⟩; have H2 := Lib.hid (And.intro hbb ht); clear hbb ht)
      clear CL x0
      have x0 := HC.out w2 H2.out.2
      have qe := bytes_beq y key
      obtain ⟨q, hq⟩ : ∃ x, decide (y = key) = x := ⟨_, rfl⟩
      rw [hq] at qe
      have HQ := Lib.hid hq
      clear hq
      have HI2 : Hid (inK (K.take (i + 1)) key = (b || q)) := Lib.hid (by rw [HIS.out, HQ.out, ← HP.out.2.2])
      obtain ⟨br, hbr⟩ : ∃ x, x = bb := ⟨_, rfl⟩
      subst hbr
      cases br with
      | true =>
        have HP2 : Hid (plc (K.take (i + 1)) key = p + 1) := Lib.hid (by rw [HPS.out, if_pos (by first | exact H2.out.1.1 rfl | exact H2.out.1.1 trivial), ← HP.out.2.1])
        cases b with
        | true =>
          go_wp2_with fail
          exact ⟨⟨i + 1, p + 1, true, by omega, by omega, by go_num, by go_num, rfl, Lib.hid ⟨HP.out.1.trans H2.out.2, HP2.out.symm, by rw [HI2.out]; rfl⟩⟩, by simp [RowKit.intOf]; omega⟩
        | false =>
          go_wp2_with fail
          exact ⟨⟨i + 1, p + 1, q, by omega, by omega, by go_num, by go_num, rfl, Lib.hid ⟨HP.out.1.trans H2.out.2, HP2.out.symm, by rw [HI2.out]; rfl⟩⟩, by simp [RowKit.intOf]; omega⟩
      | false =>
        have HP2 : Hid (plc (K.take (i + 1)) key = p) := Lib.hid (by rw [HPS.out, if_neg (fun h => by have := H2.out.1.2 h; cases this), ← HP.out.2.1]; rfl)
        cases b with
        | true =>
          go_wp2_with fail
          exact ⟨⟨i + 1, p, true, by omega, by omega, by go_num, rfl, rfl, Lib.hid ⟨HP.out.1.trans H2.out.2, HP2.out.symm, by rw [HI2.out]; rfl⟩⟩, by simp [RowKit.intOf]; omega⟩
        | false =>
          go_wp2_with fail
          exact ⟨⟨i + 1, p, q, by omega, by omega, by go_num, rfl, rfl, Lib.hid ⟨HP.out.1.trans H2.out.2, HP2.out.symm, by rw [HI2.out]; rfl⟩⟩, by simp [RowKit.intOf]; omega⟩
    · obtain rfl : i = K.length := by omega
      have HF : Hid (p = P ∧ b = Q) := Lib.hid ⟨by rw [HP.out.2.1, List.take_length]; exact HL.out.2.2.2.1, by rw [HP.out.2.2, List.take_length]; exact HL.out.2.2.2.2⟩
      go_wp2_with fail
      go_ret2
      rw [HF.out.1, HF.out.2]
      first | exact ⟨rfl, HP.out.1⟩ | exact ⟨trivial, HP.out.1⟩
theorem take_eq {K L : List ByteArray} {i : Nat} {x y : ByteArray} (hx : K[i]? = some x) (hy : L[i]? = some y) (h : K.take i = L.take i) : K.take (i + 1) = L.take (i + 1) ↔ x = y := by
  rw [List.take_add_one, List.take_add_one, hx, hy, h]
  simp
set_option maxHeartbeats 4000000 in
theorem sameS_any (K L : List ByteArray) (B C : Option Addr) (c d : Nat) (w : World) (hK : Row w B (kcs K)) (hL : Row w C (kcs L)) (hn : K.length ≤ 100000) :
    Calls Try.prog 19 #[.slice B K.length c, .slice C L.length d] w fun e w' => BRes (K = L) w e w' := by
  have HL := Lib.hid (And.intro hK hL)
  clear hK hL
  by_cases hne : K.length = L.length
  · have HLE := Lib.hid hne
    rw [← hne]
    clear hne
    go_enter Try.func19, Try.ntmps19
    go_wp2_with fail
    go_loopw [5] (fun x wr => ∃ i : Nat, i ≤ K.length ∧ x = .int .i64 (i : Int) ∧ Hid (Turn No w wr ∧ K.take i = L.take i)) (fun x _ => K.length - (RowKit.intOf x).toNat)
    case atStart => exact ⟨0, Nat.zero_le _, rfl, Lib.hid ⟨Turn.refl _ _, by simp⟩⟩
    case round =>
      obtain ⟨i, hi, rfl, HP⟩ := hrel
      by_cases hlt : i < K.length
      · obtain ⟨x, hx⟩ : ∃ t, K[i]? = some t := ⟨K[i], List.getElem?_eq_getElem hlt⟩
        obtain ⟨y, hy⟩ : ∃ t, L[i]? = some t := ⟨L[i]'(by rw [← HLE.out]; exact hlt), List.getElem?_eq_getElem _⟩
        obtain ⟨b1, o1, hB, x0⟩ := kcs_get (HL.out.1.no HP.out.1) hx
        obtain ⟨b2, o2, hC, y0⟩ := kcs_get (HL.out.2.no HP.out.1) hy
        have HT := Lib.hid (take_eq hx hy HP.out.2)
        have HN : Hid (K = L → x = y) := Lib.hid fun h => by rw [h, hy] at hx; injection hx with hx; exact hx.symm
        have HW := Lib.hid HP.out.1
        subst hB hC
        clear hx hy HP
        have hq1 : (0 : Int) ≤ (i : Int) := by omega
        have hq2 : (i : Int) < (K.length : Int) := by omega
        have qe := bytes_beq x y
        by_cases he : x = y
        · have HE := Lib.hid (HT.out.2 he)
          rw [decide_eq_true he] at qe
          have qn : (x.toList != y.toList) = false := by rw [bne, qe]; rfl
          clear he
          go_wp2_with fail
          go_quiet (fail)
          all_goals go_wp2_with fail
          all_goals exact ⟨⟨i + 1, by omega, by go_num, Lib.hid ⟨by first | exact HW.out.drewN _ | exact HW.out.drew, HE.out⟩⟩, by simp [RowKit.intOf]; omega⟩
        · have HE : Hid (¬ K = L) := Lib.hid fun h => he (HN.out h)
          rw [decide_eq_false he] at qe
          have qn : (x.toList != y.toList) = true := by rw [bne, qe]; rfl
          clear he
          go_wp2_with fail
          go_quiet (fail)
          all_goals go_wp2_with fail
          all_goals go_ret
          all_goals exact BRes.of false rfl ⟨fun h => by (cases h), fun h => absurd h HE.out⟩ (by first | exact HW.out.drewN _ | exact HW.out.drew)
      · obtain rfl : i = K.length := by omega
        have HE : Hid (K = L) := Lib.hid (by
          have h := HP.out.2
          rw [List.take_length, HLE.out, List.take_length] at h
          exact h)
        go_wp2_with fail
        go_ret
        exact BRes.of true rfl ⟨fun _ => HE.out, fun _ => rfl⟩ HP.out.1
  · have hne' : ¬ (K.length : Int) = (L.length : Int) := by omega
    have HE : Hid (¬ K = L) := Lib.hid fun h => hne (by rw [h])
    clear hne
    go_enter Try.func19, Try.ntmps19
    go_wp2_with fail
    go_ret
    exact BRes.of false rfl ⟨fun h => by (cases h), fun h => absurd h HE.out⟩ (Turn.refl _ _)
/-- A node as plain data. -/
structure Hn where
  slot : Int
  gen : Int
structure Nd where
  leaf : Bool
  keys : List ByteArray
  vals : List ByteArray
  kids : List Hn
  high : ByteArray
  bnd : Bool
  nx : Hn
def Hn.cs (h : Hn) : List Value := [.int .i64 h.slot, .int .u64 h.gen]
def hcs (l : List Hn) : List Value := l.flatMap Hn.cs
def RightP (leaf : Bool) (K : List ByteArray) (nv nd : Nat) (high : ByteArray) (bnd : Bool) : Prop := Rk K ∧ (bnd = false → high = ⟨#[]⟩) ∧ (bnd = true → ∀ k ∈ K, kl k high) ∧ (leaf = true → nv = K.length ∧ nd = 0) ∧ (leaf = false → nv = 0 ∧ nd = K.length + 1)
def NdRight (n : Nd) : Prop := RightP n.leaf n.keys n.vals.length n.kids.length n.high n.bnd
def NdCov (n : Nd) (k : ByteArray) : Prop := n.bnd = true → kl k n.high
set_option maxHeartbeats 4000000 in
theorem covers_any (n : Nd) (key : ByteArray) (AK AV AD : Option Addr) (ck cv cd : Nat) (w : World) (hk : Fit key) (hh : Fit n.high) :
    Calls Try.prog 23 #[.agg #[.bool n.leaf, .slice AK n.keys.length ck, .slice AV n.vals.length cv, .slice AD n.kids.length cd, .string n.high, .bool n.bnd, .int .i64 n.nx.slot, .int .u64 n.nx.gen], .string key] w fun e w' => BRes (NdCov n key) w e w' := by
  obtain ⟨leaf, keys, vals, kids, high, bnd, ⟨slot, gen⟩⟩ := n
  simp only at hh ⊢
  have HB : Hid (Turn No w (w.alloc (.cells #[.bool leaf, .slice AK keys.length ck, .slice AV vals.length cv, .slice AD kids.length cd, .string high, .bool bnd, .int .i64 slot, .int .u64 gen] 29)) ∧ At (w.alloc (.cells #[.bool leaf, .slice AK keys.length ck, .slice AV vals.length cv, .slice AD kids.length cd, .string high, .bool bnd, .int .i64 slot, .int .u64 gen] 29)) w.heap.size (.cells #[.bool leaf, .slice AK keys.length ck, .slice AV vals.length cv, .slice AD kids.length cd, .string high, .bool bnd, .int .i64 slot, .int .u64 gen] 29 (0, 0))) := Lib.hid ⟨(Turn.refl _ _).alloc _, At.new _ _⟩
  have CL := Lib.hid fun (W : World) => lessT key high W hk hh
  clear hk hh
  go_enter Try.func23, Try.ntmps23
  go_upto_region 1 with fail
  generalize w.alloc (.cells #[.bool leaf, .slice AK keys.length ck, .slice AV vals.length cv, .slice AD kids.length cd, .string high, .bool bnd, .int .i64 slot, .int .u64 gen] 29) = w1 at HB ⊢
  generalize w.heap.size = g at HB ⊢
  have e4 := HB.out.2.cell 4
  have e5 := HB.out.2.cell 5
  simp at e4 e5
  cases bnd with
  | false =>
    go_wp2_with fail
    go_ret
    exact BRes.of true rfl ⟨fun _ h => by (cases h), fun _ => rfl⟩ HB.out.1
  | true =>
    go_wp2_with (go_at_call 48; (with_reducible refine (CL.out _).mono ?_); rintro e w2 ⟨bb, rfl, hbb, ht⟩; have H2 := Lib.hid (And.intro hbb ht); clear hbb ht)
    go_ret
    exact BRes.of bb rfl ⟨fun h _ => H2.out.1.1 h, fun h => H2.out.1.2 (h rfl)⟩ (HB.out.1.trans H2.out.2)
end Go.Proofs.Ytengbkopihiiaaa
