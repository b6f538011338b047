/-
  What take, Free, Live and Room of a pool come to (and math/bits.OnesCount64).
-/
import Derived.Test.YtbdfbgkfhaiccaaDoorWPool
import Derived.Test.YtbdfbgkfhaiccaaDoorOnes
import Derived.IntWalk
namespace Go.Proofs.YtbdfbgkfhaiccaaDoor
open Go.RowKit
set_option linter.unusedVariables false

theorem take_w (pb gb fb i c nf ng v g : Nat) (w : World) (hs : i * 64 + c < ng) (hng : ng ≤ 4096) (hi : i < nf) (hnf : nf ≤ 64) (hv0 : ((v : Int) != 0) = true)
    (h0 : w.cell? ⟨pb, 0, none⟩ = some (.slice (some ⟨gb, 0, none⟩) ng ng)) (h1 : w.cell? ⟨pb, 1, none⟩ = some (.slice (some ⟨fb, 0, none⟩) nf nf))
    (hz : Hid (∀ j, j < i → w.cell? ⟨fb, j, none⟩ = some (.int .u64 0))) (hv : w.cell? ⟨fb, i, none⟩ = some (.int .u64 v)) (hfz : w.frozen? ⟨fb, i, none⟩ = false)
    (hg : w.cell? ⟨gb, i * 64 + c, none⟩ = some (.int .u64 g)) (n1 : gb ≠ fb) (n2 : pb ≠ fb) (l1 : pb < w.heap.size) (l2 : gb < w.heap.size) (l3 : fb < w.heap.size)
    (TZ : Hid (∀ w1, Turn (· = fb) w w1 → Calls Tryd.prog 53 #[.int .u64 v] w1 fun e w2 => e = .returned (.int .i64 (c : Int)) ∧ w1 = w2)) :
    Calls Tryd.prog 35 #[.pointer (some ⟨pb, 0, none⟩)] w fun e w' => e = .returned (.tuple #[.agg #[.int .i64 ((i * 64 + c : Nat) : Int), .int .u64 g], .bool true]) ∧
      w' = (w.setCell ⟨fb, i, none⟩ (.int .u64 (bits BinOp.and IntKind.u64 (v : Int) (IntKind.u64.wrap ((v : Int) - 1))))).alloc (.cells #[.int .i64 ((i : Int) * 64 + (c : Int)), .int .u64 (g : Int)] 32) := by
  have n3 := Ne.symm n1
  have n4 := Ne.symm n2
  have b1 : (0 : Int) ≤ (i : Int) * 64 + (c : Int) := by omega
  have b2 : (i : Int) * 64 + (c : Int) < (ng : Int) := by omega
  go_enter Tryd.func35, Tryd.ntmps35
  go_wp2_with fail
  go_loop [15] (fun k => ∃ j : Nat, j ≤ i ∧ k = .int .i64 j) (fun k => i - (intOf k).toNat)
  case atStart => exact ⟨0, Nat.zero_le _, rfl⟩
  case round =>
    obtain ⟨j, hj, rfl⟩ := hrel
    by_cases hlt : j < i
    · have hcell := hz.out j hlt
      have hjn : (j : Int) < (nf : Int) := by omega
      go_wp2_with fail
      go_round
      case rel => exact ⟨j + 1, by omega, by go_num⟩
      case measure => simp [intOf]; omega
    · obtain rfl : j = i := by omega
      have hjn : (j : Int) < (nf : Int) := by omega
      go_wp2_with fail
      refine (TZ.out _ (((Turn.refl (· = fb) w).setCell (p := ⟨fb, j, none⟩) (Or.inl rfl) _).alloc _)).mono ?_
      rintro e w1 ⟨rfl, rfl⟩
      go_wp2_with fail
      exact bodyPost_ret (v := .tuple #[.agg #[.int .i64 ((j * 64 + c : Nat) : Int), .int .u64 g], .bool true]) (by simp [results, Tryd.results35, go_sem]) rfl ⟨rfl, rfl⟩

theorem take_none_w (pb fb nf : Nat) (w : World) (hnf : nf ≤ 64)
    (h1 : w.cell? ⟨pb, 1, none⟩ = some (.slice (some ⟨fb, 0, none⟩) nf nf)) (hz : Hid (∀ j, j < nf → w.cell? ⟨fb, j, none⟩ = some (.int .u64 0))) (l1 : pb < w.heap.size) (l3 : fb < w.heap.size) :
    Calls Tryd.prog 35 #[.pointer (some ⟨pb, 0, none⟩)] w fun e w' => e = .returned (.tuple #[.agg #[.int .i64 0, .int .u64 0], .bool false]) ∧ w' = w.alloc (.cells #[.int .i64 0, .int .u64 0] 32) := by
  go_enter Tryd.func35, Tryd.ntmps35
  go_wp2_with fail
  go_loop [15] (fun k => ∃ j : Nat, j ≤ nf ∧ k = .int .i64 j) (fun k => nf - (intOf k).toNat)
  case atStart => exact ⟨0, Nat.zero_le _, rfl⟩
  case round =>
    obtain ⟨j, hj, rfl⟩ := hrel
    by_cases hlt : j < nf
    · have hcell := hz.out j hlt
      have hjn : (j : Int) < (nf : Int) := by omega
      go_wp2_with fail
      go_round
      case rel => exact ⟨j + 1, by omega, by go_num⟩
      case measure => simp [intOf]; omega
    · have hjn : ¬ (j : Int) < (nf : Int) := by omega
      go_wp2_with fail
      exact bodyPost_ret (v := .tuple #[.agg #[.int .i64 0, .int .u64 0], .bool false]) (by simp [results, Tryd.results35, go_sem]) rfl ⟨rfl, rfl⟩

theorem Pool.ne0 {w : World} {pb gb fb : Nat} {G : List Nat} {fr : Nat → Bool} (h : Pool w pb gb fb G fr) (hT : Tab w) : gb ≠ 0 ∧ fb ≠ 0 ∧ pb ≠ 0 := by
  obtain ⟨F, hp, hg, hf, hne, hG, hF, hlen, h1, h2, hb, hlt⟩ := h
  have t := hT 0 (by omega)
  refine ⟨?_, ?_, ?_⟩
  · rintro rfl
    rw [hg.cell 0, u64s_at _ _ (by omega)] at t
    injection t with t; injection t with t; cases t
  · rintro rfl
    rw [hf.cell 0, u64s_at _ _ (by omega)] at t
    injection t with t; injection t with t; cases t
  · rintro rfl
    rw [hp.cell 0] at t
    injection t with t; cases t

theorem and_val (v : Nat) (h0 : v ≠ 0) (hv : v < 18446744073709551616) : bits BinOp.and IntKind.u64 (v : Int) (IntKind.u64.wrap ((v : Int) - 1)) = ((v &&& (v - 1) : Nat) : Int) := by
  have e : IntKind.u64.wrap ((v : Int) - 1) = ((v - 1 : Nat) : Int) := by
    rw [IntKind.wrap_u64]
    omega
  rw [e, bits_and_u64_nat v _ hv (by omega)]

/-- take, where s is the least free slot. -/
theorem take_some {pb gb fb s : Nat} {G : List Nat} {fr : Nat → Bool} {w : World} (h : Pool w pb gb fb G fr) (hT : Tab w) (hs : fr s = true) (hl : ∀ y, y < s → fr y = false) :
    Calls Tryd.prog 35 #[.pointer (some ⟨pb, 0, none⟩)] w fun e w' => e = .returned (.tuple #[.agg #[.int .i64 (s : Int), .int .u64 (G.getD s 0 : Nat)], .bool true]) ∧ Pool w' pb gb fb G (fun x => fr x && x != s) ∧ Turn (· = fb) w w' := by
  have hn0 := h.ne0 hT
  obtain ⟨F, hp, hg, hf, hne, hG, hF, hlen, h1, h2, hb, hlt⟩ := h
  have hsG := hlt s hs
  obtain ⟨hi, hz, hv0, hc⟩ := least_at F s hF (by rw [hb]; exact hs) (fun y hy => by rw [hb]; exact hl y hy)
  have hpf : pb ≠ fb := hp.ne hf (by intro e; injection e with _ e; cases e)
  have hv := getD_lt hF (s / 64)
  have es : s / 64 * 64 + s % 64 = s := by omega
  have key := take_w pb gb fb (s / 64) (s % 64) F.length G.length (F.getD (s / 64) 0) (G.getD s 0) w (by omega) h2 hi (by omega) (by simpa using hv0) (hp.cell 0) (hp.cell 1)
    (fun j hj => by rw [hf.cell j, u64s_at F j (by omega), hz j hj]; rfl) ((hf.cell _).trans (u64s_at F _ hi)) (hf.thawed _) (by rw [es]; exact (hg.cell _).trans (u64s_at G _ hsG)) hne hpf hp.lt hg.lt hf.lt
    (fun w1 t => by rw [← hc]; exact tz_any _ w1 hv0 hv (hT.turn t (Ne.symm hn0.2.1) hT.pos))
  refine key.mono ?_
  rintro e w' ⟨rfl, rfl⟩
  rw [and_val _ hv0 hv]
  have t : Turn (· = fb) w ((w.setCell ⟨fb, s / 64, none⟩ (.int .u64 (F.getD (s / 64) 0 &&& (F.getD (s / 64) 0 - 1) : Nat))).alloc (.cells #[.int .i64 ((s / 64 : Nat) * 64 + (s % 64 : Nat)), .int .u64 (G.getD s 0 : Nat)] 32)) :=
    ((Turn.refl (· = fb) w).setCell (p := ⟨fb, s / 64, none⟩) (Or.inl rfl) _).alloc _
  refine ⟨by rw [es], ⟨F.set (s / 64) (F.getD (s / 64) 0 &&& (F.getD (s / 64) 0 - 1)), ?_, hg.turn t hne, ?_, hne, hG, set_all hF _ _ (and_lt _ _ hv), by simpa using hlen, h1, h2, ?_, ?_⟩, t⟩
  · have := hp.turn t hpf
    simpa using this
  · have := hf.set (s / 64) (.int .u64 (F.getD (s / 64) 0 &&& (F.getD (s / 64) 0 - 1) : Nat))
    rw [u64s_set] at this
    exact this.turn ((Turn.refl (fun _ => False) _).alloc _) (fun h => h)
  · intro x
    rw [bitAt_strike F _ x hi hv0 hv, hb x, hc, es]
  · intro x hx
    exact hlt x (Bool.and_eq_true_iff.1 hx).1

/-- take, where no slot is free. -/
theorem take_none {pb gb fb : Nat} {G : List Nat} {fr : Nat → Bool} {w : World} (h : Pool w pb gb fb G fr) (hl : ∀ y, fr y = false) :
    Calls Tryd.prog 35 #[.pointer (some ⟨pb, 0, none⟩)] w fun e w' => e = .returned (.tuple #[.agg #[.int .i64 0, .int .u64 0], .bool false]) ∧ Turn (fun _ => False) w w' := by
  obtain ⟨F, hp, hg, hf, hne, hG, hF, hlen, h1, h2, hb, hlt⟩ := h
  refine (take_none_w pb fb F.length w (by omega) (hp.cell 1) (fun j hj => by rw [hf.cell j, u64s_at F j hj, none_at F hF (fun y => by rw [hb]; exact hl y) j]; rfl) hp.lt hf.lt).mono ?_
  rintro e w' ⟨rfl, rfl⟩
  exact ⟨rfl, (Turn.refl _ w).alloc _⟩

/-- take of no pool. -/
theorem take_nil (w : World) :
    Calls Tryd.prog 35 #[.pointer none] w fun e w' => e = .returned (.tuple #[.agg #[.int .i64 0, .int .u64 0], .bool false]) ∧ Turn (fun _ => False) w w' := by
  go_enter Tryd.func35, Tryd.ntmps35
  go_wp2_with fail
  exact bodyPost_ret (v := .tuple #[.agg #[.int .i64 0, .int .u64 0], .bool false]) (by simp [results, Tryd.results35, go_sem]) rfl ⟨rfl, (Turn.refl _ w).alloc _⟩

theorem ones_core (v x1 x2 x3 x4 x5 x6 r : Nat) (w : World) (hv : v < 18446744073709551616) (h6 : x6 < 9223372036854775808)
    (k1 : IntKind.u64.wrap (bits BinOp.and IntKind.u64 ((v : Int) / 2) 6148914691236517205 + bits BinOp.and IntKind.u64 (v : Int) 6148914691236517205) = (x1 : Int))
    (k2 : IntKind.u64.wrap (bits BinOp.and IntKind.u64 ((x1 : Int) / 4) 3689348814741910323 + bits BinOp.and IntKind.u64 (x1 : Int) 3689348814741910323) = (x2 : Int))
    (k3 : bits BinOp.and IntKind.u64 (IntKind.u64.wrap ((x2 : Int) / 16 + (x2 : Int))) 1085102592571150095 = (x3 : Int))
    (k4 : IntKind.u64.wrap ((x3 : Int) + (x3 : Int) / 256) = (x4 : Int)) (k5 : IntKind.u64.wrap ((x4 : Int) + (x4 : Int) / 65536) = (x5 : Int)) (k6 : IntKind.u64.wrap ((x5 : Int) + (x5 : Int) / 4294967296) = (x6 : Int))
    (k7 : bits BinOp.and IntKind.i64 (IntKind.i64.wrap (x6 : Int)) 127 = (r : Int)) (k8 : bits BinOp.and IntKind.i64 (x6 : Int) 127 = (r : Int)) :
    Calls Tryd.prog 36 #[.int .u64 v] w fun e w' => e = .returned (.int .i64 (r : Int)) ∧ w = w' := by
  go_enter Tryd.func36, Tryd.ntmps36
  go_wp2_with (simp only [k1, k2, k3, k4, k5, k6, k7, k8])
  go_ret
  exact ⟨rfl, rfl⟩

theorem and_i64 (a : Nat) (ha : a < 9223372036854775808) : bits BinOp.and IntKind.i64 (a : Int) 127 = ((a % 128 : Nat) : Int) := by
  have h1 : (BitVec.ofInt 64 (a : Int)).toNat = a := by
    rw [BitVec.ofInt_natCast, BitVec.toNat_ofNat]; exact Nat.mod_eq_of_lt (by omega)
  have h2 : (BitVec.ofInt 64 (127 : Int)).toNat = 127 := by decide
  show IntKind.i64.wrap ((BitVec.ofInt 64 (a : Int) &&& BitVec.ofInt 64 (127 : Int)).toNat : Int) = _
  have h3 : a &&& 127 = a % 128 := by
    have := Nat.and_two_pow_sub_one_eq_mod a 7
    simpa using this
  rw [BitVec.toNat_and, h1, h2, h3]
  exact IntWalk.i64_in _ (by omega)

theorem ones_any (v : Nat) (w : World) (hv : v < 18446744073709551616) :
    Calls Tryd.prog 36 #[.int .u64 v] w fun e w' => e = .returned (.int .i64 (cnt v.testBit 64 : Nat)) ∧ w = w' := by
  obtain ⟨x1, x2, x3, h1, l1, h2, l2, h3, l3, l4, l5, h6⟩ := ones_math v hv
  rw [← h6]
  generalize h4 : x3 + x3 / 256 = x4 at l4 l5 ⊢
  generalize h5 : x4 + x4 / 65536 = x5 at l5 ⊢
  generalize h7 : x5 + x5 / 4294967296 = x6
  have l6 : x6 < 9223372036854775808 := by omega
  refine ones_core v x1 x2 x3 x4 x5 x6 (x6 % 128) w hv l6 ?_ ?_ ?_ ?_ ?_ ?_ ?_ (and_i64 _ l6)
  · rw [show ((v : Int) / 2) = ((v / 2 : Nat) : Int) by omega, show (6148914691236517205 : Int) = ((6148914691236517205 : Nat) : Int) by rfl, bits_and_u64_nat _ _ (by omega) (by omega), bits_and_u64_nat _ _ hv (by omega), IntKind.wrap_u64]
    generalize v / 2 &&& 6148914691236517205 = p at h1 ⊢
    generalize v &&& 6148914691236517205 = q at h1 ⊢
    omega
  · rw [show ((x1 : Int) / 4) = ((x1 / 4 : Nat) : Int) by omega, show (3689348814741910323 : Int) = ((3689348814741910323 : Nat) : Int) by rfl, bits_and_u64_nat _ _ (by omega) (by omega), bits_and_u64_nat _ _ l1 (by omega), IntKind.wrap_u64]
    generalize x1 / 4 &&& 3689348814741910323 = p at h2 ⊢
    generalize x1 &&& 3689348814741910323 = q at h2 ⊢
    omega
  · rw [show IntKind.u64.wrap ((x2 : Int) / 16 + (x2 : Int)) = ((x2 / 16 + x2 : Nat) : Int) by rw [IntKind.wrap_u64]; omega, show (1085102592571150095 : Int) = ((1085102592571150095 : Nat) : Int) by rfl, bits_and_u64_nat _ _ (by omega) (by omega), ← h3]
  · rw [IntKind.wrap_u64]; omega
  · rw [IntKind.wrap_u64]; omega
  · rw [IntKind.wrap_u64]; omega
  · rw [IntWalk.i64_in _ (by omega)]; exact and_i64 _ l6

theorem cnt_word (F : List Nat) (j : Nat) : cnt (bitAt F) (64 * (j + 1)) = cnt (bitAt F) (64 * j) + cnt (F.getD j 0).testBit 64 := by
  rw [show 64 * (j + 1) = 64 * j + 64 by omega, cnt_add]
  congr 1
  refine cnt_congr 64 (fun x hx => ?_)
  unfold bitAt
  rw [show (64 * j + x) / 64 = j by omega, show (64 * j + x) % 64 = x by omega]

def freeTo (F : List Nat) (j : Nat) : Nat := cnt (bitAt F) (64 * j)
theorem freeTo_le (F : List Nat) (j : Nat) : freeTo F j ≤ 64 * j := cnt_le _ _

theorem free_w (pb fb nf : Nat) (F : List Nat) (w : World) (hnf : nf ≤ 64) (h1 : w.cell? ⟨pb, 1, none⟩ = some (.slice (some ⟨fb, 0, none⟩) nf nf)) (hF : Hid (∀ j, F.getD j 0 < 18446744073709551616))
    (hc : Hid (∀ j, j < nf → w.cell? ⟨fb, j, none⟩ = some (.int .u64 (F.getD j 0 : Nat)))) :
    Calls Tryd.prog 13 #[.pointer (some ⟨pb, 0, none⟩)] w fun e w' => e = .returned (.int .i64 (freeTo F nf : Nat)) ∧ w = w' := by
  go_enter Tryd.func13, Tryd.ntmps13
  go_wp2_with fail
  go_loop [3, 13] (fun n k => ∃ j : Nat, j ≤ nf ∧ k = .int .i64 j ∧ n = .int .i64 (freeTo F j : Nat)) (fun _ k => nf - (intOf k).toNat)
  case atStart => exact ⟨0, Nat.zero_le _, rfl, rfl⟩
  case round =>
    obtain ⟨j, hj, rfl, rfl⟩ := hrel
    by_cases hlt : j < nf
    · have hcell := hc.out j hlt
      have hjn : (j : Int) < (nf : Int) := by omega
      have HO := Lib.hid (ones_any (F.getD j 0) w (hF.out j))
      have hl := freeTo_le F j
      have hl2 : cnt (F.getD j 0).testBit 64 ≤ 64 := cnt_le _ _
      have HW := Lib.hid (cnt_word F j)
      generalize hq : cnt (F.getD j 0).testBit 64 = q at HO hl2 HW
      clear hq
      generalize F.getD j 0 = u at hcell HO
      go_wp2_with fail
      refine HO.out.mono ?_
      rintro e w' ⟨rfl, rfl⟩
      go_wp2_with fail
      go_round
      case rel => exact ⟨j + 1, by omega, by go_num, by have := HW.out; unfold freeTo; rw [this]; go_num⟩
      case measure => simp [intOf]; omega
    · have hjn : ¬ (j : Int) < (nf : Int) := by omega
      obtain rfl : j = nf := by omega
      go_wp2_with fail
      go_ret
      exact ⟨rfl, rfl⟩

theorem cnt_beyond (p : Nat → Bool) (n m : Nat) (h : n ≤ m) (hp : ∀ x, p x = true → x < n) : cnt p m = cnt p n := by
  obtain ⟨k, rfl⟩ : ∃ k, m = n + k := ⟨m - n, by omega⟩
  rw [cnt_add, cnt_none (fun x => p (n + x)) k (fun x _ => by
    cases h : p (n + x) with
    | false => rfl
    | true => have := hp _ h; omega)]
  rfl

theorem free_any {pb gb fb : Nat} {G : List Nat} {fr : Nat → Bool} {w : World} (h : Pool w pb gb fb G fr) :
    Calls Tryd.prog 13 #[.pointer (some ⟨pb, 0, none⟩)] w fun e w' => e = .returned (.int .i64 (cnt fr G.length : Nat)) ∧ w = w' := by
  obtain ⟨F, hp, hg, hf, hne, hG, hF, hlen, h1, h2, hb, hlt⟩ := h
  have e : freeTo F F.length = cnt fr G.length := by
    unfold freeTo
    rw [cnt_congr _ (fun x _ => hb x), cnt_beyond fr G.length _ (by omega) hlt]
  rw [← e]
  exact free_w pb fb F.length F w (by omega) (hp.cell 1) (getD_lt hF) (fun j hj => (hf.cell j).trans (u64s_at F j hj))

theorem free_nil (w : World) : Calls Tryd.prog 13 #[.pointer none] w fun e w' => e = .returned (.int .i64 0) ∧ w = w' := by
  go_enter Tryd.func13, Tryd.ntmps13
  go_wp2_with fail
  go_ret
  exact ⟨rfl, rfl⟩

theorem quiet_same {f : FuncId} {args : Array Value} {w : World} {n : Nat} {v : Value} (h : Calls Tryd.prog f args (w.drewN n) fun e w' => e = .returned v ∧ w.drewN n = w') :
    Calls Tryd.prog f args (w.drewN n) fun e w'' => e = .returned v ∧ ∃ m, w'' = w.drewN m := h.mono fun _ _ ⟨he, hm⟩ => ⟨he, n, hm.symm⟩
theorem Pool.drewN {w : World} {pb gb fb : Nat} {G : List Nat} {fr : Nat → Bool} (h : Pool w pb gb fb G fr) (n : Nat) : Pool (w.drewN n) pb gb fb G fr :=
  h.turn ((Turn.refl (fun _ => False) w).drewN n) (fun h => h) (fun h => h) (fun h => h)
theorem free_quiet {pb gb fb : Nat} {G : List Nat} {fr : Nat → Bool} {w : World} (h : Pool w pb gb fb G fr) {q : Nat} (hq : cnt fr G.length = q) (n : Nat) :
    Calls Tryd.prog 13 #[.pointer (some ⟨pb, 0, none⟩)] (w.drewN n) fun e w' => e = .returned (.int .i64 (q : Int)) ∧ ∃ m, w' = w.drewN m := by
  subst hq
  exact quiet_same (free_any (h.drewN n))

theorem live_any {pb gb fb : Nat} {G : List Nat} {fr : Nat → Bool} {w : World} (h : Pool w pb gb fb G fr) :
    Calls Tryd.prog 14 #[.pointer (some ⟨pb, 0, none⟩)] w fun e w' => e = .returned (.int .i64 ((G.length : Int) - (cnt fr G.length : Nat))) ∧ ∃ n, w' = w.drewN n := by
  have FR := Lib.hid fun n => free_quiet h rfl n
  obtain ⟨F, hp, hg, hf, hne, hG, hF, hlen, h1, h2, hb, hlt⟩ := h
  have c0 := hp.cell 0
  have c := cnt_le fr G.length
  generalize cnt fr G.length = q at FR c ⊢
  simp at c0
  generalize G.length = ng at *
  clear hlen hb hlt hG hF hp hg hf
  go_enter Tryd.func14, Tryd.ntmps14
  go_wp2_with fail
  go_quiet ((go_at_call 13; with_reducible exact FR.out _))
  go_wp2_with fail
  go_ret
  exact ⟨rfl, _, rfl⟩

theorem live_nil (w : World) : Calls Tryd.prog 14 #[.pointer none] w fun e w' => e = .returned (.int .i64 0) ∧ w = w' := by
  go_enter Tryd.func14, Tryd.ntmps14
  go_wp2_with fail
  go_ret
  exact ⟨rfl, rfl⟩

theorem room_any {pb gb fb : Nat} {G : List Nat} {fr : Nat → Bool} {w : World} (h : Pool w pb gb fb G fr) (n : Int) :
    Calls Tryd.prog 21 #[.pointer (some ⟨pb, 0, none⟩), .int .i64 n] w fun e w' => e = .returned (.bool (decide (n ≤ (cnt fr G.length : Nat)))) ∧ w = w' := by
  have FR := Lib.hid (free_any h)
  clear h
  generalize cnt fr G.length = q at FR ⊢
  go_enter Tryd.func21, Tryd.ntmps21
  go_wp2_with fail
  refine FR.out.mono ?_
  rintro e w' ⟨rfl, rfl⟩
  go_wp2_with fail
  go_ret
  exact ⟨rfl, rfl⟩
theorem room_nil (w : World) (n : Int) : Calls Tryd.prog 21 #[.pointer none, .int .i64 n] w fun e w' => e = .returned (.bool false) ∧ w = w' := by
  go_enter Tryd.func21, Tryd.ntmps21
  go_wp2_with fail
  go_ret
  exact ⟨rfl, rfl⟩
theorem live_quiet {pb gb fb : Nat} {G : List Nat} {fr : Nat → Bool} {w : World} (h : Pool w pb gb fb G fr) {q : Int} (hq : (G.length : Int) - (cnt fr G.length : Nat) = q) (n : Nat) :
    Calls Tryd.prog 14 #[.pointer (some ⟨pb, 0, none⟩)] (w.drewN n) fun e w' => e = .returned (.int .i64 q) ∧ ∃ m, w' = w.drewN m := by
  subst hq
  exact Calls.quiet_of (live_any (h.drewN n))
theorem room_quiet {pb gb fb : Nat} {G : List Nat} {fr : Nat → Bool} {w : World} (h : Pool w pb gb fb G fr) (k : Int) {b : Bool} (hb : decide (k ≤ (cnt fr G.length : Nat)) = b) (n : Nat) :
    Calls Tryd.prog 21 #[.pointer (some ⟨pb, 0, none⟩), .int .i64 k] (w.drewN n) fun e w' => e = .returned (.bool b) ∧ ∃ m, w' = w.drewN m := by
  subst hb
  exact quiet_same (room_any (h.drewN n) k)
end Go.Proofs.YtbdfbgkfhaiccaaDoor
