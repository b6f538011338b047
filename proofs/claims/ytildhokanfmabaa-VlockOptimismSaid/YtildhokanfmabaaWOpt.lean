/-
  VlockOptimism, walked.
-/
import Derived.Test.YtildhokanfmabaaWAwake
import Derived.Test.YtildhokanfmabaaArgs
import Derived.Deep.Cut
import Derived.Deep.CutRange
import Derived.Deep.CutBlock
namespace Go.Proofs.Ytildhokanfmabaa
open Go.RowKit
set_option linter.unusedVariables false

/-- What stands at a round's head: the cell's word u, how often it was given (n), whether it is taken (T), ended (E); and, where somebody began (G), the word v and the count m at which it did. -/
structure OInv (w wr : World) (g u n v m : Nat) (T E G : Bool) : Prop where
  cel : Cel wr g u
  old : Turn (fun _ => False) w wr
  new : w.heap.size ≤ g
  l : lck u = T
  d : ded u = E
  te : T = true → E = false
  vlt : v < 18446744073709551616
  bg : G = true → v % 4 = 0 ∧ m ≤ n ∧ (E = false → u / 4 = (v / 4 + (n - m)) % 4611686018427387904)

section
variable {w wr wr' : World} {g u n v m : Nat} {T E G : Bool}
theorem lck_iff {u : Nat} {T : Bool} (h : lck u = T) : (u % 2 = 1 ↔ T = true) := by rw [← h]; simp [lck]
theorem ded_iff {u : Nat} {T : Bool} (h : ded u = T) : (u / 2 % 2 = 1 ↔ T = true) := by rw [← h]; simp [ded]
theorem OInv.opn (h : OInv w wr g u n v m T E G) : opn u = (!T && !E) := by
  unfold Go.Proofs.Ytildhokanfmabaa.opn; rw [h.l, h.d]
theorem OInv.begins (h : OInv w wr g u n v m T E G) : OInv w wr g u n (if (!T && !E) then u else 0) n T E (!T && !E) := by
  refine ⟨h.cel, h.old, h.new, h.l, h.d, h.te, ?_, ?_⟩
  · have := h.cel.lt; split <;> omega
  · intro hG
    have ho := opn_mod.1 (h.opn.trans hG)
    have := h.cel.lt
    rw [if_pos hG]
    exact ⟨ho, Nat.le_refl _, fun _ => by omega⟩
theorem OInv.valid (h : OInv w wr g u n v m false false true) (hn : n ≤ 300) : ((n : Int) == (m : Int)) = decide (u = v) := by
  obtain ⟨h1, h2, h3⟩ := h.bg rfl
  have h3 := h3 rfl
  have ho := opn_mod.1 (h.opn.trans rfl)
  have := h.cel.lt
  have := h.vlt
  by_cases e : u = v
  · have : (n : Int) = (m : Int) := by omega
    simp [e, this]
  · have : ¬ (n : Int) = (m : Int) := by omega
    simp [e, this]
theorem OInv.took (h : OInv w wr g u n v m false false G) (hc : Cel wr' g (u + 1)) (t : Turn (· = g) wr wr') : OInv w wr' g (u + 1) n v m true false G := by
  have ho := opn_mod.1 (h.opn.trans rfl)
  refine ⟨hc, h.old.then t (fun i hi e => by have := h.new; omega), h.new, lck_t (by omega), ded_f (by omega), fun _ => rfl, h.vlt, fun hG => ?_⟩
  obtain ⟨h1, h2, h3⟩ := h.bg hG
  exact ⟨h1, h2, fun _ => by have := h3 rfl; omega⟩
theorem OInv.word (h : OInv w wr g u n v m true false G) : u % 4 = 1 := by
  have h1 := (lck_iff h.l).2 rfl
  have h2 : ¬ u / 2 % 2 = 1 := fun e => by have := (ded_iff h.d).1 e; cases this
  omega
theorem unl_at {u : Nat} (h : u % 4 = 1) (hu : u < 18446744073709551616) : unl u = (u + 3) % 18446744073709551616 := by
  unfold unl; rw [if_pos (by omega)]; omega
theorem kil_at {u : Nat} (h : u % 4 = 1) (hu : u < 18446744073709551616) : kil u = (u + 3) % 18446744073709551616 + 2 := by
  unfold kil; rw [if_neg (by omega)]; omega
theorem OInv.gave (h : OInv w wr g u n v m true false G) (hc : Cel wr' g (unl u)) (t : Turn (· = g) wr wr') : OInv w wr' g (unl u) (n + 1) v m false false G := by
  have ho := h.word
  have hl := h.cel.lt
  have hu := unl_at ho hl
  refine ⟨hc, h.old.then t (fun i hi e => by have := h.new; omega), h.new, lck_f (by omega), ded_f (by omega), fun hh => (by cases hh), h.vlt, fun hG => ?_⟩
  obtain ⟨h1, h2, h3⟩ := h.bg hG
  exact ⟨h1, by omega, fun _ => by have := h3 rfl; omega⟩
theorem OInv.ended (h : OInv w wr g u n v m true false G) (hc : Cel wr' g (kil u)) (t : Turn (· = g) wr wr') : OInv w wr' g (kil u) n v m false true G := by
  have ho := h.word
  have hl := h.cel.lt
  have hu := kil_at ho hl
  refine ⟨hc, h.old.then t (fun i hi e => by have := h.new; omega), h.new, lck_f (by omega), ded_t (by omega), fun hh => (by cases hh), h.vlt, fun hG => ?_⟩
  obtain ⟨h1, h2, h3⟩ := h.bg hG
  exact ⟨h1, h2, fun hh => by cases hh⟩
theorem OInv.first (hc : Cel wr g (u - u % 2)) (t : Turn (fun _ => False) w wr) (hg : w.heap.size ≤ g) : OInv w wr g (u - u % 2) 0 0 0 false (ded u) false :=
  ⟨hc, t, hg, lck_f (by omega), by unfold ded; rw [show (u - u % 2) / 2 = u / 2 by omega], fun h => (by cases h), by decide, fun h => by cases h⟩
end

/-- What a round's last test asks of the word that was (u) and the one that is (y): of the same version, or one on. -/
structure OSame (u y : Nat) : Prop where
  lt : u < 18446744073709551616
  lt2 : y < 18446744073709551616
  v : y / 4 = u / 4 ∨ y / 4 = (u / 4 + 1) % 4611686018427387904

def ORel (w : World) (len : Nat) (g : Nat) (sT sE sn sv sG sm si : Value) (wr : World) : Prop :=
  ∃ (u n v m j : Nat) (T E G : Bool), j ≤ len ∧ n ≤ j ∧ m ≤ j ∧ sT = .bool T ∧ sE = .bool E ∧ sn = .int .i64 (n : Int) ∧ sv = .int .u64 (v : Int) ∧ sG = .bool G ∧ sm = .int .i64 (m : Int) ∧ si = .int .i64 (j : Int) ∧ OInv w wr g u n v m T E G

set_option maxRecDepth 100000 in
set_option maxHeartbeats 1000000 in
theorem opt_long (x len cap fr til : Nat) (A0 : Option Addr) (w : World) (hlen : 300 < len) (hm : len ≤ 9223372036854775807) : Calls Try.prog 6 #[.int .u64 (x : Int), .slice A0 len cap, .int .u16 (fr : Int), .int .u16 (til : Int)] w fun e w' => e = .returned (.bool true) ∧ Below w.heap.size w w' := by
  have g : decide ((300 : Int) < (len : Int)) = true := by simp; omega
  have AW := Lib.hid (awake_any w)
  go_enter Try.func6, Try.ntmps6
  go_wp2_with fail
  refine AW.out.mono ?_
  rintro _ w1 ⟨rfl, ht⟩
  have T1 := Lib.hid ht
  clear ht AW
  go_wp2_with fail
  go_ret
  exact ⟨rfl, T1.out.below (Nat.le_refl _) (fun _ _ h => h)⟩

set_option maxRecDepth 100000 in
set_option maxHeartbeats 8000000 in
theorem opt_any (x len cap fr til : Nat) (A0 : Option Addr) (L : Nat → Nat) (w : World) (hlen : len ≤ 300) (hx : x < 18446744073709551616) (hfr : fr < 65536) (htil : til < 65536)
    (hl : Hid (∀ j, j < len → ∃ lb lo, A0 = some ⟨lb, lo, none⟩ ∧ lb < w.heap.size ∧ L j < 256 ∧ w.cell? ⟨lb, lo + j, none⟩ = some (.int .u8 (L j : Nat)))) :
    Calls Try.prog 6 #[.int .u64 (x : Int), .slice A0 len cap, .int .u16 (fr : Int), .int .u16 (til : Int)] w fun e w' => e = .returned (.bool true) ∧ Below w.heap.size w w' := by
  have g300 : decide ((300 : Int) < (len : Int)) = false := by simp; omega
  have wf1 : wrap64 (fr : Int) = (fr : Int) := by unfold wrap64; omega
  have wf2 : wrap64 (til : Int) = (til : Int) := by unfold wrap64; omega
  have bn := b_not1 x hx
  obtain ⟨u0, hu0⟩ : ∃ u0, u0 = x - x % 2 := ⟨_, rfl⟩
  rw [← hu0] at bn
  have DX := Lib.hid (fun W => dead_any x hx W)
  have FI : Hid (∀ wr g, Cel wr g u0 → Turn (fun _ => False) w wr → w.heap.size ≤ g → OInv w wr g u0 0 0 0 false (ded x) false) := Lib.hid (fun wr g hc t hg => by
    have hc' : Cel wr g (x - x % 2) := by rw [← hu0]; exact hc
    have := OInv.first hc' t hg
    rw [← hu0] at this
    exact this)
  have hu0l : u0 < 18446744073709551616 := by omega
  clear hu0
  generalize ded x = E0 at DX FI
  have AW := Lib.hid (awake_any w)
  go_enter Try.func6, Try.ntmps6
  go_wp2_with fail
  refine AW.out.mono ?_
  rintro _ w1 ⟨rfl, ht⟩
  have T1 := Lib.hid ht
  clear ht AW
  have C0 : Hid (Cel (w1.alloc (.cells #[.int .u64 0] 34)) w1.heap.size 0) := Lib.hid (Cel.made w1)
  have T0 : Hid (Turn (· = w1.heap.size) w1 (w1.alloc (.cells #[.int .u64 0] 34))) := Lib.hid (made_turn w1 _ _)
  go_wp2_with fail
  refine (store_any C0.out u0 hu0l).mono ?_
  rintro _ w2 ⟨rfl, hc, ht⟩
  have C2 := Lib.hid hc
  have T2 := Lib.hid (T0.out.trans ht)
  clear hc ht C0 T0
  go_wp2_with fail
  refine (DX.out _).mono ?_
  rintro _ q3 ⟨rfl, hq⟩
  have hq := hq.symm
  subst hq
  have HI : Hid (ORel w len w1.heap.size (.bool false) (.bool E0) (.int .i64 0) (.int .u64 0) (.bool false) (.int .i64 0) (.int .i64 0) w2) := Lib.hid
    ⟨u0, 0, 0, 0, 0, false, E0, false, Nat.zero_le _, Nat.le_refl _, Nat.le_refl _, rfl, rfl, rfl, rfl, rfl, rfl, rfl, FI.out _ _ C2.out (T1.out.trans (T2.out.news (Nat.le_refl _))) T1.out.size⟩
  clear T1 T2 C2 DX FI
  generalize w1.heap.size = g at HI ⊢
  go_wp2_with fail
  go_loopw [10, 11, 12, 13, 14, 15, 16] (fun sT sE sn sv sG sm si wr => ORel w len g sT sE sn sv sG sm si wr) (fun _ _ _ _ _ _ si _ => len - (intOf si).toNat)
  case atStart => exact HI.out
  case round =>
    obtain ⟨u, n, v, m, j, T, E, G, hj, hnj, hmj, rfl, rfl, rfl, rfl, rfl, rfl, rfl, hinv⟩ := hrel
    have HV := Lib.hid hinv
    have hte := hinv.te
    clear hinv HI bn
    by_cases hlt : j < len
    · have hkl : (j : Int) < (len : Int) := by omega
      obtain ⟨lb, lo, rfl, hlb, hL1, hL2⟩ := hl.out j hlt
      obtain ⟨t, ht⟩ : ∃ t, L j = t := ⟨_, rfl⟩
      rw [ht] at hL1 hL2
      clear ht
      have hcell : wr.cell? ⟨lb, lo + j, none⟩ = some (.int .u8 (t : Int)) := (World.cell?_of_block (w := w) (HV.out.old.block lb hlb (fun h => h))).trans hL2
      have HL2 := Lib.hid (And.intro hlb hL2)
      clear hL2 hlb
      have h3 : (T = true ∧ E = false) ∨ (T = false ∧ E = false) ∨ (T = false ∧ E = true) := by cases T <;> cases E <;> simp_all
      clear hte
      have ul := HV.out.cel.lt
      have H3 := Lib.hid h3
      clear h3
      go_upto_if 43 with (fail)
      go_cut [13, 14, 15] from 34 to 160 (fun sv sG sm wx => ∃ (v m : Nat) (G : Bool), m ≤ j ∧ sv = .int .u64 (v : Int) ∧ sG = .bool G ∧ sm = .int .i64 (m : Int) ∧ wr = wx ∧ Hid (OInv w wr g u n v m T E G))
      case first =>
        by_cases hf : j = fr
        · have f1 : ((j : Int) == (fr : Int)) = true := by simp; omega
          clear hf
          have BG := fun W => begin_any u ul W
          rw [HV.out.opn] at BG
          rcases H3.out with ⟨rfl, rfl⟩ | ⟨rfl, rfl⟩ | ⟨rfl, rfl⟩
          · replace BG : Hid (∀ W, Calls Try.prog 9 #[.int .u64 (u : Int)] W fun e W' => e = .returned (.tuple #[.int .u64 0, .bool false]) ∧ W' = W) := Lib.hid BG
            go_wp2_with fail
            refine (load_any HV.out.cel).mono ?_
            rintro _ q5 ⟨rfl, hq⟩
            have hq := hq.symm
            subst hq
            go_wp2_with fail
            refine (BG.out _).mono ?_
            rintro _ q6 ⟨rfl, hq⟩
            have hq := hq.symm
            subst hq
            go_wp2_with fail
            go_meet
            case rel => exact ⟨0, n, false, by omega, rfl, rfl, rfl, rfl, Lib.hid HV.out.begins⟩
          · replace BG : Hid (∀ W, Calls Try.prog 9 #[.int .u64 (u : Int)] W fun e W' => e = .returned (.tuple #[.int .u64 (u : Int), .bool true]) ∧ W' = W) := Lib.hid BG
            go_wp2_with fail
            refine (load_any HV.out.cel).mono ?_
            rintro _ q5 ⟨rfl, hq⟩
            have hq := hq.symm
            subst hq
            go_wp2_with fail
            refine (BG.out _).mono ?_
            rintro _ q6 ⟨rfl, hq⟩
            have hq := hq.symm
            subst hq
            go_wp2_with fail
            go_meet
            case rel => exact ⟨u, n, true, by omega, rfl, rfl, rfl, rfl, Lib.hid HV.out.begins⟩
          · replace BG : Hid (∀ W, Calls Try.prog 9 #[.int .u64 (u : Int)] W fun e W' => e = .returned (.tuple #[.int .u64 0, .bool false]) ∧ W' = W) := Lib.hid BG
            go_wp2_with fail
            refine (load_any HV.out.cel).mono ?_
            rintro _ q5 ⟨rfl, hq⟩
            have hq := hq.symm
            subst hq
            go_wp2_with fail
            refine (BG.out _).mono ?_
            rintro _ q6 ⟨rfl, hq⟩
            have hq := hq.symm
            subst hq
            go_wp2_with fail
            go_meet
            case rel => exact ⟨0, n, false, by omega, rfl, rfl, rfl, rfl, Lib.hid HV.out.begins⟩
        · have f1 : ((j : Int) == (fr : Int)) = false := by simp; omega
          clear hf
          go_wp2_with fail
          go_meet
          case rel => exact ⟨v, m, G, by omega, rfl, rfl, rfl, rfl, HV⟩
      case rest =>
      clear HV hmj
      obtain ⟨v, m, G, hmj, rfl, rfl, rfl, hwc, HV⟩ := hcut
      subst hwc
      go_upto_region 18 with (fail)
      go_cut [65] from 34 to 160 (fun s wx => s = .bool (decide (j = til) && G) ∧ wr = wx)
      case first =>
        by_cases hf : j = til
        · have f1 : ((j : Int) == (til : Int)) = true := by simp; omega
          have f2 : decide (j = til) = true := by simp [hf]
          clear hf
          go_wp2_with fail
          go_meet
          case rel => exact ⟨by rw [f2]; rfl, rfl⟩
        · have f1 : ((j : Int) == (til : Int)) = false := by simp; omega
          have f2 : decide (j = til) = false := by simp [hf]
          clear hf
          go_wp2_with fail
          go_meet
          case rel => exact ⟨by rw [f2]; rfl, rfl⟩
      case rest =>
      obtain ⟨rfl, hwc⟩ := hcut
      subst hwc
      go_upto_if 65 with (fail)
      go_cut [16] from 34 to 160 (fun s wx => s = .int .i64 (j : Int) ∧ wr = wx)
      case first =>
        cases hb : (decide (j = til) && G) with
        | false =>
          go_wp2_with fail
          go_meet
          case rel => exact ⟨rfl, rfl⟩
        | true =>
          have hG : G = true := ((Bool.and_eq_true _ _).mp hb).2
          subst hG
          clear hb
          have VV := valid_any u v ul wr
          rw [HV.out.opn] at VV
          rcases H3.out with ⟨rfl, rfl⟩ | ⟨rfl, rfl⟩ | ⟨rfl, rfl⟩
          · replace VV : Hid (Calls Try.prog 11 #[.int .u64 (u : Int), .int .u64 (v : Int)] wr fun e w' => e = .returned (.bool false) ∧ w' = wr) := Lib.hid VV
            go_wp2_with fail
            refine (load_any HV.out.cel).mono ?_
            rintro _ q7 ⟨rfl, hq⟩
            have hq := hq.symm
            subst hq
            go_wp2_with fail
            refine (VV.out).mono ?_
            rintro _ q8 ⟨rfl, hq⟩
            have hq := hq.symm
            subst hq
            go_wp2_with fail
            go_meet
            case rel => exact ⟨rfl, rfl⟩
          · replace VV : Hid (Calls Try.prog 11 #[.int .u64 (u : Int), .int .u64 (v : Int)] wr fun e w' => e = .returned (.bool (decide (u = v))) ∧ w' = wr) := Lib.hid VV
            have ev := HV.out.valid (by omega)
            go_wp2_with fail
            refine (load_any HV.out.cel).mono ?_
            rintro _ q7 ⟨rfl, hq⟩
            have hq := hq.symm
            subst hq
            go_wp2_with fail
            refine (VV.out).mono ?_
            rintro _ q8 ⟨rfl, hq⟩
            have hq := hq.symm
            subst hq
            go_wp2_with fail
            go_meet
            case rel => exact ⟨rfl, rfl⟩
          · replace VV : Hid (Calls Try.prog 11 #[.int .u64 (u : Int), .int .u64 (v : Int)] wr fun e w' => e = .returned (.bool false) ∧ w' = wr) := Lib.hid VV
            go_wp2_with fail
            refine (load_any HV.out.cel).mono ?_
            rintro _ q7 ⟨rfl, hq⟩
            have hq := hq.symm
            subst hq
            go_wp2_with fail
            refine (VV.out).mono ?_
            rintro _ q8 ⟨rfl, hq⟩
            have hq := hq.symm
            subst hq
            go_wp2_with fail
            go_meet
            case rel => exact ⟨rfl, rfl⟩
      case rest =>
      obtain ⟨rfl, hwc⟩ := hcut
      subst hwc
      go_wp2_with fail
      refine (load_any HV.out.cel).mono ?_
      rintro _ q10 ⟨rfl, hq⟩
      have hq := hq.symm
      subst hq
      go_upto_block 2 with (fail)
      go_cut [10, 11, 12, 18, 19] from 34 to 160 (fun sT sE sn _ _ wx => ∃ (y n2 : Nat) (T2 E2 : Bool), n2 ≤ j + 1 ∧ sT = .bool T2 ∧ sE = .bool E2 ∧ sn = .int .i64 (n2 : Int) ∧ Hid (OInv w wx g y n2 v m T2 E2 G) ∧ Hid (OSame u y))
      case first =>
        have HS : Hid (OSame u u) := Lib.hid ⟨ul, ul, Or.inl rfl⟩
        rcases H3.out with ⟨rfl, rfl⟩ | ⟨rfl, rfl⟩ | ⟨rfl, rfl⟩
        · obtain h4 | h4 | h4 | h4 : t % 4 = 0 ∨ t % 4 = 1 ∨ t % 4 = 2 ∨ t % 4 = 3 := by omega
          · have k0 : ((t : Int) % 4 == 0) = true := by simp; omega
            clear h4
            go_wp2_with fail
            refine (take_no HV.out.cel (HV.out.opn.trans rfl)).mono ?_
            rintro _ q11 ⟨rfl, hq⟩
            have hq := hq.symm
            subst hq
            go_wp2_with fail
            go_meet
            case rel => exact ⟨_, n, true, false, by omega, rfl, rfl, rfl, HV, HS⟩
          · have k0 : ((t : Int) % 4 == 0) = false := by simp; omega
            have k1 : ((t : Int) % 4 == 1) = true := by simp; omega
            clear h4
            go_wp2_with fail
            refine (take_no HV.out.cel (HV.out.opn.trans rfl)).mono ?_
            rintro _ q11 ⟨rfl, hq⟩
            have hq := hq.symm
            subst hq
            go_wp2_with fail
            go_meet
            case rel => exact ⟨_, n, true, false, by omega, rfl, rfl, rfl, HV, HS⟩
          · have k0 : ((t : Int) % 4 == 0) = false := by simp; omega
            have k1 : ((t : Int) % 4 == 1) = false := by simp; omega
            have k2 : ((t : Int) % 4 == 2) = true := by simp; omega
            clear h4
            obtain ⟨y, hy⟩ : ∃ y, y = unl u := ⟨_, rfl⟩
            have TK : Hid (Calls Try.prog 15 #[.pointer (some ⟨g, 0, none⟩)] wr fun e w' => e = .returned (.bool true) ∧ Cel w' g y ∧ Turn (· = g) wr w') := Lib.hid (by rw [hy]; exact give_yes HV.out.cel (by rw [HV.out.l, HV.out.d]; rfl))
            have NX : Hid (∀ wr', Cel wr' g y → Turn (· = g) wr wr' → OInv w wr' g y (n + 1) v m false false G) := Lib.hid (fun wr' hc t => by rw [hy] at hc ⊢; exact HV.out.gave hc t)
            have um := HV.out.word
            have hy2 := hy.trans (unl_at um ul)
            have SY : Hid (OSame u y) := Lib.hid ⟨ul, by omega, Or.inr (by omega)⟩
            clear hy hy2 um HS
            go_wp2_with fail
            refine TK.out.mono ?_
            rintro _ w5 ⟨rfl, hc, ht⟩
            have N5 := Lib.hid (NX.out _ hc ht)
            clear hc ht TK NX hcell
            go_wp2_with fail
            go_meet
            case rel => exact ⟨_, n + 1, false, false, by omega, rfl, rfl, by go_num, N5, SY⟩
          · have k0 : ((t : Int) % 4 == 0) = false := by simp; omega
            have k1 : ((t : Int) % 4 == 1) = false := by simp; omega
            have k2 : ((t : Int) % 4 == 2) = false := by simp; omega
            have k3 : ((t : Int) % 4 == 3) = true := by simp; omega
            clear h4
            by_cases h200 : 200 < t
            · have k4 : decide ((200 : Int) < (t : Int)) = true := by simp; omega
              clear h200
              obtain ⟨y, hy⟩ : ∃ y, y = kil u := ⟨_, rfl⟩
              have TK : Hid (Calls Try.prog 18 #[.pointer (some ⟨g, 0, none⟩)] wr fun e w' => e = .returned (.bool true) ∧ Cel w' g y ∧ Turn (· = g) wr w') := Lib.hid (by rw [hy]; exact end_yes HV.out.cel (by rw [HV.out.l, HV.out.d]; rfl))
              have NX : Hid (∀ wr', Cel wr' g y → Turn (· = g) wr wr' → OInv w wr' g y (n) v m false true G) := Lib.hid (fun wr' hc t => by rw [hy] at hc ⊢; exact HV.out.ended hc t)
              have um := HV.out.word
              have hy2 := hy.trans (kil_at um ul)
              have SY : Hid (OSame u y) := Lib.hid ⟨ul, by omega, Or.inr (by omega)⟩
              clear hy hy2 um HS
              go_wp2_with fail
              refine TK.out.mono ?_
              rintro _ w5 ⟨rfl, hc, ht⟩
              have N5 := Lib.hid (NX.out _ hc ht)
              clear hc ht TK NX hcell
              go_wp2_with fail
              go_meet
              case rel => exact ⟨_, n, false, true, by omega, rfl, rfl, rfl, N5, SY⟩
            · have k4 : decide ((200 : Int) < (t : Int)) = false := by simp; omega
              clear h200
              go_wp2_with fail
              go_meet
              case rel => exact ⟨_, n, true, false, by omega, rfl, rfl, rfl, HV, HS⟩
        · obtain h4 | h4 | h4 | h4 : t % 4 = 0 ∨ t % 4 = 1 ∨ t % 4 = 2 ∨ t % 4 = 3 := by omega
          · have k0 : ((t : Int) % 4 == 0) = true := by simp; omega
            clear h4
            obtain ⟨y, hy⟩ : ∃ y, y = u + 1 := ⟨_, rfl⟩
            have TK : Hid (Calls Try.prog 14 #[.pointer (some ⟨g, 0, none⟩)] wr fun e w' => e = .returned (.tuple #[.int .u64 (u : Int), .bool true]) ∧ Cel w' g y ∧ Turn (· = g) wr w') := Lib.hid (by rw [hy]; exact take_yes HV.out.cel (HV.out.opn.trans rfl))
            have NX : Hid (∀ wr', Cel wr' g y → Turn (· = g) wr wr' → OInv w wr' g y n v m true false G) := Lib.hid (fun wr' hc t => by rw [hy] at hc ⊢; exact HV.out.took hc t)
            have um := opn_mod.1 (HV.out.opn.trans rfl)
            have SY : Hid (OSame u y) := Lib.hid ⟨ul, by omega, Or.inl (by omega)⟩
            clear hy um HS
            go_wp2_with fail
            refine TK.out.mono ?_
            rintro _ w5 ⟨rfl, hc, ht⟩
            have N5 := Lib.hid (NX.out _ hc ht)
            clear hc ht TK NX hcell
            go_wp2_with fail
            go_meet
            case rel => exact ⟨_, n, true, false, by omega, rfl, rfl, rfl, N5, SY⟩
          · have k0 : ((t : Int) % 4 == 0) = false := by simp; omega
            have k1 : ((t : Int) % 4 == 1) = true := by simp; omega
            clear h4
            obtain ⟨y, hy⟩ : ∃ y, y = u + 1 := ⟨_, rfl⟩
            have TK : Hid (Calls Try.prog 14 #[.pointer (some ⟨g, 0, none⟩)] wr fun e w' => e = .returned (.tuple #[.int .u64 (u : Int), .bool true]) ∧ Cel w' g y ∧ Turn (· = g) wr w') := Lib.hid (by rw [hy]; exact take_yes HV.out.cel (HV.out.opn.trans rfl))
            have NX : Hid (∀ wr', Cel wr' g y → Turn (· = g) wr wr' → OInv w wr' g y n v m true false G) := Lib.hid (fun wr' hc t => by rw [hy] at hc ⊢; exact HV.out.took hc t)
            have um := opn_mod.1 (HV.out.opn.trans rfl)
            have SY : Hid (OSame u y) := Lib.hid ⟨ul, by omega, Or.inl (by omega)⟩
            clear hy um HS
            go_wp2_with fail
            refine TK.out.mono ?_
            rintro _ w5 ⟨rfl, hc, ht⟩
            have N5 := Lib.hid (NX.out _ hc ht)
            clear hc ht TK NX hcell
            go_wp2_with fail
            go_meet
            case rel => exact ⟨_, n, true, false, by omega, rfl, rfl, rfl, N5, SY⟩
          · have k0 : ((t : Int) % 4 == 0) = false := by simp; omega
            have k1 : ((t : Int) % 4 == 1) = false := by simp; omega
            have k2 : ((t : Int) % 4 == 2) = true := by simp; omega
            clear h4
            have hno : Hid ((lck u && !ded u) = false) := Lib.hid (by rw [HV.out.l]; rfl)
            go_wp2_with fail
            refine (give_no HV.out.cel hno.out).mono ?_
            rintro _ q11 ⟨rfl, hq⟩
            have hq := hq.symm
            subst hq
            go_wp2_with fail
            go_meet
            case rel => exact ⟨_, n, false, false, by omega, rfl, rfl, rfl, HV, HS⟩
          · have k0 : ((t : Int) % 4 == 0) = false := by simp; omega
            have k1 : ((t : Int) % 4 == 1) = false := by simp; omega
            have k2 : ((t : Int) % 4 == 2) = false := by simp; omega
            have k3 : ((t : Int) % 4 == 3) = true := by simp; omega
            clear h4
            by_cases h200 : 200 < t
            · have k4 : decide ((200 : Int) < (t : Int)) = true := by simp; omega
              clear h200
              have hno : Hid ((lck u && !ded u) = false) := Lib.hid (by rw [HV.out.l]; rfl)
              go_wp2_with fail
              refine (end_no HV.out.cel hno.out).mono ?_
              rintro _ q11 ⟨rfl, hq⟩
              have hq := hq.symm
              subst hq
              go_wp2_with fail
              go_meet
              case rel => exact ⟨_, n, false, false, by omega, rfl, rfl, rfl, HV, HS⟩
            · have k4 : decide ((200 : Int) < (t : Int)) = false := by simp; omega
              clear h200
              go_wp2_with fail
              go_meet
              case rel => exact ⟨_, n, false, false, by omega, rfl, rfl, rfl, HV, HS⟩
        · obtain h4 | h4 | h4 | h4 : t % 4 = 0 ∨ t % 4 = 1 ∨ t % 4 = 2 ∨ t % 4 = 3 := by omega
          · have k0 : ((t : Int) % 4 == 0) = true := by simp; omega
            clear h4
            go_wp2_with fail
            refine (take_no HV.out.cel (HV.out.opn.trans rfl)).mono ?_
            rintro _ q11 ⟨rfl, hq⟩
            have hq := hq.symm
            subst hq
            go_wp2_with fail
            go_meet
            case rel => exact ⟨_, n, false, true, by omega, rfl, rfl, rfl, HV, HS⟩
          · have k0 : ((t : Int) % 4 == 0) = false := by simp; omega
            have k1 : ((t : Int) % 4 == 1) = true := by simp; omega
            clear h4
            go_wp2_with fail
            refine (take_no HV.out.cel (HV.out.opn.trans rfl)).mono ?_
            rintro _ q11 ⟨rfl, hq⟩
            have hq := hq.symm
            subst hq
            go_wp2_with fail
            go_meet
            case rel => exact ⟨_, n, false, true, by omega, rfl, rfl, rfl, HV, HS⟩
          · have k0 : ((t : Int) % 4 == 0) = false := by simp; omega
            have k1 : ((t : Int) % 4 == 1) = false := by simp; omega
            have k2 : ((t : Int) % 4 == 2) = true := by simp; omega
            clear h4
            have hno : Hid ((lck u && !ded u) = false) := Lib.hid (by rw [HV.out.l]; rfl)
            go_wp2_with fail
            refine (give_no HV.out.cel hno.out).mono ?_
            rintro _ q11 ⟨rfl, hq⟩
            have hq := hq.symm
            subst hq
            go_wp2_with fail
            go_meet
            case rel => exact ⟨_, n, false, true, by omega, rfl, rfl, rfl, HV, HS⟩
          · have k0 : ((t : Int) % 4 == 0) = false := by simp; omega
            have k1 : ((t : Int) % 4 == 1) = false := by simp; omega
            have k2 : ((t : Int) % 4 == 2) = false := by simp; omega
            have k3 : ((t : Int) % 4 == 3) = true := by simp; omega
            clear h4
            by_cases h200 : 200 < t
            · have k4 : decide ((200 : Int) < (t : Int)) = true := by simp; omega
              clear h200
              have hno : Hid ((lck u && !ded u) = false) := Lib.hid (by rw [HV.out.l]; rfl)
              go_wp2_with fail
              refine (end_no HV.out.cel hno.out).mono ?_
              rintro _ q11 ⟨rfl, hq⟩
              have hq := hq.symm
              subst hq
              go_wp2_with fail
              go_meet
              case rel => exact ⟨_, n, false, true, by omega, rfl, rfl, rfl, HV, HS⟩
            · have k4 : decide ((200 : Int) < (t : Int)) = false := by simp; omega
              clear h200
              go_wp2_with fail
              go_meet
              case rel => exact ⟨_, n, false, true, by omega, rfl, rfl, rfl, HV, HS⟩
      case rest =>
      clear HV H3 hcell
      obtain ⟨y, n2, T2, E2, hn2, rfl, rfl, rfl, HV, HS⟩ := hcut
      have yl := HS.out.lt2
      have Ly := fun W => locked_any y yl W
      have Dy := fun W => dead_any y yl W
      have Vy := fun W => version_any y yl W
      have Vu := fun W => version_any u ul W
      rw [HV.out.l] at Ly
      rw [HV.out.d] at Dy
      replace Ly := Lib.hid Ly
      replace Dy := Lib.hid Dy
      by_cases e4 : y / 4 = u / 4
      · rw [e4] at Vy
        generalize u / 4 = a at Vy Vu
        replace Vy := Lib.hid Vy
        replace Vu := Lib.hid Vu
        clear e4
        go_wp2_with fail
        refine (load_any HV.out.cel).mono ?_
        rintro _ q20 ⟨rfl, hq⟩
        have hq := hq.symm
        subst hq
        go_wp2_with fail
        refine (Ly.out _).mono ?_
        rintro _ q21 ⟨rfl, hq⟩
        have hq := hq.symm
        subst hq
        go_wp2_with fail
        refine (Dy.out _).mono ?_
        rintro _ q22 ⟨rfl, hq⟩
        have hq := hq.symm
        subst hq
        go_wp2_with fail
        refine (Vy.out _).mono ?_
        rintro _ q23 ⟨rfl, hq⟩
        have hq := hq.symm
        subst hq
        go_wp2_with fail
        refine (Vu.out _).mono ?_
        rintro _ q24 ⟨rfl, hq⟩
        have hq := hq.symm
        subst hq
        go_wp2_with fail
        go_roundw
        case rel => exact ⟨y, n2, v, m, j + 1, T2, E2, G, by omega, by omega, by omega, rfl, rfl, rfl, rfl, rfl, rfl, by go_num, HV.out⟩
        case measure => simp [intOf]; omega
      · have e5 : y / 4 = (u / 4 + 1) % 4611686018427387904 := HS.out.v.resolve_left e4
        have eb : ((((y / 4 : Nat) : Int)) != ((u / 4 : Nat) : Int)) = true := by simp only [bne_iff_ne]; omega
        obtain ⟨a1, ha1⟩ : ∃ a1, a1 = u / 4 + 1 := ⟨_, rfl⟩
        have ew : IntKind.u64.wrap (((u / 4 : Nat) : Int) + 1) = (a1 : Int) := by rw [IntKind.wrap_u64]; omega
        have ea : bits .and .u64 (a1 : Int) 4611686018427387903 = ((y / 4 : Nat) : Int) := by rw [b_and62 a1 (by omega), ha1, e5]
        clear e4 e5 ha1
        generalize y / 4 = b at Vy eb ea
        generalize u / 4 = a at Vu eb ew
        replace Vy := Lib.hid Vy
        replace Vu := Lib.hid Vu
        go_wp2_with fail
        refine (load_any HV.out.cel).mono ?_
        rintro _ q20 ⟨rfl, hq⟩
        have hq := hq.symm
        subst hq
        go_wp2_with fail
        refine (Ly.out _).mono ?_
        rintro _ q21 ⟨rfl, hq⟩
        have hq := hq.symm
        subst hq
        go_wp2_with fail
        refine (Dy.out _).mono ?_
        rintro _ q22 ⟨rfl, hq⟩
        have hq := hq.symm
        subst hq
        go_wp2_with fail
        refine (Vy.out _).mono ?_
        rintro _ q23 ⟨rfl, hq⟩
        have hq := hq.symm
        subst hq
        go_wp2_with fail
        refine (Vu.out _).mono ?_
        rintro _ q24 ⟨rfl, hq⟩
        have hq := hq.symm
        subst hq
        go_wp2_with fail
        refine (Vy.out _).mono ?_
        rintro _ q25 ⟨rfl, hq⟩
        have hq := hq.symm
        subst hq
        go_wp2_with fail
        refine (Vu.out _).mono ?_
        rintro _ q26 ⟨rfl, hq⟩
        have hq := hq.symm
        subst hq
        go_wp2_with fail
        go_roundw
        case rel => exact ⟨y, n2, v, m, j + 1, T2, E2, G, by omega, by omega, by omega, rfl, rfl, rfl, rfl, rfl, rfl, by go_num, HV.out⟩
        case measure => simp [intOf]; omega
    · have hd : decide ((j : Int) < (len : Int)) = false := by simp; omega
      go_wp2_with fail
      go_ret
      exact ⟨rfl, HV.out.old.below (Nat.le_refl _) (fun _ _ h => h)⟩

theorem opt_law (x len cap fr til : Nat) (A0 : Option Addr) (zs : List Int) (w : World) (hx : x < 18446744073709551616) (hfr : fr < 65536) (htil : til < 65536) (hr : IsRow .u8 w A0 len cap zs) :
    Calls Try.prog 6 #[.int .u64 (x : Int), .slice A0 len cap, .int .u16 (fr : Int), .int .u16 (til : Int)] w fun e w' => e = .returned (.bool true) ∧ Below w.heap.size w w' := by
  have hlm := row_len hr
  unfold maxLen at hlm
  by_cases hlen : 300 < len
  · exact opt_long x len cap fr til A0 w hlen (by omega)
  · exact opt_any x len cap fr til A0 (fun j => (zs.getD j 0).toNat) w (by omega) hx hfr htil (Lib.hid (row_bytes hr))
end Go.Proofs.Ytildhokanfmabaa
