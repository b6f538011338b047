/-
  What the law's helper stands comes to: what is alive stands where it is, and nowhere else; what is gone, nowhere.
-/
import Derived.Test.YtbdfbgkfhaiccaaDoorHeldB
import Derived.Test.YtbdfbgkfhaiccaaDoorWArS
namespace Go.Proofs.YtbdfbgkfhaiccaaDoor
open Go.RowKit Go.Maps
set_option linter.unusedVariables false

theorem getS_dead {w : World} {ab mb n : Nat} {pp : Value} {M : Nat → Option (Nat × Value)} (h : Ar 89 97 w ab mb pp M n) (x g : Nat) (hx : x < 9223372036854775808) (hd : ∀ v, M x ≠ some (g, v)) :
    Calls Tryd.prog 15 #[.pointer (some ⟨ab, 0, none⟩), .agg #[.int .i64 (x : Int), .int .u64 (g : Int)]] w fun e w' => e = .returned (.tuple #[.pointer none, .bool false]) ∧ Turn (fun _ => False) w w' := by
  cases hM : M x with
  | none => exact getS_none h x g hx hM
  | some p => exact getS_other h x g p.1 p.2 hx hM (fun e => hd p.2 (by rw [hM, ← e]))

theorem cell_keep {w w' : World} (t : Turn (fun _ => False) w w') {b o : Nat} {v : Value} (hb : b < w.heap.size) (h : w.cell? ⟨b, o, none⟩ = some v) : w'.cell? ⟨b, o, none⟩ = some v :=
  (World.cell?_of_block (w := w) (t.block b hb (fun h => h))).trans h

theorem pair_at {l : List Held} (h : l.Pairwise (fun a b => a.s ≠ b.s)) {j k : Nat} {a b : Held} (hjk : j < k) (ha : l[j]? = some a) (hb : l[k]? = some b) : a.s ≠ b.s := by
  obtain ⟨h1, rfl⟩ := List.getElem?_eq_some_iff.1 ha
  obtain ⟨h2, rfl⟩ := List.getElem?_eq_some_iff.1 hb
  exact List.pairwise_iff_getElem.1 h j k h1 h2 hjk

set_option maxRecDepth 100000 in
set_option maxHeartbeats 2000000 in
theorem stands_any {w ws : World} {n pb gb fb : Nat} {ab mb : Nat → Nat} {A B : Option Addr} {m cap mg capg : Nat} {G : List Nat} {fr : Nat → Bool} {MM : Nat → Nat → Option (Nat × Value)} {nn : Nat → Nat} {on gone : List Held}
    (H : Hid (HSt w ws n pb gb fb ab mb (.slice A m cap) (.slice B mg capg) G fr MM nn on gone)) (hm : Hid (on.length = m)) (hmg : Hid (gone.length = mg)) (hn : n ≤ 64) (hmm : m ≤ 1000) (hmgg : mg ≤ 1000) :
    Calls Tryd.prog 30 #[.pointer (some ⟨ab 0, 0, none⟩), .pointer (some ⟨ab 1, 0, none⟩), .slice A m cap, .slice B mg capg] ws fun e w' => e = .returned (.bool true) ∧ Turn (fun _ => False) ws w' := by
  go_enter Tryd.func30, Tryd.ntmps30
  go_wp2_with fail
  go_loopw [9] (fun i wx => ∃ k : Nat, k ≤ m ∧ i = .int .i64 k ∧ Hid (Turn (fun _ => False) ws wx)) (fun i _ => m - (intOf i).toNat)
  case atStart => exact ⟨0, Nat.zero_le _, rfl, Turn.refl _ _⟩
  case round =>
    obtain ⟨wo, rfl⟩ : ∃ wo : World, wo = wr := ⟨_, rfl⟩
    obtain ⟨k, hk, rfl, ht⟩ := hrel
    by_cases hlt : k < m
    · have b1 : (k : Int) < (m : Int) := by omega
      obtain ⟨p, hp⟩ : ∃ p, on[k]? = some p := ⟨_, List.getElem?_eq_getElem (by rw [hm.out]; exact hlt)⟩
      obtain ⟨g, rfl, g1, g2, _, c0, c1, c2, c3⟩ := H.out.kon.at hp
      obtain ⟨hpi, hpM⟩ := H.out.inv.onM p (List.mem_of_getElem? hp)
      have hps := (H.out.inv.gen p.i hpi p.s _ _ hpM).1
      have HP := Lib.hid hp
      clear hp
      obtain ⟨ps, pg, pi, px⟩ := p
      simp only at c0 c1 c2 c3 hpi hpM hps
      rcases (show pi = 0 ∨ pi = 1 by omega) with rfl | rfl
      · have st1 := H.out.same ht.out
        have GA := Lib.hid (getS_some (st1.ar 0 (by omega)) ps pg (.string px) (by omega) hpM)
        have hMo := Lib.hid hpM
        have d0 := cell_keep ht.out g2 c0
        have d1 := cell_keep ht.out g2 c1
        have lg := Nat.lt_of_lt_of_le g2 ht.out.size
        clear hpM st1
        go_wp2_with fail
        refine GA.out.mono ?_
        rintro e w1 ⟨q, rfl, hq, ht1⟩
        have hq1 := hq.turn ht1 (fun h => h)
        have HQ := Lib.hid hq1
        clear hq hq1
        have u1 := ht.out.trans ht1
        have st2 := H.out.same u1
        have GC := Lib.hid (getS_none (st2.ar 1 (by omega)) ps pg (by omega) (st2.inv.other (i := 0) (by omega) hMo.out))
        have f0 := cell_keep u1 g2 c0
        have f1 := cell_keep u1 g2 c1
        have HU := Lib.hid u1
        clear u1 st2 ht1 d0 d1 GA
        go_wp2_with fail
        refine GC.out.mono ?_
        rintro e w2 ⟨rfl, ht2⟩
        have x1 := (HQ.out.turn ht2 (fun h => h)).cell 1
        simp at x1
        have u2 := HU.out.trans ht2
        have e0 := cell_keep u2 g2 c0
        have e1 := cell_keep u2 g2 c1
        have e2 := cell_keep u2 g2 c2
        have e3 := cell_keep u2 g2 c3
        have HU2 := Lib.hid u2
        clear u2 ht2 f0 f1 GC HU
        go_wp2_with fail
        go_quiet (fail)
        go_wp2_with fail
        generalize hW : w2.drewN nq = w3
        have HU3 : Hid (Turn (fun _ => False) ws w3) := by rw [← hW]; exact HU2.out.drewN nq
        clear hW HU2 e0 e1 e2 e3 x1 ht
        go_loopw [14] (fun kk wy => ∃ j : Nat, j ≤ k ∧ kk = .int .i64 j ∧ Hid (Turn (fun _ => False) ws wy)) (fun kk _ => k - (intOf kk).toNat)
        case atStart => exact ⟨0, Nat.zero_le _, rfl, HU3⟩
        case round =>
          obtain ⟨j, hj, rfl, hty⟩ := hrel
          clear HU3
          by_cases hjk : j < k
          · have b2 : (j : Int) < (k : Int) := by omega
            have b3 : (j : Int) < (m : Int) := by omega
            obtain ⟨p', hp'⟩ : ∃ p', on[j]? = some p' := ⟨_, List.getElem?_eq_getElem (by rw [hm.out]; omega)⟩
            obtain ⟨g', hg', _, _, _, j0, j1, _, _⟩ := H.out.kon.at hp'
            injection hg' with hg'
            injection hg' with hg'
            subst hg'
            have hne : p'.s ≠ ps := pair_at H.out.inv.apart hjk hp' HP.out
            have q1 : ((p'.s : Int) == (ps : Int)) = false := by simp; omega
            have v0 := cell_keep hty.out g2 j0
            have v1 := cell_keep hty.out g2 j1
            have y0 := cell_keep hty.out g2 c0
            have y1 := cell_keep hty.out g2 c1
            have lg2 := Nat.lt_of_lt_of_le g2 hty.out.size
            obtain ⟨qs, qg, qi, qx⟩ := p'
            simp only at v0 v1 q1 hne
            clear hp' j0 j1 hne
            go_wp2_with fail
            go_quiet (fail)
            go_wp2_with fail
            go_roundw
            case rel => exact ⟨j + 1, by omega, by go_num, hty.out.drewN _⟩
            case measure => simp [intOf]; omega
          · have b2 : ¬ (j : Int) < (k : Int) := by omega
            go_wp2_with fail
            go_roundw
            case rel => exact ⟨k + 1, by omega, by go_num, hty⟩
            case measure => simp [intOf]; omega
      · have st1 := H.out.same ht.out
        have GA := Lib.hid (getS_none (st1.ar 0 (by omega)) ps pg (by omega) (st1.inv.other (i := 1) (by omega) hpM))
        have hMo := Lib.hid hpM
        have d0 := cell_keep ht.out g2 c0
        have d1 := cell_keep ht.out g2 c1
        have lg := Nat.lt_of_lt_of_le g2 ht.out.size
        clear hpM st1
        go_wp2_with fail
        refine GA.out.mono ?_
        rintro e w1 ⟨rfl, ht1⟩
        skip
        have u1 := ht.out.trans ht1
        have st2 := H.out.same u1
        have GC := Lib.hid (getS_some (st2.ar 1 (by omega)) ps pg (.string px) (by omega) hMo.out)
        have f0 := cell_keep u1 g2 c0
        have f1 := cell_keep u1 g2 c1
        have HU := Lib.hid u1
        clear u1 st2 ht1 d0 d1 GA
        go_wp2_with fail
        refine GC.out.mono ?_
        rintro e w2 ⟨q, rfl, hq, ht2⟩
        have x1 := (hq.turn ht2 (fun h => h)).cell 1
        clear hq
        simp at x1
        have u2 := HU.out.trans ht2
        have e0 := cell_keep u2 g2 c0
        have e1 := cell_keep u2 g2 c1
        have e2 := cell_keep u2 g2 c2
        have e3 := cell_keep u2 g2 c3
        have HU2 := Lib.hid u2
        clear u2 ht2 f0 f1 GC HU
        go_wp2_with fail
        go_quiet (fail)
        go_wp2_with fail
        generalize hW : w2.drewN nq = w3
        have HU3 : Hid (Turn (fun _ => False) ws w3) := by rw [← hW]; exact HU2.out.drewN nq
        clear hW HU2 e0 e1 e2 e3 x1 ht
        go_loopw [14] (fun kk wy => ∃ j : Nat, j ≤ k ∧ kk = .int .i64 j ∧ Hid (Turn (fun _ => False) ws wy)) (fun kk _ => k - (intOf kk).toNat)
        case atStart => exact ⟨0, Nat.zero_le _, rfl, HU3⟩
        case round =>
          obtain ⟨j, hj, rfl, hty⟩ := hrel
          clear HU3
          by_cases hjk : j < k
          · have b2 : (j : Int) < (k : Int) := by omega
            have b3 : (j : Int) < (m : Int) := by omega
            obtain ⟨p', hp'⟩ : ∃ p', on[j]? = some p' := ⟨_, List.getElem?_eq_getElem (by rw [hm.out]; omega)⟩
            obtain ⟨g', hg', _, _, _, j0, j1, _, _⟩ := H.out.kon.at hp'
            injection hg' with hg'
            injection hg' with hg'
            subst hg'
            have hne : p'.s ≠ ps := pair_at H.out.inv.apart hjk hp' HP.out
            have q1 : ((p'.s : Int) == (ps : Int)) = false := by simp; omega
            have v0 := cell_keep hty.out g2 j0
            have v1 := cell_keep hty.out g2 j1
            have y0 := cell_keep hty.out g2 c0
            have y1 := cell_keep hty.out g2 c1
            have lg2 := Nat.lt_of_lt_of_le g2 hty.out.size
            obtain ⟨qs, qg, qi, qx⟩ := p'
            simp only at v0 v1 q1 hne
            clear hp' j0 j1 hne
            go_wp2_with fail
            go_quiet (fail)
            go_wp2_with fail
            go_roundw
            case rel => exact ⟨j + 1, by omega, by go_num, hty.out.drewN _⟩
            case measure => simp [intOf]; omega
          · have b2 : ¬ (j : Int) < (k : Int) := by omega
            go_wp2_with fail
            go_roundw
            case rel => exact ⟨k + 1, by omega, by go_num, hty⟩
            case measure => simp [intOf]; omega
    · have b1 : ¬ (k : Int) < (m : Int) := by omega
      go_wp2_with fail
      go_loopw [15] (fun i wx => ∃ k : Nat, k ≤ mg ∧ i = .int .i64 k ∧ Hid (Turn (fun _ => False) ws wx)) (fun i _ => mg - (intOf i).toNat)
      case atStart => exact ⟨0, Nat.zero_le _, rfl, ht⟩
      case round =>
        obtain ⟨wo2, rfl⟩ : ∃ wo2 : World, wo2 = wr := ⟨_, rfl⟩
        obtain ⟨j, hj, rfl, hty⟩ := hrel
        clear ht
        by_cases hlt2 : j < mg
        · have b2 : (j : Int) < (mg : Int) := by omega
          obtain ⟨p, hp⟩ : ∃ p, gone[j]? = some p := ⟨_, List.getElem?_eq_getElem (by rw [hmg.out]; exact hlt2)⟩
          obtain ⟨g, rfl, g1, g2, _, c0, c1, _, _⟩ := H.out.kgone.at hp
          obtain ⟨hps, hpg⟩ := H.out.inv.dead p (List.mem_of_getElem? hp)
          have hd : ∀ i, i < 2 → ∀ v, MM i p.s ≠ some (p.g, v) := fun i hi v e => by
            have := (H.out.inv.gen i hi p.s _ _ e).2
            omega
          have st1 := H.out.same hty.out
          have GA := Lib.hid (getS_dead (st1.ar 0 (by omega)) p.s p.g (by omega) (hd 0 (by omega)))
          have HD := Lib.hid hd
          have d0 := cell_keep hty.out g2 c0
          have d1 := cell_keep hty.out g2 c1
          have lg := Nat.lt_of_lt_of_le g2 hty.out.size
          obtain ⟨ps, pg, pi, px⟩ := p
          simp only at c0 c1 d0 d1 hps GA HD
          clear hp hd st1 hpg
          go_wp2_with fail
          refine GA.out.mono ?_
          rintro e w1 ⟨rfl, ht1⟩
          have u1 := hty.out.trans ht1
          have st2 := H.out.same u1
          have GC := Lib.hid (getS_dead (st2.ar 1 (by omega)) ps pg (by omega) (HD.out 1 (by omega)))
          have f0 := cell_keep u1 g2 c0
          have f1 := cell_keep u1 g2 c1
          have lg1 := Nat.lt_of_lt_of_le g2 u1.size
          have HU := Lib.hid u1
          clear u1 st2 ht1 d0 d1 GA
          go_wp2_with fail
          refine GC.out.mono ?_
          rintro e w2 ⟨rfl, ht2⟩
          have HU2 := Lib.hid (HU.out.trans ht2)
          clear ht2 f0 f1 GC HU
          go_wp2_with fail
          go_roundw
          case rel => exact ⟨j + 1, by omega, by go_num, HU2⟩
          case measure => simp [intOf]; omega
        · have b2 : ¬ (j : Int) < (mg : Int) := by omega
          go_wp2_with fail
          go_ret
          exact ⟨rfl, hty.out⟩
end Go.Proofs.YtbdfbgkfhaiccaaDoor
