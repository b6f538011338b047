/-
  ArenaHandles, walked.
-/
import Derived.Test.YtbdfbgkfhaiccaaDoorWStands
import Derived.Test.YtbdfbgkfhaiccaaDoorWTwoB
import Derived.Test.YtbdfbgkfhaiccaaDoorWAwake
import Derived.Deep.RegionLaw
namespace Go.Proofs.YtbdfbgkfhaiccaaDoor
open Go.RowKit Go.Maps
set_option linter.unusedVariables false

/-- An append whose run is known; a structure, so that it is matched by its words alone. -/
structure AppRun (t ty : TypeId) (vs vx r : Value) (w w' : World) : Prop where
  out : (Builtin.append_ #[t, t] ty #[vs, vx]).run Tryd.prog w = .ok r w'

theorem step_append_run {w w' : World} {ops : Array Oper} {o : Oper} {a : Act} {K : Act → World → Prop} {Q : Exit → Act → World → Prop} {E : Prop} (hgd : o.guard = none) (s x : Operand) (t : TypeId)
    (ho : o.op = .call { callee := .builtin .append, args := #[s, x], argTypes := #[t, t] }) (vs vx r : Value) (hs : a.eval s = vs) (hx : a.eval x = vx) (hrun : AppRun t o.type vs vx r w w')
    (h : K (a.put o.dst r) w') : if Region.wanted o (yielded ops a.tmps) = true then Oper.wp Tryd.prog o a w K Q else E := by
  have hw : Region.wanted o (yielded ops a.tmps) = true := by simp [Region.wanted, hgd]
  rw [if_pos hw]
  unfold Oper.wp execOp
  simp only [ho, resolve, invoke, builtin, Sem.run_bind, Sem.run_pure, Result.andThen_ok, List.map_toArray, List.map_cons, List.map_nil, hs, hx, hrun.out]
  exact h

/-- The cells of one thing in a row of its own. -/
theorem news_at {w : World} {b : Nat} {h : Held} (hb : At w b (.cells #[.int .i64 (h.s : Int), .int .u64 (h.g : Int), .int .i64 (h.i : Int), .string h.x] 73 (0, 0))) : ∀ j u, (flat4 [h])[j]? = some u → w.cell? ((⟨b, 0, none⟩ : Addr).add j) = some u := by
  intro j u hu
  have e : (⟨b, 0, none⟩ : Addr).add j = ⟨b, j, none⟩ := by
    unfold Addr.add
    split
    · subst j; rfl
    · simp
  rw [e, hb.cell j]
  rcases j with _ | _ | _ | _ | j
  · simpa [flat4, hcells] using hu
  · simpa [flat4, hcells] using hu
  · simpa [flat4, hcells] using hu
  · simpa [flat4, hcells] using hu
  · simp [flat4, hcells] at hu

def HMid (w : World) (n k pb gb fb : Nat) (ab mb : Nat → Nat) (von vgone : Value) (wr : World) : Prop :=
  ∃ (A : Option Addr) (m cap : Nat) (B : Option Addr) (mg capg : Nat) (G : List Nat) (fr : Nat → Bool) (MM : Nat → Nat → Option (Nat × Value)) (nn : Nat → Nat) (on gone : List Held),
    m ≤ k ∧ mg ≤ k ∧ von = .slice A m cap ∧ vgone = .slice B mg capg ∧ on.length = m ∧ gone.length = mg ∧ HSt w wr n pb gb fb ab mb von vgone G fr MM nn on gone
def HRel (w : World) (n len pb gb fb : Nat) (ab mb : Nat → Nat) (von vgone i : Value) (wr : World) : Prop :=
  ∃ k : Nat, k ≤ len ∧ i = .int .i64 (k : Int) ∧ HMid w n k pb gb fb ab mb von vgone wr

set_option maxRecDepth 100000 in
set_option maxHeartbeats 40000000 in
theorem arenaHandles_any (z n len cap0 : Nat) (A0 : Option Addr) (w : World) (hz : z < 256) (hzn : 1 + (z : Int) % 64 = (n : Int)) (hl : len ≤ 9223372036854775807) (ha : Hid (Acts w A0 len)) (hT : Hid (Tab w)) :
    Calls Tryd.prog 5 #[.int .u8 (z : Int), .slice A0 len cap0] w fun e w' => e = .returned (.bool true) ∧ Below w.heap.size w w' := by
  have AW := Lib.hid (awake_any w hT.out)
  have hn1 : 1 ≤ n := by omega
  have hn2 : n ≤ 64 := by omega
  go_enter Tryd.func5, Tryd.ntmps5
  go_wp2_with fail
  refine AW.out.mono ?_
  rintro e w1 ⟨rfl, ht1⟩
  have HA1 := Lib.hid (ha.out.turn ht1)
  have GR := Lib.hid (great_any len cap0 A0 w1 hl HA1)
  have H1 := Lib.hid ht1
  have T1 := Lib.hid (hT.out.turn ht1 (fun h => h) hT.out.pos)
  clear ht1 AW ha hT
  go_wp2_with fail
  refine GR.out.mono ?_
  rintro e w' ⟨b, rfl, hb, rfl⟩
  cases b
  case true =>
    go_wp2_with fail
    go_ret
    exact ⟨rfl, H1.out.below (Nat.le_refl _) (fun _ _ h => h)⟩
  case false =>
    have hlen : len ≤ 200 := hb rfl
    clear hb GR
    have NP := Lib.hid (newPool_any n w1 hn1 (by omega))
    go_wp2_with fail
    refine NP.out.mono ?_
    rintro e w2 ⟨pb, gb, fb, rfl, hp2, ht2, l1, l2, l3⟩
    have H2 := Lib.hid (And.intro hp2 ht2)
    have NA := Lib.hid (newS (some ⟨pb, 0, none⟩) w2)
    clear hp2 ht2 NP
    go_wp2_with fail
    refine NA.out.mono ?_
    rintro e w3 ⟨rfl, ha3, ht3⟩
    have H3 := Lib.hid (And.intro ha3 ht3)
    have NB := Lib.hid (newS (some ⟨pb, 0, none⟩) w3)
    clear ha3 ht3 NA
    go_wp2_with fail
    refine NB.out.mono ?_
    rintro e w4 ⟨rfl, hb4, ht4⟩
    obtain ⟨ab, hab0, hab1⟩ : ∃ ab : Nat → Nat, w2.heap.size + 1 = ab 0 ∧ w3.heap.size + 1 = ab 1 := ⟨fun i => if i = 0 then w2.heap.size + 1 else w3.heap.size + 1, rfl, rfl⟩
    obtain ⟨mb, hmb0, hmb1⟩ : ∃ mb : Nat → Nat, w2.heap.size = mb 0 ∧ w3.heap.size = mb 1 := ⟨fun i => if i = 0 then w2.heap.size else w3.heap.size, rfl, rfl⟩
    have HI : Hid (HRel w1 n len pb gb fb ab mb (.slice none 0 0) (.slice none 0 0) (.int .i64 0) w4) := by
      obtain ⟨hp2, ht2⟩ := H2.out
      obtain ⟨ha3, ht3⟩ := H3.out
      have e1 : w2.heap.size + 1 < w3.heap.size := by obtain ⟨f, hf⟩ := ha3; exact hf.1.lt
      have s1 := ht2.size
      refine ⟨0, Nat.zero_le _, rfl, none, 0, 0, none, 0, 0, _, _, fun _ _ => none, fun _ => 0, [], [], Nat.le_refl _, Nat.le_refl _, rfl, rfl, rfl, rfl, ⟨(hp2.turn ht3 (fun h => h) (fun h => h) (fun h => h)).turn ht4 (fun h => h) (fun h => h) (fun h => h), ?_, by omega, Kept.start _ _, Kept.start _ _, (fun i hi => by cases hi), (ht2.trans ht3).trans ht4, ⟨l2, l3, by omega, by omega⟩, HInv.start n⟩⟩
      intro i hi
      rcases i with _ | _ | i
      · rw [← hab0, ← hmb0]; exact ha3.same ht4
      · rw [← hab1, ← hmb1]; exact hb4
      · omega
    clear hb4 ht4 H2 H3 NB
    rw [hab0, hab1]
    clear hab0 hab1 hmb0 hmb1
    go_wp2_with fail
    go_loopw [10, 11, 12] (fun von vgone i wr => HRel w1 n len pb gb fb ab mb von vgone i wr) (fun _ _ i _ => len - (intOf i).toNat)
    case atStart => exact HI.out
    case round =>
      obtain ⟨wo, rfl⟩ : ∃ wo : World, wo = wr := ⟨_, rfl⟩
      obtain ⟨k, hk, rfl, A, m, cap, B, mg, capg, G, fr, MM, nn, on, gone, hm, hmg, rfl, rfl, hml, hmgl, hst⟩ := hrel
      have HS := Lib.hid hst
      have HM := Lib.hid hml
      have HG := Lib.hid hmgl
      clear hst hml hmgl HI
      by_cases hlt : k < len
      · have b1 : (k : Int) < (len : Int) := by omega
        obtain ⟨lb, lo, rfl, hlb, d, inn, X, hs', hg', ago, hact⟩ := HA1.out k hlt
        have act := hact.turn HS.out.old hlb
        have d0 := act.c0
        have d1 := act.c1
        have d2 := act.c2
        have d5 := act.c5
        have x1 := act.b1
        have x5 := act.b5
        have lbr := Nat.lt_of_lt_of_le hlb HS.out.old.size
        clear hact act
        obtain ⟨kk, hkk⟩ : ∃ kk : Nat, inn % 2 = kk := ⟨_, rfl⟩
        have hk2 : kk < 2 := by omega
        have hkk' : (inn : Int) % 2 = (kk : Int) := by omega
        clear hkk
        go_upto_if 55 with (fail)
        go_cut [13] from 40 to 181 (fun s wx => s = .pointer (some ⟨ab kk, 0, none⟩) ∧ wo = wx)
        case first =>
          rcases (show kk = 0 ∨ kk = 1 by omega) with rfl | rfl
          all_goals
            go_wp2_with fail
            go_meet
            case rel => exact ⟨rfl, rfl⟩
        case rest =>
          obtain ⟨rfl, rfl⟩ := hcut
          go_upto_if 62 with (fail)
          go_cut [10, 11] from 40 to 181 (fun v1 v2 wx => HMid w1 n (k + 1) pb gb fb ab mb v1 v2 wx)
          case first =>
            by_cases hd : d = 0
            · subst hd
              by_cases hfree : 0 < cnt fr n
              · obtain ⟨s, hsn, hs1, hsl⟩ := cnt_pos fr n hfree
                have hall := HS.out.inv.all
                rw [HM.out] at hall
                have hMs := HS.out.inv.none_of hs1 kk hk2
                have AL := Lib.hid (allocS_some X (HS.out.ar kk hk2) HS.out.pool (T1.out.turn HS.out.old (fun h => h) T1.out.pos) hs1 hsl hMs (by have := HS.out.inv.le kk hk2; omega))
                have HF := Lib.hid hs1
                have t1 : decide ((m : Int) < (n : Int)) = true := by simp; omega
                have t1' : decide (m < n) = true := by simp; omega
                obtain ⟨g, hg⟩ : ∃ g, G.getD s 0 = g := ⟨_, rfl⟩
                have HGG := Lib.hid hg
                rw [hg] at AL
                have hgl : g < 18446744073709551616 := by
                  obtain ⟨F, _, _, _, _, hG, _⟩ := HS.out.pool
                  rw [← hg]; exact getD_lt hG s
                clear hs1 hsl hall hMs hfree hg
                go_wp2_with fail
                refine AL.out.mono ?_
                rintro e w5 ⟨rfl, hp5, ha5, ht5⟩
                have HX := Lib.hid (And.intro hp5 (And.intro ha5 ht5))
                have hB5 := At.new w5 (.cells #[.int .i64 (s : Int), .int .u64 (g : Int)] 32)
                have tn : Turn (fun _ => False) w5 (w5.alloc (.cells #[.int .i64 (s : Int), .int .u64 (g : Int)] 32)) := (Turn.refl _ w5).alloc _
                have lbw : lb < w5.heap.size := Nat.lt_of_lt_of_le lbr ht5.size
                have t' := ht5.mono (Y := fun k => k = gb ∨ k = fb ∨ k = mb kk) (fun k _ hk => Or.inr hk)
                have kg5 := (HS.out.kgone.turn t' (fun j c hj _ _ => HS.out.no73 hk2 hj)).same tn
                have ko5 := (HS.out.kon.turn t' (fun j c hj _ _ => HS.out.no73 hk2 hj)).same tn
                have hlbX : ¬ (lb = fb ∨ lb = mb kk) := by
                  have := HS.out.mnew hk2
                  have := HS.out.new
                  omega
                have f2 : w5.cell? ⟨lb, lo + k * 6 + 2, none⟩ = some (.string X) := (World.cell?_of_block (w := wo) (ht5.block lb lbr hlbX)).trans d2
                have HK := Lib.hid (And.intro kg5 (And.intro ko5 (And.intro hB5 tn)))
                clear hp5 ha5 ht5 hB5 tn t' kg5 ko5 hlbX AL
                go_wp2_with fail
                go_loopw [17] (fun i wy => ∃ j : Nat, j ≤ mg ∧ i = .int .i64 j ∧ Hid (Turn (fun _ => False) (w5.alloc (.cells #[.int .i64 (s : Int), .int .u64 (g : Int)] 32)) wy)) (fun i _ => mg - (intOf i).toNat)
                case atStart => exact ⟨0, Nat.zero_le _, rfl, Turn.refl _ _⟩
                case round =>
                  obtain ⟨j, hj, rfl, hty⟩ := hrel
                  obtain ⟨kg5, ko5, hB5, tn⟩ := HK.out
                  have hBy := hB5.turn hty.out (fun h => h)
                  have v0 := hBy.cell 0
                  have v1 := hBy.cell 1
                  have lBy := hBy.lt
                  simp at v0 v1
                  by_cases hjm : j < mg
                  · have b2 : (j : Int) < (mg : Int) := by omega
                    obtain ⟨p, hp⟩ : ∃ p, gone[j]? = some p := ⟨_, List.getElem?_eq_getElem (by rw [HG.out]; exact hjm)⟩
                    obtain ⟨tg, rfl, g1, g2, _, c0, c1, _, _⟩ := kg5.at hp
                    obtain ⟨hps, hpg⟩ := HS.out.inv.dead p (List.mem_of_getElem? hp)
                    have y0 := cell_keep hty.out g2 c0
                    have y1 := cell_keep hty.out g2 c1
                    have ly := Nat.lt_of_lt_of_le g2 hty.out.size
                    obtain ⟨ps, pg, pi, px⟩ := p
                    simp only at y0 y1 hps hpg
                    have hgg := HGG.out
                    clear hp c0 c1 kg5 ko5 hB5 tn hBy
                    by_cases hes : ps = s
                    · have q1 : ((ps : Int) == (s : Int)) = true := by simp [hes]
                      have q2 : ((pg : Int) == (g : Int)) = false := by
                        rw [hes, hgg] at hpg
                        simp; omega
                      clear hes hpg hgg
                      go_wp2_with fail
                      go_quiet (fail)
                      go_wp2_with fail
                      go_roundw
                      case rel => exact ⟨j + 1, by omega, by go_num, hty.out.drewN _⟩
                      case measure => simp [intOf]; omega
                    · have q1 : ((ps : Int) == (s : Int)) = false := by simp; omega
                      clear hes hpg hgg
                      go_wp2_with fail
                      go_quiet (fail)
                      go_wp2_with fail
                      go_roundw
                      case rel => exact ⟨j + 1, by omega, by go_num, hty.out.drewN _⟩
                      case measure => simp [intOf]; omega
                  · have b2 : ¬ (j : Int) < (mg : Int) := by omega
                    obtain ⟨wy, rfl⟩ : ∃ wy : World, wy = wr := ⟨_, rfl⟩
                    have f2y : wy.cell? ⟨lb, lo + k * 6 + 2, none⟩ = some (.string X) := cell_keep (tn.trans hty.out) lbw f2
                    have lby := Nat.lt_of_lt_of_le lbw (tn.trans hty.out).size
                    have tz : Turn (fun _ => False) wy ((wy.alloc (.cells #[.int .i64 (s : Int), .int .u64 (g : Int), .int .i64 (kk : Int), .string X] 73)).drew) := ((Turn.refl _ wy).alloc _).drew
                    have hNz : At ((wy.alloc (.cells #[.int .i64 (s : Int), .int .u64 (g : Int), .int .i64 (kk : Int), .string X] 73)).drew) wy.heap.size (.cells #[.int .i64 (s : Int), .int .u64 (g : Int), .int .i64 (kk : Int), .string X] 73 (0, 0)) := At.new wy _
                    have koz := (ko5.same hty.out).same tz
                    obtain ⟨A', cap', w8, hrun, hk8, ht8, ho8⟩ := koz.append ⟨wy.heap.size, 0, none⟩ 1 1 [⟨s, g, kk, X⟩] rfl (news_at hNz) (by rw [HM.out]; omega) (Nat.le_trans HS.out.old.size (Nat.le_trans (Nat.le_trans HX.out.2.2.size tn.size) (Nat.le_trans hty.out.size tz.size))) 71
                    rw [HM.out] at hrun hk8 ho8
                    have HR : AppRun 71 71 (.slice A m cap) (.slice (some ⟨wy.heap.size, 0, none⟩) 1 1) (.slice A' (m + 1) cap') ((wy.alloc (.cells #[.int .i64 (s : Int), .int .u64 (g : Int), .int .i64 (kk : Int), .string X] 73)).drew) w8 := ⟨hrun⟩
                    have hgg := HGG.out
                    have HE : Hid (HSt w1 w8 n pb gb fb ab mb (.slice A' (m + 1) cap') (.slice B mg capg) G (fun y => fr y && y != s) (updMM MM kk s (some (G.getD s 0, .string X))) (updN nn kk (nn kk + 1)) (on ++ [⟨s, G.getD s 0, kk, X⟩]) gone) :=
                      HS.out.put hk2 HF.out HX.out.1 (by rw [hgg]; exact HX.out.2.1) HX.out.2.2 ((tn.trans hty.out).trans tz) (by rw [hgg]; exact hk8) ht8 ho8
                    clear hrun hk8 ht8 ho8 koz hNz tz kg5 ko5 hB5 tn hBy hgg
                    go_wp2_with fail
                    go_region_law ((refine step_append_run (by rfl) _ _ 71 (by rfl) _ _ _ (by rfl) (by rfl) HR ?_))
                    all_goals
                      go_wp2_with fail
                      go_meet
                      case rel => exact ⟨A', m + 1, cap', B, mg, capg, _, _, _, _, _, _, by omega, by omega, rfl, rfl, by simp [HM.out], HG.out, HE.out⟩
              · have hz0 : cnt fr n = 0 := by omega
                have hall := HS.out.inv.all
                rw [HM.out, hz0] at hall
                have hzf : ∀ y, fr y = false := fun y => by
                  cases hy : fr y with
                  | false => rfl
                  | true => have := cnt_zero fr n hz0 y ((HS.out.inv.free y).1 hy).1; rw [hy] at this; cases this
                have AL := Lib.hid (allocS_full X (HS.out.ar kk hk2) HS.out.pool hzf)
                have t1 : decide ((m : Int) < (n : Int)) = false := by simp; omega
                have t1' : decide (m < n) = false := by simp; omega
                clear hz0 hall hzf hfree
                go_wp2_with fail
                refine AL.out.mono ?_
                rintro e w5 ⟨rfl, ht5⟩
                have HE := Lib.hid ((HS.out.same ht5).same ((Turn.refl (fun _ => False) w5).alloc (.cells #[.int .i64 0, .int .u64 0] 32)))
                clear ht5 AL
                go_wp2_with fail
                go_meet
                case rel => exact ⟨A, m, cap, B, mg, capg, G, fr, MM, nn, on, gone, by omega, by omega, rfl, rfl, HM.out, HG.out, HE.out⟩
            · have hd' : (d == 0) = false := by simpa using hd
              clear hd
              by_cases hm0 : m = 0
              · have t0 : decide ((0 : Int) < (m : Int)) = false := by simp; omega
                have t0' : decide (0 < m) = false := by simp; omega
                clear hm0
                go_wp2_with fail
                go_meet
                case rel => exact ⟨A, m, cap, B, mg, capg, G, fr, MM, nn, on, gone, by omega, by omega, rfl, rfl, HM.out, HG.out, HS.out⟩
              · have hm1 : 1 ≤ m := by omega
                have t0 : decide ((0 : Int) < (m : Int)) = true := by simp; omega
                have t0' : decide (0 < m) = true := by simp; omega
                obtain ⟨r, hr0⟩ : ∃ r, ago % m = r := ⟨_, rfl⟩
                have hr : r < m := by rw [← hr0]; exact Nat.mod_lt _ (by omega)
                have hr' : (ago : Int) % (m : Int) = (r : Int) := by rw [← hr0]; rfl
                have hri : (r : Int) < (m : Int) := by omega
                clear hm0 hr0
                obtain ⟨p, hp⟩ : ∃ p, on[r]? = some p := ⟨_, List.getElem?_eq_getElem (by rw [HM.out]; exact hr)⟩
                obtain ⟨tg, rfl, g1, g2, tat, c0, c1, c2, c3⟩ := HS.out.kon.at hp
                obtain ⟨hpi, hpM⟩ := HS.out.inv.onM p (List.mem_of_getElem? hp)
                have hps := (HS.out.inv.gen p.i hpi p.s _ _ hpM).1
                have HP := Lib.hid hp
                obtain ⟨ps, pg, pi, px⟩ := p
                simp only at c0 c1 c2 c3 hpi hpM hps
                have td : Turn (fun _ => False) wo wo.drew := (Turn.refl _ wo).drew
                have std := HS.out.same td
                obtain ⟨tc, tat⟩ := tat
                clear hp
                by_cases hpk : pi = kk
                · subst hpk
                  have RL := Lib.hid (relS_some (std.ar pi hpi) std.pool ps pg (.string px) (by rw [std.inv.glen]; exact hps) hpM)
                  have HTA := Lib.hid tat
                  have HN := Lib.hid (fun (i : Nat) (c : Array Value) (h : At wo.drew i (.cells c 73 (0, 0))) => std.no73 hpi h)
                  have eqk : ((pi : Int) == (pi : Int)) = true := by simp
                  clear hpM td std tat
                  go_upto_region 32 with (fail)
                  go_cut [18, 132] from 40 to 181 (fun s18 c wx => s18 = .int .i64 (r : Int) ∧ c = .bool false ∧ Hid (Pool wx pb gb fb (G.set ps ((G.getD ps 0 + 1) % 18446744073709551616)) (fun y => fr y || y == ps) ∧ Ar 89 97 wx (ab pi) (mb pi) (.pointer (some ⟨pb, 0, none⟩)) (updM (MM pi) ps none) (nn pi - 1) ∧ Turn (fun i => i = gb ∨ i = fb ∨ i = mb pi) wo wx))
                  case first =>
                    go_region_with (go_at_call 17; refine RL.out.mono ?_; rintro e w5 ⟨rfl, hp5, ha5, ht5⟩; have z2 : w5.cell? ⟨tg, r * 4 + 2, none⟩ = some (.int .i64 (pi : Int)) := (World.cell?_of_block (w := wo) (ht5.block tg g2 (HN.out tg tc HTA.out))).trans c2; have HX := Lib.hid (And.intro hp5 (And.intro ha5 ht5)); clear hp5 ha5 ht5)
                    all_goals
                      go_wp2_with fail
                      go_meet
                      case rel => exact ⟨rfl, rfl, HX.out.1, HX.out.2.1, ((Turn.refl _ wo).drew).then HX.out.2.2 (fun i _ h => h)⟩
                  case rest =>
                    obtain ⟨rfl, rfl, hx⟩ := hcut
                    obtain ⟨w5, rfl⟩ : ∃ w5 : World, w5 = wc := ⟨_, rfl⟩
                    have ht5 := hx.out.2.2
                    have hno := HS.out.no73 hpi HTA.out
                    have e0 : w5.cell? ⟨tg, r * 4, none⟩ = some (.int .i64 (ps : Int)) := (World.cell?_of_block (w := wo) (ht5.block tg g2 hno)).trans c0
                    have e1 : w5.cell? ⟨tg, r * 4 + 1, none⟩ = some (.int .u64 (pg : Int)) := (World.cell?_of_block (w := wo) (ht5.block tg g2 hno)).trans c1
                    have e2 : w5.cell? ⟨tg, r * 4 + 2, none⟩ = some (.int .i64 (pi : Int)) := (World.cell?_of_block (w := wo) (ht5.block tg g2 hno)).trans c2
                    have e3 : w5.cell? ⟨tg, r * 4 + 3, none⟩ = some (.string px) := (World.cell?_of_block (w := wo) (ht5.block tg g2 hno)).trans c3
                    have l5 := Nat.lt_of_lt_of_le g2 ht5.size
                    have kg5 := HS.out.kgone.turn ht5 (fun j c hj _ _ => HS.out.no73 hpi hj)
                    have tz : Turn (fun _ => False) w5 (w5.alloc (.cells #[.int .i64 (ps : Int), .int .u64 (pg : Int), .int .i64 (pi : Int), .string px] 73)) := (Turn.refl _ w5).alloc _
                    obtain ⟨B', capg', w7, hrun, hk7, ht7, ho7⟩ := (kg5.same tz).append ⟨w5.heap.size, 0, none⟩ 1 1 [⟨ps, pg, pi, px⟩] rfl (news_at (At.new w5 _)) (by rw [HG.out]; omega) (Nat.le_trans HS.out.old.size (Nat.le_trans ht5.size tz.size)) 71
                    rw [HG.out] at hrun hk7 ho7
                    have HR := Lib.hid hrun
                    have HX7 := Lib.hid (And.intro hk7 (And.intro ht7 (And.intro ho7 tz)))
                    have ko7 := ((HS.out.kon.turn ht5 (fun j c hj _ _ => HS.out.no73 hpi hj)).same tz).turn ht7 (fun j c hj _ ho hx => HS.out.kne j ho hx)
                    have HK7 := Lib.hid ko7
                    clear hrun hk7 ht7 ho7 tz kg5 ht5 hno ko7 c0 c1 c2 c3
                    go_wp2_with (at_builtin; refine wpList_append_run rfl _ _ 71 rfl _ _ _ rfl rfl HR.out ?_)
                    by_cases hcap : cap = r + 1
                    · subst hcap
                      have hcm : m ≤ (r + 1) := by
                        obtain ⟨_, _, _, _, _, hle, _⟩ := HK7.out.addr (by rw [HM.out]; omega)
                        rw [HM.out] at hle
                        exact hle
                      obtain rfl : m = r + 1 := by omega
                      have cell7 : ∀ j u, (flat4 on)[j]? = some u → w7.cell? ⟨tg, j, none⟩ = some u := by
                        obtain ⟨g', hg', _, _, _, _, _, hc⟩ := HK7.out.addr (by rw [HM.out]; omega)
                        injection hg' with hg'
                        injection hg' with hg'
                        subst hg'
                        exact hc
                      have tgl : tg < w7.heap.size := by
                        obtain ⟨g', hg', _, hlt', _⟩ := HK7.out.addr (by rw [HM.out]; omega)
                        injection hg' with hg'
                        injection hg' with hg'
                        subst hg'
                        exact hlt'
                      have tz : Turn (fun _ => False) w7 ((w7.alloc (.cells #[] 73)).drew) := ((Turn.refl _ w7).alloc _).drew
                      have lw7 : w1.heap.size ≤ w7.heap.size := Nat.le_trans HS.out.old.size (Nat.le_trans hx.out.2.2.size (Nat.le_trans HX7.out.2.2.2.size HX7.out.2.1.size))
                      have k0 : Kept w1 ((w7.alloc (.cells #[] 73)).drew) (.slice (some ⟨w7.heap.size, 0, none⟩) 0 0) [] := ⟨rfl, Or.inr ⟨w7.heap.size, 0, #[], rfl, lw7, At.new w7 _, Nat.le_refl _, Nat.zero_le _, rfl, rfl⟩⟩
                      have hTl : (on.take r).length = r := by rw [List.length_take, HM.out]; omega
                      have hDl : (on.drop (r + 1)).length = (r + 1) - (r + 1) := by rw [List.length_drop, HM.out]
                      obtain ⟨A1, cap1, w9, hrun1, hk9, ht9, ho9⟩ := k0.append ⟨tg, 0, none⟩ r (r + 1) (on.take r) hTl (fun j u hu => by
                        rw [flat4_take] at hu
                        have hj : j < r * 4 := by
                          have := (List.getElem?_eq_some_iff.1 hu).1
                          rw [List.length_take] at this
                          omega
                        rw [List.getElem?_take, if_pos hj] at hu
                        have hjc := cell_keep tz tgl (cell7 j u hu)
                        have e : (⟨tg, 0, none⟩ : Addr).add j = ⟨tg, j, none⟩ := by
                          unfold Addr.add
                          split
                          · subst j; rfl
                          · simp
                        rw [e]; exact hjc) (by simp; omega) (Nat.le_trans lw7 tz.size) 71
                      simp only [List.length_nil, Nat.zero_add, List.nil_append] at hrun1 hk9 ho9
                      have ow9 : ∀ i, (Value.slice (some ⟨w7.heap.size, 0, none⟩) 0 0).ownBlock = some i → i = w7.heap.size := fun i hi => by injection hi with hi; exact hi.symm
                      have cell9 : ∀ j u, (flat4 on)[j]? = some u → w9.cell? ⟨tg, j, none⟩ = some u := fun j u hu =>
                        (World.cell?_of_block (w := (w7.alloc (.cells #[] 73)).drew) (ht9.block tg (Nat.lt_of_lt_of_le tgl tz.size) (fun e => by have := ow9 _ e; omega))).trans (cell_keep tz tgl (cell7 j u hu))
                      obtain ⟨A2, cap2, w10, hrun2, hk10, ht10, ho10⟩ := hk9.append ⟨tg, 0, none⟩ ((r + 1) - (r + 1)) ((r + 1) - (r + 1)) (on.drop (r + 1)) hDl (fun j u hu => by
                        rw [List.drop_of_length_le (by rw [HM.out]; omega)] at hu
                        simp [flat4] at hu) (by rw [hTl]; omega) (Nat.le_trans lw7 (Nat.le_trans tz.size ht9.size)) 71
                      rw [hTl] at hrun2 hk10 ho10
                      simp only [Nat.sub_self, Nat.add_zero] at hrun2 hk10 ho10
                      have t79 : Turn (fun _ => False) w7 w9 := tz.then ht9 (fun i hi e => by have := ow9 _ e; omega)
                      have ow10 : ∀ i, (Value.slice A1 r cap1).ownBlock = some i → w7.heap.size ≤ i := fun i hi => by
                        rcases ho9 with h | h
                        · rw [h] at hi
                          have := ow9 _ hi
                          omega
                        · rw [h] at hi
                          injection hi with hi
                          have := tz.size
                          omega
                      have t710 : Turn (fun _ => False) w7 w10 := t79.then ht10 (fun i hi e => by have := ow10 _ e; omega)
                      have ow11 : ∀ i, (Value.slice A2 r cap2).ownBlock = some i → w7.heap.size ≤ i := fun i hi => by
                        rcases ho10 with h | h
                        · rw [h] at hi
                          exact ow10 _ hi
                        · rw [h] at hi
                          injection hi with hi
                          have := t79.size
                          omega
                      have HE := Lib.hid (HS.out.del HP.out (by rw [HG.out]; omega) hx.out.1 hx.out.2.1 hx.out.2.2 HX7.out.2.2.2 HX7.out.1 HX7.out.2.1 HX7.out.2.2.1 t710 hk10 ow11)
                      have HR1 : AppRun 71 71 (.slice (some ⟨w7.heap.size, 0, none⟩) 0 0) (.slice (some ⟨tg, 0, none⟩) r (r + 1)) (.slice A1 r cap1) ((w7.alloc (.cells #[] 73)).drew) w9 := ⟨hrun1⟩
                      have HR3 : AppRun 71 71 (.slice A1 r cap1) (.slice (some ⟨tg, 0, none⟩) 0 0) (.slice A2 r cap2) w9 w10 := ⟨hrun2⟩
                      have tok1 : True := trivial
                      have hlenD : Hid ((on.take r ++ on.drop (r + 1)).length = r) := by rw [List.length_append, hTl, hDl, Nat.sub_self]; exact rfl
                      have wr1 : IntKind.i64.wrap ((r : Int) + 1) = (r : Int) + 1 := IntWalk.i64_in _ (by omega)
                      have wr2 : (0 : Int) ≤ (r : Int) + 1 := by omega
                      have wr3 : ((r : Int) + 1).toNat = r + 1 := by omega
                      have wr4 : r ≤ (r + 1) := by omega
                      have wr5 : r + 1 ≤ (r + 1) := by omega
                      have wr6 : r + 1 ≤ (r + 1) := by omega
                      have wr7 : (r : Int) + 1 ≤ ((r + 1) : Int) := by omega
                      have wr8 : (r : Int) ≤ (r : Int) + 1 := by omega
                      clear cell7 cell9 tz lw7 k0 hTl hDl hrun1 hk9 ht9 ho9 ow9 hrun2 hk10 ht10 ho10 t79 ow10 t710 ow11 hx
                      go_region_law (first | (have _t := tok1; refine step_append_run (by rfl) _ _ 71 (by rfl) _ _ _ (by rfl) (by rfl) HR1 ?_; clear tok1) | (refine step_append_run (by rfl) _ _ 71 (by rfl) _ _ _ (by rfl) (by rfl) HR3 ?_))
                      all_goals
                        go_wp2_with fail
                        go_meet
                        case rel => exact ⟨A2, r, cap2, B', mg + 1, capg', _, _, _, _, _, _, by omega, by omega, rfl, rfl, hlenD.out, by simp [HG.out], HE.out⟩
                    · have hcap' : ¬ cap = r + 1 := hcap
                      have hcm : m ≤ cap := by
                        obtain ⟨_, _, _, _, _, hle, _⟩ := HK7.out.addr (by rw [HM.out]; omega)
                        rw [HM.out] at hle
                        exact hle
                      have cell7 : ∀ j u, (flat4 on)[j]? = some u → w7.cell? ⟨tg, j, none⟩ = some u := by
                        obtain ⟨g', hg', _, _, _, _, _, hc⟩ := HK7.out.addr (by rw [HM.out]; omega)
                        injection hg' with hg'
                        injection hg' with hg'
                        subst hg'
                        exact hc
                      have tgl : tg < w7.heap.size := by
                        obtain ⟨g', hg', _, hlt', _⟩ := HK7.out.addr (by rw [HM.out]; omega)
                        injection hg' with hg'
                        injection hg' with hg'
                        subst hg'
                        exact hlt'
                      have tz : Turn (fun _ => False) w7 ((w7.alloc (.cells #[] 73)).drew) := ((Turn.refl _ w7).alloc _).drew
                      have lw7 : w1.heap.size ≤ w7.heap.size := Nat.le_trans HS.out.old.size (Nat.le_trans hx.out.2.2.size (Nat.le_trans HX7.out.2.2.2.size HX7.out.2.1.size))
                      have k0 : Kept w1 ((w7.alloc (.cells #[] 73)).drew) (.slice (some ⟨w7.heap.size, 0, none⟩) 0 0) [] := ⟨rfl, Or.inr ⟨w7.heap.size, 0, #[], rfl, lw7, At.new w7 _, Nat.le_refl _, Nat.zero_le _, rfl, rfl⟩⟩
                      have hTl : (on.take r).length = r := by rw [List.length_take, HM.out]; omega
                      have hDl : (on.drop (r + 1)).length = m - (r + 1) := by rw [List.length_drop, HM.out]
                      obtain ⟨A1, cap1, w9, hrun1, hk9, ht9, ho9⟩ := k0.append ⟨tg, 0, none⟩ r cap (on.take r) hTl (fun j u hu => by
                        rw [flat4_take] at hu
                        have hj : j < r * 4 := by
                          have := (List.getElem?_eq_some_iff.1 hu).1
                          rw [List.length_take] at this
                          omega
                        rw [List.getElem?_take, if_pos hj] at hu
                        have hjc := cell_keep tz tgl (cell7 j u hu)
                        have e : (⟨tg, 0, none⟩ : Addr).add j = ⟨tg, j, none⟩ := by
                          unfold Addr.add
                          split
                          · subst j; rfl
                          · simp
                        rw [e]; exact hjc) (by simp; omega) (Nat.le_trans lw7 tz.size) 71
                      simp only [List.length_nil, Nat.zero_add, List.nil_append] at hrun1 hk9 ho9
                      have ow9 : ∀ i, (Value.slice (some ⟨w7.heap.size, 0, none⟩) 0 0).ownBlock = some i → i = w7.heap.size := fun i hi => by injection hi with hi; exact hi.symm
                      have cell9 : ∀ j u, (flat4 on)[j]? = some u → w9.cell? ⟨tg, j, none⟩ = some u := fun j u hu =>
                        (World.cell?_of_block (w := (w7.alloc (.cells #[] 73)).drew) (ht9.block tg (Nat.lt_of_lt_of_le tgl tz.size) (fun e => by have := ow9 _ e; omega))).trans (cell_keep tz tgl (cell7 j u hu))
                      obtain ⟨A2, cap2, w10, hrun2, hk10, ht10, ho10⟩ := hk9.append ⟨tg, (r + 1) * 4, none⟩ (m - (r + 1)) (cap - (r + 1)) (on.drop (r + 1)) hDl (fun j u hu => by
                        rw [flat4_drop, List.getElem?_drop] at hu
                        have hj := cell9 _ _ hu
                        unfold Addr.add
                        split
                        · subst j; exact hj
                        · exact hj) (by rw [hTl]; omega) (Nat.le_trans lw7 (Nat.le_trans tz.size ht9.size)) 71
                      rw [hTl] at hrun2 hk10 ho10
                      have t79 : Turn (fun _ => False) w7 w9 := tz.then ht9 (fun i hi e => by have := ow9 _ e; omega)
                      have ow10 : ∀ i, (Value.slice A1 r cap1).ownBlock = some i → w7.heap.size ≤ i := fun i hi => by
                        rcases ho9 with h | h
                        · rw [h] at hi
                          have := ow9 _ hi
                          omega
                        · rw [h] at hi
                          injection hi with hi
                          have := tz.size
                          omega
                      have t710 : Turn (fun _ => False) w7 w10 := t79.then ht10 (fun i hi e => by have := ow10 _ e; omega)
                      have ow11 : ∀ i, (Value.slice A2 (r + (m - (r + 1))) cap2).ownBlock = some i → w7.heap.size ≤ i := fun i hi => by
                        rcases ho10 with h | h
                        · rw [h] at hi
                          exact ow10 _ hi
                        · rw [h] at hi
                          injection hi with hi
                          have := t79.size
                          omega
                      have HE := Lib.hid (HS.out.del HP.out (by rw [HG.out]; omega) hx.out.1 hx.out.2.1 hx.out.2.2 HX7.out.2.2.2 HX7.out.1 HX7.out.2.1 HX7.out.2.2.1 t710 hk10 ow11)
                      have HR1 : AppRun 71 71 (.slice (some ⟨w7.heap.size, 0, none⟩) 0 0) (.slice (some ⟨tg, 0, none⟩) r cap) (.slice A1 r cap1) ((w7.alloc (.cells #[] 73)).drew) w9 := ⟨hrun1⟩
                      have HR2 : AppRun 71 71 (.slice A1 r cap1) (.slice (some ⟨tg, (r + 1) * 4, none⟩) (m - (r + 1)) (cap - (r + 1))) (.slice A2 (r + (m - (r + 1))) cap2) w9 w10 := ⟨hrun2⟩
                      have tok1 : True := trivial
                      have hlenD : Hid ((on.take r ++ on.drop (r + 1)).length = r + (m - (r + 1))) := by rw [List.length_append, hTl, hDl]; exact rfl
                      have wr1 : IntKind.i64.wrap ((r : Int) + 1) = (r : Int) + 1 := IntWalk.i64_in _ (by omega)
                      have wr2 : (0 : Int) ≤ (r : Int) + 1 := by omega
                      have wr3 : ((r : Int) + 1).toNat = r + 1 := by omega
                      have wr4 : r ≤ cap := by omega
                      have wr5 : r + 1 ≤ cap := by omega
                      have wr6 : r + 1 ≤ m := by omega
                      have wr7 : (r : Int) + 1 ≤ (m : Int) := by omega
                      have wr8 : (r : Int) ≤ (r : Int) + 1 := by omega
                      clear cell7 cell9 tz lw7 k0 hTl hDl hrun1 hk9 ht9 ho9 ow9 hrun2 hk10 ht10 ho10 t79 ow10 t710 ow11 hx
                      go_region_law (first | (have _t := tok1; refine step_append_run (by rfl) _ _ 71 (by rfl) _ _ _ (by rfl) (by rfl) HR1 ?_; clear tok1) | (refine step_append_run (by rfl) _ _ 71 (by rfl) _ _ _ (by rfl) (by rfl) HR2 ?_))
                      all_goals
                        go_wp2_with fail
                        go_meet
                        case rel => exact ⟨A2, r + (m - (r + 1)), cap2, B', mg + 1, capg', _, _, _, _, _, _, by omega, by omega, rfl, rfl, hlenD.out, by simp [HG.out], HE.out⟩
                · have hdead : ∀ v, MM kk ps ≠ some (pg, v) := fun v e => by
                    have h1 := std.inv.other hpi hpM
                    rw [show 1 - pi = kk by omega, e] at h1
                    cases h1
                  have RL := Lib.hid (relS_dead (std.ar kk hk2) ps pg (by omega) hdead)
                  have eqk : ((pi : Int) == (kk : Int)) = false := by simp; omega
                  clear hpM hdead td std tat
                  go_upto_region 32 with (fail)
                  go_cut [18, 132] from 40 to 181 (fun s18 c wx => s18 = .int .i64 (r : Int) ∧ c = .bool false ∧ Hid (Turn (fun _ => False) wo wx))
                  case first =>
                    go_region_with (go_at_call 17; refine RL.out.mono ?_; rintro e w5 ⟨rfl, ht5⟩; have z2 : w5.cell? ⟨tg, r * 4 + 2, none⟩ = some (.int .i64 (pi : Int)) := (World.cell?_of_block (w := wo) (ht5.block tg g2 (fun h => h))).trans c2; have HX := Lib.hid ht5; clear ht5)
                    all_goals
                      go_wp2_with fail
                      go_meet
                      case rel => exact ⟨rfl, rfl, ((Turn.refl _ wo).drew).trans HX.out⟩
                  case rest =>
                    obtain ⟨rfl, rfl, hx⟩ := hcut
                    have e2 := cell_keep hx.out g2 c2
                    have l5 := Nat.lt_of_lt_of_le g2 hx.out.size
                    have HE := Lib.hid (HS.out.same hx.out)
                    clear hx
                    go_wp2_with fail
                    go_meet
                    case rel => exact ⟨_, m, cap, B, mg, capg, G, fr, MM, nn, on, gone, by omega, by omega, rfl, rfl, HM.out, HG.out, HE.out⟩
          case rest =>
            clear HS HM HG d0 d1 d2 d5 hm hmg
            obtain ⟨A, m, cap, B, mg, capg, G, fr, MM, nn, on, gone, hm, hmg, rfl, rfl, hml, hmgl, hst⟩ := hcut
            have ST := Lib.hid (stands_any (Lib.hid hst) (Lib.hid hml) (Lib.hid hmgl) hn2 (by omega) (by omega))
            have HS := Lib.hid hst
            have HM := Lib.hid hml
            have HG := Lib.hid hmgl
            clear hst hml hmgl
            go_wp2_with fail
            refine ST.out.mono ?_
            rintro e w5 ⟨rfl, ht5⟩
            have st5 := HS.out.same ht5
            obtain ⟨q, hq⟩ : ∃ q, cnt fr n = q := ⟨_, rfl⟩
            have hall := st5.inv.all
            have hsum := st5.inv.sum
            rw [hq, HM.out] at hall
            rw [HM.out] at hsum
            have FR := free_any st5.pool
            rw [st5.inv.glen, hq] at FR
            have FRH := Lib.hid FR
            have LA := Lib.hid (liveS (st5.ar 0 (by omega)))
            have LC := Lib.hid (liveS (st5.ar 1 (by omega)))
            have HS5 := Lib.hid st5
            have t1 : ((q : Int) != (n : Int) - (m : Int)) = false := by simp; omega
            have t2 : ((nn 0 : Int) + (nn 1 : Int) != (m : Int)) = false := by simp; omega
            have bn0 : nn 0 ≤ 64 := by have := st5.inv.le 0 (by omega); omega
            have bn1 : nn 1 ≤ 64 := by have := st5.inv.le 1 (by omega); omega
            have bq : q ≤ n := by omega
            clear hq hall hsum FR st5 ht5 ST
            go_wp2_with fail
            refine FRH.out.mono ?_
            rintro e w6 ⟨rfl, rfl⟩
            go_wp2_with fail
            refine LA.out.mono ?_
            rintro e w7 ⟨rfl, rfl⟩
            go_wp2_with fail
            refine LC.out.mono ?_
            rintro e w8 ⟨rfl, rfl⟩
            go_wp2_with fail
            go_roundw
            case rel => exact ⟨k + 1, by omega, by go_num, A, m, cap, B, mg, capg, G, fr, MM, nn, on, gone, hm, hmg, rfl, rfl, HM.out, HG.out, HS5.out⟩
            case measure => simp [intOf]; omega
      · have b1 : ¬ (k : Int) < (len : Int) := by omega
        have GZ := Lib.hid (getS_dead (HS.out.ar 0 (by omega)) 0 0 (by omega) (fun v e => by
          have h1 := HS.out.inv.gen 0 (by omega) 0 _ _ e
          have h2 := HS.out.inv.gens 0 h1.1
          omega))
        go_wp2_with fail
        refine GZ.out.mono ?_
        rintro e w5 ⟨rfl, ht5⟩
        have H5 := Lib.hid ht5
        clear ht5
        go_wp2_with fail
        go_ret
        exact ⟨rfl, ((H1.out.trans HS.out.old).trans H5.out).below (Nat.le_refl _) (fun _ _ h => h)⟩
end Go.Proofs.YtbdfbgkfhaiccaaDoor
