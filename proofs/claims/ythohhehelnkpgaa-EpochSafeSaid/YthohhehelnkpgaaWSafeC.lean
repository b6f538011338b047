/-
  EpochSafe, walked.
-/
import Derived.Test.YthohhehelnkpgaaAnd7
import Derived.Deep.CutBlock
namespace Go.Proofs.Ythohhehelnkpgaa
open Go.RowKit Go.Maps Go.IntWalk Go.Lib
set_option linter.unusedVariables false

theorem SaI.start {w wr : World} {Z eb ob wb rb pb : Nat} (he : Ep Z wr eb Ab.start) (hp : At wr pb (.cells (row8 fun _ => false).toArray 43 (0, 0))) (ho : At wr ob (.cells #[.bool false] 4 (0, 0))) (hw : At wr wb (.cells #[.slice none 0 0] 44 (0, 0))) (hr : At wr rb (.cells #[.slice none 0 0] 27 (0, 0)))
    (hz : Z ≤ pb ∧ Z ≤ ob ∧ Z ≤ wb ∧ Z ≤ rb) (ht : Tn SbT Z w wr) : SaI w wr Z eb ob wb rb pb Ab.start 0 :=
  ⟨he, rfl, (fun q hq => by cases hq), Nat.le_refl _, Nat.le_refl _, hp, hz.1, ⟨_, _, ho, hw, hr, ⟨rfl, Or.inl ⟨rfl, rfl⟩⟩, ⟨rfl, Or.inl ⟨rfl, rfl⟩⟩, (by intro e; cases e), (fun i f h => by simp [Ab.start] at h), hz.2⟩, ht⟩

theorem wpList_append_hid {w w' : World} {ops : Array Oper} {rest : List Oper} {o : Oper} {a : Act} {Q : Exit → Act → World → Prop} (hgd : o.guard = none) (s x : Operand) (t : TypeId)
    (ho : o.op = .call { callee := .builtin .append, args := #[s, x], argTypes := #[t, t] }) (vs vx r : Value) (hs : a.eval s = vs) (hx : a.eval x = vx) (hrun : AppRun t o.type vs vx r w w')
    (h : wpList Try.prog ops Q rest (a.put o.dst r) w') : wpList Try.prog ops Q (o :: rest) a w := wpList_append_run hgd s x t ho vs vx r hs hx hrun.out h

section
variable {w wr wr' : World} {Z eb ob wb rb pb k : Nat} {b : Nat → Nat → Bool} {E E' : Ab}
theorem SaI.of_pin {n : Nat} (h : SaS w wr Z eb ob wb rb pb (onw E) E.len (rn E) E.fs (fun i => if i = n then true else onb8 E i) (E.pin (n : Int)) k) (hw : E.wf) : SaI w wr Z eb ob wb rb pb (E.pin (n : Int)) k := by
  obtain ⟨p1, p2, p3, p4⟩ := pin_keeps E (n : Int)
  unfold SaI
  rw [p1, p3, rn_same p3 p4]
  refine h.congr (fun m hm i hi => (onw_pin hw _ m i hm).symm) (fun i hi => ?_)
  unfold onb8
  rw [look_pin hw]
  by_cases hc : i = n
  · subst hc
    rw [if_pos rfl]
    cases hl : look E.P (i : Int) <;> simp
  · rw [if_neg hc, if_neg (by omega)]
theorem SaI.of_unpin {n : Nat} (h : SaS w wr Z eb ob wb rb pb b E.len (rn E) E.fs (fun i => if i = n then false else onb8 E i) (E.unpin (n : Int)) k) (hw : E.wf) (hb : ∀ m, m < E.len → ∀ i, i < 8 → b m i = if i = n then false else onw E m i) : SaI w wr Z eb ob wb rb pb (E.unpin (n : Int)) k := by
  unfold SaI
  refine h.congr (fun m hm i hi => ?_) (fun i hi => ?_)
  · rw [hb m hm i hi, onw_unpin hw]
  · unfold onb8
    rw [show (E.unpin (n : Int)).P = del1 E.P (n : Int) from rfl, look_del hw.up]
    by_cases hc : i = n
    · subst hc; simp
    · rw [if_neg hc, if_neg (by omega)]
theorem SaI.retire {nb : Nat} (h : SaS w wr Z eb ob wb rb pb (onw E) (E.len + 1) (rn E ++ [0]) (E.fs ++ [FS ob wb nb rb]) (onb8 E) E k) (he : Ep Z wr' eb (E.retire (FS ob wb nb rb))) (ht : Tn Eo Z wr wr') (hk : E.len ≤ k) : SaI w wr' Z eb ob wb rb pb (E.retire (FS ob wb nb rb)) (k + 1) := by
  have hl : (E.retire (FS ob wb nb rb)).len = E.len + 1 := by simp [Ab.len, Ab.retire]; omega
  have := h.step (E' := E.retire (FS ob wb nb rb)) he ht h.coll h.eight (by have := h.few; show E.P.length ≤ _; omega) (by omega) rfl
  unfold SaI
  rw [hl, rn_retire]
  exact this
theorem SaI.adv {r : Nat} (h : SaI w wr Z eb ob wb rb pb E k) (hr : r ≤ E.fs.length) (hl : SafL Z ob wb rb pb (E.adv r) wr') (he : Ep Z wr' eb (E.adv r)) (ht : Tn SaT Z wr wr') : SaI w wr' Z eb ob wb rb pb (E.adv r) (k + 1) := by
  have hn : ¬ SaT 43 := by rintro ((h | h) | h | h) <;> cases h
  have hlen : (E.adv r).len = E.len := by simp [Ab.len, Ab.adv]; omega
  refine ⟨he, h.coll, h.eight, by have := h.few; show E.P.length ≤ _; omega, by rw [hlen]; have := h.len; omega, h.pins.keep ht hn, h.zpb, hl, h.tn.trans (ht.mono fun t h => Or.inl h)⟩
end

set_option maxRecDepth 100000 in
set_option maxHeartbeats 8000000 in
theorem safe_any (len cap : Nat) (A0 : Option Addr) (w : World) (ha : Acts w A0 len ∧ len ≤ maxLen) :
    Calls Try.prog 5 #[.slice A0 len cap] w fun e w' => e = .returned (.bool true) ∧ Below w.heap.size w w' := by
  have hlm := ha.2
  unfold maxLen at hlm
  have hmf : ∀ (fn : Fn) (first cap : Array Value) (w : World), (Instr.makeFunc fn first cap).run Try.prog w = .ok (.func fn first cap) w := fun _ _ _ _ => rfl
  have AW := Lib.hid (awake_any w)
  have HR := Lib.hid ha.1
  clear ha
  by_cases hlen : 200 < len
  · have g : decide ((200 : Int) < (len : Int)) = true := by simp; omega
    go_enter Try.func5, Try.ntmps5
    go_wp2_with fail
    refine AW.out.mono ?_
    rintro e w1 ⟨rfl, ht1⟩
    have H1 := Lib.hid ht1
    clear ht1
    go_wp2_with fail
    go_ret
    exact ⟨rfl, H1.out.below (Nat.le_refl _) (fun _ _ h => h)⟩
  · have g : decide ((200 : Int) < (len : Int)) = false := by simp; omega
    go_enter Try.func5, Try.ntmps5
    go_wp2_with fail
    refine AW.out.mono ?_
    rintro e w1 ⟨rfl, ht1⟩
    have NW := Lib.hid (new_any (Z := w1.heap.size) w1 (Nat.le_refl _))
    have H1 := Lib.hid ht1
    clear ht1 AW
    go_wp2_with fail
    refine NW.out.mono ?_
    rintro e w2 ⟨rfl, he, ht2⟩
    generalize hZ : w1.heap.size = Z at he
    have hs2 : Z ≤ w2.heap.size := by rw [← hZ]; exact ht2.size
    have HS : Hid (SaI w1 ((((w2.alloc (.cells #[.bool false, .bool false, .bool false, .bool false, .bool false, .bool false, .bool false, .bool false] 43)).alloc (.cells #[.slice none 0 0] 44)).alloc (.cells #[.slice none 0 0] 27)).alloc (.cells #[.bool false] 4)) Z Z (w2.heap.size + 1 + 1 + 1) (w2.heap.size + 1) (w2.heap.size + 1 + 1) w2.heap.size Ab.start 0) := by
      have a1 := At.new w2 (.cells #[.bool false, .bool false, .bool false, .bool false, .bool false, .bool false, .bool false, .bool false] 43)
      have s1 : (w2.alloc (.cells #[.bool false, .bool false, .bool false, .bool false, .bool false, .bool false, .bool false, .bool false] 43)).heap.size = w2.heap.size + 1 := by simp
      have t1 := (Turn.refl (fun _ => False) w2).alloc (.cells #[.bool false, .bool false, .bool false, .bool false, .bool false, .bool false, .bool false, .bool false] 43)
      generalize w2.alloc (.cells #[.bool false, .bool false, .bool false, .bool false, .bool false, .bool false, .bool false, .bool false] 43) = x1 at a1 s1 t1 ⊢
      have a2 := At.new x1 (.cells #[.slice none 0 0] 44)
      have s2 : (x1.alloc (.cells #[.slice none 0 0] 44)).heap.size = w2.heap.size + 1 + 1 := by simp [s1]
      have t2 := (Turn.refl (fun _ => False) x1).alloc (.cells #[.slice none 0 0] 44)
      rw [s1] at a2
      generalize x1.alloc (.cells #[.slice none 0 0] 44) = x2 at a2 s2 t2 ⊢
      have a3 := At.new x2 (.cells #[.slice none 0 0] 27)
      have s3 : (x2.alloc (.cells #[.slice none 0 0] 27)).heap.size = w2.heap.size + 1 + 1 + 1 := by simp [s2]
      have t3 := (Turn.refl (fun _ => False) x2).alloc (.cells #[.slice none 0 0] 27)
      rw [s2] at a3
      generalize x2.alloc (.cells #[.slice none 0 0] 27) = x3 at a3 s3 t3 ⊢
      have a4 := At.new x3 (.cells #[.bool false] 4)
      have t4 := (Turn.refl (fun _ => False) x3).alloc (.cells #[.bool false] 4)
      rw [s3] at a4
      exact Lib.hid (SaI.start (he.same (((t1.trans t2).trans t3).trans t4)) (a1.turn ((t2.trans t3).trans t4) (fun h => h)) a4 (a2.turn (t3.trans t4) (fun h => h)) (a3.turn t4 (fun h => h)) (by omega) (Tn.of_same (ht2.trans (((t1.trans t2).trans t3).trans t4))))
    replace hZ := Lib.hid hZ
    clear he ht2 hs2 NW
    go_wp2_with fail
    generalize (((w2.alloc (.cells #[.bool false, .bool false, .bool false, .bool false, .bool false, .bool false, .bool false, .bool false] 43)).alloc (.cells #[.slice none 0 0] 44)).alloc (.cells #[.slice none 0 0] 27)).alloc (.cells #[.bool false] 4) = w3 at HS ⊢
    generalize w2.heap.size + 1 + 1 + 1 = ob at HS ⊢
    generalize w2.heap.size + 1 + 1 = rb at HS ⊢
    generalize w2.heap.size + 1 = wb at HS ⊢
    generalize w2.heap.size = pb at HS ⊢
    go_loopw [8] (fun i wr => ∃ (k : Nat) (E : Ab), k ≤ len ∧ i = .int .i64 (k : Int) ∧ Hid (SaI w1 wr Z Z ob wb rb pb E k)) (fun i _ => len - (intOf i).toNat)
    case atStart => exact ⟨0, _, Nat.zero_le _, rfl, HS⟩
    case round =>
      obtain ⟨k, E, hk, rfl, hst⟩ := hrel
      clear HS
      by_cases hlt : k < len
      · have hkl : (k : Int) < (len : Int) := by omega
        obtain ⟨lb, lo, hA, hb, d, a, bb, hab, d0, d1, d2⟩ := (HR.out.turn H1.out (fun _ _ h => h)) k hlt
        subst hA
        have old : ∀ v, w1.cell? v = wr.cell? v ∨ True := fun _ => Or.inr trivial
        have hbk := hst.out.tn.block lb hb (fun h => by have := h.1; have := hZ.out; omega)
        have hd0 : wr.cell? ⟨lb, lo + k * 3, none⟩ = some (.int .i64 d) := (World.cell?_of_block (w := w1) hbk).trans d0
        have hd1 : wr.cell? ⟨lb, lo + k * 3 + 1, none⟩ = some (.int .i64 a) := (World.cell?_of_block (w := w1) hbk).trans d1
        clear d0 d1 d2 old hbk
        go_upto_block 2 with (fail)
        obtain ⟨n, hn, h7⟩ := and7 a
        rw [h7]
        clear h7 hd0 hd1
        have n0 : (0 : Int) ≤ (n : Int) := by omega
        have n8 : (n : Int) < 8 := by omega
        have few : E.P.length < 100000 := by have := hst.out.few; omega
        have shrt : E.len < 100000 := by have := hst.out.len; omega
        have k200 : k ≤ 200 := by omega
        go_cut [2] from 39 to 100 (fun s wx => ∃ (wq : World) (E' : Ab), wq = wx ∧ Hid (SaI w1 wq Z Z ob wb rb pb E' (k + 1)))
        case first =>
          rcases Classical.em (d = 0) with rfl | k0
          · have hp := hst.out.pin8 n hn
            have ltp := hst.out.pins.lt
            have hwf := Lib.hid hst.out.wf
            have CA : Hid (∀ W, Turn (fun _ => False) wr W → Calls Try.prog 12 #[.pointer (some ⟨Z, 0, none⟩), .int .i64 (n : Int)] W fun e w' => e = .returned (.bool (!onb8 E n)) ∧ SaS w1 w' Z Z ob wb rb pb (onw E) E.len (rn E) E.fs (onb8 E) (E.pin (n : Int)) (k + 1)) :=
              Lib.hid fun W hW => (pin_any (hst.out.same hW).ep (by omega) (by omega) few).mono fun e w' ⟨h, he, ht⟩ => ⟨h, (hst.out.same hW).pin hn he ht⟩
            cases hb : onb8 E n
            all_goals
              rw [hb] at CA hp
              have hb2 := Lib.hid hb
              clear hb
            all_goals
              clear hst
              go_wp2_with fail
              go_region_with (go_at_call 12; refine (CA.out _ ((Turn.refl _ _).drewN _)).mono ?_; rintro e wy ⟨rfl, hy⟩; have cony := hy.pin8 n hn; rw [hb2.out] at cony; have zy := hy.pins.thawed n; have ly := hy.pins.lt; replace hy := Lib.hid hy)
              all_goals
                go_wp2_with fail
                go_meet
                case rel => exact ⟨_, _, rfl, SaI.of_pin (hy.out.put hn true) hwf.out⟩
          rcases Classical.em (d = 1) with rfl | k1
          · have hp := hst.out.pin8 n hn
            have ltp := hst.out.pins.lt
            have hwf := Lib.hid hst.out.wf
            have CA : Hid (∀ W, Turn (fun _ => False) wr W → Calls Try.prog 15 #[.pointer (some ⟨Z, 0, none⟩), .int .i64 (n : Int)] W fun e w' => e = .returned (.bool (onb8 E n)) ∧ SaS w1 w' Z Z ob wb rb pb (onw E) E.len (rn E) E.fs (onb8 E) (E.unpin (n : Int)) (k + 1)) :=
              Lib.hid fun W hW => (unpin_any (hst.out.same hW).ep (by omega) (by omega)).mono fun e w' ⟨h, he, ht⟩ => ⟨h, (hst.out.same hW).unpin he ht⟩
            cases hb : onb8 E n
            all_goals
              rw [hb] at CA hp
              have hb2 := Lib.hid hb
              clear hb
            all_goals
              clear hst
              go_wp2_with fail
              go_region_with (go_at_call 15; refine (CA.out _ ((Turn.refl _ _).drewN _)).mono ?_; rintro e wy ⟨rfl, hy⟩; have cony := hy.pin8 n hn; rw [hb2.out] at cony; have zy := hy.pins.thawed n; have ly := hy.pins.lt; replace hy := Lib.hid hy)
              all_goals
                go_wp2_with fail
                have hs0 := Lib.hid (hy.out.put hn false)
                clear zy ly cony
                generalize wy.setCell ⟨pb, n, none⟩ (.bool false) = wu at hs0 ⊢
                go_loopw [10] (fun mv wz => ∃ m : Nat, m ≤ E.len ∧ mv = .int .i64 (m : Int) ∧ Hid (SaS w1 wz Z Z ob wb rb pb (fun m' i => if m' < m ∧ i = n then false else onw E m' i) E.len (rn E) E.fs (fun i => if i = n then false else onb8 E i) (E.unpin (n : Int)) (k + 1))) (fun mv _ => E.len - (intOf mv).toNat)
                case atStart => exact ⟨0, Nat.zero_le _, rfl, hs0.out.congr (fun m' hm i hi => by rw [if_neg (by omega)]) (fun _ _ => rfl)⟩
                case round =>
                  obtain ⟨m, hm, rfl, hsm⟩ := hrel
                  clear hs0
                  by_cases hml : m < E.len
                  · have b1 : (m : Int) < (E.len : Int) := by omega
                    obtain ⟨gg, cpp, r1, r2, r3, r4, r5, hput⟩ := hsm.out.rowput hml hn
                    have hnx := Lib.hid (hput false)
                    clear hput
                    have m0 : (0 : Int) ≤ (m : Int) := by omega
                    go_wp2_with fail
                    go_roundw
                    case rel => exact ⟨m + 1, by omega, by go_num, hnx.out.congr (fun m' hm' i hi => by
                      unfold upd8
                      show (if m' = m ∧ i = n then false else if m' < m ∧ i = n then false else onw E m' i) = if m' < m + 1 ∧ i = n then false else onw E m' i
                      by_cases e1 : m' = m ∧ i = n
                      · rw [if_pos e1, if_pos (by omega)]
                      · rw [if_neg e1]
                        by_cases e2 : m' < m ∧ i = n
                        · rw [if_pos e2, if_pos (by omega)]
                        · rw [if_neg e2, if_neg (by omega)]) (fun _ _ => rfl)⟩
                    case measure => simp [intOf]; omega
                  · have b1 : ¬ (m : Int) < (E.len : Int) := by omega
                    obtain rfl : m = E.len := by omega
                    obtain ⟨AA, cpp, r1⟩ := hsm.out.rowsAt
                    go_wp2_with fail
                    go_meet
                    case rel => exact ⟨_, _, rfl, SaI.of_unpin hsm.out hwf.out (fun m hm i hi => by
                      by_cases e : i = n
                      · rw [if_pos ⟨hm, e⟩, if_pos e]
                      · rw [if_neg (fun h => e h.2), if_neg e])⟩
          rcases Classical.em (d = 2) with rfl | k2
          · have hwf := Lib.hid hst.out.wf
            have hkl2 := hst.out.len
            obtain ⟨AA, cpp, hcw⟩ := hst.out.rowsAt
            have q0 := hst.out.pin8 0 (by omega)
            have q1 := hst.out.pin8 1 (by omega)
            have q2 := hst.out.pin8 2 (by omega)
            have q3 := hst.out.pin8 3 (by omega)
            have q4 := hst.out.pin8 4 (by omega)
            have q5 := hst.out.pin8 5 (by omega)
            have q6 := hst.out.pin8 6 (by omega)
            have q7 := hst.out.pin8 7 (by omega)
            have ltp := hst.out.pins.lt
            have ltw : wb < wr.heap.size := by
              obtain ⟨wv, rv, hr⟩ := hst.out.raw
              exact hr.w_.lt
            have f1 := hst.out.fresh rfl
            have ta := (Turn.refl (fun _ => False) (wr.alloc (.cells #[.int .i64 (E.len : Int)] 3))).alloc (.cells (row8 (onb8 E)).toArray 43)
            have ga := At.new (wr.alloc (.cells #[.int .i64 (E.len : Int)] 3)) (.cells (row8 (onb8 E)).toArray 43)
            have sz1 : (wr.alloc (.cells #[.int .i64 (E.len : Int)] 3)).heap.size = wr.heap.size + 1 := by simp
            rw [sz1] at ga
            obtain ⟨wv, A4, cap4, w3a, g1, g2, g3, g4, g5, g6⟩ := (f1.same ta).grow ga (fun i _ => onw_len hst.out.wf i) (by omega)
            obtain ⟨y4, g4⟩ := Option.isSome_iff_exists.1 g4
            have hwv : wv = .slice AA E.len cpp := by
              have : ((wr.alloc (.cells #[.int .i64 (E.len : Int)] 3)).alloc (.cells (row8 (onb8 E)).toArray 43)).cell? ⟨wb, 0, none⟩ = some (.slice AA E.len cpp) := by
                rw [← hcw]
                exact World.cell?_of_block (w := wr) ((((Turn.refl (fun _ => False) wr).alloc _).trans ta).block wb ltw (fun h => h))
              rw [g1] at this
              exact Option.some.inj this
            subst hwv
            have HR1 : AppRun 44 44 (.slice AA E.len cpp) (.slice (some ⟨wr.heap.size + 1, 0, none⟩) 1 1) (.slice A4 (E.len + 1) cap4) ((wr.alloc (.cells #[.int .i64 (E.len : Int)] 3)).alloc (.cells #[.bool (onb8 E 0), .bool (onb8 E 1), .bool (onb8 E 2), .bool (onb8 E 3), .bool (onb8 E 4), .bool (onb8 E 5), .bool (onb8 E 6), .bool (onb8 E 7)] 43)) w3a := ⟨g2⟩
            generalize hw4 : w3a.setCell ⟨wb, 0, none⟩ (.slice A4 (E.len + 1) cap4) = w4 at g6
            have tb := (Turn.refl (fun _ => False) w4).alloc (.cells #[.int .i64 0] 3)
            obtain ⟨rv, A6, cap6, w6, k1, k2, k3, k4, k6⟩ := (g6.same tb).count (At.new w4 _) (by rw [rn_len]; omega)
            obtain ⟨y6, k4⟩ := Option.isSome_iff_exists.1 k4
            have ltr : rb < w4.heap.size := by
              obtain ⟨wv, rv, hr⟩ := g6.raw
              exact hr.r.lt
            have k0 : w4.cell? ⟨rb, 0, none⟩ = some rv := by
              rw [← k1]
              exact (World.cell?_of_block (w := w4) (tb.block rb ltr (fun h => h))).symm
            have HR2 : AppRun 27 27 rv (.slice (some ⟨w4.heap.size, 0, none⟩) 1 1) (.slice A6 ((rn E).length + 1) cap6) (w4.alloc (.cells #[.int .i64 0] 3)) w6 := ⟨k2⟩
            have CR : Hid (Calls Try.prog 13 #[.pointer (some ⟨Z, 0, none⟩), .func (.func 24) #[] #[.pointer (some ⟨ob, 0, none⟩), .pointer (some ⟨wb, 0, none⟩), .pointer (some ⟨wr.heap.size, 0, none⟩), .pointer (some ⟨rb, 0, none⟩)]] (w6.setCell ⟨rb, 0, none⟩ (.slice A6 ((rn E).length + 1) cap6)) fun e w' => e = .returned (.bool true) ∧ SaI w1 w' Z Z ob wb rb pb (E.retire (FS ob wb wr.heap.size rb)) (k + 1)) :=
              Lib.hid ((retire_any k6.ep shrt).mono fun e w' ⟨h, he, ht⟩ => ⟨h, SaI.retire k6 he ht hkl2⟩)
            clear f1 ta ga g1 g2 g5 g6 tb k1 k2 k6 hst sz1
            go_wp2_with (first | (at_builtin; refine wpList_append_hid rfl _ _ 44 rfl _ _ _ rfl rfl HR1 ?_) | (at_builtin; refine wpList_append_hid rfl _ _ 27 rfl _ _ _ rfl rfl HR2 ?_))
            refine CR.out.mono ?_
            rintro e wy ⟨rfl, hy⟩
            replace hy := Lib.hid hy
            clear CR hw4 HR1 HR2
            go_wp2_with fail
            go_meet
            case rel => exact ⟨_, _, rfl, hy⟩
          rcases Classical.em (d = 3) with rfl | k3
          · have WT : Hid (Calls Try.prog 16 #[.pointer (some ⟨Z, 0, none⟩)] wr fun e w' => e = .returned (.int .i64 (E.fs.length : Int)) ∧ w' = wr) := Lib.hid (waiting_any hst.out.ep)
            obtain ⟨r, hr⟩ : ∃ r, r = runs E.fs.length E := ⟨_, rfl⟩
            have hrl := runs_le E.fs.length E
            rw [← hr] at hrl
            have CO : Hid (Calls Try.prog 14 #[.pointer (some ⟨Z, 0, none⟩)] wr fun e w' => e = .returned (.int .i64 (r : Int)) ∧ SaI w1 w' Z Z ob wb rb pb (E.adv r) (k + 1)) := by
              rw [hr]
              exact Lib.hid ((collect_plain (safe_plain Z Z ob wb rb pb) hst.out.ep hst.out.coll hst.out.raw).mono fun e w' ⟨h, hl, he, ht⟩ => ⟨h, SaI.adv hst.out (runs_le _ _) hl he ht⟩)
            obtain ⟨sL, hsL⟩ : ∃ sL, E.fs.length = r + sL := ⟨E.fs.length - r, by omega⟩
            have hlen3 : E.fs.length ≤ 100000 := by have : E.gone + E.fs.length < 100000 := shrt; omega
            have hdl : Hid ((E.adv r).fs.length = sL) := Lib.hid (by show (E.fs.drop r).length = sL; rw [List.length_drop]; omega)
            rw [hsL] at WT hlen3
            clear hst hr hrl hsL
            go_wp2_with fail
            refine WT.out.mono ?_
            rintro e wy ⟨rfl, hq⟩
            have hq := hq.symm
            subst hq
            go_wp2_with fail
            refine CO.out.mono ?_
            rintro e wy ⟨rfl, hy⟩
            replace hy := Lib.hid hy
            clear CO WT
            have WT : Hid (Calls Try.prog 16 #[.pointer (some ⟨Z, 0, none⟩)] wy fun e w' => e = .returned (.int .i64 (sL : Int)) ∧ w' = wy) := by
              have := waiting_any hy.out.ep
              rw [hdl.out] at this
              exact Lib.hid this
            go_wp2_with fail
            refine WT.out.mono ?_
            rintro e wz ⟨rfl, hq⟩
            have hq := hq.symm
            subst hq
            clear WT
            have hsub : ((r + sL : Nat) : Int) - (sL : Int) = (r : Int) := by omega
            go_wp2_with fail
            go_meet
            case rel => exact ⟨_, _, rfl, hy⟩
          have j0 : (d == 0) = false := by simpa using k0
          have j1 : (d == 1) = false := by simpa using k1
          have j2 : (d == 2) = false := by simpa using k2
          have j3 : (d == 3) = false := by simpa using k3
          have hy := Lib.hid (hst.out.more)
          clear k0 k1 k2 k3
          go_wp2_with fail
          go_meet
          case rel => exact ⟨_, _, rfl, hy⟩
        case rest =>
        obtain ⟨wx, E', hwx, hy⟩ := hcut
        subst hwx
        clear hst few shrt
        have co : wx.cell? ⟨ob, 0, none⟩ = some (.bool false) := by
          obtain ⟨wv, rv, hr⟩ := hy.out.raw
          simpa using hr.o.cell 0
        go_wp2_with fail
        go_roundw
        case rel => exact ⟨k + 1, E', by omega, by go_num, hy⟩
        case measure => simp [intOf]; omega
      · have hkl : ¬ (k : Int) < (len : Int) := by omega
        have hsm : E.len ≤ 200 := by have := hst.out.len; omega
        have hwf := Lib.hid hst.out.wf
        go_wp2_with fail
        go_loopw [14] (fun mv wz => ∃ (m : Nat) (E' : Ab), m ≤ 8 ∧ mv = .int .i64 (m : Int) ∧ Hid (SaS w1 wz Z Z ob wb rb pb (onw E) E.len (rn E) E.fs (onb8 E) E' (k + m) ∧ E'.fs = E.fs ∧ E'.gone = E.gone ∧ ∀ q ∈ E'.P, (m : Int) ≤ q.1)) (fun mv _ => 8 - (intOf mv).toNat)
        case atStart => exact ⟨0, E, by omega, rfl, hst.out, rfl, rfl, fun q hq => (hst.out.eight q hq).1⟩
        case round =>
          obtain ⟨m, E', hm, rfl, hsm2⟩ := hrel
          by_cases hm8 : m < 8
          · have b1 : (m : Int) < 8 := by omega
            have UN : Hid (Calls Try.prog 15 #[.pointer (some ⟨Z, 0, none⟩), .int .i64 (m : Int)] wr fun e w' => (∃ bv, e = .returned (.bool bv)) ∧ SaS w1 w' Z Z ob wb rb pb (onw E) E.len (rn E) E.fs (onb8 E) (E'.unpin (m : Int)) (k + m + 1)) :=
              Lib.hid ((unpin_any hsm2.out.1.ep (by omega) (by omega)).mono fun e w' ⟨h, he, ht⟩ => ⟨⟨_, h⟩, hsm2.out.1.unpin he ht⟩)
            go_wp2_with fail
            refine UN.out.mono ?_
            rintro e wy ⟨⟨bv, rfl⟩, hy⟩
            have hx : Hid (SaS w1 wy Z Z ob wb rb pb (onw E) E.len (rn E) E.fs (onb8 E) (E'.unpin (m : Int)) (k + (m + 1)) ∧ (E'.unpin (m : Int)).fs = E.fs ∧ (E'.unpin (m : Int)).gone = E.gone ∧ ∀ q ∈ (E'.unpin (m : Int)).P, ((m + 1 : Nat) : Int) ≤ q.1) :=
              Lib.hid ⟨hy, hsm2.out.2.1, hsm2.out.2.2.1, fun q hq => by
                obtain ⟨h1, h2⟩ := mem_del.1 hq
                have := hsm2.out.2.2.2 q h1
                omega⟩
            clear UN hy hsm2
            go_wp2_with fail
            go_roundw
            case rel => exact ⟨m + 1, _, by omega, by go_num, hx⟩
            case measure => simp [intOf]; omega
          · have b1 : ¬ (m : Int) < 8 := by omega
            obtain rfl : m = 8 := by omega
            have hP : Hid (E'.P = []) := by
              refine Lib.hid ?_
              cases hq : E'.P with
              | nil => rfl
              | cons q r =>
                have h1 := hsm2.out.2.2.2 q (by rw [hq]; simp)
                have h2 := (hsm2.out.1.eight q (by rw [hq]; simp)).2
                omega
            have hlen' : Hid (E'.len = E.len) := Lib.hid (by unfold Ab.len; rw [hsm2.out.2.1, hsm2.out.2.2.1])
            obtain ⟨AA, cpp, hcw⟩ := hsm2.out.1.rowsAt
            have ltw : wb < wr.heap.size := by
              obtain ⟨wv, rv, hr⟩ := hsm2.out.1.raw
              exact hr.w_.lt
            have zwb : wr.frozen? ⟨wb, 0, none⟩ = false := by
              obtain ⟨wv, rv, hr⟩ := hsm2.out.1.raw
              exact hr.w_.thawed 0
            have hmk := make8 E.len (by omega)
            have hcl : Hid (SaS w1 ((wr.setCell ⟨wb, 0, none⟩ (.slice (some ⟨wr.heap.size, 0, none⟩) E.len E.len)).alloc (.cells (madeCells zc8 (E.len * 8)) 43)) Z Z ob wb rb pb (onw E') E'.len (rn E') E'.fs (onb8 E) E' (k + 8)) := by
              have h1 := hsm2.out.1.clear (by omega)
              have h2 := h1.congr (b' := onw E') (p' := onb8 E) (fun m _ i _ => (onw_none hP.out m i).symm) (fun _ _ => rfl)
              rw [hlen'.out, rn_same hlen'.out hsm2.out.2.2.1, hsm2.out.2.1]
              exact Lib.hid h2
            clear hsm2
            go_wp2_with fail
            generalize (wr.setCell ⟨wb, 0, none⟩ (.slice (some ⟨wr.heap.size, 0, none⟩) E.len E.len)).alloc (.cells (madeCells zc8 (E.len * 8)) 43) = w9 at hcl ⊢
            have CO : Hid (Calls Try.prog 14 #[.pointer (some ⟨Z, 0, none⟩)] w9 fun e w' => e = .returned (.int .i64 (E'.fs.length : Int)) ∧ SafL Z ob wb rb pb (E'.adv E'.fs.length) w' ∧ Ep Z w' Z (E'.adv E'.fs.length) ∧ Tn SbT Z w1 w') := by
              have := collect_plain (safe_plain Z Z ob wb rb pb) hcl.out.ep hcl.out.coll hcl.out.raw
              rw [runs_none _ _ hP.out] at this
              exact Lib.hid (this.mono fun e w' ⟨h, hl, he, ht⟩ => ⟨h, hl, he, hcl.out.tn.trans (ht.mono fun t h => Or.inl h)⟩)
            refine CO.out.mono ?_
            rintro e wA ⟨rfl, ⟨wv, rv, hraw⟩, hep, htn⟩
            have hlA : (E'.adv E'.fs.length).len = E.len := by
              have := hlen'.out
              unfold Ab.len at this
              simp only [Ab.len, Ab.adv, List.drop_length, List.length_nil]
              exact this
            have hgA : (E'.adv E'.fs.length).gone = E.len := hlen'.out
            obtain ⟨AR, capR, rfl⟩ := own_form hraw.nums
            have hrl : (rn (E'.adv E'.fs.length)).length = E.len := by rw [rn_len, hlA]
            rw [hrl] at hraw
            have cr := hraw.r.cell 0
            simp at cr
            have cob := hraw.o.cell 0
            simp at cob
            have WT : Hid (Calls Try.prog 16 #[.pointer (some ⟨Z, 0, none⟩)] wA fun e w' => e = .returned (.int .i64 0) ∧ w' = wA) := by
              have := waiting_any hep
              rw [show (E'.adv E'.fs.length).fs.length = 0 by show (E'.fs.drop E'.fs.length).length = 0; simp] at this
              exact Lib.hid this
            have hones : Hid (∀ m, m < E.len → ∃ g, AR = some ⟨g, 0, none⟩ ∧ E.len ≤ capR ∧ g < wA.heap.size ∧ wA.cell? ⟨g, m, none⟩ = some (.int .i64 1)) := Lib.hid fun m hm => by
              obtain ⟨g, hA, _, hc, _, hgl, _, hcell, _, _⟩ := own_at hraw.nums (j := m) (by rw [List.length_map, hrl]; exact hm)
              refine ⟨g, hA, by rw [hrl] at hc; exact hc, hgl, hcell m _ ?_⟩
              rw [List.getElem?_map, rn_at (by rw [hlA]; exact hm), hgA, if_pos hm]
              rfl
            have hdone := Lib.hid htn
            clear CO hcl hraw hep htn hlA hgA hrl hwf hP hcw zwb hmk
            go_wp2_with fail
            go_loopw [15] (fun mv wz => ∃ m : Nat, m ≤ E.len ∧ mv = .int .i64 (m : Int) ∧ wA = wz) (fun mv _ => E.len - (intOf mv).toNat)
            case atStart => exact ⟨0, Nat.zero_le _, rfl, rfl⟩
            case round =>
              obtain ⟨m, hm, rfl, hw⟩ := hrel
              subst hw
              by_cases hml : m < E.len
              · have b1 : (m : Int) < (E.len : Int) := by omega
                have m0 : (0 : Int) ≤ (m : Int) := by omega
                obtain ⟨gr, rfl, o1, o2, o3⟩ := hones.out m hml
                go_wp2_with fail
                go_roundw
                case rel => exact ⟨m + 1, by omega, by go_num, trivial⟩
                case measure => simp [intOf]; omega
              · have b1 : ¬ (m : Int) < (E.len : Int) := by omega
                go_wp2_with fail
                refine WT.out.mono ?_
                rintro e wB ⟨rfl, hq⟩
                have hq := hq.symm
                subst hq
                go_wp2_with fail
                go_ret
                exact ⟨rfl, (H1.out.trans (hdone.out.none (by have := hZ.out; omega))).below (Nat.le_refl _) (fun _ _ h => h)⟩
end Go.Proofs.Ythohhehelnkpgaa
