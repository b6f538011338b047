/-
  What the law's helper two comes to: two arenas of one pool behind any steps.
-/
import Derived.Test.YtbdfbgkfhaiccaaDoorWTwo
namespace Go.Proofs.YtbdfbgkfhaiccaaDoor
open Go.RowKit Go.Maps
set_option linter.unusedVariables false

structure TwoAll (w wr : World) (n pb gb fb aa am ba bm sb : Nat) (v : Value) (hs : List (Nat × Nat)) (G : List Nat) (fr : Nat → Bool) (Ma Mb : Nat → Option (Nat × Value)) (na nb : Nat) (f : Int → Option Value) (ns : Nat) : Prop where
  st : TwoSt w wr n pb gb fb aa am ba bm sb G fr Ma Mb na nb f ns
  told : Told w wr v hs
  each : ∀ p ∈ hs, p.1 < n ∧ p.2 < 18446744073709551616

def TwoRel (w : World) (n len pb gb fb aa am ba bm sb : Nat) (v good i : Value) (wr : World) : Prop :=
  ∃ (k m : Nat) (A : Option Addr) (cap : Nat) (hs : List (Nat × Nat)) (G : List Nat) (fr : Nat → Bool) (Ma Mb : Nat → Option (Nat × Value)) (na nb : Nat) (f : Int → Option Value) (ns : Nat),
    k ≤ len ∧ m ≤ k ∧ i = .int .i64 (k : Int) ∧ good = .bool true ∧ v = .slice A m cap ∧ hs.length = m ∧ TwoAll w wr n pb gb fb aa am ba bm sb v hs G fr Ma Mb na nb f ns

def TwoPost (w : World) (n : Nat) (e : Ending) (w' : World) : Prop :=
  ∃ (pb gb fb aa am ba bm sb : Nat) (G : List Nat) (fr : Nat → Bool) (Ma Mb : Nat → Option (Nat × Value)) (na nb : Nat) (f : Int → Option Value) (ns : Nat),
    e = .returned (.tuple #[.pointer (some ⟨pb, 0, none⟩), .pointer (some ⟨aa, 0, none⟩), .pointer (some ⟨ba, 0, none⟩), .map (some sb), .bool true]) ∧ TwoSt w w' n pb gb fb aa am ba bm sb G fr Ma Mb na nb f ns


theorem TwoSt.no32A {w wr : World} {n pb gb fb aa am ba bm sb : Nat} {G : List Nat} {fr : Nat → Bool} {Ma Mb : Nat → Option (Nat × Value)} {na nb : Nat} {f : Int → Option Value} {ns : Nat} (h : TwoSt w wr n pb gb fb aa am ba bm sb G fr Ma Mb na nb f ns) {i : Nat} {c : Array Value} (hi : At wr i (.cells c 32 (0, 0))) :
    (¬ (i = gb ∨ i = fb ∨ i = am)) ∧ (¬ (i = gb ∨ i = fb ∨ i = bm)) ∧ ¬ i = sb ∧ (¬ (i = fb ∨ i = am)) ∧ ¬ (i = fb ∨ i = bm) := by
  obtain ⟨⟨c1, h1⟩, ⟨c2, h2⟩, _⟩ := h.pool.rows
  obtain ⟨⟨es, cl, h3⟩, _⟩ := h.a.isMap
  obtain ⟨⟨es2, cl2, h4⟩, _⟩ := h.b.isMap
  have n1 : i ≠ gb := hi.ne h1 (by intro e; injection e with _ e; cases e)
  have n2 : i ≠ fb := hi.ne h2 (by intro e; injection e with _ e; cases e)
  have n3 : i ≠ am := hi.ne h3 (by intro e; cases e)
  have n4 : i ≠ bm := hi.ne h4 (by intro e; cases e)
  have n5 : i ≠ sb := fun e => h.s.ne hi e.symm
  omega

theorem relI_dead {w : World} {ab mb n : Nat} {pp : Value} {M : Nat → Option (Nat × Value)} (h : Ar 92 100 w ab mb pp M n) (x g : Nat) (hx : x < 9223372036854775808) (hd : ∀ v, M x ≠ some (g, v)) :
    Calls Tryd.prog 50 #[.pointer (some ⟨ab, 0, none⟩), .agg #[.int .i64 (x : Int), .int .u64 (g : Int)]] w fun e w' => e = .returned (.bool false) ∧ Turn (fun _ => False) w w' := by
  cases hM : M x with
  | none => exact relI_none h x g hx hM
  | some p => exact relI_other h x g p.1 p.2 hx hM (fun e => hd p.2 (by rw [hM, ← e]))
theorem relS_dead {w : World} {ab mb n : Nat} {pp : Value} {M : Nat → Option (Nat × Value)} (h : Ar 89 97 w ab mb pp M n) (x g : Nat) (hx : x < 9223372036854775808) (hd : ∀ v, M x ≠ some (g, v)) :
    Calls Tryd.prog 17 #[.pointer (some ⟨ab, 0, none⟩), .agg #[.int .i64 (x : Int), .int .u64 (g : Int)]] w fun e w' => e = .returned (.bool false) ∧ Turn (fun _ => False) w w' := by
  cases hM : M x with
  | none => exact relS_none h x g hx hM
  | some p => exact relS_other h x g p.1 p.2 hx hM (fun e => hd p.2 (by rw [hM, ← e]))

set_option maxRecDepth 100000 in
set_option maxHeartbeats 1000000 in
theorem two_any (n len cap0 : Nat) (A0 : Option Addr) (L : Nat → Nat) (w : World) (h1 : 1 ≤ n) (h2 : n ≤ 64) (hlen : len ≤ 300) (hT : Hid (Tab w))
    (hl : Hid (∀ j, j < len → ∃ lb lo, A0 = some ⟨lb, lo, none⟩ ∧ lb < w.heap.size ∧ L j < 256 ∧ w.cell? ⟨lb, lo + j, none⟩ = some (.int .u8 (L j : Nat)))) :
    Calls Tryd.prog 31 #[.int .i64 (n : Int), .slice A0 len cap0] w (TwoPost w n) := by
  have NP := Lib.hid (newPool_any n w h1 (by omega))
  have hmm := @run_makeMap Tryd.prog
  go_enter Tryd.func31, Tryd.ntmps31
  go_wp2_with fail
  refine NP.out.mono ?_
  rintro e w1 ⟨pb, gb, fb, rfl, hp1, ht1, l1, l2, l3⟩
  have H1 := Lib.hid (And.intro hp1 ht1)
  have NA := Lib.hid (newI (some ⟨pb, 0, none⟩) w1)
  clear hp1 ht1 NP
  go_wp2_with fail
  refine NA.out.mono ?_
  rintro e w2 ⟨rfl, ha2, ht2⟩
  have H2 := Lib.hid (And.intro ha2 ht2)
  have NB := Lib.hid (newS (some ⟨pb, 0, none⟩) w2)
  clear ha2 ht2 NA
  go_wp2_with fail
  refine NB.out.mono ?_
  rintro e w3 ⟨rfl, hb3, ht3⟩
  have HI : Hid (TwoRel w n len pb gb fb (w1.heap.size + 1) w1.heap.size (w2.heap.size + 1) w2.heap.size w3.heap.size (.slice none 0 0) (.bool true) (.int .i64 0) (w3.alloc (.map #[] 0))) := by
    obtain ⟨hp1, ht1⟩ := H1.out
    obtain ⟨ha2, ht2⟩ := H2.out
    have t4 : Turn (fun _ => False) w3 (w3.alloc (.map #[] 0)) := (Turn.refl _ w3).alloc _
    have e1 : w1.heap.size + 1 < w2.heap.size := by obtain ⟨f, hf⟩ := ha2; exact hf.1.lt
    have e2 : w2.heap.size + 1 < w3.heap.size := by obtain ⟨f, hf⟩ := hb3; exact hf.1.lt
    have s1 := ht1.size
    refine ⟨0, 0, none, 0, [], _, _, _, _, _, _, _, _, Nat.zero_le _, Nat.le_refl _, rfl, rfl, rfl, rfl, ⟨⟨((hp1.turn ht2 (fun h => h) (fun h => h) (fun h => h)).turn ht3 (fun h => h) (fun h => h) (fun h => h)).turn t4 (fun h => h) (fun h => h) (fun h => h), (ha2.same ht3).same t4, hb3.same t4, IMap.made Tryd.prog 3 w3, by omega, by omega, by omega, ((ht1.trans ht2).trans ht3).trans t4, ⟨l2, l3, by omega, by omega, by omega⟩, Inv.start n⟩, Told.start _ _, fun p hp => by cases hp⟩⟩
  clear hb3 ht3 H1 H2 NB
  generalize w1.heap.size + 1 = aa at *
  generalize w1.heap.size = am at *
  generalize w2.heap.size + 1 = ba at *
  generalize w2.heap.size = bm at *
  go_wp2_with fail
  generalize w3.heap.size = sb at *
  go_loopw [13, 15, 16] (fun v good i wr => TwoRel w n len pb gb fb aa am ba bm sb v good i wr) (fun _ _ i _ => len - (intOf i).toNat)
  case atStart => exact HI.out
  case round =>
    obtain ⟨k, m, A, cap, hs, G, fr, Ma, Mb, na, nb, f, ns, hk, hm, rfl, rfl, rfl, hlen2, hall⟩ := hrel
    have HA := Lib.hid hall
    have HL := Lib.hid hlen2
    clear hall hlen2 HI hmm
    by_cases hlt : k < len
    · have hkl : (k : Int) < (len : Int) := by omega
      obtain ⟨lb, lo, rfl, hlb, hL1, hL2⟩ := hl.out k hlt
      obtain ⟨t, ht⟩ : ∃ t, L k = t := ⟨_, rfl⟩
      rw [ht] at hL1 hL2
      clear ht
      have hcell : wr.cell? ⟨lb, lo + k, none⟩ = some (.int .u8 (t : Int)) := by
        rw [← hL2]
        exact World.cell?_of_block (w := w) (HA.out.st.old.block lb hlb (fun h => h))
      clear hL2
      by_cases hodd : t % 2 = 1
      · have o1 : ((t : Int) % 2 == 1) = true := by simp; omega
        clear hodd
        by_cases hge : t / 2 % 8 + 1 ≤ m
        · obtain ⟨p, hp⟩ : ∃ p, hs[m - 1 - t / 2 % 8]? = some p := ⟨_, List.getElem?_eq_getElem (by rw [HL.out]; omega)⟩
          obtain ⟨tg, rfl, tl1, tl2, tc1, tc2, tat⟩ := HA.out.told.at hp
          have hpe := HA.out.each p (List.mem_of_getElem? hp)
          have HP := Lib.hid hp
          have i1 : (0 : Int) ≤ (m : Int) - 1 - (t : Int) / 2 % 8 := by omega
          have i2 : (m : Int) - 1 - (t : Int) / 2 % 8 < (m : Int) := by omega
          obtain ⟨x, g⟩ := p
          obtain ⟨hx, hg⟩ := hpe
          simp only at hx hg tc1 tc2
          clear hp
          by_cases hA : ∃ v, Ma x = some (g, v)
          · obtain ⟨v, hA⟩ := hA
            have RA := Lib.hid (relI_some HA.out.st.a HA.out.st.pool x g v (by rw [HA.out.st.inv.glen]; exact hx) hA)
            have HMA := Lib.hid hA
            clear hA
            go_wp2_with fail
            refine RA.out.mono ?_
            rintro e w5 ⟨rfl, hp5, ha5, ht5⟩
            obtain ⟨c, tat⟩ := tat
            have n32 := HA.out.st.no32A tat
            have td1 : w5.cell? ⟨tg, (m - 1 - t / 2 % 8) * 2, none⟩ = some (.int .i64 (x : Int)) := (World.cell?_of_block (w := wr) (ht5.block tg tl2 n32.1)).trans tc1
            obtain ⟨w6, hrun, hI6, ht6⟩ := (HA.out.st.s.far ht5 (HA.out.st.farA sb (Ne.symm HA.out.st.n2))).drop law3 Tryd.underlying3 Tryd.underlying77 (wf64 (i := (x : Int)) (by omega) (by omega)) 0
            have HE := Lib.hid (HA.out.st.delA HMA.out hp5 ha5 ht5 (Turn.refl _ w5) hI6 ht6)
            have HO := Lib.hid ((HA.out.told.turn ht5 (fun i c hi _ _ => (HA.out.st.no32A hi).1)).turn ht6 (fun i c hi _ _ e => by
              have hs5 := HA.out.st.s.far ht5 (HA.out.st.farA sb (Ne.symm HA.out.st.n2))
              exact hs5.ne hi e.symm))
            clear hp5 ha5 ht5 hI6 ht6 n32 tat
            go_wp2_with fail
            go_roundw
            case rel => exact ⟨k + 1, m, _, cap, hs, _, _, _, _, _, _, _, _, by omega, by omega, by go_num, rfl, rfl, HL.out, ⟨HE.out, HO.out, HA.out.each⟩⟩
            case measure => simp [intOf]; omega
          · have hA' : ∀ v, Ma x ≠ some (g, v) := fun v e => hA ⟨v, e⟩
            clear hA
            have RA := Lib.hid (relI_dead HA.out.st.a x g (by omega) hA')
            clear hA'
            obtain ⟨c, tat⟩ := tat
            by_cases hB : ∃ v, Mb x = some (g, v)
            · obtain ⟨v, hB⟩ := hB
              have HMB := Lib.hid hB
              clear hB
              go_wp2_with fail
              refine RA.out.mono ?_
              rintro e w4 ⟨rfl, ht4⟩
              have HA4 : Hid (TwoAll w w4 n pb gb fb aa am ba bm sb (.slice (some ⟨tg, 0, none⟩) m cap) hs G fr Ma Mb na nb f ns) := Lib.hid ⟨HA.out.st.same ht4, HA.out.told.same ht4, HA.out.each⟩
              have tc1' : w4.cell? ⟨tg, (m - 1 - t / 2 % 8) * 2, none⟩ = some (.int .i64 (x : Int)) := (World.cell?_of_block (w := wr) (ht4.block tg tl2 (fun h => h))).trans tc1
              have tc2' : w4.cell? ⟨tg, (m - 1 - t / 2 % 8) * 2 + 1, none⟩ = some (.int .u64 (g : Int)) := (World.cell?_of_block (w := wr) (ht4.block tg tl2 (fun h => h))).trans tc2
              have tl2' := Nat.lt_of_lt_of_le tl2 ht4.size
              have tat' := tat.turn ht4 (fun h => h)
              have RB := Lib.hid (relS_some HA4.out.st.b HA4.out.st.pool x g v (by rw [HA4.out.st.inv.glen]; exact hx) HMB.out)
              clear ht4 tc1 tc2 tl2 tat HA RA
              go_wp2_with fail
              refine RB.out.mono ?_
              rintro e w5 ⟨rfl, hp5, hb5, ht5⟩
              have n32 := HA4.out.st.no32A tat'
              have td1 : w5.cell? ⟨tg, (m - 1 - t / 2 % 8) * 2, none⟩ = some (.int .i64 (x : Int)) := (World.cell?_of_block (w := w4) (ht5.block tg tl2' n32.2.1)).trans tc1'
              obtain ⟨w6, hrun, hI6, ht6⟩ := (HA4.out.st.s.far ht5 (HA4.out.st.farB sb (Ne.symm HA4.out.st.n3))).drop law3 Tryd.underlying3 Tryd.underlying77 (wf64 (i := (x : Int)) (by omega) (by omega)) 0
              have HE := Lib.hid (HA4.out.st.delB HMB.out hp5 hb5 ht5 (Turn.refl _ w5) hI6 ht6)
              have HO := Lib.hid ((HA4.out.told.turn ht5 (fun i c hi _ _ => (HA4.out.st.no32A hi).2.1)).turn ht6 (fun i c hi _ _ e => by
                have hs5 := HA4.out.st.s.far ht5 (HA4.out.st.farB sb (Ne.symm HA4.out.st.n3))
                exact hs5.ne hi e.symm))
              clear hp5 hb5 ht5 hI6 ht6 n32 tat'
              go_wp2_with fail
              go_roundw
              case rel => exact ⟨k + 1, m, _, cap, hs, _, _, _, _, _, _, _, _, by omega, by omega, by go_num, rfl, rfl, HL.out, ⟨HE.out, HO.out, HA4.out.each⟩⟩
              case measure => simp [intOf]; omega
            · have hB' : ∀ v, Mb x ≠ some (g, v) := fun v e => hB ⟨v, e⟩
              clear hB
              go_wp2_with fail
              refine RA.out.mono ?_
              rintro e w4 ⟨rfl, ht4⟩
              have HA4 : Hid (TwoAll w w4 n pb gb fb aa am ba bm sb (.slice (some ⟨tg, 0, none⟩) m cap) hs G fr Ma Mb na nb f ns) := Lib.hid ⟨HA.out.st.same ht4, HA.out.told.same ht4, HA.out.each⟩
              have tc1' : w4.cell? ⟨tg, (m - 1 - t / 2 % 8) * 2, none⟩ = some (.int .i64 (x : Int)) := (World.cell?_of_block (w := wr) (ht4.block tg tl2 (fun h => h))).trans tc1
              have tc2' : w4.cell? ⟨tg, (m - 1 - t / 2 % 8) * 2 + 1, none⟩ = some (.int .u64 (g : Int)) := (World.cell?_of_block (w := wr) (ht4.block tg tl2 (fun h => h))).trans tc2
              have RB := Lib.hid (relS_dead HA4.out.st.b x g (by omega) hB')
              clear hB' ht4 tc1 tc2 tat RA
              go_wp2_with fail
              refine RB.out.mono ?_
              rintro e w5 ⟨rfl, ht5⟩
              have HE : Hid (TwoAll w w5 n pb gb fb aa am ba bm sb (.slice (some ⟨tg, 0, none⟩) m cap) hs G fr Ma Mb na nb f ns) := Lib.hid ⟨HA4.out.st.same ht5, HA4.out.told.same ht5, HA4.out.each⟩
              clear ht5
              go_wp2_with fail
              go_roundw
              case rel => exact ⟨k + 1, m, _, cap, hs, _, _, _, _, _, _, _, _, by omega, by omega, by go_num, rfl, rfl, HL.out, HE.out⟩
              case measure => simp [intOf]; omega
        · go_wp2_with fail
          go_roundw
          case rel => exact ⟨k + 1, m, A, cap, hs, G, fr, Ma, Mb, na, nb, f, ns, by omega, by omega, by go_num, rfl, rfl, HL.out, HA.out⟩
          case measure => simp [intOf]; omega
      · have o1 : ((t : Int) % 2 == 1) = false := by simp; omega
        clear hodd
        have HA0 : Hid (TwoAll w (wr.alloc (.cells #[.int .i64 0, .int .u64 0] 32)) n pb gb fb aa am ba bm sb (.slice A m cap) hs G fr Ma Mb na nb f ns) := by
          have t0 : Turn (fun _ => False) wr (wr.alloc (.cells #[.int .i64 0, .int .u64 0] 32)) := (Turn.refl _ wr).alloc _
          exact ⟨HA.out.st.same t0, HA.out.told.same t0, HA.out.each⟩
        have HB0 := Lib.hid (At.new wr (.cells #[.int .i64 0, .int .u64 0] 32))
        have lwr : w.heap.size ≤ wr.heap.size := HA.out.st.old.size
        have lall := HA.out.st.new
        have hlbr : lb < wr.heap.size := by omega
        by_cases h4 : t % 4 = 0
        · have o2 : ((t : Int) % 4 == 0) = true := by simp; omega
          clear h4
          by_cases hfree : 0 < cnt fr n
          · obtain ⟨s, hsn, hs1, hsl⟩ := cnt_pos fr n hfree
            have hput := HA0.out.st.inv.put_set hs1
            have hsl2 : ∀ x : Nat, x < s → f (x : Int) = some (.int .i64 1) := fun x hx => by
              rw [HA0.out.st.inv.slots x]
              have h0 := hsl x hx
              have h1 := HA0.out.st.inv.free x
              rw [h0] at h1
              cases ha : Ma x with
              | some _ => simp
              | none =>
                cases hb : Mb x with
                | some _ => simp
                | none => exact absurd (h1.2 ⟨by omega, ha, hb⟩) (by simp)
            have hcn : na < 1000000 := by
              have h1 := HA0.out.st.inv.ca
              have h2 := cnt_le (fun x => (Ma x).isSome) n
              omega
            have AL := Lib.hid (allocI_some k HA0.out.st.a HA0.out.st.pool (hT.out.turn HA0.out.st.old (fun h => h) hT.out.pos) hs1 hsl hput.2.2.1 hcn)
            have HS := Lib.hid (And.intro hs1 (And.intro hput hsl2))
            have hgl : G.getD s 0 < 18446744073709551616 := by
              obtain ⟨F, _, _, _, _, hG, _⟩ := HA0.out.st.pool
              exact getD_lt hG s
            clear hs1 hsl hput hsl2 hfree
            generalize G.getD s 0 = g at AL hgl
            go_wp2_with fail
            refine AL.out.mono ?_
            rintro e w5 ⟨rfl, hp5, ha5, ht5⟩
            have hB5 := HB0.out.turn ht5 (HA0.out.st.no32A HB0.out).2.2.2.1
            have z0 := hB5.cell 0
            have z1 := hB5.cell 1
            have y0 := hB5.thawed 0
            have y1 := hB5.thawed 1
            have lB := hB5.lt
            simp at z0 z1
            have tS : Turn (· = wr.heap.size) w5 ((w5.setCell ⟨wr.heap.size, 0, none⟩ (.int .i64 (s : Int))).setCell ⟨wr.heap.size, 1, none⟩ (.int .u64 (g : Int))) := ((Turn.refl (· = wr.heap.size) w5).setCell (p := ⟨wr.heap.size, 0, none⟩) (Or.inl rfl) _).setCell (p := ⟨wr.heap.size, 1, none⟩) (Or.inl rfl) _
            have hs5 := HA0.out.st.s.far (ht5.mono (Y := fun i => i = gb ∨ i = fb ∨ i = am) (fun i _ hi => Or.inr hi)) (HA0.out.st.farA sb (Ne.symm HA0.out.st.n2))
            have hs6 := hs5.turn tS (fun e => hs5.ne hB5 e)
            have hB6 := (hB5.set 0 (.int .i64 (s : Int))).set 1 (.int .u64 (g : Int))
            simp at hB6
            have LQ := Lib.hid fun q => least_quiet hs6 (by omega) HS.out.2.2 HS.out.2.1.1 q
            have hLk : ∀ q, (Instr.lookup 77 (.map (some sb)) (.int .i64 (s : Int)) false).run Tryd.prog (((w5.setCell ⟨wr.heap.size, 0, none⟩ (.int .i64 (s : Int))).setCell ⟨wr.heap.size, 1, none⟩ (.int .u64 (g : Int))).drewN q) = .ok (.int .i64 0) (((w5.setCell ⟨wr.heap.size, 0, none⟩ (.int .i64 (s : Int))).setCell ⟨wr.heap.size, 1, none⟩ (.int .u64 (g : Int))).drewN q) := fun q => by
              rw [(hs6.turn ((Turn.refl (fun _ => False) _).drewN q) (fun h => h)).look1 law3 Tryd.underlying3 Tryd.underlying77 (zero3 _) (wf64 (by omega) (by omega)), HS.out.2.1.1]; rfl
            have HX := Lib.hid (And.intro hp5 (And.intro ha5 (And.intro ht5 (And.intro tS (And.intro hs6 (And.intro hB5 hB6))))))
            clear hp5 ha5 ht5 tS hs5 hs6 hB5 hB6 AL
            have e1 : ((s : Int) == (s : Int)) = true := by simp
            go_wp2_with fail
            go_quiet ((go_at_call 51; with_reducible exact LQ.out _))
            obtain ⟨hp5, ha5, ht5, tS, hs6, hB5, hB6⟩ := HX.out
            clear hLk
            generalize hW6 : (((w5.setCell ⟨wr.heap.size, 0, none⟩ (.int .i64 (s : Int))).setCell ⟨wr.heap.size, 1, none⟩ (.int .u64 (g : Int))).drewN nq) = w6
            have tD : Turn (fun _ => False) ((w5.setCell ⟨wr.heap.size, 0, none⟩ (.int .i64 (s : Int))).setCell ⟨wr.heap.size, 1, none⟩ (.int .u64 (g : Int))) w6 := by rw [← hW6]; exact (Turn.refl _ _).drewN nq
            have t56 : Turn (· = wr.heap.size) w5 w6 := tS.then tD (fun i _ h => h.elim)
            have hB6' := hB6.turn tD (fun h => h)
            have hs6' := hs6.turn tD (fun h => h)
            clear hW6
            obtain ⟨w7, hrun, hI7, ht7⟩ := hs6'.store (v := .int .i64 1) law3 Tryd.underlying3 Tryd.underlying77 (by
              have h1 := HA0.out.st.inv.all
              omega) (wf64 (i := (s : Int)) (by omega) (by omega))
            have hB7 := hB6'.turn ht7 (fun e => hs6'.ne hB6' e.symm)
            have q0 := hB6'.cell 0
            have q1 := hB7.cell 0
            have q2 := hB7.cell 1
            simp at q0 q1 q2
            have lB7 := hB7.lt
            have st7 := HA0.out.st.putA HS.out.1 hp5 ha5 ht5 t56 (fun i hi => by subst hi; exact ⟨⟨_, hB5⟩, lwr⟩) hI7 ht7
            have tA : Turn (fun _ => False) w7 (w7.alloc (.cells #[.int .i64 (s : Int), .int .u64 (g : Int)] 32)) := (Turn.refl _ w7).alloc _
            have told5 := HA0.out.told.turn ht5 (fun i c hi _ _ => (HA0.out.st.no32A hi).2.2.2.1)
            have told6 := told5.turn t56 (fun i c hi _ ho e => by
              have := (HA.out.told.own ho).2.2
              omega)
            have told7 := told6.turn ht7 (fun i c hi _ _ e => hs6'.ne hi e.symm)
            have told8 := told7.same tA
            have lw8 := (st7.old.trans tA).size
            obtain ⟨A', cap', w8, hrunA, hT8, htA⟩ := told8.append s g w7.heap.size (At.new w7 _) (by rw [HL.out]; omega) lw8 44
            rw [HL.out] at hrunA hT8
            have HR := Lib.hid hrunA
            clear hrunA
            have HE := Lib.hid (And.intro ((st7.same tA).far htA (fun i hi => ⟨(told8.own hi).1, (told8.own hi).2.1⟩)) hT8)
            clear hp5 ha5 ht5 tS hs6 hB5 hB6 tD t56 hB6' hs6' hI7 ht7 hB7 st7 tA told5 told6 told7 told8 hT8 htA HX LQ
            go_wp2_with (at_builtin; refine wpList_append_run rfl _ _ 44 rfl _ _ _ rfl rfl HR.out ?_)
            go_roundw
            case rel => exact ⟨k + 1, m + 1, A', cap', hs ++ [(s, g)], _, _, _, _, _, _, _, _, by omega, by omega, by go_num, rfl, rfl, by simp [HL.out], ⟨HE.out.1, HE.out.2, fun p hp => by
              rcases List.mem_append.1 hp with hp | hp
              · exact HA.out.each p hp
              · simp at hp
                subst hp
                exact ⟨hsn, hgl⟩⟩⟩
            case measure => simp [intOf]; omega
          · have hz : ∀ y, fr y = false := fun y => by
              cases hy : fr y with
              | false => rfl
              | true =>
                have h1 := ((HA0.out.st.inv.free y).1 hy).1
                have h2 := cnt_zero fr n (by omega) y h1
                rw [hy] at h2
                cases h2
            have AL := Lib.hid (allocI_full k HA0.out.st.a HA0.out.st.pool hz)
            clear hz hfree
            go_wp2_with fail
            refine AL.out.mono ?_
            rintro e w5 ⟨rfl, ht5⟩
            have hB5 := HB0.out.turn ht5 (fun h => h)
            have z0 := hB5.cell 0
            have z1 := hB5.cell 1
            have y0 := hB5.thawed 0
            have y1 := hB5.thawed 1
            have lB := hB5.lt
            simp at z0 z1
            have tS : Turn (· = wr.heap.size) w5 ((w5.setCell ⟨wr.heap.size, 0, none⟩ (.int .i64 0)).setCell ⟨wr.heap.size, 1, none⟩ (.int .u64 0)) := ((Turn.refl (· = wr.heap.size) w5).setCell (p := ⟨wr.heap.size, 0, none⟩) (Or.inl rfl) _).setCell (p := ⟨wr.heap.size, 1, none⟩) (Or.inl rfl) _
            have HE := Lib.hid (And.intro ((HA0.out.st.same ht5).far tS (fun i hi => by subst hi; exact ⟨⟨_, hB5⟩, lwr⟩)) ((HA0.out.told.same ht5).turn tS (fun i c hi _ ho e => by
              have := (HA.out.told.own ho).2.2
              omega)))
            clear ht5 hB5 tS AL
            go_wp2_with fail
            go_roundw
            case rel => exact ⟨k + 1, m, A, cap, hs, _, _, _, _, _, _, _, _, by omega, by omega, by go_num, rfl, rfl, HL.out, ⟨HE.out.1, HE.out.2, HA.out.each⟩⟩
            case measure => simp [intOf]; omega
        · have o2 : ((t : Int) % 4 == 0) = false := by simp; omega
          clear h4
          by_cases hfree : 0 < cnt fr n
          · obtain ⟨s, hsn, hs1, hsl⟩ := cnt_pos fr n hfree
            have hput := HA0.out.st.inv.put_set hs1
            have hsl2 : ∀ x : Nat, x < s → f (x : Int) = some (.int .i64 1) := fun x hx => by
              rw [HA0.out.st.inv.slots x]
              have h0 := hsl x hx
              have h1 := HA0.out.st.inv.free x
              rw [h0] at h1
              cases ha : Ma x with
              | some _ => simp
              | none =>
                cases hb : Mb x with
                | some _ => simp
                | none => exact absurd (h1.2 ⟨by omega, ha, hb⟩) (by simp)
            have hcn : nb < 1000000 := by
              have h1 := HA0.out.st.inv.cb
              have h2 := cnt_le (fun x => (Mb x).isSome) n
              omega
            have AL := Lib.hid (allocS_some ⟨#[120]⟩ HA0.out.st.b HA0.out.st.pool (hT.out.turn HA0.out.st.old (fun h => h) hT.out.pos) hs1 hsl hput.2.2.2 hcn)
            have HS := Lib.hid (And.intro hs1 (And.intro hput hsl2))
            have hgl : G.getD s 0 < 18446744073709551616 := by
              obtain ⟨F, _, _, _, _, hG, _⟩ := HA0.out.st.pool
              exact getD_lt hG s
            clear hs1 hsl hput hsl2 hfree
            generalize G.getD s 0 = g at AL hgl
            go_wp2_with fail
            refine AL.out.mono ?_
            rintro e w5 ⟨rfl, hp5, hb5, ht5⟩
            have hB5 := HB0.out.turn ht5 (HA0.out.st.no32A HB0.out).2.2.2.2
            have z0 := hB5.cell 0
            have z1 := hB5.cell 1
            have y0 := hB5.thawed 0
            have y1 := hB5.thawed 1
            have lB := hB5.lt
            simp at z0 z1
            have tS : Turn (· = wr.heap.size) w5 ((w5.setCell ⟨wr.heap.size, 0, none⟩ (.int .i64 (s : Int))).setCell ⟨wr.heap.size, 1, none⟩ (.int .u64 (g : Int))) := ((Turn.refl (· = wr.heap.size) w5).setCell (p := ⟨wr.heap.size, 0, none⟩) (Or.inl rfl) _).setCell (p := ⟨wr.heap.size, 1, none⟩) (Or.inl rfl) _
            have hs5 := HA0.out.st.s.far (ht5.mono (Y := fun i => i = gb ∨ i = fb ∨ i = bm) (fun i _ hi => Or.inr hi)) (HA0.out.st.farB sb (Ne.symm HA0.out.st.n3))
            have hs6 := hs5.turn tS (fun e => hs5.ne hB5 e)
            have hB6 := (hB5.set 0 (.int .i64 (s : Int))).set 1 (.int .u64 (g : Int))
            simp at hB6
            have LQ := Lib.hid fun q => least_quiet hs6 (by omega) HS.out.2.2 HS.out.2.1.1 q
            have hLk : ∀ q, (Instr.lookup 77 (.map (some sb)) (.int .i64 (s : Int)) false).run Tryd.prog (((w5.setCell ⟨wr.heap.size, 0, none⟩ (.int .i64 (s : Int))).setCell ⟨wr.heap.size, 1, none⟩ (.int .u64 (g : Int))).drewN q) = .ok (.int .i64 0) (((w5.setCell ⟨wr.heap.size, 0, none⟩ (.int .i64 (s : Int))).setCell ⟨wr.heap.size, 1, none⟩ (.int .u64 (g : Int))).drewN q) := fun q => by
              rw [(hs6.turn ((Turn.refl (fun _ => False) _).drewN q) (fun h => h)).look1 law3 Tryd.underlying3 Tryd.underlying77 (zero3 _) (wf64 (by omega) (by omega)), HS.out.2.1.1]; rfl
            have HX := Lib.hid (And.intro hp5 (And.intro hb5 (And.intro ht5 (And.intro tS (And.intro hs6 (And.intro hB5 hB6))))))
            clear hp5 hb5 ht5 tS hs5 hs6 hB5 hB6 AL
            have e1 : ((s : Int) == (s : Int)) = true := by simp
            go_wp2_with fail
            go_quiet ((go_at_call 51; with_reducible exact LQ.out _))
            obtain ⟨hp5, hb5, ht5, tS, hs6, hB5, hB6⟩ := HX.out
            clear hLk
            generalize hW6 : (((w5.setCell ⟨wr.heap.size, 0, none⟩ (.int .i64 (s : Int))).setCell ⟨wr.heap.size, 1, none⟩ (.int .u64 (g : Int))).drewN nq) = w6
            have tD : Turn (fun _ => False) ((w5.setCell ⟨wr.heap.size, 0, none⟩ (.int .i64 (s : Int))).setCell ⟨wr.heap.size, 1, none⟩ (.int .u64 (g : Int))) w6 := by rw [← hW6]; exact (Turn.refl _ _).drewN nq
            have t56 : Turn (· = wr.heap.size) w5 w6 := tS.then tD (fun i _ h => h.elim)
            have hB6' := hB6.turn tD (fun h => h)
            have hs6' := hs6.turn tD (fun h => h)
            clear hW6
            obtain ⟨w7, hrun, hI7, ht7⟩ := hs6'.store (v := .int .i64 1) law3 Tryd.underlying3 Tryd.underlying77 (by
              have h1 := HA0.out.st.inv.all
              omega) (wf64 (i := (s : Int)) (by omega) (by omega))
            have hB7 := hB6'.turn ht7 (fun e => hs6'.ne hB6' e.symm)
            have q0 := hB6'.cell 0
            have q1 := hB7.cell 0
            have q2 := hB7.cell 1
            simp at q0 q1 q2
            have lB7 := hB7.lt
            have st7 := HA0.out.st.putB HS.out.1 hp5 hb5 ht5 t56 (fun i hi => by subst hi; exact ⟨⟨_, hB5⟩, lwr⟩) hI7 ht7
            have tA : Turn (fun _ => False) w7 (w7.alloc (.cells #[.int .i64 (s : Int), .int .u64 (g : Int)] 32)) := (Turn.refl _ w7).alloc _
            have told5 := HA0.out.told.turn ht5 (fun i c hi _ _ => (HA0.out.st.no32A hi).2.2.2.2)
            have told6 := told5.turn t56 (fun i c hi _ ho e => by
              have := (HA.out.told.own ho).2.2
              omega)
            have told7 := told6.turn ht7 (fun i c hi _ _ e => hs6'.ne hi e.symm)
            have told8 := told7.same tA
            have lw8 := (st7.old.trans tA).size
            obtain ⟨A', cap', w8, hrunA, hT8, htA⟩ := told8.append s g w7.heap.size (At.new w7 _) (by rw [HL.out]; omega) lw8 44
            rw [HL.out] at hrunA hT8
            have HR := Lib.hid hrunA
            clear hrunA
            have HE := Lib.hid (And.intro ((st7.same tA).far htA (fun i hi => ⟨(told8.own hi).1, (told8.own hi).2.1⟩)) hT8)
            clear hp5 hb5 ht5 tS hs6 hB5 hB6 tD t56 hB6' hs6' hI7 ht7 hB7 st7 tA told5 told6 told7 told8 hT8 htA HX LQ
            go_wp2_with (at_builtin; refine wpList_append_run rfl _ _ 44 rfl _ _ _ rfl rfl HR.out ?_)
            go_roundw
            case rel => exact ⟨k + 1, m + 1, A', cap', hs ++ [(s, g)], _, _, _, _, _, _, _, _, by omega, by omega, by go_num, rfl, rfl, by simp [HL.out], ⟨HE.out.1, HE.out.2, fun p hp => by
              rcases List.mem_append.1 hp with hp | hp
              · exact HA.out.each p hp
              · simp at hp
                subst hp
                exact ⟨hsn, hgl⟩⟩⟩
            case measure => simp [intOf]; omega
          · have hz : ∀ y, fr y = false := fun y => by
              cases hy : fr y with
              | false => rfl
              | true =>
                have h1 := ((HA0.out.st.inv.free y).1 hy).1
                have h2 := cnt_zero fr n (by omega) y h1
                rw [hy] at h2
                cases h2
            have AL := Lib.hid (allocS_full ⟨#[120]⟩ HA0.out.st.b HA0.out.st.pool hz)
            clear hz hfree
            go_wp2_with fail
            refine AL.out.mono ?_
            rintro e w5 ⟨rfl, ht5⟩
            have hB5 := HB0.out.turn ht5 (fun h => h)
            have z0 := hB5.cell 0
            have z1 := hB5.cell 1
            have y0 := hB5.thawed 0
            have y1 := hB5.thawed 1
            have lB := hB5.lt
            simp at z0 z1
            have tS : Turn (· = wr.heap.size) w5 ((w5.setCell ⟨wr.heap.size, 0, none⟩ (.int .i64 0)).setCell ⟨wr.heap.size, 1, none⟩ (.int .u64 0)) := ((Turn.refl (· = wr.heap.size) w5).setCell (p := ⟨wr.heap.size, 0, none⟩) (Or.inl rfl) _).setCell (p := ⟨wr.heap.size, 1, none⟩) (Or.inl rfl) _
            have HE := Lib.hid (And.intro ((HA0.out.st.same ht5).far tS (fun i hi => by subst hi; exact ⟨⟨_, hB5⟩, lwr⟩)) ((HA0.out.told.same ht5).turn tS (fun i c hi _ ho e => by
              have := (HA.out.told.own ho).2.2
              omega)))
            clear ht5 hB5 tS AL
            go_wp2_with fail
            go_roundw
            case rel => exact ⟨k + 1, m, A, cap, hs, _, _, _, _, _, _, _, _, by omega, by omega, by go_num, rfl, rfl, HL.out, ⟨HE.out.1, HE.out.2, HA.out.each⟩⟩
            case measure => simp [intOf]; omega
    · have hkl : ¬ (k : Int) < (len : Int) := by omega
      go_wp2_with fail
      exact bodyPost_ret (v := .tuple #[.pointer (some ⟨pb, 0, none⟩), .pointer (some ⟨aa, 0, none⟩), .pointer (some ⟨ba, 0, none⟩), .map (some sb), .bool true]) (by simp [results, Tryd.results31, go_sem]) rfl ⟨pb, gb, fb, aa, am, ba, bm, sb, G, fr, Ma, Mb, na, nb, f, ns, rfl, HA.out.st⟩
end Go.Proofs.YtbdfbgkfhaiccaaDoor
