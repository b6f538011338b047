/-
  An act of ArenaPlays that names a handle that was told.
-/
import Derived.Test.YtbdfbgkfhaiccaaDoorWDoes
namespace Go.Proofs.YtbdfbgkfhaiccaaDoor
open Go.RowKit Go.Maps
set_option linter.unusedVariables false

theorem held_set4 {W : World} {a b c e : Addr} {u v x y : Value} {m : Nat} (ha : a.block ≠ m) (hb : b.block ≠ m) (hc : c.block ≠ m) (p q : Value) (h : W.cell? a = some u ∧ W.cell? b = some v ∧ W.cell? c = some x ∧ W.cell? e = some y) (he : e.block ≠ m) :
    ((W.setCell ⟨m, 0, none⟩ p).setCell ⟨m, 1, none⟩ q).cell? a = some u ∧ ((W.setCell ⟨m, 0, none⟩ p).setCell ⟨m, 1, none⟩ q).cell? b = some v ∧ ((W.setCell ⟨m, 0, none⟩ p).setCell ⟨m, 1, none⟩ q).cell? c = some x ∧ ((W.setCell ⟨m, 0, none⟩ p).setCell ⟨m, 1, none⟩ q).cell? e = some y := by
  have k : ∀ (c : Addr) (hc : c.block ≠ m), ((W.setCell ⟨m, 0, none⟩ p).setCell ⟨m, 1, none⟩ q).cell? c = W.cell? c := fun c hc => by
    rw [World.cell?_setCell_other _ _ _ _ (by intro e; subst e; exact hc rfl), World.cell?_setCell_other _ _ _ _ (by intro e; subst e; exact hc rfl)]
  rw [k a ha, k b hb, k c hc, k e he]
  exact h

set_option maxRecDepth 100000 in
set_option maxHeartbeats 4000000 in
theorem doesA_any {w0 w : World} {xb : Nat} {qv c0 c1 c2 c3 vt : Value} {S : World → Value → List Sl → List (Nat × Nat) → Prop} {L : List Sl} {hs : List (Nat × Nat)} (I : DoesI w0 xb qv c0 c1 c2 c3 S) (h : S w vt L hs) (iu : Nat) (x : ByteArray) (s : Int) (g ago : Nat) (hb : I64 s) (hg : g < 18446744073709551616) (hiu : iu < 256) (hago : ago < 256) (hlen : hs.length < 1000) :
    Calls Tryd.prog 25 #[.pointer (some ⟨xb, 0, none⟩), .agg #[.int .i64 4, .int .u8 (iu : Int), .string x, .int .i64 s, .int .u64 (g : Int), .int .u8 (ago : Int)]] w fun e w' => e = .returned (.bool true) ∧ ∃ vt' L' hs', S w' vt' L' hs' ∧ hs'.length ≤ hs.length + 1 := by
  obtain ⟨i, hi⟩ : ∃ i : Nat, i = 1 + iu % 3 := ⟨_, rfl⟩
  have hii : 1 + (iu : Int) % 3 = (i : Int) := by omega
  have hi1 : 1 ≤ i := by omega
  have hi3 : i ≤ 3 := by omega
  obtain ⟨nh, hnh⟩ : ∃ nh, nh = hs.length := ⟨_, rfl⟩
  obtain ⟨tA, tc, rfl⟩ := (I.told h).form
  have lx := (I.hd h).lt
  have HI := Lib.hid I
  have t0 : Turn (fun _ => False) w ((w.alloc (.cells #[.int .i64 4, .int .u8 (iu : Int), .string x, .int .i64 s, .int .u64 (g : Int), .int .u8 (ago : Int)] 63)).alloc (.cells #[.int .i64 s, .int .u64 (g : Int)] 32)) := ((Turn.refl _ w).alloc _).alloc _
  have HS : Hid (S ((w.alloc (.cells #[.int .i64 4, .int .u8 (iu : Int), .string x, .int .i64 s, .int .u64 (g : Int), .int .u8 (ago : Int)] 63)).alloc (.cells #[.int .i64 s, .int .u64 (g : Int)] 32)) (.slice tA hs.length tc) L hs ∧
      At ((w.alloc (.cells #[.int .i64 4, .int .u8 (iu : Int), .string x, .int .i64 s, .int .u64 (g : Int), .int .u8 (ago : Int)] 63)).alloc (.cells #[.int .i64 s, .int .u64 (g : Int)] 32)) w.heap.size (.cells #[.int .i64 4, .int .u8 (iu : Int), .string x, .int .i64 s, .int .u64 (g : Int), .int .u8 (ago : Int)] 63 (0, 0)) ∧
      At ((w.alloc (.cells #[.int .i64 4, .int .u8 (iu : Int), .string x, .int .i64 s, .int .u64 (g : Int), .int .u8 (ago : Int)] 63)).alloc (.cells #[.int .i64 s, .int .u64 (g : Int)] 32)) (w.heap.size + 1) (.cells #[.int .i64 s, .int .u64 (g : Int)] 32 (0, 0))) := by
    refine Lib.hid ⟨I.same h t0, (At.new w _).turn ((Turn.refl (fun _ => False) _).alloc _) (fun h => h), ?_⟩
    have := At.new (w.alloc (.cells #[.int .i64 4, .int .u8 (iu : Int), .string x, .int .i64 s, .int .u64 (g : Int), .int .u8 (ago : Int)] 63)) (.cells #[.int .i64 s, .int .u64 (g : Int)] 32)
    rwa [show (w.alloc (.cells #[.int .i64 4, .int .u8 (iu : Int), .string x, .int .i64 s, .int .u64 (g : Int), .int .u8 (ago : Int)] 63)).heap.size = w.heap.size + 1 by simp] at this
  have HN : Hid (∀ j, (Value.slice tA hs.length tc).ownBlock = some j → j < w.heap.size) := Lib.hid fun j hj => ((I.told h).own hj).2.2
  have HY : Hid (w0.heap.size ≤ w.heap.size) := Lib.hid (I.le h).2
  clear I h t0
  rw [← hnh] at HS HN hlen ⊢
  have HNH := Lib.hid hnh
  clear hnh hi
  go_enter Tryd.func25, Tryd.ntmps25
  go_upto_region 3 with (fail)
  generalize ((w.alloc (.cells #[.int .i64 4, .int .u8 (iu : Int), .string x, .int .i64 s, .int .u64 (g : Int), .int .u8 (ago : Int)] 63)).alloc (.cells #[.int .i64 s, .int .u64 (g : Int)] 32)) = w4 at HS ⊢
  have HL : Hid (w.heap.size < w4.heap.size) := Lib.hid (HS.out.2.1.lt)
  obtain ⟨yb, hyb⟩ : ∃ yb, yb = w.heap.size := ⟨_, rfl⟩
  rw [← hyb] at HS HN HY ⊢
  clear hyb hii HL lx
  have kx := HI.out.hd HS.out.1
  have cx5 := kx.cell 5
  have lx := kx.lt
  have y0 := HS.out.2.1.cell 0
  have y4 := HS.out.2.1.cell 5
  have ly := HS.out.2.1.lt
  have zh0 := HS.out.2.2.thawed 0
  have zh1 := HS.out.2.2.thawed 1
  have ch0 := HS.out.2.2.cell 0
  have ch1 := HS.out.2.2.cell 1
  have lh := HS.out.2.2.lt
  simp at cx5 y0 y4 ch0 ch1
  clear kx
  by_cases hn0 : nh = 0
  · have HB := Lib.hid hb
    have HS4 := HS
    have bn : ¬ (0 : Int) < (nh : Int) := by omega
    go_upto_region 5 with (fail)
    clear HS cx5 lx y0 y4 ly zh0 zh1 ch0 ch1 lh hb bn
    have cx4 := (HI.out.hd HS4.out.1).cell 4
    have ch0 := HS4.out.2.2.cell 0
    have ch1 := HS4.out.2.2.cell 1
    have lh := HS4.out.2.2.lt
    have lx := (HI.out.hd HS4.out.1).lt
    simp at cx4 ch0 ch1
    have AL : Hid (∀ W, Turn (fun _ => False) w4 W → Calls Tryd.prog 40 #[qv, .int .i64 (i : Int), .agg #[.int .i64 s, .int .u64 (g : Int)]] W fun e w' => e = .returned (.bool (alv L i s g).isSome) ∧ Turn (fun _ => False) w4 w') :=
      Lib.hid fun W t => (HI.out.alive (HI.out.same HS4.out.1 t) i g s).mono fun e w' ⟨he, t2⟩ => ⟨he, t.trans t2⟩
    have hS0 : w4.drew.cell? ⟨xb, 4, none⟩ = some qv ∧ w4.drew.cell? ⟨yb + 1, 0, none⟩ = some (.int .i64 s) ∧ w4.drew.cell? ⟨yb + 1, 1, none⟩ = some (.int .u64 (g : Int)) := ⟨cx4, ch0, ch1⟩
    have hS1 : Hid (∀ w5, Turn (fun _ => False) w4 w5 → w5.cell? ⟨xb, 4, none⟩ = some qv ∧ w5.cell? ⟨yb + 1, 0, none⟩ = some (.int .i64 s) ∧ w5.cell? ⟨yb + 1, 1, none⟩ = some (.int .u64 (g : Int))) := Lib.hid fun w5 t => by
      have h1 := (HI.out.hd (HI.out.same HS4.out.1 t)).cell 4
      have h2 := (HS4.out.2.2.turn t (fun h => h)).cell 0
      have h3 := (HS4.out.2.2.turn t (fun h => h)).cell 1
      simp at h1 h2 h3
      exact ⟨h1, h2, h3⟩
    go_region_held3 (fun W => W.cell? ⟨xb, 4, none⟩ = some qv ∧ W.cell? ⟨yb + 1, 0, none⟩ = some (.int .i64 s) ∧ W.cell? ⟨yb + 1, 1, none⟩ = some (.int .u64 (g : Int))) (first | exact hS0 | exact hS1.out _ ht5.out) (first | (go_at_call 40; refine (AL.out _ ((Turn.refl _ _).drewN _)).mono ?_; rintro e w5 ⟨rfl, ht5⟩; replace ht5 := Lib.hid ht5))
    have HS5 : Hid (S w5 (.slice tA nh tc) L hs ∧ At w5 yb (.cells #[.int .i64 4, .int .u8 (iu : Int), .string x, .int .i64 s, .int .u64 (g : Int), .int .u8 (ago : Int)] 63 (0, 0)) ∧ At w5 (yb + 1) (.cells #[.int .i64 s, .int .u64 (g : Int)] 32 (0, 0))) :=
      Lib.hid ⟨HI.out.same HS4.out.1 ht5.out, HS4.out.2.1.turn ht5.out (fun h => h), HS4.out.2.2.turn ht5.out (fun h => h)⟩
    have z4 := hS1.out _ ht5.out
    clear AL hS0 hS1 HS4 cx4 ch0 ch1 lh lx ht5
    obtain ⟨z4, z5, z6⟩ := z4
    have y0 := HS5.out.2.1.cell 0
    have ly := HS5.out.2.1.lt
    have lh := HS5.out.2.2.lt
    simp at y0
    obtain ⟨al, hal⟩ : ∃ al, (alv L i s g).isSome = al := ⟨_, rfl⟩
    rw [hal]
    have G1 := HI.out.get HS5.out.1 i g s hi1 hi3 HB.out
    cases ha : alv L i s g with
    | none =>
      rw [ha] at G1 hal
      obtain rfl : al = false := hal.symm
      have HG := Lib.hid G1
      clear G1 hal
      replace ha := Lib.hid ha
      go_wp2_with fail
      refine HG.out.mono ?_
      rintro e w7 ⟨rfl, t7⟩
      have H7 : Hid (S w7 (.slice tA nh tc) L hs ∧ At w7 yb (.cells #[.int .i64 4, .int .u8 (iu : Int), .string x, .int .i64 s, .int .u64 (g : Int), .int .u8 (ago : Int)] 63 (0, 0)) ∧ At w7 (yb + 1) (.cells #[.int .i64 s, .int .u64 (g : Int)] 32 (0, 0))) := Lib.hid ⟨HI.out.same HS5.out.1 t7, HS5.out.2.1.turn t7 (fun h => h), HS5.out.2.2.turn t7 (fun h => h)⟩
      have x74 := (HI.out.hd H7.out.1).cell 4
      have lx7 := (HI.out.hd H7.out.1).lt
      have y70 := H7.out.2.1.cell 0
      have ly7 := H7.out.2.1.lt
      have h70 := H7.out.2.2.cell 0
      have h71 := H7.out.2.2.cell 1
      have lh7 := H7.out.2.2.lt
      simp at x74 y70 h70 h71
      clear t7 HG
      go_wp2_with fail
      go_quiet (fail)
      go_wp2_with fail
      have R1 : Hid (∀ W, Turn (fun _ => False) w7 W → Calls Tryd.prog 43 #[.pointer (some ⟨xb, 0, none⟩), .int .i64 (i : Int), .agg #[.int .i64 s, .int .u64 (g : Int)]] W fun e w1 => e = .returned (.bool (alv L i s g).isSome) ∧ w1.cell? ⟨xb, 4, none⟩ = some qv ∧ xb < w1.heap.size ∧ Keeps w7 w1 ∧
          ∀ W', Turn (fun _ => False) w1 W' → Calls Tryd.prog 44 #[qv, .int .i64 (i : Int), .agg #[.int .i64 s, .int .u64 (g : Int)]] W' fun e w2 => e = .returned (.bool (alv L i s g).isSome) ∧ Keeps W' w2 ∧ S w2 (.slice tA nh tc) (relL L i s g) hs) :=
        Lib.hid fun W t => (HI.out.rel (HI.out.same H7.out.1 t) i g s hi1 hi3 HB.out).mono fun e w1 ⟨he, h1, h2, h3, h4⟩ => ⟨he, h1, h2, (Keeps.same t).trans h3, h4⟩
      have KK : Hid (∀ w6, w6.cell? ⟨xb, 4, none⟩ = some qv → Keeps w7 w6 → w6.cell? ⟨xb, 4, none⟩ = some qv ∧ w6.cell? ⟨yb + 1, 0, none⟩ = some (.int .i64 s) ∧ w6.cell? ⟨yb + 1, 1, none⟩ = some (.int .u64 (g : Int)) ∧ w6.cell? ⟨yb, 0, none⟩ = some (.int .i64 4)) := Lib.hid fun w6 c k => by
        have h2 := (k _ _ 32 (Or.inl rfl) H7.out.2.2).cell 0
        have h3 := (k _ _ 32 (Or.inl rfl) H7.out.2.2).cell 1
        have h4 := (k _ _ 63 (Or.inr rfl) H7.out.2.1).cell 0
        simp at h2 h3 h4
        exact ⟨c, h2, h3, h4⟩
      have KX : Hid (∀ w9, S w9 (.slice tA nh tc) (relL L i s g) hs → w9.cell? ⟨xb, 4, none⟩ = some qv) := Lib.hid fun w9 h9 => by
        have h1 := (HI.out.hd h9).cell 4
        simpa using h1
      have hS7 : ∀ n, ((w7.drewN n).drew).cell? ⟨xb, 4, none⟩ = some qv ∧ ((w7.drewN n).drew).cell? ⟨yb + 1, 0, none⟩ = some (.int .i64 s) ∧ ((w7.drewN n).drew).cell? ⟨yb + 1, 1, none⟩ = some (.int .u64 (g : Int)) ∧ ((w7.drewN n).drew).cell? ⟨yb, 0, none⟩ = some (.int .i64 4) := fun n => ⟨x74, h70, h71, y70⟩
      go_region_held3 (fun W => W.cell? ⟨xb, 4, none⟩ = some qv ∧ W.cell? ⟨yb + 1, 0, none⟩ = some (.int .i64 s) ∧ W.cell? ⟨yb + 1, 1, none⟩ = some (.int .u64 (g : Int)) ∧ W.cell? ⟨yb, 0, none⟩ = some (.int .i64 4)) (first | exact hS7 _ | exact KK.out _ (KX.out _ h9.out) (hk8.out.trans hk9.out) | exact KK.out _ c8 hk8.out) (first | (go_at_call 43; refine (R1.out _ (((Turn.refl (fun _ => False) w7).drewN _).drew)).mono ?_; rintro e w8 ⟨rfl, c8, l8, hk8, R2⟩; replace hk8 := Lib.hid hk8; replace R2 := Lib.hid R2) | (go_at_call 44; refine (R2.out _ (Turn.refl _ _)).mono ?_; rintro e w9 ⟨rfl, hk9, h9⟩; replace hk9 := Lib.hid hk9; replace h9 := Lib.hid h9))
      all_goals
        go_wp2_with fail
        go_ret
        exact ⟨rfl, _, _, _, h9.out, by rw [← HNH.out]; omega⟩
    | some pq =>
      obtain ⟨kq, q⟩ := pq
      rw [ha] at G1 hal
      obtain rfl : al = true := hal.symm
      obtain ⟨qb, lb, cap, rfl, hdoc⟩ := HI.out.look HS5.out.1 i g s kq q ha
      obtain ⟨hkq, hLk, hw, hgq⟩ := alv_some ha
      have hkl : kq < L.length := (List.getElem?_eq_some_iff.1 hLk).1
      have b0 : (0 : Int) ≤ s := by omega
      have b1 : s < (L.length : Int) := by omega
      have b2 : s.toNat = kq := by omega
      have HG : Hid (Calls Tryd.prog 46 #[.pointer (some ⟨xb, 0, none⟩), .int .i64 (i : Int), .agg #[.int .i64 s, .int .u64 (g : Int)]] w5 fun e w' => e = .returned (.tuple #[.string q.x, .bool true]) ∧ Turn (fun _ => False) w5 w') := Lib.hid G1
      have HD := Lib.hid (And.intro hdoc hLk)
      replace ha := Lib.hid ha
      clear G1 hal hdoc hLk hw hgq hkl hkq
      go_wp2_with fail
      refine HG.out.mono ?_
      rintro e w7 ⟨rfl, t7⟩
      have d7 := HD.out.1.same t7
      have q2 := d7.head
      have q5 := (d7.at HD.out.2).2.2
      have q8 := d7.hd.lt
      obtain ⟨lc, hlc, _⟩ := d7.row
      have q11 := hlc.lt
      have H7 : Hid (S w7 (.slice tA nh tc) L hs ∧ At w7 yb (.cells #[.int .i64 4, .int .u8 (iu : Int), .string x, .int .i64 s, .int .u64 (g : Int), .int .u8 (ago : Int)] 63 (0, 0)) ∧ At w7 (yb + 1) (.cells #[.int .i64 s, .int .u64 (g : Int)] 32 (0, 0))) := Lib.hid ⟨HI.out.same HS5.out.1 t7, HS5.out.2.1.turn t7 (fun h => h), HS5.out.2.2.turn t7 (fun h => h)⟩
      have x74 := (HI.out.hd H7.out.1).cell 4
      have lx7 := (HI.out.hd H7.out.1).lt
      have y70 := H7.out.2.1.cell 0
      have ly7 := H7.out.2.1.lt
      have h70 := H7.out.2.2.cell 0
      have h71 := H7.out.2.2.cell 1
      have lh7 := H7.out.2.2.lt
      simp at x74 y70 h70 h71
      clear t7 HG
      clear d7 hlc
      go_wp2_with fail
      go_quiet (fail)
      go_wp2_with fail
      have R1 : Hid (∀ W, Turn (fun _ => False) w7 W → Calls Tryd.prog 43 #[.pointer (some ⟨xb, 0, none⟩), .int .i64 (i : Int), .agg #[.int .i64 s, .int .u64 (g : Int)]] W fun e w1 => e = .returned (.bool (alv L i s g).isSome) ∧ w1.cell? ⟨xb, 4, none⟩ = some (.pointer (some ⟨qb, 0, none⟩)) ∧ xb < w1.heap.size ∧ Keeps w7 w1 ∧
          ∀ W', Turn (fun _ => False) w1 W' → Calls Tryd.prog 44 #[(.pointer (some ⟨qb, 0, none⟩)), .int .i64 (i : Int), .agg #[.int .i64 s, .int .u64 (g : Int)]] W' fun e w2 => e = .returned (.bool (alv L i s g).isSome) ∧ Keeps W' w2 ∧ S w2 (.slice tA nh tc) (relL L i s g) hs) :=
        Lib.hid fun W t => (HI.out.rel (HI.out.same H7.out.1 t) i g s hi1 hi3 HB.out).mono fun e w1 ⟨he, h1, h2, h3, h4⟩ => ⟨he, h1, h2, (Keeps.same t).trans h3, h4⟩
      have KK : Hid (∀ w6, w6.cell? ⟨xb, 4, none⟩ = some (.pointer (some ⟨qb, 0, none⟩)) → Keeps w7 w6 → w6.cell? ⟨xb, 4, none⟩ = some (.pointer (some ⟨qb, 0, none⟩)) ∧ w6.cell? ⟨yb + 1, 0, none⟩ = some (.int .i64 s) ∧ w6.cell? ⟨yb + 1, 1, none⟩ = some (.int .u64 (g : Int)) ∧ w6.cell? ⟨yb, 0, none⟩ = some (.int .i64 4)) := Lib.hid fun w6 c k => by
        have h2 := (k _ _ 32 (Or.inl rfl) H7.out.2.2).cell 0
        have h3 := (k _ _ 32 (Or.inl rfl) H7.out.2.2).cell 1
        have h4 := (k _ _ 63 (Or.inr rfl) H7.out.2.1).cell 0
        simp at h2 h3 h4
        exact ⟨c, h2, h3, h4⟩
      have KX : Hid (∀ w9, S w9 (.slice tA nh tc) (relL L i s g) hs → w9.cell? ⟨xb, 4, none⟩ = some (.pointer (some ⟨qb, 0, none⟩))) := Lib.hid fun w9 h9 => by
        have h1 := (HI.out.hd h9).cell 4
        simpa using h1
      have hS7 : ∀ n, ((w7.drewN n).drew).cell? ⟨xb, 4, none⟩ = some (.pointer (some ⟨qb, 0, none⟩)) ∧ ((w7.drewN n).drew).cell? ⟨yb + 1, 0, none⟩ = some (.int .i64 s) ∧ ((w7.drewN n).drew).cell? ⟨yb + 1, 1, none⟩ = some (.int .u64 (g : Int)) ∧ ((w7.drewN n).drew).cell? ⟨yb, 0, none⟩ = some (.int .i64 4) := fun n => ⟨x74, h70, h71, y70⟩
      go_region_held3 (fun W => W.cell? ⟨xb, 4, none⟩ = some (.pointer (some ⟨qb, 0, none⟩)) ∧ W.cell? ⟨yb + 1, 0, none⟩ = some (.int .i64 s) ∧ W.cell? ⟨yb + 1, 1, none⟩ = some (.int .u64 (g : Int)) ∧ W.cell? ⟨yb, 0, none⟩ = some (.int .i64 4)) (first | exact hS7 _ | exact KK.out _ (KX.out _ h9.out) (hk8.out.trans hk9.out) | exact KK.out _ c8 hk8.out) (first | (go_at_call 43; refine (R1.out _ (((Turn.refl (fun _ => False) w7).drewN _).drew)).mono ?_; rintro e w8 ⟨rfl, c8, l8, hk8, R2⟩; replace hk8 := Lib.hid hk8; replace R2 := Lib.hid R2) | (go_at_call 44; refine (R2.out _ (Turn.refl _ _)).mono ?_; rintro e w9 ⟨rfl, hk9, h9⟩; replace hk9 := Lib.hid hk9; replace h9 := Lib.hid h9))
      all_goals
        go_wp2_with fail
        go_ret
        exact ⟨rfl, _, _, _, h9.out, by rw [← HNH.out]; omega⟩
  · have b0 : (0 : Int) < (nh : Int) := by omega
    have bz : ((nh : Int) == 0) = false := by simp; omega
    have hmod : ago % nh < nh := Nat.mod_lt _ (by omega)
    obtain ⟨k, hk⟩ : ∃ k, k = nh - 1 - ago % nh := ⟨_, rfl⟩
    have hkn : k < nh := by omega
    have hem : ((ago % nh : Nat) : Int) = (ago : Int) % (nh : Int) := Int.natCast_emod ago nh
    have j0 : (0 : Int) ≤ (nh : Int) - 1 - (ago : Int) % (nh : Int) := by omega
    have j1 : (nh : Int) - 1 - (ago : Int) % (nh : Int) < (nh : Int) := by omega
    have j2 : ((nh : Int) - 1 - (ago : Int) % (nh : Int)).toNat = k := by omega
    obtain ⟨p, hp⟩ : ∃ p, hs[k]? = some p := ⟨_, List.getElem?_eq_getElem (by rw [← HNH.out]; exact hkn)⟩
    have htl := HI.out.told HS.out.1
    rw [HNH.out] at htl
    obtain ⟨tg, rfl, htg0, htg, ct0, ct1, c32, hc32⟩ := htl.at hp
    rw [← HNH.out] at htl
    have htc : nh ≤ tc := by
      rcases htl.2 with ⟨e, _⟩ | ⟨g', cap', cur, hv, _, _, hle, _⟩
      · cases e
      · injection hv with _ _ hv
        rw [hv, HNH.out]
        exact hle
    obtain ⟨p1, gvv⟩ := p
    have hpb := HI.out.each HS.out.1 _ (List.mem_of_getElem? hp)
    obtain ⟨svv, hsv⟩ : ∃ svv : Int, (p1 : Int) = svv := ⟨_, rfl⟩
    have HB : Hid (I64 svv) := Lib.hid (by have := hpb.1; unfold I64; omega)
    simp only [hsv] at ct0
    have htgy : tg < yb := HN.out tg rfl
    have nx : (⟨xb, 5, none⟩ : Addr).block ≠ yb + 1 := fun e => by
      have e : xb = yb + 1 := e
      have := (HI.out.hd HS.out.1)
      rw [e] at this
      have := this.eq HS.out.2.2
      injection this with _ this _
      cases this
    have nt1 : (⟨tg, k * 2, none⟩ : Addr).block ≠ yb + 1 := by show tg ≠ yb + 1; omega
    have nt2 : (⟨tg, k * 2 + 1, none⟩ : Addr).block ≠ yb + 1 := by show tg ≠ yb + 1; omega
    have nyy : (⟨yb, 5, none⟩ : Addr).block ≠ yb + 1 := by show yb ≠ yb + 1; omega
    have t4 : Turn (· = yb + 1) w4 (((w4.setCell ⟨yb + 1, 0, none⟩ (.int .i64 svv)).setCell ⟨yb + 1, 1, none⟩ (.int .u64 (gvv : Int))).drew) := (((Turn.refl (fun i => i = yb + 1) w4).setCell (p := ⟨yb + 1, 0, none⟩) (Or.inl rfl) _).setCell (p := ⟨yb + 1, 1, none⟩) (Or.inl rfl) _).drew
    have HS4 : Hid (S (((w4.setCell ⟨yb + 1, 0, none⟩ (.int .i64 svv)).setCell ⟨yb + 1, 1, none⟩ (.int .u64 (gvv : Int))).drew) (.slice (some ⟨tg, 0, none⟩) nh tc) L hs ∧ At (((w4.setCell ⟨yb + 1, 0, none⟩ (.int .i64 svv)).setCell ⟨yb + 1, 1, none⟩ (.int .u64 (gvv : Int))).drew) yb (.cells #[.int .i64 4, .int .u8 (iu : Int), .string x, .int .i64 s, .int .u64 (g : Int), .int .u8 (ago : Int)] 63 (0, 0)) ∧ At (((w4.setCell ⟨yb + 1, 0, none⟩ (.int .i64 svv)).setCell ⟨yb + 1, 1, none⟩ (.int .u64 (gvv : Int))).drew) (yb + 1) (.cells #[.int .i64 svv, .int .u64 (gvv : Int)] 32 (0, 0))) := by
      have hh := HS.out.2.2
      refine Lib.hid ⟨HI.out.own HS.out.1 ⟨_, hh⟩ (fun e => ?_) (by have := HY.out; omega) t4, HS.out.2.1.turn t4 (by omega), ?_⟩
      · have e : tg = yb + 1 := by injection e
        omega
      · have := ((hh.set 0 (.int .i64 svv)).set 1 (.int .u64 (gvv : Int))).turn ((Turn.refl (fun _ => False) _).drew) (fun h => h)
        simpa using this
    have nyb : yb ≠ yb + 1 := by omega
    clear htl hp hc32 hk hmod hem hpb hsv htgy t4
    have hS4 : w4.drew.cell? ⟨xb, 5, none⟩ = some (.slice (some ⟨tg, 0, none⟩) nh tc) ∧ w4.drew.cell? ⟨yb, 5, none⟩ = some (.int .u8 (ago : Int)) ∧ w4.drew.cell? ⟨tg, k * 2, none⟩ = some (.int .i64 svv) ∧ w4.drew.cell? ⟨tg, k * 2 + 1, none⟩ = some (.int .u64 (gvv : Int)) := ⟨cx5, y4, ct0, ct1⟩
    have e4 : (nh : Int) - 1 - (ago : Int) % (nh : Int) = (k : Int) := by omega
    have e5 : (0 : Int) ≤ (k : Int) := by omega
    have e6 : (k : Int) < (nh : Int) := by omega
    clear j0 j1 j2
    go_upto_region 4 with (fail)
    go_region
    all_goals
      generalize (((w4.setCell ⟨yb + 1, 0, none⟩ (.int .i64 svv)).setCell ⟨yb + 1, 1, none⟩ (.int .u64 (gvv : Int))).drew) = w4b at HS4 ⊢
      clear hS4 HS cx5 lx y0 y4 ly zh0 zh1 ch0 ch1 lh hb nx nt1 nt2 nyy ct0 ct1
      go_upto_region 5 with (fail)
      have cx4 := (HI.out.hd HS4.out.1).cell 4
      have ch0 := HS4.out.2.2.cell 0
      have ch1 := HS4.out.2.2.cell 1
      have lh := HS4.out.2.2.lt
      have lx := (HI.out.hd HS4.out.1).lt
      simp at cx4 ch0 ch1
      have AL : Hid (∀ W, Turn (fun _ => False) w4b W → Calls Tryd.prog 40 #[qv, .int .i64 (i : Int), .agg #[.int .i64 svv, .int .u64 (gvv : Int)]] W fun e w' => e = .returned (.bool (alv L i svv gvv).isSome) ∧ Turn (fun _ => False) w4b w') :=
        Lib.hid fun W t => (HI.out.alive (HI.out.same HS4.out.1 t) i gvv svv).mono fun e w' ⟨he, t2⟩ => ⟨he, t.trans t2⟩
      have hS0 : w4b.drew.cell? ⟨xb, 4, none⟩ = some qv ∧ w4b.drew.cell? ⟨yb + 1, 0, none⟩ = some (.int .i64 svv) ∧ w4b.drew.cell? ⟨yb + 1, 1, none⟩ = some (.int .u64 (gvv : Int)) := ⟨cx4, ch0, ch1⟩
      have hS1 : Hid (∀ w5, Turn (fun _ => False) w4b w5 → w5.cell? ⟨xb, 4, none⟩ = some qv ∧ w5.cell? ⟨yb + 1, 0, none⟩ = some (.int .i64 svv) ∧ w5.cell? ⟨yb + 1, 1, none⟩ = some (.int .u64 (gvv : Int))) := Lib.hid fun w5 t => by
        have h1 := (HI.out.hd (HI.out.same HS4.out.1 t)).cell 4
        have h2 := (HS4.out.2.2.turn t (fun h => h)).cell 0
        have h3 := (HS4.out.2.2.turn t (fun h => h)).cell 1
        simp at h1 h2 h3
        exact ⟨h1, h2, h3⟩
      go_region_held3 (fun W => W.cell? ⟨xb, 4, none⟩ = some qv ∧ W.cell? ⟨yb + 1, 0, none⟩ = some (.int .i64 svv) ∧ W.cell? ⟨yb + 1, 1, none⟩ = some (.int .u64 (gvv : Int))) (first | exact hS0 | exact hS1.out _ ht5.out) (first | (go_at_call 40; refine (AL.out _ ((Turn.refl _ _).drewN _)).mono ?_; rintro e w5 ⟨rfl, ht5⟩; replace ht5 := Lib.hid ht5))
      have HS5 : Hid (S w5 (.slice (some ⟨tg, 0, none⟩) nh tc) L hs ∧ At w5 yb (.cells #[.int .i64 4, .int .u8 (iu : Int), .string x, .int .i64 s, .int .u64 (g : Int), .int .u8 (ago : Int)] 63 (0, 0)) ∧ At w5 (yb + 1) (.cells #[.int .i64 svv, .int .u64 (gvv : Int)] 32 (0, 0))) :=
        Lib.hid ⟨HI.out.same HS4.out.1 ht5.out, HS4.out.2.1.turn ht5.out (fun h => h), HS4.out.2.2.turn ht5.out (fun h => h)⟩
      have z4 := hS1.out _ ht5.out
      clear AL hS0 hS1 HS4 cx4 ch0 ch1 lh lx ht5
      obtain ⟨z4, z5, z6⟩ := z4
      have y0 := HS5.out.2.1.cell 0
      have ly := HS5.out.2.1.lt
      have lh := HS5.out.2.2.lt
      simp at y0
      obtain ⟨al, hal⟩ : ∃ al, (alv L i svv gvv).isSome = al := ⟨_, rfl⟩
      rw [hal]
      have G1 := HI.out.get HS5.out.1 i gvv svv hi1 hi3 HB.out
      cases ha : alv L i svv gvv with
      | none =>
        rw [ha] at G1 hal
        obtain rfl : al = false := hal.symm
        have HG := Lib.hid G1
        clear G1 hal
        replace ha := Lib.hid ha
        go_wp2_with fail
        refine HG.out.mono ?_
        rintro e w7 ⟨rfl, t7⟩
        have H7 : Hid (S w7 (.slice (some ⟨tg, 0, none⟩) nh tc) L hs ∧ At w7 yb (.cells #[.int .i64 4, .int .u8 (iu : Int), .string x, .int .i64 s, .int .u64 (g : Int), .int .u8 (ago : Int)] 63 (0, 0)) ∧ At w7 (yb + 1) (.cells #[.int .i64 svv, .int .u64 (gvv : Int)] 32 (0, 0))) := Lib.hid ⟨HI.out.same HS5.out.1 t7, HS5.out.2.1.turn t7 (fun h => h), HS5.out.2.2.turn t7 (fun h => h)⟩
        have x74 := (HI.out.hd H7.out.1).cell 4
        have lx7 := (HI.out.hd H7.out.1).lt
        have y70 := H7.out.2.1.cell 0
        have ly7 := H7.out.2.1.lt
        have h70 := H7.out.2.2.cell 0
        have h71 := H7.out.2.2.cell 1
        have lh7 := H7.out.2.2.lt
        simp at x74 y70 h70 h71
        clear t7 HG
        go_wp2_with fail
        go_quiet (fail)
        go_wp2_with fail
        have R1 : Hid (∀ W, Turn (fun _ => False) w7 W → Calls Tryd.prog 43 #[.pointer (some ⟨xb, 0, none⟩), .int .i64 (i : Int), .agg #[.int .i64 svv, .int .u64 (gvv : Int)]] W fun e w1 => e = .returned (.bool (alv L i svv gvv).isSome) ∧ w1.cell? ⟨xb, 4, none⟩ = some qv ∧ xb < w1.heap.size ∧ Keeps w7 w1 ∧
            ∀ W', Turn (fun _ => False) w1 W' → Calls Tryd.prog 44 #[qv, .int .i64 (i : Int), .agg #[.int .i64 svv, .int .u64 (gvv : Int)]] W' fun e w2 => e = .returned (.bool (alv L i svv gvv).isSome) ∧ Keeps W' w2 ∧ S w2 (.slice (some ⟨tg, 0, none⟩) nh tc) (relL L i svv gvv) hs) :=
          Lib.hid fun W t => (HI.out.rel (HI.out.same H7.out.1 t) i gvv svv hi1 hi3 HB.out).mono fun e w1 ⟨he, h1, h2, h3, h4⟩ => ⟨he, h1, h2, (Keeps.same t).trans h3, h4⟩
        have KK : Hid (∀ w6, w6.cell? ⟨xb, 4, none⟩ = some qv → Keeps w7 w6 → w6.cell? ⟨xb, 4, none⟩ = some qv ∧ w6.cell? ⟨yb + 1, 0, none⟩ = some (.int .i64 svv) ∧ w6.cell? ⟨yb + 1, 1, none⟩ = some (.int .u64 (gvv : Int)) ∧ w6.cell? ⟨yb, 0, none⟩ = some (.int .i64 4)) := Lib.hid fun w6 c k => by
          have h2 := (k _ _ 32 (Or.inl rfl) H7.out.2.2).cell 0
          have h3 := (k _ _ 32 (Or.inl rfl) H7.out.2.2).cell 1
          have h4 := (k _ _ 63 (Or.inr rfl) H7.out.2.1).cell 0
          simp at h2 h3 h4
          exact ⟨c, h2, h3, h4⟩
        have KX : Hid (∀ w9, S w9 (.slice (some ⟨tg, 0, none⟩) nh tc) (relL L i svv gvv) hs → w9.cell? ⟨xb, 4, none⟩ = some qv) := Lib.hid fun w9 h9 => by
          have h1 := (HI.out.hd h9).cell 4
          simpa using h1
        have hS7 : ∀ n, ((w7.drewN n).drew).cell? ⟨xb, 4, none⟩ = some qv ∧ ((w7.drewN n).drew).cell? ⟨yb + 1, 0, none⟩ = some (.int .i64 svv) ∧ ((w7.drewN n).drew).cell? ⟨yb + 1, 1, none⟩ = some (.int .u64 (gvv : Int)) ∧ ((w7.drewN n).drew).cell? ⟨yb, 0, none⟩ = some (.int .i64 4) := fun n => ⟨x74, h70, h71, y70⟩
        go_region_held3 (fun W => W.cell? ⟨xb, 4, none⟩ = some qv ∧ W.cell? ⟨yb + 1, 0, none⟩ = some (.int .i64 svv) ∧ W.cell? ⟨yb + 1, 1, none⟩ = some (.int .u64 (gvv : Int)) ∧ W.cell? ⟨yb, 0, none⟩ = some (.int .i64 4)) (first | exact hS7 _ | exact KK.out _ (KX.out _ h9.out) (hk8.out.trans hk9.out) | exact KK.out _ c8 hk8.out) (first | (go_at_call 43; refine (R1.out _ (((Turn.refl (fun _ => False) w7).drewN _).drew)).mono ?_; rintro e w8 ⟨rfl, c8, l8, hk8, R2⟩; replace hk8 := Lib.hid hk8; replace R2 := Lib.hid R2) | (go_at_call 44; refine (R2.out _ (Turn.refl _ _)).mono ?_; rintro e w9 ⟨rfl, hk9, h9⟩; replace hk9 := Lib.hid hk9; replace h9 := Lib.hid h9))
        all_goals
          go_wp2_with fail
          go_ret
          exact ⟨rfl, _, _, _, h9.out, by rw [← HNH.out]; omega⟩
      | some pq =>
        obtain ⟨kq, q⟩ := pq
        rw [ha] at G1 hal
        obtain rfl : al = true := hal.symm
        obtain ⟨qb, lb, cap, rfl, hdoc⟩ := HI.out.look HS5.out.1 i gvv svv kq q ha
        obtain ⟨hkq, hLk, hw, hgq⟩ := alv_some ha
        have hkl : kq < L.length := (List.getElem?_eq_some_iff.1 hLk).1
        have b0 : (0 : Int) ≤ svv := by omega
        have b1 : svv < (L.length : Int) := by omega
        have b2 : svv.toNat = kq := by omega
        have HG : Hid (Calls Tryd.prog 46 #[.pointer (some ⟨xb, 0, none⟩), .int .i64 (i : Int), .agg #[.int .i64 svv, .int .u64 (gvv : Int)]] w5 fun e w' => e = .returned (.tuple #[.string q.x, .bool true]) ∧ Turn (fun _ => False) w5 w') := Lib.hid G1
        have HD := Lib.hid (And.intro hdoc hLk)
        replace ha := Lib.hid ha
        clear G1 hal hdoc hLk hw hgq hkl hkq
        go_wp2_with fail
        refine HG.out.mono ?_
        rintro e w7 ⟨rfl, t7⟩
        have d7 := HD.out.1.same t7
        have q2 := d7.head
        have q5 := (d7.at HD.out.2).2.2
        have q8 := d7.hd.lt
        obtain ⟨lc, hlc, _⟩ := d7.row
        have q11 := hlc.lt
        have H7 : Hid (S w7 (.slice (some ⟨tg, 0, none⟩) nh tc) L hs ∧ At w7 yb (.cells #[.int .i64 4, .int .u8 (iu : Int), .string x, .int .i64 s, .int .u64 (g : Int), .int .u8 (ago : Int)] 63 (0, 0)) ∧ At w7 (yb + 1) (.cells #[.int .i64 svv, .int .u64 (gvv : Int)] 32 (0, 0))) := Lib.hid ⟨HI.out.same HS5.out.1 t7, HS5.out.2.1.turn t7 (fun h => h), HS5.out.2.2.turn t7 (fun h => h)⟩
        have x74 := (HI.out.hd H7.out.1).cell 4
        have lx7 := (HI.out.hd H7.out.1).lt
        have y70 := H7.out.2.1.cell 0
        have ly7 := H7.out.2.1.lt
        have h70 := H7.out.2.2.cell 0
        have h71 := H7.out.2.2.cell 1
        have lh7 := H7.out.2.2.lt
        simp at x74 y70 h70 h71
        clear t7 HG
        clear d7 hlc
        go_wp2_with fail
        go_quiet (fail)
        go_wp2_with fail
        have R1 : Hid (∀ W, Turn (fun _ => False) w7 W → Calls Tryd.prog 43 #[.pointer (some ⟨xb, 0, none⟩), .int .i64 (i : Int), .agg #[.int .i64 svv, .int .u64 (gvv : Int)]] W fun e w1 => e = .returned (.bool (alv L i svv gvv).isSome) ∧ w1.cell? ⟨xb, 4, none⟩ = some (.pointer (some ⟨qb, 0, none⟩)) ∧ xb < w1.heap.size ∧ Keeps w7 w1 ∧
            ∀ W', Turn (fun _ => False) w1 W' → Calls Tryd.prog 44 #[(.pointer (some ⟨qb, 0, none⟩)), .int .i64 (i : Int), .agg #[.int .i64 svv, .int .u64 (gvv : Int)]] W' fun e w2 => e = .returned (.bool (alv L i svv gvv).isSome) ∧ Keeps W' w2 ∧ S w2 (.slice (some ⟨tg, 0, none⟩) nh tc) (relL L i svv gvv) hs) :=
          Lib.hid fun W t => (HI.out.rel (HI.out.same H7.out.1 t) i gvv svv hi1 hi3 HB.out).mono fun e w1 ⟨he, h1, h2, h3, h4⟩ => ⟨he, h1, h2, (Keeps.same t).trans h3, h4⟩
        have KK : Hid (∀ w6, w6.cell? ⟨xb, 4, none⟩ = some (.pointer (some ⟨qb, 0, none⟩)) → Keeps w7 w6 → w6.cell? ⟨xb, 4, none⟩ = some (.pointer (some ⟨qb, 0, none⟩)) ∧ w6.cell? ⟨yb + 1, 0, none⟩ = some (.int .i64 svv) ∧ w6.cell? ⟨yb + 1, 1, none⟩ = some (.int .u64 (gvv : Int)) ∧ w6.cell? ⟨yb, 0, none⟩ = some (.int .i64 4)) := Lib.hid fun w6 c k => by
          have h2 := (k _ _ 32 (Or.inl rfl) H7.out.2.2).cell 0
          have h3 := (k _ _ 32 (Or.inl rfl) H7.out.2.2).cell 1
          have h4 := (k _ _ 63 (Or.inr rfl) H7.out.2.1).cell 0
          simp at h2 h3 h4
          exact ⟨c, h2, h3, h4⟩
        have KX : Hid (∀ w9, S w9 (.slice (some ⟨tg, 0, none⟩) nh tc) (relL L i svv gvv) hs → w9.cell? ⟨xb, 4, none⟩ = some (.pointer (some ⟨qb, 0, none⟩))) := Lib.hid fun w9 h9 => by
          have h1 := (HI.out.hd h9).cell 4
          simpa using h1
        have hS7 : ∀ n, ((w7.drewN n).drew).cell? ⟨xb, 4, none⟩ = some (.pointer (some ⟨qb, 0, none⟩)) ∧ ((w7.drewN n).drew).cell? ⟨yb + 1, 0, none⟩ = some (.int .i64 svv) ∧ ((w7.drewN n).drew).cell? ⟨yb + 1, 1, none⟩ = some (.int .u64 (gvv : Int)) ∧ ((w7.drewN n).drew).cell? ⟨yb, 0, none⟩ = some (.int .i64 4) := fun n => ⟨x74, h70, h71, y70⟩
        go_region_held3 (fun W => W.cell? ⟨xb, 4, none⟩ = some (.pointer (some ⟨qb, 0, none⟩)) ∧ W.cell? ⟨yb + 1, 0, none⟩ = some (.int .i64 svv) ∧ W.cell? ⟨yb + 1, 1, none⟩ = some (.int .u64 (gvv : Int)) ∧ W.cell? ⟨yb, 0, none⟩ = some (.int .i64 4)) (first | exact hS7 _ | exact KK.out _ (KX.out _ h9.out) (hk8.out.trans hk9.out) | exact KK.out _ c8 hk8.out) (first | (go_at_call 43; refine (R1.out _ (((Turn.refl (fun _ => False) w7).drewN _).drew)).mono ?_; rintro e w8 ⟨rfl, c8, l8, hk8, R2⟩; replace hk8 := Lib.hid hk8; replace R2 := Lib.hid R2) | (go_at_call 44; refine (R2.out _ (Turn.refl _ _)).mono ?_; rintro e w9 ⟨rfl, hk9, h9⟩; replace hk9 := Lib.hid hk9; replace h9 := Lib.hid h9))
        all_goals
          go_wp2_with fail
          go_ret
          exact ⟨rfl, _, _, _, h9.out, by rw [← HNH.out]; omega⟩
end Go.Proofs.YtbdfbgkfhaiccaaDoor
