/-
  ArenaRoom, walked.
-/
import Derived.Test.YtbdfbgkfhaiccaaDoorWLeast
namespace Go.Proofs.YtbdfbgkfhaiccaaDoor
open Go.RowKit Go.Maps
set_option linter.unusedVariables false

theorem Ar.drewN {tA tP : TypeId} {w : World} {ab mb n : Nat} {pp : Value} {M : Nat → Option (Nat × Value)} (h : Ar tA tP w ab mb pp M n) (k : Nat) : Ar tA tP (w.drewN k) ab mb pp M n := h.same ((Turn.refl _ w).drewN k)

/-- A pool and two arenas while the first one fills. -/
structure RoomSt (w wr : World) (n pb gb fb aa am ba bm : Nat) (G : List Nat) (fr : Nat → Bool) (Ma Mb : Nat → Option (Nat × Value)) (na nb q : Nat) : Prop where
  pool : Pool wr pb gb fb G fr
  a : Ar 92 100 wr aa am (.pointer (some ⟨pb, 0, none⟩)) Ma na
  b : Ar 89 97 wr ba bm (.pointer (some ⟨pb, 0, none⟩)) Mb nb
  n1 : am ≠ bm
  old : Turn (fun _ => False) w wr
  new : w.heap.size ≤ fb ∧ w.heap.size ≤ am
  glen : G.length = n
  free : ∀ x, fr x = true → x < n ∧ Ma x = none
  left : cnt fr n = q
  most : na + q ≤ n

def RoomRel (w : World) (n q pb gb fb aa am ba bm : Nat) (i : Value) (wr : World) : Prop :=
  ∃ (k : Nat) (G : List Nat) (fr : Nat → Bool) (Ma Mb : Nat → Option (Nat × Value)) (na nb : Nat), k ≤ q ∧ i = .int .i64 (k : Int) ∧ RoomSt w wr n pb gb fb aa am ba bm G fr Ma Mb na nb (q - k)

theorem RoomSt.same {w wr wr' : World} {n pb gb fb aa am ba bm : Nat} {G : List Nat} {fr : Nat → Bool} {Ma Mb : Nat → Option (Nat × Value)} {na nb q : Nat} (h : RoomSt w wr n pb gb fb aa am ba bm G fr Ma Mb na nb q) (t : Turn (fun _ => False) wr wr') : RoomSt w wr' n pb gb fb aa am ba bm G fr Ma Mb na nb q :=
  ⟨h.pool.turn t (fun h => h) (fun h => h) (fun h => h), h.a.same t, h.b.same t, h.n1, h.old.trans t, h.new, h.glen, h.free, h.left, h.most⟩

theorem RoomSt.putA {w wr wr' : World} {n pb gb fb aa am ba bm s : Nat} {G : List Nat} {fr : Nat → Bool} {Ma Mb : Nat → Option (Nat × Value)} {na nb q : Nat} {p : Nat × Value} (h : RoomSt w wr n pb gb fb aa am ba bm G fr Ma Mb na nb q) (hs : fr s = true) (hp : Pool wr' pb gb fb G (fun x => fr x && x != s)) (ha : Ar 92 100 wr' aa am (.pointer (some ⟨pb, 0, none⟩)) (updM Ma s (some p)) (na + 1))
    (t : Turn (fun i => i = fb ∨ i = am) wr wr') : RoomSt w wr' n pb gb fb aa am ba bm G (fun x => fr x && x != s) (updM Ma s (some p)) Mb (na + 1) nb (q - 1) := by
  have hsn := (h.free s hs).1
  have h2 := cnt_out fr s hs n hsn
  have h3 := h.left
  have h4 := h.most
  obtain ⟨_, ⟨c2, hc2⟩, _⟩ := h.pool.rows
  obtain ⟨⟨es, cl, hm⟩, _⟩ := h.a.isMap
  obtain ⟨w1, w2⟩ := h.new
  refine ⟨hp, ha, h.b.far t ?_ (by decide) (by decide), h.n1, h.old.then t (fun i hi hx => by omega), h.new, h.glen, ?_, by omega, by omega⟩
  · intro i hi
    rcases hi with rfl | rfl
    · exact Or.inl ⟨_, _, hc2, Or.inl rfl⟩
    · exact Or.inr ⟨⟨_, _, hm⟩, h.n1⟩
  · intro x hx
    obtain ⟨hx1, hx2⟩ := Bool.and_eq_true_iff.1 hx
    obtain ⟨h5, h6⟩ := h.free x hx1
    refine ⟨h5, ?_⟩
    unfold updM
    rw [if_neg (by simpa using hx2)]
    exact h6

set_option maxRecDepth 100000 in
set_option maxHeartbeats 1000000 in
theorem arenaRoom_any (z n len cap : Nat) (A0 : Option Addr) (zs : List Int) (k0 : Int) (w : World) (hz : z < 256) (hzn : 1 + (z : Int) % 64 = (n : Int)) (hr : IsRow .u8 w A0 len cap zs) (hT : Tab w) :
    Calls Tryd.prog 7 #[.int .u8 (z : Int), .slice A0 len cap, .int .i64 k0] w fun e w' => e = .returned (.bool true) ∧ Below w.heap.size w w' := by
  have hlm := row_len hr
  unfold maxLen at hlm
  have AW := Lib.hid (awake_any w hT)
  have HR := Lib.hid (row_bytes hr)
  have HT := Lib.hid hT
  clear hT hr
  by_cases hlen : 300 < len
  · have g : decide ((300 : Int) < (len : Int)) = true := by simp; omega
    go_enter Tryd.func7, Tryd.ntmps7
    go_wp2_with fail
    refine AW.out.mono ?_
    rintro e w1 ⟨rfl, ht1⟩
    have H1 := Lib.hid ht1
    clear ht1
    go_wp2_with fail
    go_ret
    exact ⟨rfl, H1.out.below (Nat.le_refl _) (fun _ _ h => h)⟩
  · have g : decide ((300 : Int) < (len : Int)) = false := by simp; omega
    have hn1 : 1 ≤ n := by omega
    have hn2 : n ≤ 64 := by omega
    go_enter Tryd.func7, Tryd.ntmps7
    go_wp2_with fail
    refine AW.out.mono ?_
    rintro e w1 ⟨rfl, ht1⟩
    have TW := Lib.hid (two_any n len cap A0 (fun j => (zs.getD j 0).toNat) w1 hn1 hn2 (by omega) (HT.out.turn ht1 (fun h => h) HT.out.pos)
      (fun j hj => by
        obtain ⟨lb, lo, e1, e2, e3, e4⟩ := HR.out j hj
        exact ⟨lb, lo, e1, Nat.lt_of_lt_of_le e2 ht1.size, e3, (World.cell?_of_block (w := w) (ht1.block lb e2 (fun h => h))).trans e4⟩))
    have H1 := Lib.hid ht1
    clear ht1
    go_wp2_with fail
    refine TW.out.mono ?_
    rintro e w2 ⟨pb, gb, fb, aa, am, ba, bm, sb, G, fr, Ma, Mb, na, nb, f, ns, rfl, st⟩
    obtain ⟨q, hq⟩ : ∃ q, cnt fr n = q := ⟨_, rfl⟩
    have hGl := st.inv.glen
    have hsum := st.inv.sum
    have hall := st.inv.all
    rw [hq] at hall
    have hqG : cnt fr G.length = q := by rw [hGl]; exact hq
    have FR := free_any st.pool
    rw [hqG] at FR
    have FRH := Lib.hid FR
    have LVH := Lib.hid fun m => live_quiet st.pool (q := (ns : Int)) (by rw [hqG, hGl]; omega) m
    have LV0 : Hid (Calls Tryd.prog 14 #[.pointer (some ⟨pb, 0, none⟩)] w2 fun e w' => e = .returned (.int .i64 (ns : Int)) ∧ ∃ m, w' = w2.drewN m) := Lib.hid (LVH.out 0)
    have LIH := Lib.hid fun m => quiet_same (liveI (st.a.drewN m))
    have LSH := Lib.hid fun m => quiet_same (liveS (st.b.drewN m))
    have RM1 := Lib.hid fun m => room_quiet st.pool k0 rfl m
    rw [hqG] at RM1
    have RM2 := Lib.hid fun m => room_quiet st.pool (q : Int) (b := true) (by rw [hqG]; simp) m
    have RM3 := Lib.hid fun m => room_quiet st.pool ((q : Int) + 1) (b := false) (by rw [hqG]; simp only [decide_eq_false_iff_not]; omega) m
    have hlenm : ∀ m ty, (Builtin.len_ #[77] ty #[.map (some sb)]).run Tryd.prog (w2.drewN m) = .ok (.int .i64 (ns : Int)) (w2.drewN m) := fun m ty => (st.s.turn ((Turn.refl (fun _ => False) w2).drewN m) (fun h => h)).len Tryd.underlying77 ty
    have HS : Hid (∀ m, RoomRel w1 n q pb gb fb aa am ba bm (.int .i64 0) (w2.drewN m)) := Lib.hid fun m =>
      ⟨0, G, fr, Ma, Mb, na, nb, Nat.zero_le _, rfl, RoomSt.same ⟨st.pool, st.a, st.b, st.n1, st.old, ⟨st.new.2.1, st.new.2.2.1⟩, st.inv.glen, fun x hx => ⟨((st.inv.free x).1 hx).1, ((st.inv.free x).1 hx).2.1⟩, hq, by omega⟩ ((Turn.refl _ w2).drewN m)⟩
    have t1 : ((q : Int) + (ns : Int) != (n : Int)) = false := by simp; omega
    have t2 : ((ns : Int) != (ns : Int)) = false := by simp
    have t3 : ((na : Int) + (nb : Int) != (ns : Int)) = false := by simp; omega
    have t4 : ((decide (k0 ≤ (q : Int))) != (decide (k0 ≤ (q : Int)))) = false := by simp
    have hqn : q ≤ n := by omega
    have hnsn : ns ≤ n := by omega
    have hnan : na ≤ ns := by omega
    have hnbn : nb ≤ ns := by omega
    clear st hq hGl hsum hall hqG FR
    go_wp2_with fail
    refine FRH.out.mono ?_
    rintro e w3 ⟨rfl, rfl⟩
    go_wp2_with fail
    refine LV0.out.mono ?_
    rintro e w4 ⟨rfl, m4, rfl⟩
    go_wp2_with fail
    refine (LVH.out m4).mono ?_
    rintro e w5 ⟨rfl, m5, rfl⟩
    go_wp2_with fail
    refine (LIH.out m5).mono ?_
    rintro e w6 ⟨rfl, m6, rfl⟩
    go_wp2_with fail
    refine (LSH.out m6).mono ?_
    rintro e w7 ⟨rfl, m7, rfl⟩
    go_wp2_with fail
    refine (LVH.out m7).mono ?_
    rintro e w8 ⟨rfl, m8, rfl⟩
    go_wp2_with fail
    refine (RM1.out m8).mono ?_
    rintro e w9 ⟨rfl, m9, rfl⟩
    go_wp2_with fail
    refine (RM2.out m9).mono ?_
    rintro e w10 ⟨rfl, m10, rfl⟩
    go_wp2_with fail
    refine (RM3.out m10).mono ?_
    rintro e w11 ⟨rfl, m11, rfl⟩
    clear hlenm RM1 RM2 RM3 LVH LV0 LIH LSH FRH TW t1 t2 t3 t4
    go_wp2_with fail
    generalize hW : w2.drewN m11 = w12
    have HS0 : Hid (RoomRel w1 n q pb gb fb aa am ba bm (.int .i64 0) w12) := by rw [← hW]; exact HS.out m11
    clear hW HS
    go_loopw [14] (fun i wr => RoomRel w1 n q pb gb fb aa am ba bm i wr) (fun i _ => q - (intOf i).toNat)
    case atStart => exact HS0.out
    case round =>
      obtain ⟨k, G, fr, Ma, Mb, na, nb, hk, rfl, hst⟩ := hrel
      have HST := Lib.hid hst
      clear hst HS0
      by_cases hlt : k < q
      · have b1 : (k : Int) < (q : Int) := by omega
        obtain ⟨s, hsn, hs1, hsl⟩ := cnt_pos fr n (by rw [HST.out.left]; omega)
        have AL := Lib.hid (allocI_some (k : Int) HST.out.a HST.out.pool ((HT.out.turn H1.out (fun h => h) HT.out.pos).turn HST.out.old (fun h => h) (HT.out.turn H1.out (fun h => h) HT.out.pos).pos) hs1 hsl (HST.out.free s hs1).2 (by have := HST.out.most; omega))
        have HSS := Lib.hid hs1
        clear hs1 hsl
        generalize hg : G.getD s 0 = g at AL
        clear hg
        go_wp2_with fail
        refine AL.out.mono ?_
        rintro e w5 ⟨rfl, hp5, ha5, ht5⟩
        have HE := Lib.hid (HST.out.putA HSS.out hp5 ha5 ht5)
        clear hp5 ha5 ht5 AL
        go_wp2_with fail
        go_roundw
        case rel => exact ⟨k + 1, _, _, _, _, _, _, by omega, by go_num, by
          have := HE.out.same ((Turn.refl (fun _ => False) w5).alloc (.cells #[.int .i64 (s : Int), .int .u64 (g : Int)] 32))
          rw [show q - (k + 1) = q - k - 1 by omega]
          exact this⟩
        case measure => simp [intOf]; omega
      · have b1 : ¬ (k : Int) < (q : Int) := by omega
        obtain rfl : k = q := by omega
        have hz0 : cnt fr n = 0 := by rw [HST.out.left]; omega
        have hzf : ∀ y, fr y = false := fun y => by
          cases hy : fr y with
          | false => rfl
          | true => have := cnt_zero fr n hz0 y (HST.out.free y hy).1; rw [hy] at this; cases this
        have AL := Lib.hid (allocS_full ⟨#[109, 111, 114, 101]⟩ HST.out.b HST.out.pool hzf)
        have HZ := Lib.hid hz0
        clear hz0 hzf
        go_wp2_with fail
        refine AL.out.mono ?_
        rintro e w5 ⟨rfl, ht5⟩
        have st5 := (HST.out.same ht5).same ((Turn.refl (fun _ => False) w5).alloc (.cells #[.int .i64 0, .int .u64 0] 32))
        have hGl := st5.glen
        have hc0 : cnt fr G.length = 0 := by rw [hGl]; exact HZ.out
        have FR0 : Hid (Calls Tryd.prog 13 #[.pointer (some ⟨pb, 0, none⟩)] (w5.alloc (.cells #[.int .i64 0, .int .u64 0] 32)) fun e w' => e = .returned (.int .i64 0) ∧ (w5.alloc (.cells #[.int .i64 0, .int .u64 0] 32)) = w') := by
          have := free_any st5.pool
          rw [hc0] at this
          exact this
        have LV1 : Hid (Calls Tryd.prog 14 #[.pointer (some ⟨pb, 0, none⟩)] (w5.alloc (.cells #[.int .i64 0, .int .u64 0] 32)) fun e w' => e = .returned (.int .i64 (n : Int)) ∧ ∃ m, w' = (w5.alloc (.cells #[.int .i64 0, .int .u64 0] 32)).drewN m) :=
          live_quiet st5.pool (q := (n : Int)) (by rw [hc0, hGl]; simp) 0
        have RA0 : Hid (∀ m, Calls Tryd.prog 21 #[.pointer (some ⟨pb, 0, none⟩), .int .i64 0] ((w5.alloc (.cells #[.int .i64 0, .int .u64 0] 32)).drewN m) fun e w' => e = .returned (.bool true) ∧ ∃ m, w' = (w5.alloc (.cells #[.int .i64 0, .int .u64 0] 32)).drewN m) := Lib.hid fun m => room_quiet st5.pool 0 (by rw [hc0]; rfl) m
        have RA1 : Hid (∀ m, Calls Tryd.prog 21 #[.pointer (some ⟨pb, 0, none⟩), .int .i64 1] ((w5.alloc (.cells #[.int .i64 0, .int .u64 0] 32)).drewN m) fun e w' => e = .returned (.bool false) ∧ ∃ m, w' = (w5.alloc (.cells #[.int .i64 0, .int .u64 0] 32)).drewN m) := Lib.hid fun m => room_quiet st5.pool 1 (by rw [hc0]; rfl) m
        have RA2 : Hid (∀ m, Calls Tryd.prog 21 #[.pointer (some ⟨pb, 0, none⟩), .int .i64 (-1)] ((w5.alloc (.cells #[.int .i64 0, .int .u64 0] 32)).drewN m) fun e w' => e = .returned (.bool true) ∧ ∃ m, w' = (w5.alloc (.cells #[.int .i64 0, .int .u64 0] 32)).drewN m) := Lib.hid fun m => room_quiet st5.pool (-1) (by rw [hc0]; rfl) m
        have HO := Lib.hid st5.old
        have e1 : ((n : Int) == (n : Int)) = true := by simp
        clear st5 hGl hc0 ht5 AL
        go_wp2_with fail
        refine FR0.out.mono ?_
        rintro e w6 ⟨rfl, rfl⟩
        go_wp2_with fail
        refine LV1.out.mono ?_
        rintro e w7 ⟨rfl, m7, rfl⟩
        go_wp2_with fail
        refine (RA0.out m7).mono ?_
        rintro e w8 ⟨rfl, m8, rfl⟩
        go_wp2_with fail
        refine (RA1.out m8).mono ?_
        rintro e w9 ⟨rfl, m9, rfl⟩
        go_wp2_with fail
        refine (RA2.out m9).mono ?_
        rintro e w10 ⟨rfl, m10, rfl⟩
        go_wp2_with fail
        go_ret
        exact ⟨rfl, ((H1.out.trans HO.out).drewN m10).below (Nat.le_refl _) (fun _ _ h => h)⟩
end Go.Proofs.YtbdfbgkfhaiccaaDoor
