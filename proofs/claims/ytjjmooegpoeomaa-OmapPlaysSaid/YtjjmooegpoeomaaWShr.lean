/-
  shares: do two operations name a key, both?
-/
import Derived.Test.YtjjmooegpoeomaaApm
namespace Go.Proofs.Ytjjmooegpoeomaa
open Go.RowKit Go.Lib
set_option linter.unusedVariables false
set_option linter.unusedSimpArgs false

theorem two_new (w : World) (c1 c2 : Array Value) (t1 t2 : TypeId) : Turn No w ((w.alloc (.cells c1 t1)).alloc (.cells c2 t2)) ∧ At ((w.alloc (.cells c1 t1)).alloc (.cells c2 t2)) w.heap.size (.cells c1 t1 (0, 0)) ∧ At ((w.alloc (.cells c1 t1)).alloc (.cells c2 t2)) (w.heap.size + 1) (.cells c2 t2 (0, 0)) :=
  ⟨((Turn.refl _ _).alloc _).alloc _, (At.new _ _).no ((Turn.refl _ _).alloc _), At.new2 _ _ _⟩
set_option maxHeartbeats 2000000 in
theorem shares_any (kd1 : Int) (k1 v1 o1 : ByteArray) (h1 f1 : Bool) (A1 : Option Addr) (c1 : Nat) (ws1 : List Wr) (kd2 : Int) (k2 v2 o2 : ByteArray) (h2 f2 : Bool) (A2 : Option Addr) (c2 : Nat) (ws2 : List Wr) (w : World) (hr1 : Row w A1 (wcs ws1)) (hn1 : ws1.length ≤ 40) (hr2 : Row w A2 (wcs ws2)) (hn2 : ws2.length ≤ 40) :
    Calls Try.prog 24 #[.agg #[.int .u8 kd1, .string k1, .string v1, .string o1, .bool h1, .bool f1, .slice A1 ws1.length c1], .agg #[.int .u8 kd2, .string k2, .string v2, .string o2, .bool h2, .bool f2, .slice A2 ws2.length c2]] w fun e w' => e = .returned (.bool (sharesO kd1 k1 ws1 kd2 k2 ws2)) ∧ Turn No w w' := by
  have HB := Lib.hid (two_new w #[.int .u8 kd1, .string k1, .string v1, .string o1, .bool h1, .bool f1, .slice A1 ws1.length c1] #[.int .u8 kd2, .string k2, .string v2, .string o2, .bool h2, .bool f2, .slice A2 ws2.length c2] 39 39)
  have HR := Lib.hid hr1
  have CN := Lib.hid fun (W : World) (t : Turn No w W) (key : ByteArray) => names_any kd2 k2 v2 o2 h2 f2 A2 c2 ws2 key W (hr2.turn t fun _ _ _ h => h) hn2
  clear hr1 hr2
  obtain ⟨r, hr⟩ : ∃ r, sharesO kd1 k1 ws1 kd2 k2 ws2 = r := ⟨_, rfl⟩
  have HN := Lib.hid hr
  rw [hr]
  clear hr
  go_enter Try.func24, Try.ntmps24
  go_upto_region 1 with fail
  generalize (w.alloc (.cells #[.int .u8 kd1, .string k1, .string v1, .string o1, .bool h1, .bool f1, .slice A1 ws1.length c1] 39)).alloc (.cells #[.int .u8 kd2, .string k2, .string v2, .string o2, .bool h2, .bool f2, .slice A2 ws2.length c2] 39) = w1 at HB ⊢
  obtain ⟨g1, hg1⟩ : ∃ g, w.heap.size = g := ⟨_, rfl⟩
  rw [hg1] at HB ⊢
  clear hg1
  obtain ⟨g2, hg2⟩ : ∃ g, g1 + 1 = g := ⟨_, rfl⟩
  rw [hg2] at HB ⊢
  clear hg2
  have y0 := HB.out.2.1.cell 0
  have y1 := HB.out.2.1.cell 1
  have y6 := HB.out.2.1.cell 6
  simp at y0 y1 y6
  by_cases h6 : kd1 = 6
  · subst h6
    have HN6 : Hid (ws1.any (fun x => namesO kd2 k2 ws2 x.k) = r) := Lib.hid (by have := HN.out; simpa [sharesO] using this)
    clear HN
    go_wp2_with fail
    go_loopw [5] (fun i wr => ∃ kk : Nat, kk ≤ ws1.length ∧ i = .int .i64 (kk : Int) ∧ Hid (Turn No w1 wr ∧ (ws1.take kk).any (fun x => namesO kd2 k2 ws2 x.k) = false)) (fun i _ => ws1.length - (RowKit.intOf i).toNat)
    case atStart => exact ⟨0, Nat.zero_le _, rfl, Lib.hid ⟨Turn.refl _ _, by simp⟩⟩
    case round =>
      obtain ⟨kk, hm, rfl, HP⟩ := hrel
      have u6 := (HB.out.2.1.no HP.out.1).cell 6
      simp at u6
      clear y0 y1 y6
      by_cases hlt : kk < ws1.length
      · obtain ⟨x, hx⟩ : ∃ x, ws1[kk]? = some x := ⟨ws1[kk], List.getElem?_eq_getElem hlt⟩
        obtain ⟨b, off, hA, hb, z0, z1, z2⟩ := HR.out.wr hx
        have HX : Hid ((namesO kd2 k2 ws2 x.k = false → (ws1.take (kk + 1)).any (fun x => namesO kd2 k2 ws2 x.k) = false) ∧ (namesO kd2 k2 ws2 x.k = true → r = true)) := Lib.hid ⟨fun e => by rw [List.take_add_one, List.any_append, HP.out.2, hx]; simp [e], fun e => by rw [← HN6.out]; exact List.any_eq_true.2 ⟨x, List.mem_of_getElem? hx, e⟩⟩
        obtain ⟨xk, xv, xg⟩ := x
        simp only at z0
        subst hA
        have hSa : Hid (∀ W, Turn No w1 W → W.cell? ⟨g2, 0, none⟩ = some (.int .u8 kd2) ∧ W.cell? ⟨g2, 1, none⟩ = some (.string k2) ∧ W.cell? ⟨g2, 2, none⟩ = some (.string v2) ∧ W.cell? ⟨g2, 3, none⟩ = some (.string o2) ∧ W.cell? ⟨g2, 4, none⟩ = some (.bool h2) ∧ W.cell? ⟨g2, 5, none⟩ = some (.bool f2) ∧ W.cell? ⟨g2, 6, none⟩ = some (.slice A2 ws2.length c2) ∧ W.cell? ⟨g1, 6, none⟩ = some (.slice (some ⟨b, off, none⟩) ws1.length c1) ∧ W.cell? ⟨b, off + kk * 3, none⟩ = some (.string xk)) := Lib.hid fun W t => ⟨by simpa using (HB.out.2.2.no t).cell 0, by simpa using (HB.out.2.2.no t).cell 1, by simpa using (HB.out.2.2.no t).cell 2, by simpa using (HB.out.2.2.no t).cell 3, by simpa using (HB.out.2.2.no t).cell 4, by simpa using (HB.out.2.2.no t).cell 5, by simpa using (HB.out.2.2.no t).cell 6, by simpa using (HB.out.2.1.no t).cell 6, (World.cell?_of_block (w := w) ((HB.out.1.trans t).block b hb (fun h => h))).trans z0⟩
        have T0 : Hid (Turn No w1 wr.drew) := Lib.hid HP.out.1.drew
        have HTT := Lib.hid HP.out.1
        have hS0 := hSa.out wr.drew T0.out
        have hq1 : (0 : Int) ≤ (kk : Int) := by omega
        have hq2 : (kk : Int) < (ws1.length : Int) := by omega
        clear hb hx HP z0 z1 z2
        obtain ⟨rb, hrb⟩ : ∃ rb, namesO kd2 k2 ws2 xk = rb := ⟨_, rfl⟩
        have CN2 := Lib.hid (CN.out wr.drew (HB.out.1.trans T0.out) xk)
        rw [hrb] at HX CN2
        clear hrb
        go_wp2_with fail
        go_region_held3 (fun W => W.cell? ⟨g2, 0, none⟩ = some (.int .u8 kd2) ∧ W.cell? ⟨g2, 1, none⟩ = some (.string k2) ∧ W.cell? ⟨g2, 2, none⟩ = some (.string v2) ∧ W.cell? ⟨g2, 3, none⟩ = some (.string o2) ∧ W.cell? ⟨g2, 4, none⟩ = some (.bool h2) ∧ W.cell? ⟨g2, 5, none⟩ = some (.bool f2) ∧ W.cell? ⟨g2, 6, none⟩ = some (.slice A2 ws2.length c2) ∧ W.cell? ⟨g1, 6, none⟩ = some (.slice (some ⟨b, off, none⟩) ws1.length c1) ∧ W.cell? ⟨b, off + kk * 3, none⟩ = some (.string xk)) (first | (with_reducible exact hS0) | (with_reducible exact hSa.out _ T9.out)) (first | (go_at_call 23; (with_reducible refine CN2.out.mono ?_); rintro e w9 ⟨rfl, ht⟩; have T9 : Hid (Turn No w1 w9) := Lib.hid (T0.out.trans ht); clear ht))
        cases rb with
        | true =>
          have hr := HX.out.2 rfl
          subst hr
          go_wp2_with fail
          go_ret
          exact ⟨rfl, HB.out.1.trans T9.out⟩
        | false =>
          have HE := Lib.hid (HX.out.1 rfl)
          go_wp2_with fail
          exact ⟨⟨kk + 1, by omega, by go_num, Lib.hid ⟨T9.out, HE.out⟩⟩, by simp [RowKit.intOf]; omega⟩
      · obtain rfl : kk = ws1.length := by omega
        have hr : r = false := by
          have := HP.out.2
          rw [List.take_length] at this
          rw [← HN6.out, this]
        subst hr
        go_wp2_with fail
        go_ret
        exact ⟨rfl, HB.out.1.trans HP.out.1⟩
  · have hr : namesO kd2 k2 ws2 k1 = r := by rw [← HN.out]; simp [sharesO, h6]
    have CN2 := Lib.hid (CN.out w1 HB.out.1 k1)
    rw [hr] at CN2
    have x0 := HB.out.2.2.cell 0
    have x1 := HB.out.2.2.cell 1
    have x2 := HB.out.2.2.cell 2
    have x3 := HB.out.2.2.cell 3
    have x4 := HB.out.2.2.cell 4
    have x5 := HB.out.2.2.cell 5
    have x6 := HB.out.2.2.cell 6
    simp at x0 x1 x2 x3 x4 x5 x6
    clear HN hr
    go_wp2_with (go_at_call 23; refine CN2.out.mono ?_; rintro e w9 ⟨rfl, ht⟩)
    go_ret
    exact ⟨rfl, HB.out.1.trans ht⟩
end Go.Proofs.Ytjjmooegpoeomaa
