/-
  linear.callsOf: the calls of a row, and what is ahead of each.
-/
import Derived.Test.YtllppkfeiifklaaJ33
import Derived.Test.YtllppkfeiifklaaJ31
import Derived.Test.YtllppkfeiifklaaJ26
import Derived.Test.YtllppkfeiifklaaJ28
namespace Go.Proofs.Ytllppkfeiifklaa
open Go.RowKit Go.Lib
set_option linter.unusedVariables false
set_option maxRecDepth 20000
set_option linter.unusedSimpArgs false

/-- Which of the first n calls are ahead of one, as bits. -/
def ahdB (l : List Ev) (J : List Int) (id : Int) : Nat → Nat
  | 0 => 0
  | n + 1 => if ((J[n]?).map fun a => ahead l a id) = some true then ahdB l J id n ||| 2 ^ n else ahdB l J id n
theorem ahdB_lt (l : List Ev) (J : List Int) (id : Int) : ∀ n, ahdB l J id n < 2 ^ n
  | 0 => by simp [ahdB]
  | n + 1 => by
    have ih := ahdB_lt l J id n
    have h2 : 2 ^ (n + 1) = 2 ^ n + 2 ^ n := by rw [Nat.pow_succ]; omega
    unfold ahdB
    split
    · exact Nat.or_lt_two_pow (by omega) (by have : 0 < 2 ^ n := Nat.two_pow_pos n; omega)
    · omega
def ahdF (l : List Ev) (J : List Int) (j : Nat) : Nat := ((J[j]?).map fun id => ahdB l J id J.length).getD 0
/-- What is written behind k whole rounds and m steps of the next one. -/
def ahdG (l : List Ev) (J : List Int) (k m j : Nat) : Nat := if j < k then ahdF l J j else if j = k then ((J[j]?).map fun id => ahdB l J id m).getD 0 else 0
theorem ahdG_zero (l : List Ev) (J : List Int) (j : Nat) : ahdG l J 0 0 j = 0 := by
  unfold ahdG
  rw [if_neg (by omega)]
  split
  · cases J[j]? <;> rfl
  · rfl
theorem ahdG_full {l : List Ev} {J : List Int} {k : Nat} (hk : k < J.length) (j : Nat) : ahdG l J (k + 1) 0 j = ahdG l J k J.length j := by
  unfold ahdG
  by_cases h1 : j < k
  · rw [if_pos h1, if_pos (by omega)]
  · by_cases h2 : j = k
    · subst h2
      rw [if_pos (by omega), if_neg (by omega), if_pos rfl]
      rfl
    · rw [if_neg (by omega), if_neg h1, if_neg h2]
      split
      · cases J[j]? <;> rfl
      · rfl
theorem ahdG_end {l : List Ev} {J : List Int} (j : Nat) (hj : j < J.length) : ahdG l J J.length 0 j = ahdF l J j := by
  unfold ahdG; rw [if_pos hj]
theorem ahdB_succ {l : List Ev} {J : List Int} {id a : Int} {m : Nat} (hm : J[m]? = some a) : ahdB l J id (m + 1) = if ahead l a id = true then ahdB l J id m ||| 2 ^ m else ahdB l J id m := by
  conv => lhs; unfold ahdB
  rw [hm]
  simp
theorem ahdG_at {l : List Ev} {J : List Int} {k m : Nat} {id : Int} (hk : J[k]? = some id) : ahdG l J k m k = ahdB l J id m := by
  unfold ahdG
  rw [if_neg (Nat.lt_irrefl k), if_pos rfl, hk]
  rfl
theorem ahdG_ne {l : List Ev} {J : List Int} {k m n j : Nat} (h : ¬ j = k) : ahdG l J k m j = ahdG l J k n j := by
  unfold ahdG
  by_cases h1 : j < k
  · rw [if_pos h1, if_pos h1]
  · rw [if_neg h1, if_neg h1, if_neg h, if_neg h]
theorem ahdG_step {l : List Ev} {J : List Int} {k m : Nat} {id a : Int} (hk : J[k]? = some id) (hm : J[m]? = some a) (ha : ahead l a id = true) (j : Nat) : ahdG l J k (m + 1) j = if j = k then ahdB l J id m ||| 2 ^ m else ahdG l J k m j := by
  by_cases h2 : j = k
  · subst h2
    rw [if_pos rfl, ahdG_at hk, ahdB_succ hm, if_pos ha]
  · rw [if_neg h2, ahdG_ne h2]
theorem ahdG_same {l : List Ev} {J : List Int} {k m : Nat} {id a : Int} (hk : J[k]? = some id) (hm : J[m]? = some a) (ha : ahead l a id = false) (j : Nat) : ahdG l J k (m + 1) j = ahdG l J k m j := by
  by_cases h2 : j = k
  · subst h2
    rw [ahdG_at hk, ahdG_at hk, ahdB_succ hm, if_neg (by rw [ha]; decide)]
  · rw [ahdG_ne h2]
theorem ics_get {w : World} {B : Option Addr} {I : List Int} (h : Row w B (ics I)) {j : Nat} {i : Int} (hj : I[j]? = some i) : ∃ b o, B = some ⟨b, o, none⟩ ∧ w.cell? ⟨b, o + j, none⟩ = some (.int .i64 i) := by
  obtain ⟨b, o, hA, _, hc⟩ := h j _ (ics_at hj)
  exact ⟨b, o, hA, hc⟩
set_option maxRecDepth 100000 in
set_option maxHeartbeats 16000000 in
theorem calls_any (l : List Ev) (ps : List (List Wr)) (B : Option Addr) (cap2 : Nat) (I : List Int) (Bi : Option Addr) (ci : Nat) (w : World) (hE : InE w B cap2 l ps) (hI : Row w Bi (ics I)) (hn : I.length ≤ 7) :
    Calls Try.prog 42 #[.slice B l.length cap2, .slice Bi I.length ci] w fun r w' => ∃ C Bc cc, r = .returned (.slice Bc C.length cc) ∧ Cs w.heap.size w' l ps (surv l I) (ahdF l (surv l I)) C Bc cc ∧ Turn No w w' := by
  have hll : l.length ≤ 200 := hE.few.len
  have HR := Lib.hid (And.intro hE hI)
  have HZ0 : Hid (w.heap.size ≤ w.heap.size) := Lib.hid (Nat.le_refl _)
  clear hE hI
  go_enter Try.func42, Try.ntmps42
  go_wp2_with fail
  go_loopw [5, 16] (fun s i wr => ∃ (kk : Nat) (C : List Cl) (Bc : Option Addr) (cc : Nat), kk ≤ I.length ∧ i = .int .i64 (kk : Int) ∧ s = .slice Bc C.length cc ∧ Hid (Cs w.heap.size wr l ps (surv l (I.take kk)) (fun _ => 0) C Bc cc ∧ Turn No w wr)) (fun _ i _ => I.length - (RowKit.intOf i).toNat)
  case atStart => exact ⟨0, [], none, 0, Nat.zero_le _, rfl, rfl, Lib.hid ⟨Cs.nil _ _ _ _ _, Turn.refl _ _⟩⟩
  case round =>
    obtain ⟨kk, C, Bc, cc, hm, rfl, rfl, HP⟩ := hrel
    by_cases hlt : kk < I.length
    · obtain ⟨id, he⟩ : ∃ e, I[kk]? = some e := ⟨I[kk], List.getElem?_eq_getElem hlt⟩
      have HE := Lib.hid he
      obtain ⟨b, off, hA, x0⟩ := ics_get (HR.out.2.no HP.out.2) he
      subst hA
      clear he
      have CS := Lib.hid (state_any id l ps B cap2 wr (HR.out.1.no HP.out.2).row (HR.out.1.no HP.out.2).rws (by omega))
      have HSL := Lib.hid (stW_len HR.out.1.rws id)
      obtain ⟨sa, hsa⟩ : ∃ a, stA l id = a := ⟨_, rfl⟩
      obtain ⟨sn, hsn⟩ : ∃ a, stN l id = a := ⟨_, rfl⟩
      rw [hsa, hsn] at CS
      have HSA := Lib.hid hsa
      have HSN := Lib.hid hsn
      clear hsa hsn
      obtain ⟨code, found, ak, av⟩ := sa
      go_upto_region 6 with (go_at_call 22; refine CS.out.mono ?_; rintro e w4 ⟨⟨ok, k, v, ov, had, aft, A1, len1, c1⟩, rfl, ht, hp, ho⟩; have H4 := Lib.hid (And.intro (HP.out.1.no ht) (And.intro (HP.out.2.trans ht) (And.intro hp (ho.mono HP.out.2.size)))); clear ht hp ho; simp only [Opx.valH, Ans.valH])
      clear CS x0
      have H5 : Hid (Cs w.heap.size ((w4.alloc (.cells #[.int .u8 ok, .string k, .string v, .string ov, .bool had, .bool aft, .slice A1 len1 c1] 34)).alloc (.cells #[.int .i64 code, .bool found, .string ak, .string av] 38)) l ps (surv l (I.take kk)) (fun _ => 0) C Bc cc ∧ Turn No w ((w4.alloc (.cells #[.int .u8 ok, .string k, .string v, .string ov, .bool had, .bool aft, .slice A1 len1 c1] 34)).alloc (.cells #[.int .i64 code, .bool found, .string ak, .string av] 38)) ∧ ((w4.alloc (.cells #[.int .u8 ok, .string k, .string v, .string ov, .bool had, .bool aft, .slice A1 len1 c1] 34)).alloc (.cells #[.int .i64 code, .bool found, .string ak, .string av] 38)).ownsRow w.heap.size 68 3 (.slice A1 len1 c1) len1 (wcs (stW l ps id)) ∧ At ((w4.alloc (.cells #[.int .u8 ok, .string k, .string v, .string ov, .bool had, .bool aft, .slice A1 len1 c1] 34)).alloc (.cells #[.int .i64 code, .bool found, .string ak, .string av] 38)) w4.heap.size (.cells #[.int .u8 ok, .string k, .string v, .string ov, .bool had, .bool aft, .slice A1 len1 c1] 34 (0, 0)) ∧ At ((w4.alloc (.cells #[.int .u8 ok, .string k, .string v, .string ov, .bool had, .bool aft, .slice A1 len1 c1] 34)).alloc (.cells #[.int .i64 code, .bool found, .string ak, .string av] 38)) (w4.heap.size + 1) (.cells #[.int .i64 code, .bool found, .string ak, .string av] 38 (0, 0))) := Lib.hid (by
        have t2 : Turn No w4 ((w4.alloc (.cells #[.int .u8 ok, .string k, .string v, .string ov, .bool had, .bool aft, .slice A1 len1 c1] 34)).alloc (.cells #[.int .i64 code, .bool found, .string ak, .string av] 38)) := ((Turn.refl _ _).alloc _).alloc _
        exact ⟨H4.out.1.no t2, H4.out.2.1.trans t2, own_grown H4.out.2.2.2 t2 (fun _ _ h => h), (At.new _ _).no ((Turn.refl _ _).alloc _), At.new2 _ _ _⟩)
      have hpu := H4.out.2.2.1
      have HOP : Hid (Opx.pure ⟨ok, k, v, ov, had, aft, A1, len1, c1⟩ = stO l id ∧ len1 = (stW l ps id).length) := Lib.hid ⟨hpu, by rw [HSL.out, ← hpu]; rfl⟩
      clear H4 hpu HP
      generalize (w4.alloc (.cells #[.int .u8 ok, .string k, .string v, .string ov, .bool had, .bool aft, .slice A1 len1 c1] 34)).alloc (.cells #[.int .i64 code, .bool found, .string ak, .string av] 38) = w5 at H5 ⊢
      obtain ⟨g8, hg8⟩ : ∃ g, w4.heap.size = g := ⟨_, rfl⟩
      rw [hg8] at H5 ⊢
      clear hg8
      obtain ⟨g9, hg9⟩ : ∃ g, g8 + 1 = g := ⟨_, rfl⟩
      rw [hg9] at H5 ⊢
      clear hg9
      have y0 := H5.out.2.2.2.1.cell 0
      have y1 := H5.out.2.2.2.1.cell 1
      have y2 := H5.out.2.2.2.1.cell 2
      have y3 := H5.out.2.2.2.1.cell 3
      have y4 := H5.out.2.2.2.1.cell 4
      have y5 := H5.out.2.2.2.1.cell 5
      have y6 := H5.out.2.2.2.1.cell 6
      have z0 := H5.out.2.2.2.2.cell 0
      have z1 := H5.out.2.2.2.2.cell 1
      have z2 := H5.out.2.2.2.2.cell 2
      have z3 := H5.out.2.2.2.2.cell 3
      simp at y0 y1 y2 y3 y4 y5 y6 z0 z1 z2 z3
      by_cases h3 : sn = 3
      · (skip)
        · skip
          have h3b : (sn == 3) = true := by simpa using h3
          have HEN : Hid (true = decide (stN l id = 3)) := Lib.hid (by rw [HSN.out, h3]; rfl)
          clear h3
          go_upto_region 7 with fail
          have H6 : Hid (Cs w.heap.size (w5.alloc (.cells #[.int .i64 id, .int .u8 ok, .string k, .string v, .string ov, .bool had, .bool aft, .slice A1 len1 c1, .bool true, .int .i64 code, .bool found, .string ak, .string av, .int .u8 0] 77)) l ps (surv l (I.take kk)) (fun _ => 0) C Bc cc ∧ Turn No w (w5.alloc (.cells #[.int .i64 id, .int .u8 ok, .string k, .string v, .string ov, .bool had, .bool aft, .slice A1 len1 c1, .bool true, .int .i64 code, .bool found, .string ak, .string av, .int .u8 0] 77)) ∧ (w5.alloc (.cells #[.int .i64 id, .int .u8 ok, .string k, .string v, .string ov, .bool had, .bool aft, .slice A1 len1 c1, .bool true, .int .i64 code, .bool found, .string ak, .string av, .int .u8 0] 77)).ownsRow w.heap.size 68 3 (.slice A1 len1 c1) len1 (wcs (stW l ps id)) ∧ At (w5.alloc (.cells #[.int .i64 id, .int .u8 ok, .string k, .string v, .string ov, .bool had, .bool aft, .slice A1 len1 c1, .bool true, .int .i64 code, .bool found, .string ak, .string av, .int .u8 0] 77)) w5.heap.size (.cells #[.int .i64 id, .int .u8 ok, .string k, .string v, .string ov, .bool had, .bool aft, .slice A1 len1 c1, .bool true, .int .i64 code, .bool found, .string ak, .string av, .int .u8 0] 77 (0, 0))) := Lib.hid (by
            have t2 : Turn No w5 (w5.alloc (.cells #[.int .i64 id, .int .u8 ok, .string k, .string v, .string ov, .bool had, .bool aft, .slice A1 len1 c1, .bool true, .int .i64 code, .bool found, .string ak, .string av, .int .u8 0] 77)) := (Turn.refl _ _).alloc _
            exact ⟨H5.out.1.no t2, H5.out.2.1.trans t2, own_grown H5.out.2.2.1 t2 (fun _ _ h => h), At.new _ _⟩)
          have z0 := (H5.out.2.2.2.2.no ((Turn.refl No w5).alloc (.cells #[.int .i64 id, .int .u8 ok, .string k, .string v, .string ov, .bool had, .bool aft, .slice A1 len1 c1, .bool true, .int .i64 code, .bool found, .string ak, .string av, .int .u8 0] 77))).cell 0
          have z1 := (H5.out.2.2.2.2.no ((Turn.refl No w5).alloc (.cells #[.int .i64 id, .int .u8 ok, .string k, .string v, .string ov, .bool had, .bool aft, .slice A1 len1 c1, .bool true, .int .i64 code, .bool found, .string ak, .string av, .int .u8 0] 77))).cell 1
          have z2 := (H5.out.2.2.2.2.no ((Turn.refl No w5).alloc (.cells #[.int .i64 id, .int .u8 ok, .string k, .string v, .string ov, .bool had, .bool aft, .slice A1 len1 c1, .bool true, .int .i64 code, .bool found, .string ak, .string av, .int .u8 0] 77))).cell 2
          have z3 := (H5.out.2.2.2.2.no ((Turn.refl No w5).alloc (.cells #[.int .i64 id, .int .u8 ok, .string k, .string v, .string ov, .bool had, .bool aft, .slice A1 len1 c1, .bool true, .int .i64 code, .bool found, .string ak, .string av, .int .u8 0] 77))).cell 3
          simp at z0 z1 z2 z3
          clear H5 y0 y1 y2 y3 y4 y5 y6
          generalize w5.alloc (.cells #[.int .i64 id, .int .u8 ok, .string k, .string v, .string ov, .bool had, .bool aft, .slice A1 len1 c1, .bool true, .int .i64 code, .bool found, .string ak, .string av, .int .u8 0] 77) = w6 at H6 z0 z1 z2 z3 ⊢
          generalize w5.heap.size = g11 at H6 ⊢
          have x2 := H6.out.2.2.2.cell 8
          simp at x2
          cases hid : idleA ⟨code, found, ak, av⟩ with
          | true =>
            have CH := Lib.hid fun W => had_any ⟨code, found, ak, av⟩ W
            rw [hid] at CH
            have HSY := Lib.hid (surv_no HE.out (by unfold survB; rw [← HEN.out, HSA.out, hid]; rfl))
            clear hid
            go_wp2_with (go_at_call 30; (with_reducible refine (CH.out _).mono ?_); rintro e wy ⟨rfl, hy⟩; replace hy := Lib.hid hy)
            exact ⟨⟨kk + 1, C, Bc, cc, by omega, by go_num, rfl, by rw [HSY.out]; exact Lib.hid ⟨H6.out.1.no hy.out, H6.out.2.1.trans hy.out⟩⟩, by simp [RowKit.intOf]; omega⟩
          | false =>
            have CH := Lib.hid fun W => had_any ⟨code, found, ak, av⟩ W
            rw [hid] at CH
            have HSV : Hid (survB l id = true) := Lib.hid (by unfold survB; rw [← HEN.out, HSA.out, hid]; rfl)
            clear hid
            go_upto_region 8 with (go_at_call 30; (with_reducible refine (CH.out _).mono ?_); rintro e wy ⟨rfl, hy⟩; replace hy := Lib.hid hy)
            have H8 : Hid (Cs w.heap.size wy l ps (surv l (I.take kk)) (fun _ => 0) C Bc cc ∧ wy.ownsRow w.heap.size 68 3 (.slice A1 len1 c1) len1 (wcs (stW l ps id)) ∧ Turn No w wy ∧ At wy g11 (.cells #[.int .i64 id, .int .u8 ok, .string k, .string v, .string ov, .bool had, .bool aft, .slice A1 len1 c1, .bool true, .int .i64 code, .bool found, .string ak, .string av, .int .u8 0] 77 (0, 0))) := Lib.hid ⟨H6.out.1.no hy.out, own_grown H6.out.2.2.1 hy.out (fun _ _ h => h), H6.out.2.1.trans hy.out, H6.out.2.2.2.no hy.out⟩
            clear H6 hy CH z0 z1 z2 z3
            have hlj := H8.out.1.len
            have hsl := surv_length l (I.take kk)
            rw [List.length_take] at hsl
            have r0 : wy.rangeAt g11 0 (Cl.cs ⟨id, ⟨ok, k, v, ov, had, aft, A1, len1, c1⟩, true, ⟨code, found, ak, av⟩, 0⟩) := H8.out.2.2.2.range
            simp only [Cl.cs, Opx.cs, Ans.cs, List.cons_append, List.nil_append] at r0
            obtain ⟨B9, c9, w9, q, hq, tq⟩ := H8.out.1.app H8.out.2.2.1.size (by omega) ⟨id, ⟨ok, k, v, ov, had, aft, A1, len1, c1⟩, true, ⟨code, found, ak, av⟩, 0⟩ id ⟨rfl, HOP.out.1, HOP.out.2, H8.out.2.1, HEN.out, HSA.out.symm, rfl⟩
            have HQ := Lib.hid (And.intro hq tq)
            have HSY := Lib.hid (surv_yes HE.out HSV.out)
            clear hq tq hlj hsl
            simp only [Cl.cs, Opx.cs, Ans.cs, List.cons_append, List.nil_append] at q
            go_wp2_with (first | (refine wpList_load_mid rfl 77 _ rfl g11 0 rfl [.int .i64 id, .int .u8 ok, .string k, .string v, .string ov, .bool had, .bool aft, .slice A1 len1 c1, .bool true, .int .i64 code, .bool found, .string ak, .string av, .int .u8 0] _ r0 Try.underlying77 rfl info77 ?_) | (at_builtin; refine wpList_append_run rfl _ _ 70 rfl _ _ _ rfl rfl q ?_))
            refine ⟨⟨kk + 1, C ++ [⟨id, ⟨ok, k, v, ov, had, aft, A1, len1, c1⟩, true, ⟨code, found, ak, av⟩, 0⟩], B9, c9, by omega, by go_num, by simp, ?_⟩, by simp [RowKit.intOf]; omega⟩
            rw [HSY.out]
            exact Lib.hid ⟨HQ.out.1, H8.out.2.2.1.then HQ.out.2 fun i hi e => by omega⟩
      · (skip)
        · skip
          have h3b : (sn == 3) = false := by simpa using h3
          have HEN : Hid (false = decide (stN l id = 3)) := Lib.hid (by rw [HSN.out]; exact (decide_eq_false h3).symm)
          clear h3
          go_upto_region 7 with fail
          have H6 : Hid (Cs w.heap.size (w5.alloc (.cells #[.int .i64 id, .int .u8 ok, .string k, .string v, .string ov, .bool had, .bool aft, .slice A1 len1 c1, .bool false, .int .i64 code, .bool found, .string ak, .string av, .int .u8 0] 77)) l ps (surv l (I.take kk)) (fun _ => 0) C Bc cc ∧ Turn No w (w5.alloc (.cells #[.int .i64 id, .int .u8 ok, .string k, .string v, .string ov, .bool had, .bool aft, .slice A1 len1 c1, .bool false, .int .i64 code, .bool found, .string ak, .string av, .int .u8 0] 77)) ∧ (w5.alloc (.cells #[.int .i64 id, .int .u8 ok, .string k, .string v, .string ov, .bool had, .bool aft, .slice A1 len1 c1, .bool false, .int .i64 code, .bool found, .string ak, .string av, .int .u8 0] 77)).ownsRow w.heap.size 68 3 (.slice A1 len1 c1) len1 (wcs (stW l ps id)) ∧ At (w5.alloc (.cells #[.int .i64 id, .int .u8 ok, .string k, .string v, .string ov, .bool had, .bool aft, .slice A1 len1 c1, .bool false, .int .i64 code, .bool found, .string ak, .string av, .int .u8 0] 77)) w5.heap.size (.cells #[.int .i64 id, .int .u8 ok, .string k, .string v, .string ov, .bool had, .bool aft, .slice A1 len1 c1, .bool false, .int .i64 code, .bool found, .string ak, .string av, .int .u8 0] 77 (0, 0))) := Lib.hid (by
            have t2 : Turn No w5 (w5.alloc (.cells #[.int .i64 id, .int .u8 ok, .string k, .string v, .string ov, .bool had, .bool aft, .slice A1 len1 c1, .bool false, .int .i64 code, .bool found, .string ak, .string av, .int .u8 0] 77)) := (Turn.refl _ _).alloc _
            exact ⟨H5.out.1.no t2, H5.out.2.1.trans t2, own_grown H5.out.2.2.1 t2 (fun _ _ h => h), At.new _ _⟩)
          have z0 := (H5.out.2.2.2.2.no ((Turn.refl No w5).alloc (.cells #[.int .i64 id, .int .u8 ok, .string k, .string v, .string ov, .bool had, .bool aft, .slice A1 len1 c1, .bool false, .int .i64 code, .bool found, .string ak, .string av, .int .u8 0] 77))).cell 0
          have z1 := (H5.out.2.2.2.2.no ((Turn.refl No w5).alloc (.cells #[.int .i64 id, .int .u8 ok, .string k, .string v, .string ov, .bool had, .bool aft, .slice A1 len1 c1, .bool false, .int .i64 code, .bool found, .string ak, .string av, .int .u8 0] 77))).cell 1
          have z2 := (H5.out.2.2.2.2.no ((Turn.refl No w5).alloc (.cells #[.int .i64 id, .int .u8 ok, .string k, .string v, .string ov, .bool had, .bool aft, .slice A1 len1 c1, .bool false, .int .i64 code, .bool found, .string ak, .string av, .int .u8 0] 77))).cell 2
          have z3 := (H5.out.2.2.2.2.no ((Turn.refl No w5).alloc (.cells #[.int .i64 id, .int .u8 ok, .string k, .string v, .string ov, .bool had, .bool aft, .slice A1 len1 c1, .bool false, .int .i64 code, .bool found, .string ak, .string av, .int .u8 0] 77))).cell 3
          simp at z0 z1 z2 z3
          clear H5 y0 y1 y2 y3 y4 y5 y6
          generalize w5.alloc (.cells #[.int .i64 id, .int .u8 ok, .string k, .string v, .string ov, .bool had, .bool aft, .slice A1 len1 c1, .bool false, .int .i64 code, .bool found, .string ak, .string av, .int .u8 0] 77) = w6 at H6 z0 z1 z2 z3 ⊢
          generalize w5.heap.size = g11 at H6 ⊢
          have x2 := H6.out.2.2.2.cell 8
          simp at x2
          have HSV : Hid (survB l id = true) := Lib.hid (by unfold survB; rw [← HEN.out]; rfl)
          go_upto_region 8 with fail
          have H8 : Hid (Cs w.heap.size w6 l ps (surv l (I.take kk)) (fun _ => 0) C Bc cc ∧ w6.ownsRow w.heap.size 68 3 (.slice A1 len1 c1) len1 (wcs (stW l ps id)) ∧ Turn No w w6 ∧ At w6 g11 (.cells #[.int .i64 id, .int .u8 ok, .string k, .string v, .string ov, .bool had, .bool aft, .slice A1 len1 c1, .bool false, .int .i64 code, .bool found, .string ak, .string av, .int .u8 0] 77 (0, 0))) := Lib.hid ⟨H6.out.1, H6.out.2.2.1, H6.out.2.1, H6.out.2.2.2⟩
          clear H6 z0 z1 z2 z3
          have hlj := H8.out.1.len
          have hsl := surv_length l (I.take kk)
          rw [List.length_take] at hsl
          have r0 : w6.rangeAt g11 0 (Cl.cs ⟨id, ⟨ok, k, v, ov, had, aft, A1, len1, c1⟩, false, ⟨code, found, ak, av⟩, 0⟩) := H8.out.2.2.2.range
          simp only [Cl.cs, Opx.cs, Ans.cs, List.cons_append, List.nil_append] at r0
          obtain ⟨B9, c9, w9, q, hq, tq⟩ := H8.out.1.app H8.out.2.2.1.size (by omega) ⟨id, ⟨ok, k, v, ov, had, aft, A1, len1, c1⟩, false, ⟨code, found, ak, av⟩, 0⟩ id ⟨rfl, HOP.out.1, HOP.out.2, H8.out.2.1, HEN.out, HSA.out.symm, rfl⟩
          have HQ := Lib.hid (And.intro hq tq)
          have HSY := Lib.hid (surv_yes HE.out HSV.out)
          clear hq tq hlj hsl
          simp only [Cl.cs, Opx.cs, Ans.cs, List.cons_append, List.nil_append] at q
          go_wp2_with (first | (refine wpList_load_mid rfl 77 _ rfl g11 0 rfl [.int .i64 id, .int .u8 ok, .string k, .string v, .string ov, .bool had, .bool aft, .slice A1 len1 c1, .bool false, .int .i64 code, .bool found, .string ak, .string av, .int .u8 0] _ r0 Try.underlying77 rfl info77 ?_) | (at_builtin; refine wpList_append_run rfl _ _ 70 rfl _ _ _ rfl rfl q ?_))
          refine ⟨⟨kk + 1, C ++ [⟨id, ⟨ok, k, v, ov, had, aft, A1, len1, c1⟩, false, ⟨code, found, ak, av⟩, 0⟩], B9, c9, by omega, by go_num, by simp, ?_⟩, by simp [RowKit.intOf]; omega⟩
          rw [HSY.out]
          exact Lib.hid ⟨HQ.out.1, H8.out.2.2.1.then HQ.out.2 fun i hi e => by omega⟩
    · obtain rfl : kk = I.length := by omega
      have HJ : Hid (surv l (I.take I.length) = surv l I) := Lib.hid (by rw [List.take_length])
      have hjl : C.length ≤ 7 := by have := HP.out.1.len; rw [HJ.out] at this; have := surv_length l I; omega
      rw [HJ.out] at HP
      clear HJ
      obtain ⟨J, hJ⟩ : ∃ J, surv l I = J := ⟨_, rfl⟩
      have HJE := Lib.hid hJ
      rw [hJ] at HP
      clear hJ
      have hCJ := HP.out.1.len
      have hj7 : J.length ≤ 7 := by omega
      have HP2 : Hid (∃ C, Cs w.heap.size wr l ps J (ahdG l J 0 0) C Bc cc ∧ Turn No w wr) := Lib.hid ⟨C, HP.out.1.congr (fun j _ => ahdG_zero l J j), HP.out.2⟩
      rw [hCJ]
      clear HP hCJ hjl
      clear C
      obtain ⟨w0, hw0⟩ : ∃ x, x = wr := ⟨_, rfl⟩
      subst hw0
      go_wp2_with fail
      go_loopw [48] (fun i wr => ∃ (kk : Nat), kk ≤ J.length ∧ i = .int .i64 (kk : Int) ∧ Hid (∃ C, Cs w.heap.size wr l ps J (ahdG l J kk 0) C Bc cc ∧ Turn No w wr)) (fun i _ => J.length - (RowKit.intOf i).toNat)
      case atStart => exact ⟨0, Nat.zero_le _, rfl, HP2⟩
      case round =>
        obtain ⟨kk, hk, rfl, HP⟩ := hrel
        clear HP2
        by_cases hlt : kk < J.length
        · obtain ⟨idk, hik⟩ : ∃ e, J[kk]? = some e := ⟨J[kk], List.getElem?_eq_getElem hlt⟩
          have HK := Lib.hid hik
          clear hik
          have hq1 : (0 : Int) ≤ (kk : Int) := by omega
          have hq2 : (kk : Int) < (J.length : Int) := by omega
          obtain ⟨w1, hw1⟩ : ∃ x, x = wr := ⟨_, rfl⟩
          subst hw1
          go_wp2_with fail
          go_loopw [53] (fun i wr => ∃ (m : Nat), m ≤ J.length ∧ i = .int .i64 (m : Int) ∧ Hid (∃ C, Cs w.heap.size wr l ps J (ahdG l J kk m) C Bc cc ∧ Turn No w wr)) (fun i _ => J.length - (RowKit.intOf i).toNat)
          case atStart => exact ⟨0, Nat.zero_le _, rfl, HP⟩
          case round =>
            obtain ⟨m, hm, rfl, HQ⟩ := hrel
            clear HP
            by_cases hlm : m < J.length
            · obtain ⟨idm, him⟩ : ∃ e, J[m]? = some e := ⟨J[m], List.getElem?_eq_getElem hlm⟩
              have HM := Lib.hid him
              clear him
              have hq3 : (0 : Int) ≤ (m : Int) := by omega
              have hq4 : (m : Int) < (J.length : Int) := by omega
              obtain ⟨C', hCs⟩ := HQ.out
              obtain ⟨C, hC'⟩ : ∃ x, x = C' := ⟨_, rfl⟩
              subst hC'
              have HC := Lib.hid hCs
              clear hCs HQ
              have hCl := HC.out.1.len
              obtain ⟨xk, hxk⟩ : ∃ e, C[kk]? = some e := ⟨C[kk], List.getElem?_eq_getElem (by omega)⟩
              obtain ⟨xm, hxm⟩ : ∃ e, C[m]? = some e := ⟨C[m], List.getElem?_eq_getElem (by omega)⟩
              obtain ⟨p, hp⟩ : ∃ p, 2 ^ m = p := ⟨_, rfl⟩
              have gk := HC.out.1.get kk xk idk hxk HK.out
              have gm := HC.out.1.get m xm idm hxm HM.out
              have hah : xk.ah = ahdB l J idk m := by rw [gk.2.2.2.2.2.2, ahdG_at HK.out]
              have hb1 : xk.ah < 256 := by rw [hah]; have := ahdB_lt l J idk m; have h2 : 2 ^ m ≤ 2 ^ 7 := Nat.pow_le_pow_right (by decide) (by omega); omega
              have hb2 : p < 256 := by rw [← hp]; have h2 : 2 ^ m ≤ 2 ^ 7 := Nat.pow_le_pow_right (by decide) (by omega); omega
              obtain ⟨b, hB, hbz, hc13, hf13, _⟩ := HC.out.1.set hxk (xk.ah ||| p) _ (fun j => rfl)
              have HCK : Hid (∀ W, Turn No wr W → W.cell? ⟨b, kk * 14, none⟩ = some (.int .i64 idk) ∧ W.cell? ⟨b, m * 14, none⟩ = some (.int .i64 idm)) := Lib.hid fun W t => by
                obtain ⟨b1, o1, e1, _, r1⟩ := (HC.out.1.no t).cl hxk
                obtain ⟨b2, o2, e2, _, r2⟩ := (HC.out.1.no t).cl hxm
                rw [hB] at e1 e2
                injection e1 with e1; injection e1 with a1 a2
                injection e2 with e2; injection e2 with a3 a4
                subst a1 a3 a2 a4
                have c1 := r1 0 (.int .i64 xk.id) rfl
                have c2 := r2 0 (.int .i64 xm.id) rfl
                rw [gk.1] at c1
                rw [gm.1] at c2
                exact ⟨by simpa using c1, by simpa using c2⟩
              have HXX : Hid (C[kk]? = some xk ∧ xk.ah = ahdB l J idk m) := Lib.hid ⟨hxk, hah⟩
              subst hB
              clear hxk hxm gk gm hah hc13 hf13 hCl
              have CA := Lib.hid (ahead_any idm idk l B cap2 wr.drew (HR.out.1.row.no (HC.out.2.trans (Turn.refl No wr).drew)) (by omega) HR.out.1.cap)
              have CO := Lib.hid fun W => only_any m (by omega) W
              rw [hp] at CO
              go_upto_region 16 with fail
              have hS0 : wr.drew.cell? ⟨b, kk * 14, none⟩ = some (.int .i64 idk) ∧ wr.drew.cell? ⟨b, m * 14, none⟩ = some (.int .i64 idm) := HCK.out _ (Turn.refl No wr).drew
              cases hah2 : ahead l idm idk with
              | false =>
                rw [hah2] at CA
                have HAG := Lib.hid (fun j => ahdG_same HK.out HM.out hah2 j)
                clear hah2
                go_region_held3 (fun W => W.cell? ⟨b, kk * 14, none⟩ = some (.int .i64 idk) ∧ W.cell? ⟨b, m * 14, none⟩ = some (.int .i64 idm)) (first | (with_reducible exact hS0) | (with_reducible exact HCK.out _ hy.out)) (first | (go_at_call 80; (with_reducible refine CA.out.mono ?_); rintro e wy ⟨rfl, hy⟩; replace hy := Lib.hid (drew_or hy)))
                go_wp2_with fail
                exact ⟨⟨m + 1, by omega, by go_num, Lib.hid ⟨C, (HC.out.1.no hy.out).congr (fun j _ => HAG.out j), HC.out.2.trans hy.out⟩⟩, by simp [RowKit.intOf]; omega⟩
              | true =>
                rw [hah2] at CA
                have HAG := Lib.hid (fun j => ahdG_step HK.out HM.out hah2 j)
                clear hah2
                go_region_held3 (fun W => W.cell? ⟨b, kk * 14, none⟩ = some (.int .i64 idk) ∧ W.cell? ⟨b, m * 14, none⟩ = some (.int .i64 idm)) (first | (with_reducible exact hS0) | (with_reducible exact HCK.out _ hy.out)) (first | (go_at_call 80; (with_reducible refine CA.out.mono ?_); rintro e wy ⟨rfl, hy⟩; replace hy := Lib.hid (drew_or hy)))
                go_upto_region 17 with fail
                have HC2 := Lib.hid (HC.out.1.no hy.out)
                obtain ⟨b', hB', _, e13, f13, hset⟩ := HC2.out.set HXX.out.1 (xk.ah ||| p) (ahdG l J kk (m + 1)) (fun j => by rw [HAG.out j, HXX.out.2, hp])
                injection hB' with hB'; injection hB' with hB'
                subst hB'
                have HSET := Lib.hid hset
                have qo := b_or8 xk.ah p hb1 hb2
                clear hset hS0 HC2
                go_region_law (first | (go_simp; go_at_call 46; (with_reducible refine (CO.out _).mono ?_); rintro e wz ⟨rfl, hw⟩; replace hw := hw.symm; subst hw))
                all_goals go_wp2_with fail
                all_goals exact ⟨⟨m + 1, by omega, by go_num, Lib.hid ⟨_, HSET.out.no (Turn.refl No _).drew, ((HC.out.2.trans hy.out).then (Turn.set1 _ _ _ _) (fun i hi e => by omega)).drew⟩⟩, by simp [RowKit.intOf]; omega⟩
            · obtain rfl : m = J.length := by omega
              go_wp2_with fail
              exact ⟨⟨kk + 1, by omega, by go_num, by
                obtain ⟨C, h1, h2⟩ := HQ.out
                exact Lib.hid ⟨C, h1.congr (fun j _ => ahdG_full hlt j), h2⟩⟩, by simp [RowKit.intOf]; omega⟩
        · obtain rfl : kk = J.length := by omega
          go_wp2_with fail
          go_ret
          obtain ⟨C, h1, h2⟩ := HP.out
          rw [HJE.out]
          exact ⟨C, Bc, cc, by rw [h1.len]; rfl, h1.congr (fun j hj => (ahdG_end j hj).symm), h2⟩
end Go.Proofs.Ytllppkfeiifklaa
