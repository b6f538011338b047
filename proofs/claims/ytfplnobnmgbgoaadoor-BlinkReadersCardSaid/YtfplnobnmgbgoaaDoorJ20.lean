/-
  The document's Least (layer 10).
-/
import Derived.Test.YtfplnobnmgbgoaaDoorJ19
import Derived.Test.YtfplnobnmgbgoaaDoorJ6
namespace Go.Proofs.YtfplnobnmgbgoaaDoor
open Go.RowKit Go.Lib
set_option linter.unusedVariables false
set_option maxRecDepth 20000
set_option linter.unusedSimpArgs false

/-- A pair of the last moment that Next may leave out. -/
def skpP (key : ByteArray) (aft : Bool) (k : ByteArray) (found : Bool) (x : ByteArray) : Bool := (decide (kl x key) || (aft && decide (x = key))) || (found && !decide (kl x k))
/-- May a Next tell so? -/
def LeastP (M : List (List Pr)) (last : List Pr) (key : ByteArray) (aft : Bool) (k v : ByteArray) (found : Bool) : Prop :=
  (found = true → getL last k = some v ∧ ¬ kl k key ∧ ¬ (aft = true ∧ k = key)) ∧ ∀ p ∈ last, skpP key aft k found p.k = true ∨ ¬ ∀ m ∈ M, (getL m p.k).isSome = true
def inAll (M : List (List Pr)) (x : ByteArray) : Prop := ∀ m ∈ M, (getL m x).isSome = true
theorem nokey_all {M : List (List Pr)} {j : Nat} {m : List Pr} (h : M[j]? = some m) {Q : List Pr → Prop} : (∀ q ∈ M.take (j + 1), Q q) ↔ (∀ q ∈ M.take j, Q q) ∧ Q m := by
  rw [List.take_add_one, h]
  constructor
  · intro h1
    exact ⟨fun a ha => h1 a (List.mem_append.2 (.inl ha)), h1 m (by simp)⟩
  · rintro ⟨h1, h2⟩ a ha
    rcases List.mem_append.1 ha with h3 | h3
    · exact h1 a h3
    · simp at h3
      subst h3
      exact h2
theorem getw (m : List Pr) (x : ByteArray) (A : Option Addr) (c : Nat) (w : World) (h : Row w A (pcs m)) (hn : m.length ≤ 100000) : Calls Tryd.prog 37 #[.slice A m.length c, .string x] w fun e w' => e = .returned (.tuple #[.string ((getL m x).getD ⟨#[]⟩), .bool (getL m x).isSome]) ∧ Turn No w w' :=
  (get_any m x A c w h hn).mono fun e w' ⟨h1, h2⟩ => ⟨h1, h2 ▸ Turn.refl _ _⟩
theorem lessw (a b : ByteArray) (w : World) (ha : Fit a) (hb : Fit b) : Calls Tryd.prog 40 #[.string a, .string b] w fun e w' => e = .returned (.bool (decide (kl a b))) ∧ Turn No w w' :=
  (less_any a b w ha hb).mono fun e w' ⟨h1, n, h2⟩ => ⟨h1, h2 ▸ (Turn.refl No w).drewN n⟩
set_option maxRecDepth 100000 in
set_option maxHeartbeats 16000000 in
theorem least_any (M : List (List Pr)) (last : List Pr) (key : ByteArray) (aft : Bool) (k v : ByteArray) (found : Bool) (B : Option Addr) (c : Nat) (w : World) (h : Rws w M B) (hlast : M[M.length - 1]? = some last) (hn : M.length ≤ 100000) (hl : ∀ m ∈ M, m.length ≤ 100000) (hf : ∀ p ∈ last, Fit p.k) (fk : Fit key) (fk2 : Fit k) :
    Calls Tryd.prog 15 #[.slice B M.length c, .string key, .bool aft, .string k, .string v, .bool found] w fun e w' => BRes (LeastP M last key aft k v found) w e w' := by
  obtain ⟨P, hP⟩ : ∃ x, LeastP M last key aft k v found = x := ⟨_, rfl⟩
  have HP0 : Hid (P ↔ LeastP M last key aft k v found) := Lib.hid (by rw [← hP])
  rw [hP]
  have h0 : 0 < M.length := by
    have := (List.getElem?_eq_some_iff.1 hlast).1
    omega
  obtain ⟨b, o, A, c2, hB, hc⟩ := h (M.length - 1) last hlast
  have HL := Lib.hid (And.intro h (And.intro hl (And.intro hf (And.intro fk (And.intro fk2 (And.intro hc (List.mem_of_getElem? hlast)))))))
  obtain ⟨y0, _⟩ := hc w (Turn.refl _ _)
  have hw : IntKind.i64.wrap ((M.length : Int) - 1) = (M.length : Int) - 1 := IntWalk.i64_in _ ⟨by omega, by omega⟩
  have ht : ((M.length : Int) - 1).toNat = M.length - 1 := by omega
  have q1 : (0 : Int) ≤ (M.length : Int) - 1 := by omega
  have q2 : (M.length : Int) - 1 < (M.length : Int) := by omega
  clear h hl hf fk fk2 hc hlast hP
  subst hB
  go_enter Tryd.func15, Tryd.ntmps15
  go_upto_if 28 with fail
  clear y0 hw ht q1 q2
  have HR0 : Hid (∀ W, Turn No w W → Row W A (pcs last)) := Lib.hid fun W t => (HL.out.2.2.2.2.2.1 W t).2
  have HLL : Hid (last.length ≤ 100000) := Lib.hid (HL.out.2.1 last HL.out.2.2.2.2.2.2)
  cases found with
  | false =>
    have HF : Hid (false = true → getL last k = some v ∧ ¬ kl k key ∧ ¬ (aft = true ∧ k = key)) := Lib.hid fun h => by cases h
    have T0 := Lib.hid (Turn.refl No w)
    generalize hww : w = wz at T0 ⊢
    have T0 : Hid (Turn No w wz) := Lib.hid (by rw [hww]; exact Turn.refl _ _)
    clear hww
    cases aft with
    | true =>
      have hlb := HLL.out
      go_wp2_with fail
      go_loopw [16] (fun x wr => ∃ i : Nat, i ≤ last.length ∧ x = .int .i64 (i : Int) ∧ Hid (Turn No w wr ∧ ∀ p ∈ last.take i, skpP key true k false p.k = true ∨ ¬ inAll M p.k)) (fun x _ => last.length - (RowKit.intOf x).toNat)
      case atStart => exact ⟨0, Nat.zero_le _, rfl, Lib.hid ⟨T0.out, by simp⟩⟩
      case round =>
        obtain ⟨i, hi, rfl, HP⟩ := hrel
        by_cases hlt : i < last.length
        · obtain ⟨p, hp⟩ : ∃ t, last[i]? = some t := ⟨last[i], List.getElem?_eq_getElem hlt⟩
          obtain ⟨pb, po, hA, _, x0, _⟩ := (HR0.out wr HP.out.1).pair hp
          have HS : Hid ((skpP key true k false p.k = true ∨ ¬ inAll M p.k) → ∀ q ∈ last.take (i + 1), skpP key true k false q.k = true ∨ ¬ inAll M q.k) := Lib.hid fun hn q hq => by
            rw [List.take_add_one, hp] at hq
            rcases List.mem_append.1 hq with h1 | h1
            · exact HP.out.2 q h1
            · simp at h1
              rw [h1]
              exact hn
          have HY : Hid (¬ (skpP key true k false p.k = true ∨ ¬ inAll M p.k) → ¬ P) := Lib.hid fun hn h => hn ((HP0.out.1 h).2 p (List.mem_of_getElem? hp))
          have C1 := Lib.hid fun (W : World) => lessw p.k key W (HL.out.2.2.1 p (List.mem_of_getElem? hp)) HL.out.2.2.2.1
          have C3 := Lib.hid fun (W : World) => lessw p.k k W (HL.out.2.2.1 p (List.mem_of_getElem? hp)) HL.out.2.2.2.2.1
          obtain ⟨x, px⟩ := p
          simp only at x0 HS HY C1 C3
          obtain ⟨d1, hd1⟩ : ∃ y, decide (kl x key) = y := ⟨_, rfl⟩
          obtain ⟨d2, hd2⟩ : ∃ y, decide (x = key) = y := ⟨_, rfl⟩
          obtain ⟨d3, hd3⟩ : ∃ y, decide (kl x k) = y := ⟨_, rfl⟩
          obtain ⟨sk, hsk⟩ : ∃ y, skpP key true k false x = y := ⟨_, rfl⟩
          have HSK : Hid (sk = ((d1 || (true && d2)) || (false && !d3))) := Lib.hid (by rw [← hsk, ← hd1, ← hd2, ← hd3]; rfl)
          have qe := bytes_beq x key
          rw [hd2] at qe
          rw [hsk] at HS HY
          rw [hd1] at C1
          rw [hd3] at C3
          clear hp hsk hd1 hd2 hd3
          have hq1 : (0 : Int) ≤ (i : Int) := by omega
          have hq2 : (i : Int) < (last.length : Int) := by omega
          subst hA
          go_upto_region 10 with fail
          clear x0
          go_cut [85] from 66 to 85 (fun s wx => s = .bool sk ∧ Hid (Turn No wr wx))
          case first =>
            cases d1 <;> cases d2 <;> cases d3
            all_goals
              go_wp2_with (first | (go_at_call 40; (with_reducible refine (C1.out _).mono ?_); rintro e w5 ⟨rfl, ht⟩; have T5 := Lib.hid ht; clear ht) | (go_at_call 40; (with_reducible refine (C3.out _).mono ?_); rintro e w6 ⟨rfl, ht⟩; have T6 := Lib.hid (T5.out.trans ht); clear ht))
              go_meet
              first | exact ⟨by rw [HSK.out]; rfl, T6⟩ | exact ⟨by rw [HSK.out]; rfl, T5⟩
          obtain ⟨rfl, T5⟩ := hcut
          generalize wc = w6 at T5 ⊢
          clear C1 C3 qe
          cases sk with
          | true =>
            have HN := Lib.hid (HS.out (.inl rfl))
            go_wp2_with fail
            exact ⟨⟨i + 1, by omega, by go_num, Lib.hid ⟨HP.out.1.trans T5.out, HN.out⟩⟩, by simp [RowKit.intOf]; omega⟩
          | false =>
            go_wp2_with fail
            go_loopw [18, 19] (fun a y wy => ∃ (j : Nat) (bb : Bool), j ≤ M.length ∧ a = .bool bb ∧ y = .int .i64 (j : Int) ∧ Hid (Turn No w wy ∧ (bb = true ↔ ∀ m ∈ M.take j, (getL m x).isSome = true))) (fun a y _ => M.length - (RowKit.intOf y).toNat)
            case atStart => exact ⟨0, true, Nat.zero_le _, rfl, rfl, Lib.hid ⟨HP.out.1.trans T5.out, by simp⟩⟩
            case round =>
              obtain ⟨j, bb, hj, rfl, rfl, HQ⟩ := hrel
              by_cases hlj : j < M.length
              · obtain ⟨m, hm⟩ : ∃ t, M[j]? = some t := ⟨M[j], List.getElem?_eq_getElem hlj⟩
                obtain ⟨mb, mo, mA, mc, hmB, hmc⟩ := HL.out.1 j m hm
                injection hmB with hmB
                injection hmB with e1 e2 e3
                subst e1 e2
                obtain ⟨z0, hmr⟩ := hmc _ HQ.out.1
                have CG := Lib.hid (getw m x mA mc _ hmr (HL.out.2.1 m (List.mem_of_getElem? hm)))
                obtain ⟨g1, hg1⟩ : ∃ y, (getL m x).getD ⟨#[]⟩ = y := ⟨_, rfl⟩
                obtain ⟨g2, hg2⟩ : ∃ y, (getL m x).isSome = y := ⟨_, rfl⟩
                have HZ : Hid ((bb && g2) = true ↔ ∀ q ∈ M.take (j + 1), (getL q x).isSome = true) := Lib.hid (by
                  rw [nokey_all hm, ← HQ.out.2, hg2]
                  simp)
                rw [hg1, hg2] at CG
                clear hm hmc hmr hg1 hg2
                have hz1 : (0 : Int) ≤ (j : Int) := by omega
                have hz2 : (j : Int) < (M.length : Int) := by omega
                cases bb
                all_goals
                  go_wp2_with (go_at_call 37; (with_reducible refine CG.out.mono ?_); rintro e w8 ⟨rfl, ht⟩; have T8 := Lib.hid ht; clear ht)
                  exact ⟨⟨j + 1, _, by omega, rfl, by go_num, Lib.hid ⟨HQ.out.1.trans T8.out, by simpa using HZ.out⟩⟩, by simp [RowKit.intOf]; omega⟩
              · obtain rfl : j = M.length := by omega
                have hz2 : ¬ (M.length : Int) < (M.length : Int) := by omega
                have HZ : Hid (bb = true ↔ inAll M x) := Lib.hid (by
                  have h := HQ.out.2
                  rw [List.take_length] at h
                  exact h)
                cases bb with
                | true =>
                  have HN := Lib.hid (HY.out fun h => by
                    rcases h with h | h
                    · cases h
                    · exact h (HZ.out.1 rfl))
                  go_wp2_with fail
                  go_ret
                  exact BRes.of false rfl ⟨fun h => (by cases h), fun h => absurd h HN.out⟩ HQ.out.1
                | false =>
                  have HN := Lib.hid (HS.out (.inr fun h => by have := HZ.out.2 h; cases this))
                  go_wp2_with fail
                  exact ⟨⟨i + 1, by omega, by go_num, Lib.hid ⟨HQ.out.1, HN.out⟩⟩, by simp [RowKit.intOf]; omega⟩
        · obtain rfl : i = last.length := by omega
          have hq2 : ¬ (last.length : Int) < (last.length : Int) := by omega
          have HY : Hid P := Lib.hid (HP0.out.2 ⟨(by first | (intro h; cases h; done) | (have := HF.out; simpa using this)), by
            have h := HP.out.2
            rw [List.take_length] at h
            exact h⟩)
          go_wp2_with fail
          go_ret
          exact BRes.of true rfl ⟨fun _ => HY.out, fun _ => rfl⟩ HP.out.1
    | false =>
      have hlb := HLL.out
      go_wp2_with fail
      go_loopw [16] (fun x wr => ∃ i : Nat, i ≤ last.length ∧ x = .int .i64 (i : Int) ∧ Hid (Turn No w wr ∧ ∀ p ∈ last.take i, skpP key false k false p.k = true ∨ ¬ inAll M p.k)) (fun x _ => last.length - (RowKit.intOf x).toNat)
      case atStart => exact ⟨0, Nat.zero_le _, rfl, Lib.hid ⟨T0.out, by simp⟩⟩
      case round =>
        obtain ⟨i, hi, rfl, HP⟩ := hrel
        by_cases hlt : i < last.length
        · obtain ⟨p, hp⟩ : ∃ t, last[i]? = some t := ⟨last[i], List.getElem?_eq_getElem hlt⟩
          obtain ⟨pb, po, hA, _, x0, _⟩ := (HR0.out wr HP.out.1).pair hp
          have HS : Hid ((skpP key false k false p.k = true ∨ ¬ inAll M p.k) → ∀ q ∈ last.take (i + 1), skpP key false k false q.k = true ∨ ¬ inAll M q.k) := Lib.hid fun hn q hq => by
            rw [List.take_add_one, hp] at hq
            rcases List.mem_append.1 hq with h1 | h1
            · exact HP.out.2 q h1
            · simp at h1
              rw [h1]
              exact hn
          have HY : Hid (¬ (skpP key false k false p.k = true ∨ ¬ inAll M p.k) → ¬ P) := Lib.hid fun hn h => hn ((HP0.out.1 h).2 p (List.mem_of_getElem? hp))
          have C1 := Lib.hid fun (W : World) => lessw p.k key W (HL.out.2.2.1 p (List.mem_of_getElem? hp)) HL.out.2.2.2.1
          have C3 := Lib.hid fun (W : World) => lessw p.k k W (HL.out.2.2.1 p (List.mem_of_getElem? hp)) HL.out.2.2.2.2.1
          obtain ⟨x, px⟩ := p
          simp only at x0 HS HY C1 C3
          obtain ⟨d1, hd1⟩ : ∃ y, decide (kl x key) = y := ⟨_, rfl⟩
          obtain ⟨d2, hd2⟩ : ∃ y, decide (x = key) = y := ⟨_, rfl⟩
          obtain ⟨d3, hd3⟩ : ∃ y, decide (kl x k) = y := ⟨_, rfl⟩
          obtain ⟨sk, hsk⟩ : ∃ y, skpP key false k false x = y := ⟨_, rfl⟩
          have HSK : Hid (sk = ((d1 || (false && d2)) || (false && !d3))) := Lib.hid (by rw [← hsk, ← hd1, ← hd2, ← hd3]; rfl)
          have qe := bytes_beq x key
          rw [hd2] at qe
          rw [hsk] at HS HY
          rw [hd1] at C1
          rw [hd3] at C3
          clear hp hsk hd1 hd2 hd3
          have hq1 : (0 : Int) ≤ (i : Int) := by omega
          have hq2 : (i : Int) < (last.length : Int) := by omega
          subst hA
          go_upto_region 10 with fail
          clear x0
          go_cut [85] from 66 to 85 (fun s wx => s = .bool sk ∧ Hid (Turn No wr wx))
          case first =>
            cases d1 <;> cases d2 <;> cases d3
            all_goals
              go_wp2_with (first | (go_at_call 40; (with_reducible refine (C1.out _).mono ?_); rintro e w5 ⟨rfl, ht⟩; have T5 := Lib.hid ht; clear ht) | (go_at_call 40; (with_reducible refine (C3.out _).mono ?_); rintro e w6 ⟨rfl, ht⟩; have T6 := Lib.hid (T5.out.trans ht); clear ht))
              go_meet
              first | exact ⟨by rw [HSK.out]; rfl, T6⟩ | exact ⟨by rw [HSK.out]; rfl, T5⟩
          obtain ⟨rfl, T5⟩ := hcut
          generalize wc = w6 at T5 ⊢
          clear C1 C3 qe
          cases sk with
          | true =>
            have HN := Lib.hid (HS.out (.inl rfl))
            go_wp2_with fail
            exact ⟨⟨i + 1, by omega, by go_num, Lib.hid ⟨HP.out.1.trans T5.out, HN.out⟩⟩, by simp [RowKit.intOf]; omega⟩
          | false =>
            go_wp2_with fail
            go_loopw [18, 19] (fun a y wy => ∃ (j : Nat) (bb : Bool), j ≤ M.length ∧ a = .bool bb ∧ y = .int .i64 (j : Int) ∧ Hid (Turn No w wy ∧ (bb = true ↔ ∀ m ∈ M.take j, (getL m x).isSome = true))) (fun a y _ => M.length - (RowKit.intOf y).toNat)
            case atStart => exact ⟨0, true, Nat.zero_le _, rfl, rfl, Lib.hid ⟨HP.out.1.trans T5.out, by simp⟩⟩
            case round =>
              obtain ⟨j, bb, hj, rfl, rfl, HQ⟩ := hrel
              by_cases hlj : j < M.length
              · obtain ⟨m, hm⟩ : ∃ t, M[j]? = some t := ⟨M[j], List.getElem?_eq_getElem hlj⟩
                obtain ⟨mb, mo, mA, mc, hmB, hmc⟩ := HL.out.1 j m hm
                injection hmB with hmB
                injection hmB with e1 e2 e3
                subst e1 e2
                obtain ⟨z0, hmr⟩ := hmc _ HQ.out.1
                have CG := Lib.hid (getw m x mA mc _ hmr (HL.out.2.1 m (List.mem_of_getElem? hm)))
                obtain ⟨g1, hg1⟩ : ∃ y, (getL m x).getD ⟨#[]⟩ = y := ⟨_, rfl⟩
                obtain ⟨g2, hg2⟩ : ∃ y, (getL m x).isSome = y := ⟨_, rfl⟩
                have HZ : Hid ((bb && g2) = true ↔ ∀ q ∈ M.take (j + 1), (getL q x).isSome = true) := Lib.hid (by
                  rw [nokey_all hm, ← HQ.out.2, hg2]
                  simp)
                rw [hg1, hg2] at CG
                clear hm hmc hmr hg1 hg2
                have hz1 : (0 : Int) ≤ (j : Int) := by omega
                have hz2 : (j : Int) < (M.length : Int) := by omega
                cases bb
                all_goals
                  go_wp2_with (go_at_call 37; (with_reducible refine CG.out.mono ?_); rintro e w8 ⟨rfl, ht⟩; have T8 := Lib.hid ht; clear ht)
                  exact ⟨⟨j + 1, _, by omega, rfl, by go_num, Lib.hid ⟨HQ.out.1.trans T8.out, by simpa using HZ.out⟩⟩, by simp [RowKit.intOf]; omega⟩
              · obtain rfl : j = M.length := by omega
                have hz2 : ¬ (M.length : Int) < (M.length : Int) := by omega
                have HZ : Hid (bb = true ↔ inAll M x) := Lib.hid (by
                  have h := HQ.out.2
                  rw [List.take_length] at h
                  exact h)
                cases bb with
                | true =>
                  have HN := Lib.hid (HY.out fun h => by
                    rcases h with h | h
                    · cases h
                    · exact h (HZ.out.1 rfl))
                  go_wp2_with fail
                  go_ret
                  exact BRes.of false rfl ⟨fun h => (by cases h), fun h => absurd h HN.out⟩ HQ.out.1
                | false =>
                  have HN := Lib.hid (HS.out (.inr fun h => by have := HZ.out.2 h; cases this))
                  go_wp2_with fail
                  exact ⟨⟨i + 1, by omega, by go_num, Lib.hid ⟨HQ.out.1, HN.out⟩⟩, by simp [RowKit.intOf]; omega⟩
        · obtain rfl : i = last.length := by omega
          have hq2 : ¬ (last.length : Int) < (last.length : Int) := by omega
          have HY : Hid P := Lib.hid (HP0.out.2 ⟨(by first | (intro h; cases h; done) | (have := HF.out; simpa using this)), by
            have h := HP.out.2
            rw [List.take_length] at h
            exact h⟩)
          go_wp2_with fail
          go_ret
          exact BRes.of true rfl ⟨fun _ => HY.out, fun _ => rfl⟩ HP.out.1
  | true =>
    have C := Lib.hid (getw last k A c2 w (HR0.out w (Turn.refl _ _)) HLL.out)
    have C2 := Lib.hid fun (W : World) => lessw k key W HL.out.2.2.2.2.1 HL.out.2.2.2.1
    obtain ⟨g1, hg1⟩ : ∃ x, (getL last k).getD ⟨#[]⟩ = x := ⟨_, rfl⟩
    obtain ⟨g2, hg2⟩ : ∃ x, (getL last k).isSome = x := ⟨_, rfl⟩
    obtain ⟨d1, hd1⟩ : ∃ x, decide (kl k key) = x := ⟨_, rfl⟩
    obtain ⟨d2, hd2⟩ : ∃ x, decide (k = key) = x := ⟨_, rfl⟩
    have HG : Hid (getL last k = some v ↔ g2 = true ∧ g1 = v) := Lib.hid (by
      rw [← hg1, ← hg2]
      cases getL last k <;> simp)
    have HD : Hid ((kl k key ↔ d1 = true) ∧ (k = key ↔ d2 = true)) := Lib.hid (by rw [← hd1, ← hd2]; simp)
    have C1 : Hid (Calls Tryd.prog 37 #[.slice A last.length c2, .string k] w fun e w' => e = .returned (.tuple #[.string g1, .bool g2]) ∧ Turn No w w') := Lib.hid (by rw [← hg1, ← hg2]; exact C.out)
    have C3 : Hid (∀ W, Calls Tryd.prog 40 #[.string k, .string key] W fun e w' => e = .returned (.bool d1) ∧ Turn No W w') := Lib.hid (by rw [← hd1]; exact C2.out)
    have qe := bytes_beq k key
    rw [hd2] at qe
    have qv := bytes_beq g1 v
    clear C C2 hg1 hg2 hd1 hd2
    by_cases hv : g1 = v
    · rw [decide_eq_true hv] at qv
      have qn : (g1.toList != v.toList) = false := by rw [bne, qv]; rfl
      have HV := Lib.hid hv
      clear hv
      cases g2 with
      | false =>
        have HN : Hid (¬ P) := Lib.hid fun h => by have := (HG.out.1 ((HP0.out.1 h).1 rfl).1).1; cases this
        go_wp2_with (first | (go_at_call 37; (with_reducible refine C1.out.mono ?_); rintro e w2 ⟨rfl, ht⟩; have T2 := Lib.hid ht; clear ht))
        go_ret
        exact BRes.of false rfl ⟨fun h => (by cases h), fun h => absurd h HN.out⟩ T2.out
      | true =>
        cases d1 with
        | true =>
          have HN : Hid (¬ P) := Lib.hid fun h => ((HP0.out.1 h).1 rfl).2.1 (HD.out.1.2 rfl)
          go_wp2_with (first | (go_at_call 37; (with_reducible refine C1.out.mono ?_); rintro e w2 ⟨rfl, ht⟩; have T2 := Lib.hid ht; clear ht) | (go_at_call 40; (with_reducible refine (C3.out _).mono ?_); rintro e w3 ⟨rfl, ht⟩; have T3 := Lib.hid (T2.out.trans ht); clear ht))
          go_ret
          exact BRes.of false rfl ⟨fun h => (by cases h), fun h => absurd h HN.out⟩ T3.out
        | false =>
          cases aft with
          | true =>
            cases d2 with
            | true =>
              have HN : Hid (¬ P) := Lib.hid fun h => ((HP0.out.1 h).1 rfl).2.2 ⟨rfl, HD.out.2.2 rfl⟩
              go_wp2_with (first | (go_at_call 37; (with_reducible refine C1.out.mono ?_); rintro e w2 ⟨rfl, ht⟩; have T2 := Lib.hid ht; clear ht) | (go_at_call 40; (with_reducible refine (C3.out _).mono ?_); rintro e w3 ⟨rfl, ht⟩; have T3 := Lib.hid (T2.out.trans ht); clear ht))
              go_ret
              exact BRes.of false rfl ⟨fun h => (by cases h), fun h => absurd h HN.out⟩ T3.out
            | false =>
              have HF : Hid (true = true → getL last k = some v ∧ ¬ kl k key ∧ ¬ (true = true ∧ k = key)) := Lib.hid fun _ => ⟨HG.out.2 ⟨rfl, HV.out⟩, fun h => (by have := HD.out.1.1 h; cases this), fun h => (by have := HD.out.2.1 h.2; cases this)⟩
              go_upto_region 6 with (first | (go_at_call 37; (with_reducible refine C1.out.mono ?_); rintro e w2 ⟨rfl, ht⟩; have T2 := Lib.hid ht; clear ht) | (go_at_call 40; (with_reducible refine (C3.out _).mono ?_); rintro e w3 ⟨rfl, ht⟩; have T3 := Lib.hid (T2.out.trans ht); clear ht))
              have T0 := Lib.hid T3.out
              generalize w3 = wz at T0 ⊢
              clear T2 T3 C1 C3 qe qn qv HG HD HV
              have hlb := HLL.out
              go_wp2_with fail
              go_loopw [16] (fun x wr => ∃ i : Nat, i ≤ last.length ∧ x = .int .i64 (i : Int) ∧ Hid (Turn No w wr ∧ ∀ p ∈ last.take i, skpP key true k true p.k = true ∨ ¬ inAll M p.k)) (fun x _ => last.length - (RowKit.intOf x).toNat)
              case atStart => exact ⟨0, Nat.zero_le _, rfl, Lib.hid ⟨T0.out, by simp⟩⟩
              case round =>
                obtain ⟨i, hi, rfl, HP⟩ := hrel
                by_cases hlt : i < last.length
                · obtain ⟨p, hp⟩ : ∃ t, last[i]? = some t := ⟨last[i], List.getElem?_eq_getElem hlt⟩
                  obtain ⟨pb, po, hA, _, x0, _⟩ := (HR0.out wr HP.out.1).pair hp
                  have HS : Hid ((skpP key true k true p.k = true ∨ ¬ inAll M p.k) → ∀ q ∈ last.take (i + 1), skpP key true k true q.k = true ∨ ¬ inAll M q.k) := Lib.hid fun hn q hq => by
                    rw [List.take_add_one, hp] at hq
                    rcases List.mem_append.1 hq with h1 | h1
                    · exact HP.out.2 q h1
                    · simp at h1
                      rw [h1]
                      exact hn
                  have HY : Hid (¬ (skpP key true k true p.k = true ∨ ¬ inAll M p.k) → ¬ P) := Lib.hid fun hn h => hn ((HP0.out.1 h).2 p (List.mem_of_getElem? hp))
                  have C1 := Lib.hid fun (W : World) => lessw p.k key W (HL.out.2.2.1 p (List.mem_of_getElem? hp)) HL.out.2.2.2.1
                  have C3 := Lib.hid fun (W : World) => lessw p.k k W (HL.out.2.2.1 p (List.mem_of_getElem? hp)) HL.out.2.2.2.2.1
                  obtain ⟨x, px⟩ := p
                  simp only at x0 HS HY C1 C3
                  obtain ⟨d1, hd1⟩ : ∃ y, decide (kl x key) = y := ⟨_, rfl⟩
                  obtain ⟨d2, hd2⟩ : ∃ y, decide (x = key) = y := ⟨_, rfl⟩
                  obtain ⟨d3, hd3⟩ : ∃ y, decide (kl x k) = y := ⟨_, rfl⟩
                  obtain ⟨sk, hsk⟩ : ∃ y, skpP key true k true x = y := ⟨_, rfl⟩
                  have HSK : Hid (sk = ((d1 || (true && d2)) || (true && !d3))) := Lib.hid (by rw [← hsk, ← hd1, ← hd2, ← hd3]; rfl)
                  have qe := bytes_beq x key
                  rw [hd2] at qe
                  rw [hsk] at HS HY
                  rw [hd1] at C1
                  rw [hd3] at C3
                  clear hp hsk hd1 hd2 hd3
                  have hq1 : (0 : Int) ≤ (i : Int) := by omega
                  have hq2 : (i : Int) < (last.length : Int) := by omega
                  subst hA
                  go_upto_region 10 with fail
                  clear x0
                  go_cut [85] from 66 to 85 (fun s wx => s = .bool sk ∧ Hid (Turn No wr wx))
                  case first =>
                    cases d1 <;> cases d2 <;> cases d3
                    all_goals
                      go_wp2_with (first | (go_at_call 40; (with_reducible refine (C1.out _).mono ?_); rintro e w5 ⟨rfl, ht⟩; have T5 := Lib.hid ht; clear ht) | (go_at_call 40; (with_reducible refine (C3.out _).mono ?_); rintro e w6 ⟨rfl, ht⟩; have T6 := Lib.hid (T5.out.trans ht); clear ht))
                      go_meet
                      first | exact ⟨by rw [HSK.out]; rfl, T6⟩ | exact ⟨by rw [HSK.out]; rfl, T5⟩
                  obtain ⟨rfl, T5⟩ := hcut
                  generalize wc = w6 at T5 ⊢
                  clear C1 C3 qe
                  cases sk with
                  | true =>
                    have HN := Lib.hid (HS.out (.inl rfl))
                    go_wp2_with fail
                    exact ⟨⟨i + 1, by omega, by go_num, Lib.hid ⟨HP.out.1.trans T5.out, HN.out⟩⟩, by simp [RowKit.intOf]; omega⟩
                  | false =>
                    go_wp2_with fail
                    go_loopw [18, 19] (fun a y wy => ∃ (j : Nat) (bb : Bool), j ≤ M.length ∧ a = .bool bb ∧ y = .int .i64 (j : Int) ∧ Hid (Turn No w wy ∧ (bb = true ↔ ∀ m ∈ M.take j, (getL m x).isSome = true))) (fun a y _ => M.length - (RowKit.intOf y).toNat)
                    case atStart => exact ⟨0, true, Nat.zero_le _, rfl, rfl, Lib.hid ⟨HP.out.1.trans T5.out, by simp⟩⟩
                    case round =>
                      obtain ⟨j, bb, hj, rfl, rfl, HQ⟩ := hrel
                      by_cases hlj : j < M.length
                      · obtain ⟨m, hm⟩ : ∃ t, M[j]? = some t := ⟨M[j], List.getElem?_eq_getElem hlj⟩
                        obtain ⟨mb, mo, mA, mc, hmB, hmc⟩ := HL.out.1 j m hm
                        injection hmB with hmB
                        injection hmB with e1 e2 e3
                        subst e1 e2
                        obtain ⟨z0, hmr⟩ := hmc _ HQ.out.1
                        have CG := Lib.hid (getw m x mA mc _ hmr (HL.out.2.1 m (List.mem_of_getElem? hm)))
                        obtain ⟨g1, hg1⟩ : ∃ y, (getL m x).getD ⟨#[]⟩ = y := ⟨_, rfl⟩
                        obtain ⟨g2, hg2⟩ : ∃ y, (getL m x).isSome = y := ⟨_, rfl⟩
                        have HZ : Hid ((bb && g2) = true ↔ ∀ q ∈ M.take (j + 1), (getL q x).isSome = true) := Lib.hid (by
                          rw [nokey_all hm, ← HQ.out.2, hg2]
                          simp)
                        rw [hg1, hg2] at CG
                        clear hm hmc hmr hg1 hg2
                        have hz1 : (0 : Int) ≤ (j : Int) := by omega
                        have hz2 : (j : Int) < (M.length : Int) := by omega
                        cases bb
                        all_goals
                          go_wp2_with (go_at_call 37; (with_reducible refine CG.out.mono ?_); rintro e w8 ⟨rfl, ht⟩; have T8 := Lib.hid ht; clear ht)
                          exact ⟨⟨j + 1, _, by omega, rfl, by go_num, Lib.hid ⟨HQ.out.1.trans T8.out, by simpa using HZ.out⟩⟩, by simp [RowKit.intOf]; omega⟩
                      · obtain rfl : j = M.length := by omega
                        have hz2 : ¬ (M.length : Int) < (M.length : Int) := by omega
                        have HZ : Hid (bb = true ↔ inAll M x) := Lib.hid (by
                          have h := HQ.out.2
                          rw [List.take_length] at h
                          exact h)
                        cases bb with
                        | true =>
                          have HN := Lib.hid (HY.out fun h => by
                            rcases h with h | h
                            · cases h
                            · exact h (HZ.out.1 rfl))
                          go_wp2_with fail
                          go_ret
                          exact BRes.of false rfl ⟨fun h => (by cases h), fun h => absurd h HN.out⟩ HQ.out.1
                        | false =>
                          have HN := Lib.hid (HS.out (.inr fun h => by have := HZ.out.2 h; cases this))
                          go_wp2_with fail
                          exact ⟨⟨i + 1, by omega, by go_num, Lib.hid ⟨HQ.out.1, HN.out⟩⟩, by simp [RowKit.intOf]; omega⟩
                · obtain rfl : i = last.length := by omega
                  have hq2 : ¬ (last.length : Int) < (last.length : Int) := by omega
                  have HY : Hid P := Lib.hid (HP0.out.2 ⟨(by first | (intro h; cases h; done) | (have := HF.out; simpa using this)), by
                    have h := HP.out.2
                    rw [List.take_length] at h
                    exact h⟩)
                  go_wp2_with fail
                  go_ret
                  exact BRes.of true rfl ⟨fun _ => HY.out, fun _ => rfl⟩ HP.out.1
          | false =>
            have HF : Hid (true = true → getL last k = some v ∧ ¬ kl k key ∧ ¬ (false = true ∧ k = key)) := Lib.hid fun _ => ⟨HG.out.2 ⟨rfl, HV.out⟩, fun h => (by have := HD.out.1.1 h; cases this), fun h => (by cases h.1)⟩
            go_upto_region 6 with (first | (go_at_call 37; (with_reducible refine C1.out.mono ?_); rintro e w2 ⟨rfl, ht⟩; have T2 := Lib.hid ht; clear ht) | (go_at_call 40; (with_reducible refine (C3.out _).mono ?_); rintro e w3 ⟨rfl, ht⟩; have T3 := Lib.hid (T2.out.trans ht); clear ht))
            have T0 := Lib.hid T3.out
            generalize w3 = wz at T0 ⊢
            clear T2 T3 C1 C3 qe qn qv HG HD HV
            have hlb := HLL.out
            go_wp2_with fail
            go_loopw [16] (fun x wr => ∃ i : Nat, i ≤ last.length ∧ x = .int .i64 (i : Int) ∧ Hid (Turn No w wr ∧ ∀ p ∈ last.take i, skpP key false k true p.k = true ∨ ¬ inAll M p.k)) (fun x _ => last.length - (RowKit.intOf x).toNat)
            case atStart => exact ⟨0, Nat.zero_le _, rfl, Lib.hid ⟨T0.out, by simp⟩⟩
            case round =>
              obtain ⟨i, hi, rfl, HP⟩ := hrel
              by_cases hlt : i < last.length
              · obtain ⟨p, hp⟩ : ∃ t, last[i]? = some t := ⟨last[i], List.getElem?_eq_getElem hlt⟩
                obtain ⟨pb, po, hA, _, x0, _⟩ := (HR0.out wr HP.out.1).pair hp
                have HS : Hid ((skpP key false k true p.k = true ∨ ¬ inAll M p.k) → ∀ q ∈ last.take (i + 1), skpP key false k true q.k = true ∨ ¬ inAll M q.k) := Lib.hid fun hn q hq => by
                  rw [List.take_add_one, hp] at hq
                  rcases List.mem_append.1 hq with h1 | h1
                  · exact HP.out.2 q h1
                  · simp at h1
                    rw [h1]
                    exact hn
                have HY : Hid (¬ (skpP key false k true p.k = true ∨ ¬ inAll M p.k) → ¬ P) := Lib.hid fun hn h => hn ((HP0.out.1 h).2 p (List.mem_of_getElem? hp))
                have C1 := Lib.hid fun (W : World) => lessw p.k key W (HL.out.2.2.1 p (List.mem_of_getElem? hp)) HL.out.2.2.2.1
                have C3 := Lib.hid fun (W : World) => lessw p.k k W (HL.out.2.2.1 p (List.mem_of_getElem? hp)) HL.out.2.2.2.2.1
                obtain ⟨x, px⟩ := p
                simp only at x0 HS HY C1 C3
                obtain ⟨d1, hd1⟩ : ∃ y, decide (kl x key) = y := ⟨_, rfl⟩
                obtain ⟨d2, hd2⟩ : ∃ y, decide (x = key) = y := ⟨_, rfl⟩
                obtain ⟨d3, hd3⟩ : ∃ y, decide (kl x k) = y := ⟨_, rfl⟩
                obtain ⟨sk, hsk⟩ : ∃ y, skpP key false k true x = y := ⟨_, rfl⟩
                have HSK : Hid (sk = ((d1 || (false && d2)) || (true && !d3))) := Lib.hid (by rw [← hsk, ← hd1, ← hd2, ← hd3]; rfl)
                have qe := bytes_beq x key
                rw [hd2] at qe
                rw [hsk] at HS HY
                rw [hd1] at C1
                rw [hd3] at C3
                clear hp hsk hd1 hd2 hd3
                have hq1 : (0 : Int) ≤ (i : Int) := by omega
                have hq2 : (i : Int) < (last.length : Int) := by omega
                subst hA
                go_upto_region 10 with fail
                clear x0
                go_cut [85] from 66 to 85 (fun s wx => s = .bool sk ∧ Hid (Turn No wr wx))
                case first =>
                  cases d1 <;> cases d2 <;> cases d3
                  all_goals
                    go_wp2_with (first | (go_at_call 40; (with_reducible refine (C1.out _).mono ?_); rintro e w5 ⟨rfl, ht⟩; have T5 := Lib.hid ht; clear ht) | (go_at_call 40; (with_reducible refine (C3.out _).mono ?_); rintro e w6 ⟨rfl, ht⟩; have T6 := Lib.hid (T5.out.trans ht); clear ht))
                    go_meet
                    first | exact ⟨by rw [HSK.out]; rfl, T6⟩ | exact ⟨by rw [HSK.out]; rfl, T5⟩
                obtain ⟨rfl, T5⟩ := hcut
                generalize wc = w6 at T5 ⊢
                clear C1 C3 qe
                cases sk with
                | true =>
                  have HN := Lib.hid (HS.out (.inl rfl))
                  go_wp2_with fail
                  exact ⟨⟨i + 1, by omega, by go_num, Lib.hid ⟨HP.out.1.trans T5.out, HN.out⟩⟩, by simp [RowKit.intOf]; omega⟩
                | false =>
                  go_wp2_with fail
                  go_loopw [18, 19] (fun a y wy => ∃ (j : Nat) (bb : Bool), j ≤ M.length ∧ a = .bool bb ∧ y = .int .i64 (j : Int) ∧ Hid (Turn No w wy ∧ (bb = true ↔ ∀ m ∈ M.take j, (getL m x).isSome = true))) (fun a y _ => M.length - (RowKit.intOf y).toNat)
                  case atStart => exact ⟨0, true, Nat.zero_le _, rfl, rfl, Lib.hid ⟨HP.out.1.trans T5.out, by simp⟩⟩
                  case round =>
                    obtain ⟨j, bb, hj, rfl, rfl, HQ⟩ := hrel
                    by_cases hlj : j < M.length
                    · obtain ⟨m, hm⟩ : ∃ t, M[j]? = some t := ⟨M[j], List.getElem?_eq_getElem hlj⟩
                      obtain ⟨mb, mo, mA, mc, hmB, hmc⟩ := HL.out.1 j m hm
                      injection hmB with hmB
                      injection hmB with e1 e2 e3
                      subst e1 e2
                      obtain ⟨z0, hmr⟩ := hmc _ HQ.out.1
                      have CG := Lib.hid (getw m x mA mc _ hmr (HL.out.2.1 m (List.mem_of_getElem? hm)))
                      obtain ⟨g1, hg1⟩ : ∃ y, (getL m x).getD ⟨#[]⟩ = y := ⟨_, rfl⟩
                      obtain ⟨g2, hg2⟩ : ∃ y, (getL m x).isSome = y := ⟨_, rfl⟩
                      have HZ : Hid ((bb && g2) = true ↔ ∀ q ∈ M.take (j + 1), (getL q x).isSome = true) := Lib.hid (by
                        rw [nokey_all hm, ← HQ.out.2, hg2]
                        simp)
                      rw [hg1, hg2] at CG
                      clear hm hmc hmr hg1 hg2
                      have hz1 : (0 : Int) ≤ (j : Int) := by omega
                      have hz2 : (j : Int) < (M.length : Int) := by omega
                      cases bb
                      all_goals
                        go_wp2_with (go_at_call 37; (with_reducible refine CG.out.mono ?_); rintro e w8 ⟨rfl, ht⟩; have T8 := Lib.hid ht; clear ht)
                        exact ⟨⟨j + 1, _, by omega, rfl, by go_num, Lib.hid ⟨HQ.out.1.trans T8.out, by simpa using HZ.out⟩⟩, by simp [RowKit.intOf]; omega⟩
                    · obtain rfl : j = M.length := by omega
                      have hz2 : ¬ (M.length : Int) < (M.length : Int) := by omega
                      have HZ : Hid (bb = true ↔ inAll M x) := Lib.hid (by
                        have h := HQ.out.2
                        rw [List.take_length] at h
                        exact h)
                      cases bb with
                      | true =>
                        have HN := Lib.hid (HY.out fun h => by
                          rcases h with h | h
                          · cases h
                          · exact h (HZ.out.1 rfl))
                        go_wp2_with fail
                        go_ret
                        exact BRes.of false rfl ⟨fun h => (by cases h), fun h => absurd h HN.out⟩ HQ.out.1
                      | false =>
                        have HN := Lib.hid (HS.out (.inr fun h => by have := HZ.out.2 h; cases this))
                        go_wp2_with fail
                        exact ⟨⟨i + 1, by omega, by go_num, Lib.hid ⟨HQ.out.1, HN.out⟩⟩, by simp [RowKit.intOf]; omega⟩
              · obtain rfl : i = last.length := by omega
                have hq2 : ¬ (last.length : Int) < (last.length : Int) := by omega
                have HY : Hid P := Lib.hid (HP0.out.2 ⟨(by first | (intro h; cases h; done) | (have := HF.out; simpa using this)), by
                  have h := HP.out.2
                  rw [List.take_length] at h
                  exact h⟩)
                go_wp2_with fail
                go_ret
                exact BRes.of true rfl ⟨fun _ => HY.out, fun _ => rfl⟩ HP.out.1
    · rw [decide_eq_false hv] at qv
      have qn : (g1.toList != v.toList) = true := by rw [bne, qv]; rfl
      have HN : Hid (¬ P) := Lib.hid fun h => hv (HG.out.1 ((HP0.out.1 h).1 rfl).1).2
      clear hv
      cases g2 with
      | false =>
        go_wp2_with (first | (go_at_call 37; (with_reducible refine C1.out.mono ?_); rintro e w2 ⟨rfl, ht⟩; have T2 := Lib.hid ht; clear ht))
        go_ret
        exact BRes.of false rfl ⟨fun h => (by cases h), fun h => absurd h HN.out⟩ T2.out
      | true =>
        go_wp2_with (first | (go_at_call 37; (with_reducible refine C1.out.mono ?_); rintro e w2 ⟨rfl, ht⟩; have T2 := Lib.hid ht; clear ht))
        go_ret
        exact BRes.of false rfl ⟨fun h => (by cases h), fun h => absurd h HN.out⟩ T2.out
end Go.Proofs.YtfplnobnmgbgoaaDoor
