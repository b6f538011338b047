/-
  SortStableFunc: the row sorted, keys that are alike staying in their order.
-/
import Derived.Test.YtjjmooegpoeomaaWSymD
import Derived.Test.YtjjmooegpoeomaaWSymE
namespace Go.Proofs.Ytjjmooegpoeomaa
open Go.RowKit Go.Lib
set_option linter.unusedVariables false
set_option linter.unusedSimpArgs false

theorem one_of {A : List Pr} (h : A.length = 1) : ∃ x, A = [x] := List.length_eq_one_iff.1 h
theorem sym_any : ∀ N, SymI N
  | 0 => fun w g cap P A B R n a m b h hA hB h1 h2 h3 => by omega
  | N + 1 => fun w g cap P A B R n a m b h hA hB h1 h2 h3 hc hl hn ha hm hb => by
    by_cases e1 : A.length = 1
    · obtain ⟨x, rfl⟩ := one_of e1
      exact sym_left P B R x h hB hc hl hn ha (by simpa using hm) hb
    · by_cases e2 : B.length = 1
      · obtain ⟨x, rfl⟩ := one_of e2
        exact sym_right P A R x h hA e1 hc hl hn ha hm (by simpa using hb)
      · by_cases e3 : (a + b) / 2 < m
        · exact sym_up (sym_any N) P A B R h hA hB (by omega) (by omega) h3 hc hl hn ha hm hb rfl e3
        · exact sym_dn (sym_any N) P A B R h hA hB (by omega) (by omega) h3 hc hl hn ha hm hb rfl e3

/-- Blocks of s up to a (each sorted), the rest in blocks of r. -/
structure Ph (w0 wr : World) (g cap : Nat) (l0 : List Pr) (s r a : Nat) : Prop where
  ex : ∃ S T, Hx wr g cap (S ++ T) ∧ S.length = a ∧ (∃ t, a = t * s) ∧ Bl s S ∧ (0 < r → Bl r T) ∧ Sim (S ++ T) l0
  tu : Turn (fun k => k = g) w0 wr
/-- All in blocks of s. -/
structure Pq (w0 wr : World) (g cap : Nat) (l0 : List Pr) (s : Nat) : Prop where
  ex : ∃ l, Hx wr g cap l ∧ Bl s l ∧ Sim l l0
  tu : Turn (fun k => k = g) w0 wr
section
variable {w0 wr : World} {g cap n a b m s : Nat} {l0 : List Pr}
theorem Bl.nil (s : Nat) : Bl s [] := fun t => by simp [Sd.nil]
theorem Ph.first (hx : Hx wr g cap l0) (t : Turn (fun k => k = g) w0 wr) : Ph w0 wr g cap l0 20 0 0 := ⟨⟨[], l0, hx, rfl, ⟨0, by simp⟩, Bl.nil _, fun h => absurd h (by decide), Sim.refl _⟩, t⟩
theorem Ph.iso (h : Ph w0 wr g cap l0 20 0 a) (hc : cap ≤ maxLen) (hl : n ≤ 100000) (hn : n = l0.length) (hb : b = a + 20) (hbn : b ≤ n) :
    Calls Try.prog 54 #[.slice (some ⟨g, 0, none⟩) n cap, .int .i64 (a : Int), .int .i64 (b : Int), .func (.func 28) #[] #[]] wr fun e w' => e = .returned (.tuple #[]) ∧ Ph w0 w' g cap l0 20 0 b := by
  obtain ⟨S, T, hx, hS, ⟨t, ht⟩, hB, _, hm⟩ := h.ex
  have hlen := hm.len
  rw [List.length_append] at hlen
  have e : S ++ T = S ++ T.take 20 ++ T.drop 20 := by rw [List.append_assoc, List.take_append_drop]
  have hT : (T.take 20).length = 20 := by rw [List.length_take]; omega
  rw [e] at hx
  refine (iso_any S (T.take 20) (T.drop 20) hx hc hl (n := n) (a := a) (b := b) (by rw [← e, List.length_append]; omega) hS.symm (by omega)).mono ?_
  rintro r w' ⟨rfl, ⟨M, hx', hs', hm'⟩, ht'⟩
  have hM := hm'.len
  refine ⟨rfl, ⟨S ++ M, T.drop 20, hx', by rw [List.length_append]; omega, ⟨t + 1, by rw [Nat.succ_mul]; omega⟩, hB.append (hS.trans ht) (Bl.of_sd _ hs'), fun h => absurd h (by decide), ?_⟩, h.tu.trans ht'⟩
  refine Sim.trans ?_ hm
  rw [e]
  exact ((Sim.refl S).append hm').append (Sim.refl _)
theorem Ph.isoEnd (h : Ph w0 wr g cap l0 20 0 a) (hc : cap ≤ maxLen) (hl : n ≤ 100000) (hn : n = l0.length) (hbn : n < a + 20) :
    Calls Try.prog 54 #[.slice (some ⟨g, 0, none⟩) n cap, .int .i64 (a : Int), .int .i64 (n : Int), .func (.func 28) #[] #[]] wr fun e w' => e = .returned (.tuple #[]) ∧ Pq w0 w' g cap l0 20 := by
  obtain ⟨S, T, hx, hS, ⟨t, ht⟩, hB, _, hm⟩ := h.ex
  have hlen := hm.len
  rw [List.length_append] at hlen
  refine (iso_any S T [] (by simpa using hx) hc hl (n := n) (a := a) (b := n) (by rw [List.append_nil, List.length_append]; omega) hS.symm (by omega)).mono ?_
  rintro r w' ⟨rfl, ⟨M, hx', hs', hm'⟩, ht'⟩
  exact ⟨rfl, ⟨S ++ M, by simpa using hx', hB.append (hS.trans ht) (Bl.of_sd _ hs'), ((Sim.refl S).append hm').trans hm⟩, h.tu.trans ht'⟩
theorem Pq.merge (h : Pq w0 wr g cap l0 s) (h0 : 0 < s) : Ph w0 wr g cap l0 (s * 2) s 0 := by
  obtain ⟨l, hx, hb, hm⟩ := h.ex
  exact ⟨⟨[], l, hx, rfl, ⟨0, by simp⟩, Bl.nil _, fun _ => hb, hm⟩, h.tu⟩
theorem Ph.sym (h : Ph w0 wr g cap l0 (s * 2) s a) (h0 : 0 < s) (hc : cap ≤ maxLen) (hl : n ≤ 100000) (hn : n = l0.length) (hm : m = a + s) (hb : b = m + s) (hbn : b ≤ n) :
    Calls Try.prog 55 #[.slice (some ⟨g, 0, none⟩) n cap, .int .i64 (a : Int), .int .i64 (m : Int), .int .i64 (b : Int), .func (.func 28) #[] #[]] wr fun e w' => e = .returned (.tuple #[]) ∧ Ph w0 w' g cap l0 (s * 2) s b := by
  obtain ⟨S, T, hx, hS, ⟨t, ht⟩, hB, hT, hmm⟩ := h.ex
  have hT := hT h0
  have hlen := hmm.len
  rw [List.length_append] at hlen
  have e0 : T = T.take s ++ (T.drop s).take s ++ (T.drop s).drop s := by rw [List.append_assoc, List.take_append_drop, List.take_append_drop]
  have e : S ++ T = S ++ T.take s ++ (T.drop s).take s ++ (T.drop s).drop s := by
    conv => lhs; rw [e0]
    simp only [List.append_assoc]
  have l1 : (T.take s).length = s := by rw [List.length_take]; omega
  have l2 : ((T.drop s).take s).length = s := by rw [List.length_take, List.length_drop]; omega
  rw [e] at hx
  refine (sym_any (s + s) wr g cap S (T.take s) ((T.drop s).take s) ((T.drop s).drop s) n a m b hx hT.head hT.tail.head (by omega) (by omega) (by omega) hc hl (by rw [← e, List.length_append]; omega) hS.symm (by omega) (by omega)).mono ?_
  rintro r w' ⟨rfl, ⟨M, hx', hs', hm'⟩, ht'⟩
  have hM := hm'.len
  rw [List.length_append] at hM
  refine ⟨rfl, ⟨S ++ M, (T.drop s).drop s, hx', by rw [List.length_append]; omega, ⟨t + 1, by rw [Nat.succ_mul]; omega⟩, hB.append (hS.trans ht) (Bl.of_sd _ hs'), fun _ => hT.tail.tail, ?_⟩, h.tu.trans ht'⟩
  refine Sim.trans ?_ hmm
  rw [e, List.append_assoc S (T.take s)]
  exact ((Sim.refl S).append hm').append (Sim.refl _)
theorem Ph.symEnd (h : Ph w0 wr g cap l0 (s * 2) s a) (h0 : 0 < s) (hc : cap ≤ maxLen) (hl : n ≤ 100000) (hn : n = l0.length) (hm : m = a + s) (hmn : m < n) (hbn : n < m + s) :
    Calls Try.prog 55 #[.slice (some ⟨g, 0, none⟩) n cap, .int .i64 (a : Int), .int .i64 (m : Int), .int .i64 (n : Int), .func (.func 28) #[] #[]] wr fun e w' => e = .returned (.tuple #[]) ∧ Pq w0 w' g cap l0 (s * 2) := by
  obtain ⟨S, T, hx, hS, ⟨t, ht⟩, hB, hT, hmm⟩ := h.ex
  have hT := hT h0
  have hlen := hmm.len
  rw [List.length_append] at hlen
  have e : S ++ T = S ++ T.take s ++ T.drop s ++ [] := by rw [List.append_nil, List.append_assoc, List.take_append_drop]
  have l1 : (T.take s).length = s := by rw [List.length_take]; omega
  have l2 : (T.drop s).length = n - m := by rw [List.length_drop]; omega
  rw [e] at hx
  refine (sym_any (s + s) wr g cap S (T.take s) (T.drop s) [] n a m n hx hT.head (hT.tail.all (by omega)) (by omega) (by omega) (by omega) hc hl (by rw [← e, List.length_append]; omega) hS.symm (by omega) (by omega)).mono ?_
  rintro r w' ⟨rfl, ⟨M, hx', hs', hm'⟩, ht'⟩
  refine ⟨rfl, ⟨S ++ M, by simpa using hx', hB.append (hS.trans ht) (Bl.of_sd _ hs'), ?_⟩, h.tu.trans ht'⟩
  refine Sim.trans ?_ hmm
  have e2 : S ++ T = S ++ (T.take s ++ T.drop s) := by rw [List.take_append_drop]
  rw [e2]
  exact (Sim.refl S).append hm'
theorem Ph.symNo (h : Ph w0 wr g cap l0 (s * 2) s a) (h0 : 0 < s) (hn : n = l0.length) (hmn : ¬ a + s < n) : Pq w0 wr g cap l0 (s * 2) := by
  obtain ⟨S, T, hx, hS, ⟨t, ht⟩, hB, hT, hmm⟩ := h.ex
  have hT := hT h0
  have hlen := hmm.len
  rw [List.length_append] at hlen
  exact ⟨⟨S ++ T, hx, hB.append (hS.trans ht) (Bl.of_sd _ (hT.all (by omega))), hmm⟩, h.tu⟩
theorem Pq.done (h : Pq w0 wr g cap l0 s) (hs : l0.length ≤ s) : Srd wr g cap [] l0 [] := by
  obtain ⟨l, hx, hb, hm⟩ := h.ex
  exact ⟨l, by simpa using hx, hb.all (by rw [hm.len]; exact hs), hm⟩
end

set_option maxHeartbeats 4000000 in
theorem stab47_any {w : World} {g cap : Nat} (l : List Pr) (h : Hx w g cap l) (hc : cap ≤ maxLen) {n : Nat} (hl : n ≤ 100000) (hn : n = l.length) :
    Calls Try.prog 47 #[.slice (some ⟨g, 0, none⟩) n cap, .int .i64 (n : Int), .func (.func 28) #[] #[]] w fun e w' => e = .returned (.tuple #[]) ∧ Srd w' g cap [] l [] ∧ Turn (fun k => k = g) w w' := by
  have C1 := Lib.hid fun (wr : World) (a b : Nat) (hp : Ph w wr g cap l 20 0 a) (hb : b = a + 20) (hbn : b ≤ n) => hp.iso hc hl hn hb hbn
  have C2 := Lib.hid fun (wr : World) (a : Nat) (hp : Ph w wr g cap l 20 0 a) (hbn : n < a + 20) => hp.isoEnd hc hl hn hbn
  have C3 := Lib.hid fun (wr : World) (s a m b : Nat) (hp : Ph w wr g cap l (s * 2) s a) (h0 : 0 < s) (hm : m = a + s) (hb : b = m + s) (hbn : b ≤ n) => hp.sym h0 hc hl hn hm hb hbn
  have C4 := Lib.hid fun (wr : World) (s a m : Nat) (hp : Ph w wr g cap l (s * 2) s a) (h0 : 0 < s) (hm : m = a + s) (hmn : m < n) (hbn : n < m + s) => hp.symEnd h0 hc hl hn hm hmn hbn
  have H0 : Hid (Ph w w g cap l 20 0 0) := Lib.hid (Ph.first h (Turn.refl _ _))
  have HL := Lib.hid hn
  unfold maxLen at hc
  clear h hn
  go_enter Try.func47, Try.ntmps47
  go_wp2_with fail
  go_loopw [7, 8] (fun x y wr => ∃ a b : Nat, a ≤ n ∧ b ≤ a + 20 ∧ a + 20 ≤ b ∧ x = .int .i64 (a : Int) ∧ y = .int .i64 (b : Int) ∧ Hid (Ph w wr g cap l 20 0 a)) (fun x _ _ => n - (RowKit.intOf x).toNat)
  case atStart => exact ⟨0, 20, Nat.zero_le _, Nat.le_refl _, Nat.le_refl _, rfl, rfl, H0⟩
  case round =>
    obtain ⟨a, b, h1, h2, h2b, rfl, rfl, HP⟩ := hrel
    clear H0
    by_cases hbn : b ≤ n
    · have C := Lib.hid (C1.out wr a b HP.out (by omega) hbn)
      clear C1 C2 C3 C4
      go_wp2_with (go_at_call 54; (with_reducible refine C.out.mono ?_); rintro e w2 ⟨rfl, y1⟩; have H2 := Lib.hid y1; clear y1)
      exact ⟨⟨b, b + 20, hbn, Nat.le_refl _, Nat.le_refl _, rfl, by go_num, H2⟩, by simp [RowKit.intOf]; omega⟩
    · have C := Lib.hid (C2.out wr a HP.out (by omega))
      clear C1 C2
      go_upto_region 7 with (go_at_call 54; (with_reducible refine C.out.mono ?_); rintro e w2 ⟨rfl, y1⟩; have H2 := Lib.hid y1; clear y1)
      clear C HP
      go_wp2_with fail
      go_loopw [6] (fun x wr => ∃ s : Nat, 20 ≤ s ∧ s ≤ 200000 ∧ x = .int .i64 (s : Int) ∧ Hid (Pq w wr g cap l s)) (fun x _ => n - (RowKit.intOf x).toNat)
      case atStart => exact ⟨20, Nat.le_refl _, by decide, rfl, H2⟩
      case round =>
        obtain ⟨s, h3, h3b, rfl, HS⟩ := hrel
        clear H2
        by_cases hsn : s < n
        · obtain ⟨wx, hwx⟩ : ∃ x, x = wr := ⟨_, rfl⟩
          subst hwx
          have HM := Lib.hid (HS.out.merge (by omega))
          clear HS
          go_wp2_with fail
          go_loopw [7, 8] (fun x y wr => ∃ a b : Nat, a ≤ n ∧ b ≤ a + s * 2 ∧ a + s * 2 ≤ b ∧ x = .int .i64 (a : Int) ∧ y = .int .i64 (b : Int) ∧ Hid (Ph w wr g cap l (s * 2) s a)) (fun x _ _ => n - (RowKit.intOf x).toNat)
          case atStart => exact ⟨0, s * 2, Nat.zero_le _, by omega, by omega, rfl, by go_num, HM⟩
          case round =>
            obtain ⟨a2, b2, h4, h5, h5b, rfl, rfl, HP⟩ := hrel
            clear HM
            by_cases hbn2 : b2 ≤ n
            · obtain ⟨m2, hm2⟩ : ∃ m2, a2 + s = m2 := ⟨_, rfl⟩
              have C := Lib.hid (C3.out wr s a2 m2 b2 HP.out (by omega) hm2.symm (by omega) hbn2)
              have q1 : (a2 : Int) + (s : Int) = (m2 : Int) := by omega
              clear C3 C4 hm2
              go_wp2_with (go_at_call 55; (with_reducible refine C.out.mono ?_); rintro e w2 ⟨rfl, y1⟩; have H2 := Lib.hid y1; clear y1)
              exact ⟨⟨b2, b2 + s * 2, hbn2, Nat.le_refl _, Nat.le_refl _, rfl, by go_num, H2⟩, by simp [RowKit.intOf]; omega⟩
            · obtain ⟨m2, hm2⟩ : ∃ m2, a2 + s = m2 := ⟨_, rfl⟩
              have q1 : (a2 : Int) + (s : Int) = (m2 : Int) := by omega
              by_cases hmn : m2 < n
              · have C := Lib.hid (C4.out wr s a2 m2 HP.out (by omega) hm2.symm hmn (by omega))
                clear C3 C4 hm2
                go_wp2_with (go_at_call 55; (with_reducible refine C.out.mono ?_); rintro e w2 ⟨rfl, y1⟩; have H2 := Lib.hid y1; clear y1)
                exact ⟨⟨s * 2, by omega, by omega, by go_num, H2⟩, by simp [RowKit.intOf]; omega⟩
              · have H2 := Lib.hid (HP.out.symNo (by omega) HL.out (by omega))
                clear C3 C4 hm2
                go_wp2_with fail
                exact ⟨⟨s * 2, by omega, by omega, by go_num, H2⟩, by simp [RowKit.intOf]; omega⟩
        · have HF := Lib.hid (HS.out.done (by have := HL.out; omega))
          go_wp2_with fail
          go_end0
          exact ⟨rfl, HF.out, HS.out.tu⟩
theorem stab27_any {w : World} {g cap : Nat} (l : List Pr) (h : Hx w g cap l) (hc : cap ≤ maxLen) {n : Nat} (hl : n ≤ 100000) (hn : n = l.length) :
    Calls Try.prog 27 #[.slice (some ⟨g, 0, none⟩) n cap, .func (.func 28) #[] #[]] w fun e w' => e = .returned (.tuple #[]) ∧ Srd w' g cap [] l [] ∧ Turn (fun k => k = g) w w' := by
  have C := Lib.hid (stab47_any l h hc hl hn)
  clear h hn
  go_enter Try.func27, Try.ntmps27
  go_wp2_with (go_at_call 47; refine C.out.mono ?_; rintro e w' ⟨rfl, h1, h2⟩; have H := Lib.hid (And.intro h1 h2); clear h1 h2)
  go_end0
  exact ⟨rfl, H.out⟩
end Go.Proofs.Ytjjmooegpoeomaa
