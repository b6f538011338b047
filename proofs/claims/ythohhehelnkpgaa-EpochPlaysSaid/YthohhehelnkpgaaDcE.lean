/-
  What Next of the document's epoch comes to.
-/
import Derived.Test.YthohhehelnkpgaaDcD
namespace Go.Proofs.Ythohhehelnkpgaa
open Go.RowKit Go.Maps Go.IntWalk Go.Lib
set_option linter.unusedVariables false
section
variable {Z qb g n : Nat} {av : Option Nat} {w w' : World} {E : Ab} {pv_ lv : Value} {ws : List Value} {t : Int}

theorem append_nothing33 (w : World) (A : Option Addr) (c ty : Nat) : (Builtin.append_ #[33, 33] ty #[.slice none 0 0, .slice A 0 c]).run Try.prog w = .ok (.slice none 0 0) w := by
  obtain ⟨i0, hi, hz0, hz1, hz2⟩ := info_parts info65
  refine run_append_nothing (P := Try.prog) w 33 33 ty 65 i0 Try.underlying33 hi none 0 0 (Nat.le_refl _) _ ?_
  cases A with
  | none => exact Src.ofNil w Try.underlying33 c
  | some a => exact Src.ofSlice w Try.underlying33 a 0 c [] (by simp) (fun j u h => by simp at h) (fun u h => by cases h)

theorem flatR_one : ∀ (ws : List Value) (g : Nat), (∀ v ∈ ws, v.oneCell' = true) → ∀ u ∈ flatR g ws, u.oneCell' = true
  | [], _, _, u, hu => by simp [flatR] at hu
  | v :: r, g, h, u, hu => by
    simp only [flatR, List.mem_cons] at hu
    rcases hu with rfl | rfl | hu
    · rfl
    · exact h _ (by simp)
    · exact flatR_one r (g + 1) (fun x hx => h x (by simp [hx])) u hu

/-- The first one is taken out: a new list in the second field. -/
theorem DcAt.taken {v : Value} {u0 : Value} {wr : List Value} {w4 : World} (h : DcAt Z w qb av E pv_ lv ws) (hf : E.fs ≠ []) (h0 : cntk E.P E.gone = 0) (hws : ws = u0 :: wr) (ht : Turn (fun _ => False) w w4) (hv : w4.ownsRow Z 65 2 v wr.length (flatR (E.gone + 1) wr)) :
    Dc Z (w4.setCell ⟨qb, 1, none⟩ v) qb av E.take ∧ Tr Ro Z w (w4.setCell ⟨qb, 1, none⟩ v) := by
  have s := h.same ht
  have tz := set_turn w4 qb 1 v
  have no2 : ∀ i c ty f, At w4 i (.cells c ty f) → ty ≠ 35 → ¬ i = qb := fun i c ty f hi hne e => by
    subst e
    have := hi.eq s.at_
    injection this with _ e _
    exact hne e
  have hl : E.take.fs.length = wr.length := by
    have := h.len
    rw [hws] at this
    show E.fs.tail.length = _
    rw [List.length_tail]
    simp at this
    omega
  refine ⟨⟨pv_, v, wr, s.at_.set 1 v, s.pins.turn tz (fun i c _ hi _ => no2 _ _ _ _ hi (by decide)), h.pav, ?_, hl.symm, fun i x hx => ?_, h.wf.take hf h0, h.base⟩, (Tr.of_same ht).trans (Tr.set s.at_ (Or.inl rfl) h.base 1 v)⟩
  · rw [hl]
    exact own_turn hv tz (fun i c _ hi _ => no2 _ _ _ _ hi (by decide))
  · obtain ⟨n1, n2⟩ := s.waits (i + 1) x (by rw [hws]; simpa using hx)
    refine ⟨?_, n2⟩
    rw [show E.take.gone + i = E.gone + (i + 1) by show E.gone + 1 + i = _; omega]
    exact n1.turn tz (fun i c _ hi _ => no2 _ _ _ _ hi (by decide))

set_option maxRecDepth 100000 in
set_option maxHeartbeats 4000000 in
theorem rnext_yes {f : Value} {r : List Value} (h : Dc Z w qb av E) (hf : E.fs = f :: r) (h0 : cntk E.P E.gone = 0) (many : Nat) (hm : 0 < many) (hm2 : many ≤ 1000000) :
    Calls Try.prog 37 #[.pointer (some ⟨qb, 0, none⟩), .int .i64 0, .int .i64 (many : Int)] w fun e w' => e = .returned (.tuple #[.int .i64 (E.gone : Int), .int .i64 0]) ∧ Dc Z w' qb av E.take ∧ Tr Ro Z w w' := by
  obtain ⟨p, l, ws, hd⟩ := h
  have hfl : E.fs.length = r.length + 1 := by rw [hf]; rfl
  have hsm : E.gone + E.fs.length ≤ 100000 := hd.wf.small.2
  have hzs : Z ≤ w.heap.size := Nat.le_trans hd.base (Nat.le_of_lt hd.lt)
  obtain ⟨q, cp, u, rfl, hc, hql, hu, k0, k1, k2, hput⟩ := hd.toG.one (m := 0) (by omega)
  obtain ⟨hNu, hau⟩ := hd.waits 0 u hu
  rw [Nat.add_zero, wl_ripe hd.wf h0] at hNu
  obtain ⟨uA, ucap, rfl⟩ := hNu.form
  have hne : E.fs ≠ [] := by rw [hf]; simp
  obtain ⟨wr, hws⟩ : ∃ wr, ws = .slice uA 0 ucap :: wr := by
    cases ws with
    | nil => simp at hu
    | cons a b => simp at hu; subst hu; exact ⟨b, rfl⟩
  have hwl : wr.length = r.length := by have := hd.len; rw [hws] at this; simp at this; omega
  have c1 := hd.cells.2
  have z1 := hd.at_.thawed 1
  have lq := hd.lt
  simp at k0 k1
  rw [hfl] at c1 hc
  have HR1 : ∀ A c, AppRun 33 33 (.slice none 0 0) (.slice A 0 c) (.slice none 0 0) w w := fun A c => ⟨append_nothing33 w A c 33⟩
  have m0 : (0 : Int) < (many : Int) := by omega
  have r0 : (0 : Int) < ((r.length + 1 : Nat) : Int) := by omega
  rcases Nat.eq_zero_or_pos r.length with hr0 | hrp
  · have hwe : wr = [] := List.length_eq_zero_iff.1 (by omega)
    have HP := Lib.hid (hd.taken hne h0 hws (Turn.refl _ w) (v := .slice none 0 0) (by rw [hwe]; exact ⟨rfl, Or.inl ⟨rfl, rfl⟩⟩))
    rw [hr0] at c1 hc
    clear hd hput hNu hau hu hws hwl hf h0 hfl hne r0
    go_enter Try.func37, Try.ntmps37
    go_wp2_with fail
    go_loopw [8] (fun i wz => i = .int .i64 0 ∧ w = wz) (fun i _ => 0)
    case atStart => exact ⟨rfl, rfl⟩
    case round =>
      obtain ⟨rfl, hw⟩ := hrel
      subst hw
      go_wp2_with (at_builtin; refine wpList_append_hid rfl _ _ 33 rfl _ _ _ rfl rfl (HR1 _ _) ?_)
      all_goals
        go_ret2
        exact ⟨rfl, HP.out⟩
  · obtain ⟨i0, hi, hz0, hz1, hz2⟩ := info_parts info65
    obtain ⟨q', hq', _, _, _, _, _, hcell, _, _⟩ := own_at hd.row (j := 0) (by rw [flatR_len]; have := hd.len; omega)
    obtain rfl : q = q' := by injection hq' with h; injection h
    have hone : ∀ v ∈ wr, v.oneCell' = true := fun v hv => by
      obtain ⟨i, hi⟩ := List.getElem?_of_mem hv
      obtain ⟨A, c, rfl⟩ := (hd.waits (i + 1) v (by rw [hws]; simpa using hi)).1.form
      rfl
    obtain ⟨v', w4, q4, o4, g4, _, _⟩ := run_append_own_at (P := Try.prog) w Z 33 33 65 i0 _ 2 32 Try.underlying33 hi hz0 hz1 hz2 rfl (by omega) (.slice none 0 0) 0 [] ⟨rfl, Or.inl ⟨rfl, rfl⟩⟩ ⟨q, 2, none⟩ r.length (cp - 1) (flatR (E.gone + 1) wr) (by rw [flatR_len, hwl])
      (fun j x hx => by
        rw [Addr.add_lit]
        have : (flatR E.gone ws)[j + 2]? = some x := by rw [hws]; simpa [flatR] using hx
        have := hcell _ _ this
        rwa [show 2 + j = j + 2 by omega])
      (flatR_one wr _ hone) (by unfold maxLen; omega) (by omega) hzs
    rw [Nat.zero_add, List.nil_append] at o4
    obtain ⟨A4, c4, rfl⟩ := own_form o4
    have HR2 : AppRun 33 33 (.slice none 0 0) (.slice (some ⟨q, 2, none⟩) r.length (cp - 1)) (.slice A4 r.length c4) w w4 := ⟨q4⟩
    have t4 : Turn (fun _ => False) w w4 := (Turn.refl _ w).grown g4 (fun k hk => by cases hk)
    have HP := Lib.hid (hd.taken hne h0 hws t4 (v := .slice A4 r.length c4) (by rw [hwl]; exact o4))
    have s4 := hd.same t4
    have v1 := s4.cells.2
    have vz := s4.at_.thawed 1
    clear hd hput hNu hau hu hws hwl hf h0 hfl hne o4 q4 g4 t4 s4 hcell hone hq'
    have cpos : ¬ cp - 1 = 0 := by omega
    go_enter Try.func37, Try.ntmps37
    go_wp2_with fail
    go_loopw [8] (fun i wz => i = .int .i64 0 ∧ w = wz) (fun i _ => 0)
    case atStart => exact ⟨rfl, rfl⟩
    case round =>
      obtain ⟨rfl, hw⟩ := hrel
      subst hw
      go_wp2_with (first | (at_builtin; refine wpList_append_hid rfl _ _ 33 rfl _ _ _ rfl rfl (HR1 _ _) ?_) | (at_builtin; refine wpList_append_hid rfl _ _ 33 rfl _ _ _ rfl rfl HR2 ?_))
      all_goals
        go_ret2
        exact ⟨rfl, HP.out⟩

set_option maxRecDepth 100000 in
set_option maxHeartbeats 4000000 in
theorem rnext_no (h : Dc Z w qb av E) (many : Nat) (hm : many ≤ E.fs.length) (hno : many = 0 ∨ cntk E.P E.gone ≠ 0) :
    Calls Try.prog 37 #[.pointer (some ⟨qb, 0, none⟩), .int .i64 0, .int .i64 (many : Int)] w fun e w' => e = .returned (.tuple #[.int .i64 (-1), .int .i64 (many : Int)]) ∧ w' = w := by
  obtain ⟨p, l, ws, hd⟩ := h
  have hsm : E.gone + E.fs.length ≤ 100000 := hd.wf.small.2
  obtain ⟨lA, lcap, rfl⟩ := own_form hd.row
  have c1 := hd.cells.2
  have HD := Lib.hid (And.intro hd hno)
  clear hd hno
  go_enter Try.func37, Try.ntmps37
  go_wp2_with fail
  go_loopw [8] (fun i wz => ∃ m : Nat, m ≤ many ∧ i = .int .i64 (m : Int) ∧ w = wz) (fun i _ => many - (intOf i).toNat)
  case atStart => exact ⟨0, Nat.zero_le _, rfl, rfl⟩
  case round =>
    obtain ⟨m, hmm, rfl, hw⟩ := hrel
    subst hw
    by_cases hlt : m < many
    · have b1 : (m : Int) < (many : Int) := by omega
      have b2 : (m : Int) < (E.fs.length : Int) := by omega
      have b0 : (0 : Int) ≤ (m : Int) := by omega
      obtain ⟨q, cp, u, hlv, hc, hql, hu, k0, k1, k2, _⟩ := HD.out.1.toG.one (m := m) (by omega)
      obtain ⟨hNu, _⟩ := HD.out.1.waits m u hu
      obtain ⟨uA, ucap, rfl⟩ := hNu.form
      have hpos : 0 < (wl E.P (E.gone + m)).length := List.length_pos_iff.2 (wl_held (HD.out.2.resolve_left (by omega)) _ (by omega))
      generalize (wl E.P (E.gone + m)).length = wn at hpos k1
      have e1 : ((wn : Int) == 0) = false := by simp; omega
      injection hlv with hl1
      subst hl1
      clear hNu hu
      go_wp2_with fail
      go_roundw
      case rel => exact ⟨m + 1, by omega, by go_num, trivial⟩
      case measure => simp [intOf]; omega
    · have b1 : ¬ (m : Int) < (many : Int) := by omega
      go_wp2_with fail
      go_ret2
      exact ⟨rfl, rfl⟩
end
end Go.Proofs.Ythohhehelnkpgaa
