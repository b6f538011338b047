/-
  The document's own epoch: lists of numbers, told to the walks; what has and without come to.
-/
import Derived.Test.YthohhehelnkpgaaSafe
namespace Go.Proofs.Ythohhehelnkpgaa
open Go.RowKit Go.Maps Go.IntWalk Go.Lib
set_option linter.unusedVariables false

/-- A slice of numbers, in a row of its own from block Z on. -/
def Nums (Z : Nat) (w : World) (v : Value) (l : List Int) : Prop := w.ownsRow Z 3 1 v l.length (l.map (Value.int .i64))
section
variable {Z : Nat} {w w' : World} {v : Value} {l : List Int}
theorem Nums.form (h : Nums Z w v l) : ∃ A cap, v = .slice A l.length cap := own_form h
theorem Nums.at {A : Option Addr} {m cap j : Nat} (h : Nums Z w (.slice A m cap) l) (hj : j < l.length) : ∃ g x, A = some ⟨g, 0, none⟩ ∧ l[j]? = some x ∧ l.length ≤ cap ∧ Z ≤ g ∧ g < w.heap.size ∧ w.cell? ⟨g, j, none⟩ = some (.int .i64 x) := by
  obtain ⟨g, hA, _, hc, hz, hl, _, hcell, _, _⟩ := own_at h (j := j) (by rw [List.length_map]; exact hj)
  have hx : l[j]? = some l[j] := List.getElem?_eq_getElem hj
  exact ⟨g, _, hA, hx, hc, hz, hl, hcell j _ (by rw [List.getElem?_map, hx]; rfl)⟩
theorem Nums.turn {X : Nat → Prop} (h : Nums Z w v l) (t : Turn X w w') (hX : ∀ i c, v.ownBlock = some i → At w i (.cells c 3 (0, 0)) → Z ≤ i → ¬ X i) : Nums Z w' v l := own_turn h t hX
theorem Nums.same (h : Nums Z w v l) (t : Turn (fun _ => False) w w') : Nums Z w' v l := h.turn t (fun _ _ _ _ _ h => h)
theorem Nums.nil (Z : Nat) (w : World) : Nums Z w (.slice none 0 0) [] := ⟨rfl, Or.inl ⟨rfl, rfl⟩⟩
theorem Nums.mono {Z' : Nat} (h : Nums Z w v l) (hz : Z' ≤ Z) : Nums Z' w v l := by
  refine ⟨h.1, ?_⟩
  rcases h.2 with h0 | ⟨g, cap, cur, hv, hb, r⟩
  · exact Or.inl h0
  · exact Or.inr ⟨g, cap, cur, hv, by omega, r⟩
/-- append of what lies behind an address. -/
theorem Nums.append (h : Nums Z w v l) (a : Addr) (m c : Nat) (l2 : List Int) (hm : l2.length = m) (hn : ∀ j x, l2[j]? = some x → w.cell? (a.add j) = some (.int .i64 x)) (hl : l.length + m < 1000000) (hb : Z ≤ w.heap.size) (ty : TypeId) :
    ∃ A cap w', (Builtin.append_ #[27, 27] ty #[v, .slice (some a) m c]).run Try.prog w = .ok (.slice A (l.length + m) cap) w' ∧ Nums Z w' (.slice A (l.length + m) cap) (l ++ l2) ∧ Turn (fun i => v.ownBlock = some i) w w' := by
  obtain ⟨i0, hi, hz0, hz1, hz2⟩ := info_parts info3
  obtain ⟨v', w', hr, h2, h3, _, h5⟩ := run_append_own_at (P := Try.prog) w Z 27 ty 3 i0 _ 1 8 Try.underlying27 hi hz0 hz1 hz2 rfl (by omega) v l.length _ h a m c (l2.map (Value.int .i64)) (by rw [List.length_map, hm, Nat.mul_one])
    (fun j u hu => by
      rw [List.getElem?_map] at hu
      cases hx : l2[j]? with
      | none => rw [hx] at hu; cases hu
      | some x => rw [hx] at hu; simp at hu; subst hu; exact hn j x hx)
    (fun u hu => by obtain ⟨x, _, rfl⟩ := List.mem_map.1 hu; rfl) (by unfold maxLen; omega) (by omega) hb
  obtain ⟨A, cap, rfl⟩ := own_form h2
  refine ⟨A, cap, w', hr, ?_, (Turn.refl _ w).grown h3 (fun k hk => Or.inl hk)⟩
  unfold Nums
  rw [List.length_append, hm, List.map_append]
  exact h2
end

set_option maxRecDepth 100000 in
theorem has_any {Z : Nat} {w : World} {v : Value} {l : List Int} (h : Nums Z w v l) (t : Int) (hl : l.length ≤ 100000) :
    Calls Try.prog 34 #[v, .int .i64 t] w fun e w' => e = .returned (.bool (decide (t ∈ l))) ∧ w' = w := by
  obtain ⟨A, cap, rfl⟩ := h.form
  have HN := Lib.hid h
  clear h
  obtain ⟨n, hn⟩ : ∃ n, n = l.length := ⟨_, rfl⟩
  have HL := Lib.hid hn
  rw [← hn] at hl HN ⊢
  clear hn
  go_enter Try.func34, Try.ntmps34
  go_wp2_with fail
  go_loopw [5] (fun i wz => ∃ j : Nat, j ≤ n ∧ i = .int .i64 (j : Int) ∧ w = wz ∧ Hid (∀ x ∈ l.take j, x ≠ t)) (fun i _ => n - (intOf i).toNat)
  case atStart => exact ⟨0, Nat.zero_le _, rfl, rfl, Lib.hid (by simp)⟩
  case round =>
    obtain ⟨j, hj, rfl, hw, hno⟩ := hrel
    subst hw
    by_cases hlt : j < n
    · have b1 : (j : Int) < (n : Int) := by omega
      have b0 : (0 : Int) ≤ (j : Int) := by omega
      obtain ⟨g, x, rfl, hx, hc, _, hgl, hcell⟩ := HN.out.at (j := j) (by rw [← HL.out]; exact hlt)
      rw [← HL.out] at hc
      have HX := Lib.hid hx
      clear hx
      by_cases he : x = t
      · have e1 : (x == t) = true := by simpa using he
        have hm : Hid (decide (t ∈ l) = true) := Lib.hid (by rw [← he]; simpa using List.mem_of_getElem? HX.out)
        clear he
        go_wp2_with fail
        go_ret
        exact ⟨by rw [hm.out]; rfl, rfl⟩
      · have e1 : (x == t) = false := by simpa using he
        have hnx : Hid (∀ y ∈ l.take (j + 1), y ≠ t) := Lib.hid fun y hy => by
          rw [List.take_add_one, HX.out] at hy
          rcases List.mem_append.1 hy with h | h
          · exact hno.out y h
          · simp at h; rw [h]; exact he
        clear he
        go_wp2_with fail
        go_roundw
        case rel => exact ⟨j + 1, by omega, by go_num, trivial, hnx⟩
        case measure => simp [intOf]; omega
    · have b1 : ¬ (j : Int) < (n : Int) := by omega
      have hm : Hid (decide (t ∈ l) = false) := Lib.hid (by
        have := hno.out
        rw [List.take_of_length_le (by rw [← HL.out]; omega)] at this
        simpa using fun h => this t h rfl)
      go_wp2_with fail
      go_ret
      exact ⟨by rw [hm.out]; rfl, rfl⟩

def wo (l : List Int) (t : Int) : List Int := l.filter fun x => x != t
theorem wo_len (l : List Int) (t : Int) : (wo l t).length ≤ l.length := List.length_filter_le ..

set_option maxRecDepth 100000 in
set_option maxHeartbeats 1000000 in
theorem without_any {Z : Nat} {w : World} {v : Value} {l : List Int} (h : Nums Z w v l) (t : Int) (hl : l.length ≤ 100000) :
    Calls Try.prog 35 #[v, .int .i64 t] w fun e w' => ∃ A cap, e = .returned (.slice A (wo l t).length cap) ∧ Nums w.heap.size w' (.slice A (wo l t).length cap) (wo l t) ∧ Turn (fun _ => False) w w' := by
  obtain ⟨A, cap, rfl⟩ := h.form
  have HN := Lib.hid h
  clear h
  obtain ⟨n, hn⟩ : ∃ n, n = l.length := ⟨_, rfl⟩
  have HL := Lib.hid hn
  rw [← hn] at hl HN ⊢
  clear hn
  go_enter Try.func35, Try.ntmps35
  go_wp2_with fail
  go_loopw [5, 6] (fun m i wz => ∃ (j k : Nat) (B : Option Addr) (capB : Nat), j ≤ n ∧ k ≤ j ∧ i = .int .i64 (j : Int) ∧ m = .slice B k capB ∧ Hid (k = (wo (l.take j) t).length ∧ Nums w.heap.size wz (.slice B k capB) (wo (l.take j) t) ∧ Turn (fun _ => False) w wz)) (fun _ i _ => n - (intOf i).toNat)
  case atStart => exact ⟨0, 0, none, 0, Nat.zero_le _, Nat.le_refl _, rfl, rfl, Lib.hid ⟨rfl, Nums.nil _ _, Turn.refl _ _⟩⟩
  case round =>
    obtain ⟨j, k, B, capB, hj, hkj, rfl, rfl, hst⟩ := hrel
    by_cases hlt : j < n
    · have b1 : (j : Int) < (n : Int) := by omega
      have b0 : (0 : Int) ≤ (j : Int) := by omega
      obtain ⟨g, x, rfl, hx, hc, _, hgl, hcell⟩ := (HN.out.same hst.out.2.2).at (j := j) (by rw [← HL.out]; exact hlt)
      rw [← HL.out] at hc
      have hst' : wo (l.take (j + 1)) t = wo (l.take j) t ++ (if x = t then [] else [x]) := by
        rw [List.take_add_one, hx]
        unfold wo
        rw [List.filter_append]
        by_cases he : x = t <;> simp [he]
      by_cases he : x = t
      · have e1 : (x == t) = true := by simpa using he
        rw [if_pos he, List.append_nil] at hst'
        have hnx : Hid (k = (wo (l.take (j + 1)) t).length ∧ Nums w.heap.size wr (.slice B k capB) (wo (l.take (j + 1)) t) ∧ Turn (fun _ => False) w wr) := by
          rw [hst']; exact hst
        clear he hst hst' hx
        go_wp2_with fail
        go_roundw
        case rel => exact ⟨j + 1, k, B, capB, by omega, by omega, by go_num, rfl, hnx⟩
        case measure => simp [intOf]; omega
      · have e1 : (x == t) = false := by simpa using he
        rw [if_neg he] at hst'
        have tz : Turn (fun _ => False) wr (wr.alloc (.cells #[.int .i64 x] 3)) := (Turn.refl _ wr).alloc _
        obtain ⟨h1, h2, h3⟩ := hst.out
        have hkl : (wo (l.take j) t).length < 200000 := by rw [← h1]; omega
        obtain ⟨A', cap', w8, hrun, hN8, ht8⟩ := (h2.same tz).append ⟨wr.heap.size, 0, none⟩ 1 1 [x] rfl (fun i y hy => by
          rw [Addr.add_lit, (At.new wr _).cell]
          rcases i with _ | i
          · simp at hy; subst hy; rfl
          · simp at hy) (by omega) (Nat.le_trans h3.size tz.size) 27
        rw [← h1] at hrun hN8
        have HR : AppRun 27 27 (.slice B k capB) (.slice (some ⟨wr.heap.size, 0, none⟩) 1 1) (.slice A' (k + 1) cap') (wr.alloc (.cells #[.int .i64 x] 3)) w8 := ⟨hrun⟩
        have hnx : Hid (k + 1 = (wo (l.take (j + 1)) t).length ∧ Nums w.heap.size w8 (.slice A' (k + 1) cap') (wo (l.take (j + 1)) t) ∧ Turn (fun _ => False) w w8) := by
          rw [hst', List.length_append]
          exact Lib.hid ⟨by rw [h1]; rfl, hN8, (h3.trans tz).then ht8 (fun i hi e => by have := (own_block (h2.same tz) e).2.1; omega)⟩
        clear he hst hst' hx h1 h2 h3 hkl tz hrun hN8 ht8
        go_wp2_with (at_builtin; refine wpList_append_run rfl _ _ 27 rfl _ _ _ rfl rfl HR.out ?_)
        go_roundw
        case rel => exact ⟨j + 1, k + 1, A', cap', by omega, by omega, by go_num, rfl, hnx⟩
        case measure => simp [intOf]; omega
    · have b1 : ¬ (j : Int) < (n : Int) := by omega
      go_wp2_with fail
      go_ret
      obtain ⟨h1, h2, h3⟩ := hst.out
      rw [List.take_of_length_le (by rw [← HL.out]; omega)] at h1 h2
      subst h1
      exact ⟨B, capB, rfl, h2, h3⟩
end Go.Proofs.Ythohhehelnkpgaa
