/-
  What EpochSafe keeps: who waits for whom, as rows of eight; what was run, as numbers.
-/
import Derived.Test.YthohhehelnkpgaaWPlain
import Derived.Test.YthohhehelnkpgaaActs
namespace Go.Proofs.Ythohhehelnkpgaa
open Go.RowKit Go.Maps Go.IntWalk Go.Lib
set_option linter.unusedVariables false

/-! a row of the call's own -/
section
variable {w w' : World} {base e size n : Nat} {v : Value} {xs : List Value}
theorem own_form (h : w.ownsRow base e size v n xs) : ∃ A cap, v = .slice A n cap := by
  rcases h.2 with ⟨rfl, h0⟩ | ⟨g, cap, cur, rfl, _⟩
  · exact ⟨none, 0, by rw [h0]⟩
  · exact ⟨_, _, rfl⟩
theorem own_at {A : Option Addr} {m cap : Nat} (h : w.ownsRow base e size (.slice A m cap) n xs) {j : Nat} (hj : j < xs.length) :
    ∃ g, A = some ⟨g, 0, none⟩ ∧ m = n ∧ n ≤ cap ∧ base ≤ g ∧ g < w.heap.size ∧ (∃ c, At w g (.cells c e (0, 0))) ∧ (∀ i u, xs[i]? = some u → w.cell? ⟨g, i, none⟩ = some u) ∧ (∀ i, w.frozen? ⟨g, i, none⟩ = false) ∧
      ∀ u : Value, (w.setCell ⟨g, j, none⟩ u).ownsRow base e size (.slice A m cap) n (xs.set j u) := by
  have hl := h.1
  rcases h.2 with ⟨_, h0⟩ | ⟨g, cap', cur, hv, hb, hg, hle, hmx, hsz, htake⟩
  · subst h0; omega
  · injection hv with hA hm hc
    subst hc
    have hA' := hA
    have hlen : n * size ≤ cur.size := by rw [hsz]; exact Nat.mul_le_mul_right _ hle
    refine ⟨g, hA, hm, hle, hb, At.lt hg, ⟨_, hg⟩, fun i u hu => ?_, fun i => At.thawed hg i, fun u => ?_⟩
    · rw [At.cell (f := (0, 0)) hg]
      have hi := (List.getElem?_eq_some_iff.1 hu).1
      rw [← htake, List.getElem?_take, if_pos (by omega)] at hu
      simpa using hu
    · refine ⟨by rw [List.length_set]; exact hl, Or.inr ⟨g, cap, _, by rw [hA, hm], hb, At.set hg j u, hle, hmx, by simpa using hsz, ?_⟩⟩
      rw [Array.toList_setIfInBounds, List.take_set, htake]
theorem own_turn {X : Nat → Prop} (h : w.ownsRow base e size v n xs) (t : Turn X w w') (hX : ∀ i c, v.ownBlock = some i → At w i (.cells c e (0, 0)) → base ≤ i → ¬ X i) : w'.ownsRow base e size v n xs := by
  refine ⟨h.1, ?_⟩
  rcases h.2 with h0 | ⟨g, cap', cur, hv, hb, hg, r⟩
  · exact Or.inl h0
  · exact Or.inr ⟨g, cap', cur, hv, hb, At.turn (w := w) hg t (hX g cur (by rw [hv]; rfl) hg hb), r⟩
theorem own_block (h : w.ownsRow base e size v n xs) {i : Nat} (hi : v.ownBlock = some i) : (∃ c, At w i (.cells c e (0, 0))) ∧ base ≤ i ∧ i < w.heap.size := by
  rcases h.2 with ⟨rfl, _⟩ | ⟨g, cap', cur, rfl, hb, hg, r⟩
  · cases hi
  · have : g = i := by simpa [Value.ownBlock] using hi
    subst this
    exact ⟨⟨_, hg⟩, hb, At.lt hg⟩
end

theorem info3 : (Try.prog.info? 3).map (fun i => (i.zero, i.size, i.bytes)) = some (some (.int .i64 0), 1, 8) := by kernel_rfl
theorem info43 : (Try.prog.info? 43).map (fun i => (i.zero, i.size, i.bytes)) = some (some (.agg #[.bool false, .bool false, .bool false, .bool false, .bool false, .bool false, .bool false, .bool false]), 8, 8) := by kernel_rfl

/-- append of one number. -/
theorem nums_append {w : World} {base : Nat} {v : Value} {l : List Int} (h : w.ownsRow base 3 1 v l.length (l.map (Value.int .i64))) (g0 c : Nat) {t0 : TypeId} {z0 : Nat × Nat} (x : Int) (hg : At w g0 (.cells #[.int .i64 x] t0 z0)) (hl : l.length < 1000000) (hb : base ≤ w.heap.size) (ty : TypeId) :
    ∃ v' w', (Builtin.append_ #[27, 27] ty #[v, .slice (some ⟨g0, 0, none⟩) 1 c]).run Try.prog w = .ok v' w' ∧ w'.ownsRow base 3 1 v' (l.length + 1) ((l ++ [x]).map (Value.int .i64)) ∧ Turn (fun i => v.ownBlock = some i) w w' ∧ (v'.ownBlock = v.ownBlock ∨ v'.ownBlock = some w.heap.size) := by
  obtain ⟨i0, hi, hz0, hz1, hz2⟩ := info_parts info3
  obtain ⟨v', w', hr, h2, h3, _, h5⟩ := run_append_own_at (P := Try.prog) w base 27 ty 3 i0 _ 1 8 Try.underlying27 hi hz0 hz1 hz2 rfl (by omega) v l.length _ h ⟨g0, 0, none⟩ 1 c [.int .i64 x] rfl
    (fun j u hu => by rw [Addr.add_lit, hg.cell]; simpa using hu)
    (fun u hu => by simp at hu; subst hu; rfl) (by unfold maxLen; omega) (by omega) hb
  exact ⟨v', w', hr, by rw [List.map_append]; exact h2, (Turn.refl _ w).grown h3 (fun k hk => Or.inl hk), h5⟩

/-! rows of eight -/
def row8 (b : Nat → Bool) : List Value := [.bool (b 0), .bool (b 1), .bool (b 2), .bool (b 3), .bool (b 4), .bool (b 5), .bool (b 6), .bool (b 7)]
def flat8 (b : Nat → Nat → Bool) : Nat → List Value
  | 0 => []
  | n + 1 => flat8 b n ++ row8 (b n)
theorem row8_at (b : Nat → Bool) (i : Nat) (hi : i < 8) : (row8 b)[i]? = some (.bool (b i)) := by
  obtain rfl | rfl | rfl | rfl | rfl | rfl | rfl | rfl : i = 0 ∨ i = 1 ∨ i = 2 ∨ i = 3 ∨ i = 4 ∨ i = 5 ∨ i = 6 ∨ i = 7 := by omega
  all_goals rfl
theorem row8_ext {b b' : Nat → Bool} (h : ∀ i, i < 8 → b i = b' i) : row8 b = row8 b' := by
  unfold row8
  rw [h 0 (by omega), h 1 (by omega), h 2 (by omega), h 3 (by omega), h 4 (by omega), h 5 (by omega), h 6 (by omega), h 7 (by omega)]
theorem flat8_len (b : Nat → Nat → Bool) : ∀ n, (flat8 b n).length = n * 8
  | 0 => rfl
  | n + 1 => by
    rw [flat8, List.length_append, flat8_len b n]
    show n * 8 + 8 = _
    omega
theorem flat8_at (b : Nat → Nat → Bool) : ∀ (n m i : Nat), m < n → i < 8 → (flat8 b n)[m * 8 + i]? = some (.bool (b m i))
  | 0, m, i, h, _ => by omega
  | n + 1, m, i, h, hi => by
    have hl := flat8_len b n
    rw [flat8, List.getElem?_append]
    by_cases hm : m < n
    · rw [if_pos (by omega)]
      exact flat8_at b n m i hm hi
    · obtain rfl : m = n := by omega
      rw [if_neg (by omega), show m * 8 + i - (flat8 b m).length = i by omega]
      exact row8_at _ i hi
theorem flat8_ext {b b' : Nat → Nat → Bool} : ∀ n, (∀ m, m < n → ∀ i, i < 8 → b m i = b' m i) → flat8 b n = flat8 b' n
  | 0, _ => rfl
  | n + 1, h => by
    rw [flat8, flat8, flat8_ext n (fun m hm => h m (by omega)), row8_ext (h n (by omega))]
def upd8 (b : Nat → Nat → Bool) (m k : Nat) (v : Bool) : Nat → Nat → Bool := fun m' i => if m' = m ∧ i = k then v else b m' i
theorem flat8_set (b : Nat → Nat → Bool) (n m k : Nat) (hm : m < n) (hk : k < 8) (v : Bool) : (flat8 b n).set (m * 8 + k) (.bool v) = flat8 (upd8 b m k v) n := by
  refine List.ext_getElem? fun j => ?_
  have l1 := flat8_len b n
  have l2 := flat8_len (upd8 b m k v) n
  by_cases hj : j < n * 8
  · have e : j = j / 8 * 8 + j % 8 := by omega
    have h1 := flat8_at b n (j / 8) (j % 8) (by omega) (Nat.mod_lt _ (by omega))
    have h2 := flat8_at (upd8 b m k v) n (j / 8) (j % 8) (by omega) (Nat.mod_lt _ (by omega))
    rw [← e] at h1 h2
    rw [h2, List.getElem?_set]
    by_cases hjm : m * 8 + k = j
    · rw [if_pos hjm, if_pos (by omega)]
      unfold upd8
      rw [if_pos (by omega)]
    · rw [if_neg hjm, h1]
      unfold upd8
      rw [if_neg (by omega)]
  · rw [List.getElem?_eq_none (by rw [List.length_set]; omega), List.getElem?_eq_none (by omega)]
/-- append of one row. -/
theorem rows_append {w : World} {base n : Nat} {v : Value} {b : Nat → Nat → Bool} (h : w.ownsRow base 43 8 v n (flat8 b n)) (g0 c : Nat) {t0 : TypeId} {z0 : Nat × Nat} {c0 : Array Value} (hg : At w g0 (.cells c0 t0 z0)) (hc : c0.toList = row8 (b n)) (hl : n < 1000000) (hb : base ≤ w.heap.size) (ty : TypeId) :
    ∃ v' w', (Builtin.append_ #[44, 44] ty #[v, .slice (some ⟨g0, 0, none⟩) 1 c]).run Try.prog w = .ok v' w' ∧ w'.ownsRow base 43 8 v' (n + 1) (flat8 b (n + 1)) ∧ Turn (fun i => v.ownBlock = some i) w w' ∧ (v'.ownBlock = v.ownBlock ∨ v'.ownBlock = some w.heap.size) := by
  obtain ⟨i0, hi, hz0, hz1, hz2⟩ := info_parts info43
  obtain ⟨v', w', hr, h2, h3, _, h5⟩ := run_append_own_at (P := Try.prog) w base 44 ty 43 i0 _ 8 8 Try.underlying44 hi hz0 hz1 hz2 rfl (by omega) v n _ h ⟨g0, 0, none⟩ 1 c (row8 (b n)) rfl
    (fun j u hu => by rw [Addr.add_lit, hg.cell, Nat.zero_add, ← Array.getElem?_toList, hc]; exact hu)
    (fun u hu => by
      unfold row8 at hu
      simp only [List.mem_cons, List.not_mem_nil, or_false] at hu
      rcases hu with rfl | rfl | rfl | rfl | rfl | rfl | rfl | rfl <;> rfl) (by unfold maxLen; omega) (by omega) hb
  exact ⟨v', w', hr, h2, (Turn.refl _ w).grown h3 (fun k hk => Or.inl hk), h5⟩

/-! who waits for whom -/
def onb8 (E : Ab) (i : Nat) : Bool := (look E.P (i : Int)).isSome
def onw (E : Ab) (m i : Nat) : Bool := match look E.P (i : Int) with | some j => decide (j ≤ m) | none => false
theorem onw_none {E : Ab} (h : E.P = []) (m i : Nat) : onw E m i = false := by unfold onw; rw [h]; rfl
theorem look_pin {E : Ab} (h : E.wf) (t s : Int) : look (E.pin t).P s = if s = t ∧ look E.P t = none then some E.len else look E.P s := by
  unfold Ab.pin
  by_cases h0 : (look E.P t).isSome = true
  · have hn : look E.P t ≠ none := fun e => by rw [e] at h0; cases h0
    rw [if_pos h0, if_neg (fun ⟨_, e⟩ => hn e)]
  · have hn : look E.P t = none := by simpa using h0
    rw [if_neg h0, show look ({ E with P := ins t E.len E.P } : Ab).P s = look (ins t E.len E.P) s from rfl, look_ins h.up hn]
    by_cases hs : s = t <;> simp [hs, hn]
theorem pin_keeps (E : Ab) (t : Int) : (E.pin t).fs = E.fs ∧ (E.pin t).coll = E.coll ∧ (E.pin t).len = E.len ∧ (E.pin t).gone = E.gone := by
  unfold Ab.pin; split <;> exact ⟨rfl, rfl, rfl, rfl⟩
theorem onw_pin {E : Ab} (h : E.wf) (t : Int) (m i : Nat) (hm : m < E.len) : onw (E.pin t) m i = onw E m i := by
  unfold onw
  rw [look_pin h]
  by_cases hc : (i : Int) = t ∧ look E.P t = none
  · rw [if_pos hc, hc.1, hc.2]
    simp
    omega
  · rw [if_neg hc]
theorem onw_unpin {E : Ab} (h : E.wf) (k m i : Nat) : onw (E.unpin (k : Int)) m i = if i = k then false else onw E m i := by
  unfold onw
  rw [show (E.unpin (k : Int)).P = del1 E.P (k : Int) from rfl, look_del h.up]
  by_cases hi : i = k
  · subst hi; simp
  · rw [if_neg (by omega), if_neg hi]
theorem onw_len {E : Ab} (h : E.wf) (i : Nat) : onw E E.len i = onb8 E i := by
  unfold onw onb8
  cases hl : look E.P (i : Int) with
  | none => rfl
  | some j =>
    have := (h.nums _ ((look_some h.up).1 hl)).2
    simpa using this
theorem onw_ripe {E : Ab} (h : E.wf) (h0 : cntk E.P E.gone = 0) (i : Nat) : onw E E.gone i = false := by
  unfold onw
  cases hl : look E.P (i : Int) with
  | none => rfl
  | some j =>
    have hm := (look_some h.up).1 hl
    have h1 := (h.nums _ hm).1
    have h2 := cnt_none h0 _ hm
    simp only at h1 h2
    simp
    omega
/-- What was run: one, else none. -/
def rn (E : Ab) : List Int := (List.range E.len).map fun m => if m < E.gone then 1 else 0
theorem rn_len (E : Ab) : (rn E).length = E.len := by simp [rn]
theorem rn_at {E : Ab} {m : Nat} (h : m < E.len) : (rn E)[m]? = some (if m < E.gone then 1 else 0) := by
  unfold rn
  rw [List.getElem?_map, List.getElem?_range h]
  rfl
theorem rn_take {E : Ab} (hf : E.fs ≠ []) : rn E.take = (rn E).set E.gone 1 := by
  have hl := Ab.take_len hf
  have hp : 0 < E.fs.length := List.length_pos_iff.2 hf
  have hlt : E.gone < E.len := by unfold Ab.len; omega
  refine List.ext_getElem? fun j => ?_
  rw [List.getElem?_set]
  by_cases hj : j < E.len
  · rw [rn_at (by omega), rn_at hj, rn_len, show E.take.gone = E.gone + 1 from rfl]
    by_cases he : E.gone = j
    · rw [if_pos he, if_pos (by omega), if_pos (by omega)]
    · rw [if_neg he]
      by_cases h1 : j < E.gone
      · rw [if_pos h1, if_pos (by omega)]
      · rw [if_neg h1, if_neg (by omega)]
  · rw [List.getElem?_eq_none (by rw [rn_len]; omega), if_neg (by omega), List.getElem?_eq_none (by rw [rn_len]; omega)]
theorem rn_retire (E : Ab) (f : Value) : rn (E.retire f) = rn E ++ [0] := by
  have hl : (E.retire f).len = E.len + 1 := by simp [Ab.len, Ab.retire]; omega
  unfold rn
  rw [hl, List.range_succ, List.map_append]
  have : ¬ E.len < E.gone := by unfold Ab.len; omega
  simp only [List.map_cons, List.map_nil]
  rw [show (E.retire f).gone = E.gone from rfl, if_neg this]
theorem rn_same {E E' : Ab} (h1 : E'.len = E.len) (h2 : E'.gone = E.gone) : rn E' = rn E := by unfold rn; rw [h1, h2]
end Go.Proofs.Ythohhehelnkpgaa
