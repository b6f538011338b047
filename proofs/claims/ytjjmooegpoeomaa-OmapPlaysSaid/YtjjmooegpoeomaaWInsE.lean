/-
  slices.Insert of one pair at the end of a row of the program's own.
-/
import Derived.Test.YtjjmooegpoeomaaWDel
namespace Go.Proofs.Ytjjmooegpoeomaa
open Go.RowKit Go.Lib
set_option linter.unusedVariables false
set_option linter.unusedSimpArgs false

theorem and3 {a b c : Prop} (ha : a) (hb : b) (hc : c) : a ∧ b ∧ c := ⟨ha, hb, hc⟩
theorem app_own {w : World} {Z : Nat} {v : Value} {n : Nat} {xs : List Value} (h : w.ownsRow Z 50 2 v n xs) (vb : Nat) (p : Pr) (hp : At w vb (.cells #[.string p.k, .string p.v] 50 (0, 0))) (hn : n + 1 ≤ 1000000) (hz : Z ≤ w.heap.size) (ty : TypeId) :
    ∃ B cap w', BRun2 .append #[22, 22] ty v (.slice (some ⟨vb, 0, none⟩) 1 1) (.slice B (n + 1) cap) w w' ∧ w'.ownsRow Z 50 2 (.slice B (n + 1) cap) (n + 1) (xs ++ p.cs) ∧ Turn (fun i => v.ownBlock = some i) w w' ∧ ((Value.slice B (n + 1) cap).ownBlock = v.ownBlock ∨ (Value.slice B (n + 1) cap).ownBlock = some w.heap.size) := by
  obtain ⟨i0, hi, hz0, hz1, hz2⟩ := info_parts info50
  obtain ⟨v', w', hr, h2, h3, _, h5⟩ := run_append_own_at (P := Try.prog) w Z 22 ty 50 i0 pz 2 32 Try.underlying22 hi hz0 hz1 hz2 (by rfl) (by decide) v n xs h ⟨vb, 0, none⟩ 1 1 p.cs (by simp [Pr.cs]) (fun j u hj => by
      rw [add_lit0, hp.cell]
      rw [Nat.zero_add]
      rw [show (#[Value.string p.k, Value.string p.v] : Array Value) = p.cs.toArray from rfl]
      simpa using hj) (fun u hu => one_pcs [p] u (by simpa [pcs] using hu)) (by unfold maxLen; omega) (by omega) hz
  obtain ⟨B, cap, rfl⟩ := own_form h2
  exact ⟨B, cap, w', ⟨fun q => by simp only [builtin, Sem.run_bind, hr, Result.andThen_ok, Sem.run_pure]⟩, h2, (Turn.refl _ w).grown h3 (fun k hk => Or.inl hk), h5⟩

set_option maxHeartbeats 1000000 in
theorem insert_end {w : World} {Z g cap n : Nat} {xs : List Value} (h : w.ownsRow Z 50 2 (.slice (some ⟨g, 0, none⟩) n cap) n xs) (vb : Nat) (p : Pr) (hp : At w vb (.cells #[.string p.k, .string p.v] 50 (0, 0))) (hn : n ≤ 100000) (hcap : n ≤ cap) (hz : Z ≤ w.heap.size) :
    Calls Try.prog 52 #[.slice (some ⟨g, 0, none⟩) n cap, .int .i64 (n : Int), .slice (some ⟨vb, 0, none⟩) 1 1] w fun e w' => ∃ B cap', e = .returned (.slice B (n + 1) cap') ∧
      w'.ownsRow Z 50 2 (.slice B (n + 1) cap') (n + 1) (xs ++ p.cs) ∧ Turn (fun i => i = g) w w' ∧ ((Value.slice B (n + 1) cap').ownBlock = some g ∨ (Value.slice B (n + 1) cap').ownBlock = some w.heap.size) := by
  obtain ⟨B, cap', w2, hr, ho, ht, hB⟩ := app_own h vb p hp (by omega) hz 22
  have hF := Lib.hid (and3 ho (ht.mono (Y := fun i => i = g) fun k _ hk => by simpa [Value.ownBlock, eq_comm] using hk) hB)
  clear h hp ho ht hz hB
  go_enter Try.func52, Try.ntmps52
  go_wp2_with (refine wpList_brun2 (by rfl) _ _ .append _ (by rfl) _ _ _ (by rfl) (by rfl) hr ?_)
  all_goals go_ret
  all_goals exact ⟨B, cap', rfl, hF.out⟩
set_option maxHeartbeats 1000000 in
theorem insert_nil (w : World) (vb : Nat) (p : Pr) (hp : At w vb (.cells #[.string p.k, .string p.v] 50 (0, 0))) {Z : Nat} (hz : Z ≤ w.heap.size) :
    Calls Try.prog 52 #[.slice none 0 0, .int .i64 0, .slice (some ⟨vb, 0, none⟩) 1 1] w fun e w' => ∃ B cap', e = .returned (.slice B 1 cap') ∧
      w'.ownsRow Z 50 2 (.slice B 1 cap') 1 p.cs ∧ Turn No w w' ∧ (Value.slice B 1 cap').ownBlock = some w.heap.size := by
  obtain ⟨B, cap', w2, hr, ho, ht, hB⟩ := app_own (World.ownsRow_nil w Z 50 2) vb p hp (by omega) hz 22
  have hB2 : (Value.slice B (0 + 1) cap').ownBlock = some w.heap.size := by
    rcases hB with h1 | h1
    · exfalso
      rcases ho.2 with ⟨hv, _⟩ | ⟨g, c, cur, hv, _⟩
      · injection hv with _ e2 _; cases e2
      · rw [hv] at h1; cases h1
    · exact h1
  have hF := Lib.hid (and3 ho (ht.mono (Y := No) fun k _ hk => by simp [Value.ownBlock] at hk) hB2)
  clear hp ho ht hz hB hB2
  go_enter Try.func52, Try.ntmps52
  go_wp2_with (refine wpList_brun2 (by rfl) _ _ .append _ (by rfl) _ _ _ (by rfl) (by rfl) hr ?_)
  all_goals go_ret
  all_goals exact ⟨B, cap', rfl, hF.out⟩
end Go.Proofs.Ytjjmooegpoeomaa
