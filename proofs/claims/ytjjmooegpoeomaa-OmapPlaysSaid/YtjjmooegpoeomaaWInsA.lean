/-
  slices.Insert of one pair into a row of the program's own, wherever.
-/
import Derived.Test.YtjjmooegpoeomaaWInsG
namespace Go.Proofs.Ytjjmooegpoeomaa
open Go.RowKit Go.Lib
set_option linter.unusedVariables false

theorem insert_any {w : World} {Z cap : Nat} {A : Option Addr} (X Y : List Pr) (h : w.ownsRow Z 50 2 (.slice A (X.length + Y.length) cap) (X.length + Y.length) (pcs (X ++ Y)))
    (hn : X.length + Y.length ≤ 50000) (vb : Nat) (p : Pr) (hp : At w vb (.cells #[.string p.k, .string p.v] 50 (0, 0))) (hne : (Value.slice A (X.length + Y.length) cap).ownBlock ≠ some vb) (hz : Z ≤ w.heap.size) :
    Calls Try.prog 52 #[.slice A (X.length + Y.length) cap, .int .i64 (X.length : Int), .slice (some ⟨vb, 0, none⟩) 1 1] w fun e w' => ∃ B cap', e = .returned (.slice (some ⟨B, 0, none⟩) (X.length + Y.length + 1) cap') ∧
      w'.ownsRow Z 50 2 (.slice (some ⟨B, 0, none⟩) (X.length + Y.length + 1) cap') (X.length + Y.length + 1) (pcs (X ++ p :: Y)) ∧ Turn (fun k => (Value.slice A (X.length + Y.length) cap).ownBlock = some k) w w' ∧ ((Value.slice A (X.length + Y.length) cap).ownBlock = some B ∨ w.heap.size ≤ B) := by
  have hlen : (X ++ p :: Y).length = X.length + Y.length + 1 := by simp; omega
  rcases h.2 with ⟨hv, h0⟩ | ⟨g, c, cur, hv, hb, hg, hnc, hc, hs, ht⟩
  · injection hv with e1 e2 e3
    subst e1 e3
    have hX : X = [] := List.eq_nil_of_length_eq_zero (by omega)
    have hY : Y = [] := List.eq_nil_of_length_eq_zero (by omega)
    subst hX hY
    refine (insert_nil w vb p hp hz).mono ?_
    rintro e w' ⟨B, cap', rfl, ho, ht, hB⟩
    rcases ho.2 with ⟨hv, _⟩ | ⟨g, c, cur, hv, hb, hg, _⟩
    · injection hv with _ e2 _; cases e2
    · injection hv with e1 _ e3
      subst e1
      injection hB with hB
      exact ⟨g, cap', rfl, ho, ht.mono (fun _ _ h => h.elim), .inr (Nat.le_of_eq hB.symm)⟩
  · injection hv with e1 e2 e3
    subst e1 e3
    have hd : Hd w g cap cur.toList (X ++ Y) := ⟨by unfold Blk At; simpa using hg, by simpa using hs, by simpa using hnc, by simpa using ht⟩
    by_cases hY : Y.length = 0
    · have hY : Y = [] := List.eq_nil_of_length_eq_zero hY
      subst hY
      refine (insert_end (n := X.length + 0) h vb p hp (by omega) hnc hz).mono ?_
      rintro e w' ⟨B, cap', rfl, ho, ht, hB⟩
      have hxs : pcs (X ++ []) ++ p.cs = pcs (X ++ [p]) := by rw [pcs_append X [p]]; simp [pcs]
      rw [hxs] at ho
      rcases ho.2 with ⟨hv, _⟩ | ⟨g2, c2, cur2, hv, hb2, hg2, _⟩
      · injection hv with _ e2 _; cases e2
      · injection hv with e1 _ e3
        subst e1
        refine ⟨g2, cap', rfl, ho, ht.mono (fun k _ e => by subst e; rfl), ?_⟩
        rcases hB with hB | hB
        · injection hB with hB
          have hB : g2 = g := hB
          subst hB
          exact .inl rfl
        · injection hB with hB; exact .inr (Nat.le_of_eq hB.symm)
    · by_cases hroom : X.length + Y.length + 1 ≤ cap
      · refine (insert_room X Y hd hc (by omega) vb p hp (fun e => hne (by rw [e]; rfl)) hroom).mono ?_
        rintro e w' ⟨rfl, ⟨cur', hd'⟩, ht⟩
        have := hd'.own hb hc
        rw [hlen] at this
        exact ⟨g, cap, rfl, this, ht.mono (fun k _ e => by subst e; rfl), .inl rfl⟩
      · refine (insert_grow X Y hd (by omega) (by omega) vb p hp (by omega)).mono ?_
        rintro e w' ⟨cap', cur', hc', rfl, hd', ht⟩
        have := hd'.own hz hc'
        rw [hlen] at this
        exact ⟨_, cap', rfl, this, ht.mono (fun _ _ h => h.elim), .inr (Nat.le_refl _)⟩
end Go.Proofs.Ytjjmooegpoeomaa
