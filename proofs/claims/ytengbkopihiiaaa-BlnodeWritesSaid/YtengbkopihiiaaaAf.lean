/-
  Appends to rows that have no room.
-/
import Derived.Test.YtengbkopihiiaaaWNk
namespace Go.Proofs.Ytengbkopihiiaaa
open Go.RowKit Go.Lib
set_option linter.unusedVariables false
set_option maxRecDepth 20000
set_option linter.unusedSimpArgs false

/-- An append to a row that has no room: a new row. -/
theorem app_full {t e size bytes : Nat} {z : Value} (ht : Try.prog.underlying t = some (.slice e)) (hinf : (Try.prog.info? e).map (fun i => (i.zero, i.size, i.bytes)) = some (some z, size, bytes)) (hzs : z.cells.size = size) (hsz : 0 < size) (hby : bytes ≤ 1000)
    {w : World} {n : Nat} {A : Option Addr} {xs : List Value} (hx : xs.length = n * size) (hR : Row w A xs) (a : Addr) (m c : Nat) (news : List Value) (hl : news.length = m * size) (hnews : ∀ j u, news[j]? = some u → w.cell? (a.add j) = some u)
    (h1 : ∀ u ∈ news, u.oneCell' = true) (hnm : n + m ≤ 1000000) (hm : 0 < m) (ty : TypeId) :
    ∃ B cap w', AppRun t ty (.slice A n n) (.slice (some a) m c) (.slice B (n + m) cap) w w' ∧ w'.ownsRow w.heap.size e size (.slice B (n + m) cap) (n + m) (xs ++ news) ∧ Turn No w w' := by
  obtain ⟨i0, hi, hz0, hz1, hz2⟩ := info_parts hinf
  cases A with
  | none =>
    have hx0 : xs = [] := by
      cases xs with
      | nil => rfl
      | cons a l => obtain ⟨b, o, hA, _⟩ := hR 0 a rfl; cases hA
    subst hx0
    have hn0 : n = 0 := by
      cases n with
      | zero => rfl
      | succ k =>
        rw [List.length_nil] at hx
        have h2 := Nat.mul_pos (Nat.succ_pos k) hsz
        rw [Nat.succ_eq_add_one, ← hx] at h2
        exact absurd h2 (Nat.lt_irrefl 0)
    subst hn0
    have h0 : w.ownsRow w.heap.size e size (.slice none 0 0) 0 [] := ⟨by simp, .inl ⟨rfl, rfl⟩⟩
    obtain ⟨B, cap, w', q, ho, htn, _⟩ := app_gen ht hinf hzs hsz hby h0 a m c news hl hnews h1 hnm (Nat.le_refl _) ty
    exact ⟨B, cap, w', q, ho, htn.mono fun k _ h => by cases h⟩
  | some b =>
    have holds : ∀ j u, xs[j]? = some u → w.cell? (b.add j) = some u := by
      intro j u hj
      obtain ⟨g, o, hA, _, hc⟩ := hR j u hj
      injection hA with hA
      subst hA
      rwa [Addr.add_lit]
    obtain ⟨v', w', hr, ho, hg⟩ := run_append_arg_grows (P := Try.prog) w t ty e i0 z size bytes ht hi hz0 hz1 hz2 hzs hsz b n n xs hx holds a m c news hl hnews (by omega) (by unfold maxLen; omega)
      (Nat.le_trans (Nat.mul_le_mul hnm hby) (by decide))
    obtain ⟨B, cap, rfl⟩ := own_form ho
    exact ⟨B, cap, w', ⟨hr⟩, ho, turn_of_grown hg⟩
/-- One text more, onto a row that has no room. -/
theorem app_fullK {w : World} {A : Option Addr} {K : List ByteArray} (hR : Row w A (kcs K)) (hl : K.length < 100000) (k : ByteArray) :
    ∃ B c w', AppRun 23 23 (.slice A K.length K.length) (.slice (some ⟨w.heap.size, 0, none⟩) 1 1) (.slice B (K.length + 1) c) (w.alloc (.cells #[.string k] 9)) w' ∧
      w'.ownsRow w.heap.size 9 1 (.slice B (K.length + 1) c) (K.length + 1) (kcs (K ++ [k])) ∧ Turn No w w' := by
  have tj : Turn No w (w.alloc (.cells #[.string k] 9)) := (Turn.refl No w).alloc _
  have hn := At.new w (.cells #[.string k] 9)
  obtain ⟨B, c, w', q, ho, ht⟩ := app_full Try.underlying23 infw9 rfl (by decide) (by decide) (n := K.length) (by rw [kcs_length, Nat.mul_one]) (hR.no tj) ⟨w.heap.size, 0, none⟩ 1 1 [.string k] rfl
    (fun j u hj => by rw [Addr.add_lit, Nat.zero_add, hn.cell]; simpa using hj) (by intro u hu; simp at hu; subst hu; rfl) (by omega) (by decide) 23
  have e : kcs (K ++ [k]) = kcs K ++ [.string k] := by simp [kcs]
  refine ⟨B, c, w', q, ?_, tj.trans ht⟩
  rw [e]
  exact own_from ho tj.size
/-- One handle more. -/
theorem app_fullH {w : World} {A : Option Addr} {D : List Hn} (hR : Row w A (hcs D)) (hl : D.length < 100000) (h : Hn) {t : Nat} (ht : Try.prog.underlying t = some (.slice 27)) :
    ∃ B c w', AppRun t t (.slice A D.length D.length) (.slice (some ⟨w.heap.size, 0, none⟩) 1 1) (.slice B (D.length + 1) c) (w.alloc (.cells #[.int .i64 h.slot, .int .u64 h.gen] 27)) w' ∧
      w'.ownsRow w.heap.size 27 2 (.slice B (D.length + 1) c) (D.length + 1) (hcs (D ++ [h])) ∧ Turn No w w' := by
  have tj : Turn No w (w.alloc (.cells #[.int .i64 h.slot, .int .u64 h.gen] 27)) := (Turn.refl No w).alloc _
  have hn := At.new w (.cells #[.int .i64 h.slot, .int .u64 h.gen] 27)
  obtain ⟨B, c, w', q, ho, ht2⟩ := app_full ht info27 rfl (by decide) (by decide) (n := D.length) (hcs_length D) (hR.no tj) ⟨w.heap.size, 0, none⟩ 1 1 [.int .i64 h.slot, .int .u64 h.gen] rfl
    (fun j u hj => by rw [Addr.add_lit, Nat.zero_add, hn.cell]; simpa using hj) (by intro u hu; simp at hu; rcases hu with rfl | rfl <;> rfl) (by omega) (by decide) t
  have e : hcs (D ++ [h]) = hcs D ++ [.int .i64 h.slot, .int .u64 h.gen] := by rw [hcs_append]; rfl
  refine ⟨B, c, w', q, ?_, tj.trans ht2⟩
  rw [e]
  exact own_from ho tj.size
end Go.Proofs.Ytengbkopihiiaaa
