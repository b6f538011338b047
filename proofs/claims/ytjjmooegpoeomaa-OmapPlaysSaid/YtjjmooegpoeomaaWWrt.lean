/-
  write: the writes, one behind the other.
-/
import Derived.Test.YtjjmooegpoeomaaWSwp
namespace Go.Proofs.Ytjjmooegpoeomaa
open Go.RowKit Go.Lib
set_option linter.unusedVariables false
set_option linter.unusedSimpArgs false

def wr1 (l : List Pr) (x : Wr) : List Pr := if x.gone = true then delL l x.k else putL l x.k x.v
def wrL (l : List Pr) (ws : List Wr) : List Pr := ws.foldl wr1 l
theorem wrL_snoc {ws : List Wr} {j : Nat} {x : Wr} (hj : ws[j]? = some x) (l : List Pr) : wrL l (ws.take (j + 1)) = wr1 (wrL l (ws.take j)) x := by
  unfold wrL
  rw [List.take_add_one, hj, List.foldl_append]
  rfl
theorem wr1_length (l : List Pr) (x : Wr) : (wr1 l x).length ≤ l.length + 1 := by
  unfold wr1
  split
  · exact Nat.le_trans (del_length _ _) (Nat.le_succ _)
  · exact put_length _ _ _
/-- What is there in a write. -/
structure Wt (w wr : World) (Z mb : Nat) (rb rb' : Option Nat) (l l' : List Pr) (kk : Nat) : Prop where
  om : Om wr Z mb rb' l'
  tu : Turn (fun k => k = mb ∨ rb = some k) w wr
  rbs : rb' = rb ∨ ∃ k, rb' = some k ∧ w.heap.size ≤ k
  few : l'.length ≤ l.length + kk
section
variable {w wr w2 : World} {Z mb : Nat} {rb rb' rb2 : Option Nat} {l l' l2 : List Pr} {kk : Nat}
theorem Wt.no (h : Wt w wr Z mb rb rb' l l' kk) (t : Turn No wr w2) : Wt w w2 Z mb rb rb' l l' kk := ⟨h.om.no t, h.tu.then t (fun _ _ h => h.elim), h.rbs, h.few⟩
theorem Wt.step (h : Wt w wr Z mb rb rb' l l' kk) (om : Om w2 Z mb rb2 l2) (hr : rb2 = rb' ∨ ∃ k, rb2 = some k ∧ wr.heap.size ≤ k) (t : Turn (fun k => k = mb ∨ rb' = some k) wr w2) (hf : l2.length ≤ l'.length + 1) : Wt w w2 Z mb rb rb2 l l2 (kk + 1) := by
  refine ⟨om, h.tu.then t ?_, ?_, by have := h.few; omega⟩
  · intro i hi hx
    rcases hx with hx | hx
    · exact .inl hx
    · rcases h.rbs with e | ⟨k, e, hk⟩
      · exact .inr (e ▸ hx)
      · rw [e] at hx; injection hx with hx; omega
  · rcases hr with e | ⟨k, e, hk⟩
    · rw [e]; exact h.rbs
    · exact .inr ⟨k, e, Nat.le_trans h.tu.size hk⟩
end

set_option maxHeartbeats 2000000 in
theorem write_any {w : World} {Z mb : Nat} {rb : Option Nat} {l : List Pr} (h : Om w Z mb rb l) (ws : List Wr) (A : Option Addr) (cap : Nat) (hw : Row w A (wcs ws)) (hs : ∀ b o, A = some ⟨b, o, none⟩ → 0 < ws.length → b ≠ mb ∧ rb ≠ some b) (hf : ∀ x ∈ ws, Fit x.k ∧ Fit x.v)
    (hn : l.length + ws.length < 50000) (hZ : Z ≤ w.heap.size) :
    Calls Try.prog 40 #[.pointer (some ⟨mb, 0, none⟩), .slice A ws.length cap] w fun e w' => e = .returned (.tuple #[]) ∧ ∃ rb', Om w' Z mb rb' (wrL l ws) ∧ (rb' = rb ∨ ∃ k, rb' = some k ∧ w.heap.size ≤ k) ∧ Turn (fun k => k = mb ∨ rb = some k) w w' := by
  have HR := Lib.hid (And.intro hw (And.intro hs (And.intro hf hn)))
  have H0 : Hid (Wt w w Z mb rb rb l (wrL l (ws.take 0)) 0) := Lib.hid ⟨h, Turn.refl _ _, .inl rfl, by simp [wrL]⟩
  have hsm : ws.length ≤ 100000 := by omega
  clear h hw hs hf hn
  go_enter Try.func40, Try.ntmps40
  go_wp2_with fail
  go_loopw [8] (fun i wr => ∃ (kk : Nat) (rb' : Option Nat), kk ≤ ws.length ∧ i = .int .i64 (kk : Int) ∧ Hid (Wt w wr Z mb rb rb' l (wrL l (ws.take kk)) kk)) (fun i _ => ws.length - (RowKit.intOf i).toNat)
  case atStart => exact ⟨0, rb, Nat.zero_le _, rfl, H0⟩
  case round =>
    clear H0
    obtain ⟨kk, rb', hm, rfl, HP⟩ := hrel
    by_cases hlt : kk < ws.length
    · obtain ⟨x, hx⟩ : ∃ x, ws[kk]? = some x := ⟨ws[kk], List.getElem?_eq_getElem hlt⟩
      have hrow : Row wr A (wcs ws) := HR.out.1.turn HP.out.tu fun b o hA hX => by
        have := HR.out.2.1 b o hA (by omega)
        rcases hX with e | e
        · exact this.1 e
        · exact this.2 e
      obtain ⟨b, off, hA, hb, x0, x1, x2⟩ := hrow.wr hx
      have hfx := HR.out.2.2.1 x (List.mem_of_getElem? hx)
      have HX := Lib.hid (wrL_snoc hx l)
      obtain ⟨xk, xv, xg⟩ := x
      simp only at x0 x1 x2
      have tn : Turn No wr (wr.alloc (.cells #[.string xk, .string xv, .bool xg] 46)) := (Turn.refl _ _).alloc _
      have hAt := Lib.hid (At.new wr (.cells #[.string xk, .string xv, .bool xg] 46))
      have H2 := Lib.hid (HP.out.no tn)
      have hsz : Z ≤ (wr.alloc (.cells #[.string xk, .string xv, .bool xg] 46)).heap.size := Nat.le_trans hZ (Nat.le_trans HP.out.tu.size tn.size)
      subst hA
      clear hb hrow hx tn HP
      go_upto_region 3 with fail
      generalize wr.alloc (.cells #[.string xk, .string xv, .bool xg] 46) = w2 at H2 hAt hsz ⊢
      generalize wr.heap.size = g at hAt ⊢
      clear x0 x1 x2
      have y0 := hAt.out.cell 0
      have y1 := hAt.out.cell 1
      have y2 := hAt.out.cell 2
      simp at y0 y1 y2
      cases xg with
      | true =>
        have CR := Lib.hid (remove_any H2.out.om xk)
        clear hsz hfx
        go_wp2_with (go_at_call 37; refine CR.out.mono ?_; rintro e w3 ⟨rfl, rb2, om, hr, t⟩; have H3 := Lib.hid (H2.out.step om hr t (Nat.le_trans (del_length _ _) (Nat.le_succ _))); clear om hr t)
        have H4 : Hid (Wt w w3 Z mb rb rb2 l (wrL l (ws.take (kk + 1))) (kk + 1)) := Lib.hid (by rw [HX.out]; exact H3.out)
        exact ⟨⟨kk + 1, rb2, by omega, by go_num, H4⟩, by simp [RowKit.intOf]; omega⟩
      | false =>
        have CP := Lib.hid (put_any H2.out.om xk xv hfx.1 hfx.2 (by have := H2.out.few; have := HR.out.2.2.2; omega) hsz)
        clear hsz hfx
        go_wp2_with (go_at_call 36; refine CP.out.mono ?_; rintro e w3 ⟨rfl, rb2, om, hr, t⟩; have H3 := Lib.hid (H2.out.step om hr t (put_length _ _ _)); clear om hr t)
        have H4 : Hid (Wt w w3 Z mb rb rb2 l (wrL l (ws.take (kk + 1))) (kk + 1)) := Lib.hid (by rw [HX.out]; exact H3.out)
        exact ⟨⟨kk + 1, rb2, by omega, by go_num, H4⟩, by simp [RowKit.intOf]; omega⟩
    · obtain rfl : kk = ws.length := by omega
      have h1 := HP.out
      rw [List.take_length] at h1
      have H1 := Lib.hid h1
      clear h1
      go_wp2_with fail
      refine bodyPost_end (results_none rfl _ _ _) rfl ?_
      exact ⟨rfl, rb', H1.out.om, H1.out.rbs, H1.out.tu⟩
end Go.Proofs.Ytjjmooegpoeomaa
