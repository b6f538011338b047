/-
  The document's node: Drop.
-/
import Derived.Test.YtijlcehjlacihaaRg
namespace Go.Proofs.Ytijlcehjlacihaa
open Go.RowKit Go.Lib
set_option linter.unusedVariables false
set_option maxRecDepth 20000
set_option linter.unusedSimpArgs false


section
variable {w : World} {g : Nat} {L : List (Nat × Int)} {k : Nat} {c : Array Value}
set_option maxHeartbeats 4000000 in
theorem rdrop_any (h : Ref w g L k c) (hk : k = 4 ∨ k = 16 ∨ k = 48 ∨ k = 256) (b : Nat) (hb : b < 256) :
    Calls Try.prog 14 #[.pointer (some ⟨g, 0, none⟩), .int .u8 (b : Int)] w fun e w' => e = .returned (.bool (getC L b).isSome) ∧ RefE w' g (delC L b) (if (getC L b).isSome then NI.kdn L k b else k) ∧ Turn (fun i => i = g) w w' := by
  have hb1 : (b : Int) < 256 := by omega
  have hb0 : (0 : Int) ≤ (b : Int) := by omega
  have HL := Lib.hid h
  have hsz := h.size
  obtain ⟨c0, f0⟩ := NI.cells258 h.at_ (h.has b hb)
  cases hg : getC L b with
  | none =>
    rw [hg] at c0
    have HE : Hid (RefE w g (delC L b) k) := Lib.hid (by rw [del_none h.asc hg]; exact ⟨c, h⟩)
    clear h hsz f0
    go_enter Try.func14, Try.ntmps14
    go_wp2_with fail
    go_ret
    exact ⟨rfl, HE.out, Turn.refl _ _⟩
  | some y =>
    rw [hg] at c0
    have hld := len_del h.asc hg
    have hlen := len_byt h.asc h.byt
    obtain ⟨n, hn⟩ : ∃ n, (delC L b).length = n := ⟨_, rfl⟩
    rw [hn] at hld
    have HN := Lib.hid (And.intro hn hld)
    have a1 := h.at_.set b (.bool false)
    have q1 : (c.setIfInBounds b (.bool false))[512]? = some (.int .i64 ((n : Int) + 1)) := by rw [Array.getElem?_setIfInBounds_ne (by omega), h.cnt, ← hld]; rfl
    obtain ⟨d1, z1⟩ := NI.cells258 a1 q1
    obtain ⟨c2, hc2⟩ : ∃ c2, (c.setIfInBounds b (.bool false)).setIfInBounds 512 (.int .i64 (n : Int)) = c2 := ⟨_, rfl⟩
    have HC2 : Hid (∀ j : Nat, c2[j]? = if j = 512 then some (.int .i64 (n : Int)) else if j = b then some (.bool false) else c[j]?) := Lib.hid fun j => by rw [← hc2, seti _ _ _ _ (by simp [hsz]), seti _ _ _ _ (by omega)]
    have a2 := a1.set 512 (.int .i64 (n : Int))
    rw [hc2] at a2
    have HW2 : Hid (At ((w.setCell ⟨g, b, none⟩ (.bool false)).setCell ⟨g, 512, none⟩ (.int .i64 (n : Int))) g (.cells c2 65 (0, 0)) ∧ Turn (fun i => i = g) w ((w.setCell ⟨g, b, none⟩ (.bool false)).setCell ⟨g, 512, none⟩ (.int .i64 (n : Int))) ∧ c2.size = 514) :=
      Lib.hid ⟨a2, (Turn.set1 _ _ _ _).trans (Turn.set1 _ _ _ _), by rw [← hc2]; simp [hsz]⟩
    have HEND : Hid (∀ (W : World) (cc : Array Value) (k' : Nat), At W g (.cells cc 65 (0, 0)) → cc.size = 514 → (∀ j : Nat, j < 513 → cc[j]? = c2[j]?) → cc[513]? = some (.int .i64 (k' : Int)) → Turn (fun i => i = g) w W → RefE W g (delC L b) k' ∧ Turn (fun i => i = g) w W) := Lib.hid fun W cc k' hat hs hcc h513 hT =>
      ⟨HL.out.del hb hat hs (fun i hi => by rw [hcc i (by omega), HC2.out, if_neg (by omega)]) (by rw [hcc 512 (by omega), HC2.out, if_pos rfl, HN.out.1]) h513, hT⟩
    have hw1 : IntKind.i64.wrap ((n : Int) + 1 - 1) = (n : Int) := by rw [IntKind.wrap_i64]; omega
    have hw2 : IntKind.i64.wrap (n : Int) = (n : Int) := by rw [IntKind.wrap_i64]; omega
    clear h hsz hg hld hn a1 q1 hc2 a2 hlen
    go_enter Try.func14, Try.ntmps14
    go_upto_region 5 with fail
    generalize (w.setCell ⟨g, b, none⟩ (.bool false)).setCell ⟨g, 512, none⟩ (.int .i64 (n : Int)) = w2 at HW2 ⊢
    clear c0 f0 d1 z1
    obtain ⟨e1, y1⟩ := NI.cells258 HW2.out.1 (i := 512) (u := .int .i64 (n : Int)) (by rw [HC2.out, if_pos rfl])
    obtain ⟨e2, y2⟩ := NI.cells258 HW2.out.1 (i := 513) (u := .int .i64 (k : Int)) (by rw [HC2.out, if_neg (by omega), if_neg (by omega)]; exact HL.out.siz)
    rcases hk with e | e | e | e
    · subst e
      · have hkd : NI.kdn L 4 b = 4 := by unfold NI.kdn; rw [HN.out.1, if_neg (by show ¬ (n : Int) ≤ -1; omega)]
        have hE := HEND.out w2 c2 4 HW2.out.1 HW2.out.2.2 (fun j hj => rfl) (by rw [HC2.out, if_neg (by omega), if_neg (by omega)]; exact HL.out.siz) HW2.out.2.1
        replace hE := Lib.hid hE
        go_wp2_with fail
        go_ret
        exact ⟨rfl, hE.out⟩
    · subst e
      by_cases hlow : n ≤ 3
      · have hkd : NI.kdn L 16 b = 4 := by unfold NI.kdn; rw [HN.out.1, if_pos (by show (n : Int) ≤ 3; omega)]; rfl
        have hlim : ((n : Int) ≤ 3) := by omega
        go_upto_region 11 with fail
        have hE := HEND.out (w2.setCell ⟨g, 513, none⟩ (.int .i64 4)) (c2.setIfInBounds 513 (.int .i64 4)) 4 (HW2.out.1.set 513 _) (by simp [HW2.out.2.2]) (fun j hj => Array.getElem?_setIfInBounds_ne (by omega)) (Array.getElem?_setIfInBounds_self_of_lt (by rw [HW2.out.2.2]; decide)) (HW2.out.2.1.trans (Turn.set1 _ _ _ _))
        replace hE := Lib.hid hE
        go_wp2_with fail
        go_ret
        exact ⟨rfl, hE.out⟩
      · have hkd : NI.kdn L 16 b = 16 := by unfold NI.kdn; rw [HN.out.1, if_neg (by show ¬ (n : Int) ≤ 3; omega)]
        have hlim : ¬ ((n : Int) ≤ 3) := by omega
        have hE := HEND.out w2 c2 16 HW2.out.1 HW2.out.2.2 (fun j hj => rfl) (by rw [HC2.out, if_neg (by omega), if_neg (by omega)]; exact HL.out.siz) HW2.out.2.1
        replace hE := Lib.hid hE
        go_wp2_with fail
        go_ret
        exact ⟨rfl, hE.out⟩
    · subst e
      by_cases hlow : n ≤ 12
      · have hkd : NI.kdn L 48 b = 16 := by unfold NI.kdn; rw [HN.out.1, if_pos (by show (n : Int) ≤ 12; omega)]; rfl
        have hlim : ((n : Int) ≤ 12) := by omega
        go_upto_region 11 with fail
        have hE := HEND.out (w2.setCell ⟨g, 513, none⟩ (.int .i64 16)) (c2.setIfInBounds 513 (.int .i64 16)) 16 (HW2.out.1.set 513 _) (by simp [HW2.out.2.2]) (fun j hj => Array.getElem?_setIfInBounds_ne (by omega)) (Array.getElem?_setIfInBounds_self_of_lt (by rw [HW2.out.2.2]; decide)) (HW2.out.2.1.trans (Turn.set1 _ _ _ _))
        replace hE := Lib.hid hE
        go_wp2_with fail
        go_ret
        exact ⟨rfl, hE.out⟩
      · have hkd : NI.kdn L 48 b = 48 := by unfold NI.kdn; rw [HN.out.1, if_neg (by show ¬ (n : Int) ≤ 12; omega)]
        have hlim : ¬ ((n : Int) ≤ 12) := by omega
        have hE := HEND.out w2 c2 48 HW2.out.1 HW2.out.2.2 (fun j hj => rfl) (by rw [HC2.out, if_neg (by omega), if_neg (by omega)]; exact HL.out.siz) HW2.out.2.1
        replace hE := Lib.hid hE
        go_wp2_with fail
        go_ret
        exact ⟨rfl, hE.out⟩
    · subst e
      by_cases hlow : n ≤ 36
      · have hkd : NI.kdn L 256 b = 48 := by unfold NI.kdn; rw [HN.out.1, if_pos (by show (n : Int) ≤ 36; omega)]; rfl
        have hlim : ((n : Int) ≤ 36) := by omega
        go_upto_region 11 with fail
        have hE := HEND.out (w2.setCell ⟨g, 513, none⟩ (.int .i64 48)) (c2.setIfInBounds 513 (.int .i64 48)) 48 (HW2.out.1.set 513 _) (by simp [HW2.out.2.2]) (fun j hj => Array.getElem?_setIfInBounds_ne (by omega)) (Array.getElem?_setIfInBounds_self_of_lt (by rw [HW2.out.2.2]; decide)) (HW2.out.2.1.trans (Turn.set1 _ _ _ _))
        replace hE := Lib.hid hE
        go_wp2_with fail
        go_ret
        exact ⟨rfl, hE.out⟩
      · have hkd : NI.kdn L 256 b = 256 := by unfold NI.kdn; rw [HN.out.1, if_neg (by show ¬ (n : Int) ≤ 36; omega)]
        have hlim : ¬ ((n : Int) ≤ 36) := by omega
        have hE := HEND.out w2 c2 256 HW2.out.1 HW2.out.2.2 (fun j hj => rfl) (by rw [HC2.out, if_neg (by omega), if_neg (by omega)]; exact HL.out.siz) HW2.out.2.1
        replace hE := Lib.hid hE
        go_wp2_with fail
        go_ret
        exact ⟨rfl, hE.out⟩
end
end Go.Proofs.Ytijlcehjlacihaa
