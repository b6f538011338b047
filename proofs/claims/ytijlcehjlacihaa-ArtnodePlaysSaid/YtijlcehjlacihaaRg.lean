/-
  The document's node: Set, Drop.
-/
import Derived.Test.YtijlcehjlacihaaRf
namespace Go.Proofs.Ytijlcehjlacihaa
open Go.RowKit Go.Lib
set_option linter.unusedVariables false
set_option maxRecDepth 20000
set_option linter.unusedSimpArgs false


theorem Ref.put {w : World} {g : Nat} {L : List (Nat × Int)} {k k' : Nat} {c : Array Value} (h : Ref w g L k c) {b : Nat} (x : Int) (hb : b < 256) {w' : World} {c' : Array Value} (hat : At w' g (.cells c' 65 (0, 0))) (hs : c'.size = 514)
    (hc : ∀ i : Nat, i < 512 → c'[i]? = if i = b then some (.bool true) else if i = 256 + b then some (.int .i64 x) else c[i]?) (hn : c'[512]? = some (.int .i64 ((putC L b x).length : Int))) (hk : c'[513]? = some (.int .i64 (k' : Int))) : RefE w' g (putC L b x) k' := by
  refine ⟨c', asc_put h.asc b x, byt_put h.byt hb x, hat, hs, fun i hi => ?_, fun i hi => ?_, hn, hk⟩
  · rw [hc i (by omega), get_put h.asc]
    by_cases hib : i = b
    · rw [if_pos hib, if_pos hib.symm]; rfl
    · rw [if_neg hib, if_neg (show ¬ i = 256 + b by omega), if_neg (fun e => hib e.symm)]; exact h.has i hi
  · rw [hc _ (by omega), get_put h.asc, if_neg (show ¬ 256 + i = b by omega)]
    by_cases hib : i = b
    · rw [if_pos (by omega), if_pos hib.symm]
      exact ⟨x, rfl, fun y hy => by injection hy⟩
    · rw [if_neg (by omega), if_neg (fun e => hib e.symm)]; exact h.kid i hi
theorem Ref.del {w : World} {g : Nat} {L : List (Nat × Int)} {k k' : Nat} {c : Array Value} (h : Ref w g L k c) {b : Nat} (hb : b < 256) {w' : World} {c' : Array Value} (hat : At w' g (.cells c' 65 (0, 0))) (hs : c'.size = 514)
    (hc : ∀ i : Nat, i < 512 → c'[i]? = if i = b then some (.bool false) else c[i]?) (hn : c'[512]? = some (.int .i64 ((delC L b).length : Int))) (hk : c'[513]? = some (.int .i64 (k' : Int))) : RefE w' g (delC L b) k' := by
  refine ⟨c', asc_del h.asc b, byt_del h.byt b, hat, hs, fun i hi => ?_, fun i hi => ?_, hn, hk⟩
  · rw [hc i (by omega), get_del h.asc]
    by_cases hib : i = b
    · rw [if_pos hib, if_pos hib.symm]; rfl
    · rw [if_neg hib, if_neg (fun e => hib e.symm)]; exact h.has i hi
  · rw [hc _ (by omega), get_del h.asc, if_neg (show ¬ 256 + i = b by omega)]
    obtain ⟨v, hv, hvx⟩ := h.kid i hi
    refine ⟨v, hv, fun y hy => ?_⟩
    by_cases hib : i = b
    · rw [if_pos hib.symm] at hy; cases hy
    · rw [if_neg (fun e => hib e.symm)] at hy; exact hvx y hy
theorem seti (c : Array Value) (i j : Nat) (v : Value) (hs : i < c.size) : (c.setIfInBounds i v)[j]? = if j = i then some v else c[j]? := by
  by_cases h : j = i
  · subst h; rw [if_pos rfl, Array.getElem?_setIfInBounds_self_of_lt hs]
  · rw [if_neg h, Array.getElem?_setIfInBounds_ne (fun e => h e.symm)]
section
variable {w : World} {g : Nat} {L : List (Nat × Int)} {k : Nat} {c : Array Value}
set_option maxHeartbeats 4000000 in
theorem rset_any (h : Ref w g L k c) (hk : k = 4 ∨ k = 16 ∨ k = 48 ∨ k = 256) (hle : L.length ≤ k) (b : Nat) (x : Int) (hb : b < 256) :
    Calls Try.prog 12 #[.pointer (some ⟨g, 0, none⟩), .int .u8 (b : Int), .int .i64 x] w fun e w' => e = .returned (.bool (getC L b).isNone) ∧ RefE w' g (putC L b x) (NI.kup L k b) ∧ Turn (fun i => i = g) w w' := by
  have hb1 : (b : Int) < 256 := by omega
  have hb0 : (0 : Int) ≤ (b : Int) := by omega
  have HL := Lib.hid h
  have hsz := h.size
  obtain ⟨v, hv, _⟩ := h.kid b hb
  obtain ⟨c0, f0⟩ := NI.cells258 h.at_ hv
  obtain ⟨c1, hc1⟩ : ∃ c1, c.setIfInBounds (256 + b) (.int .i64 x) = c1 := ⟨_, rfl⟩
  have HC1 : Hid (∀ j : Nat, c1[j]? = if j = 256 + b then some (.int .i64 x) else c[j]?) := Lib.hid fun j => by rw [← hc1]; exact seti c _ j _ (by omega)
  have hs1 : c1.size = 514 := by rw [← hc1]; simp [hsz]
  have a1 := h.at_.set (256 + b) (.int .i64 x)
  rw [hc1] at a1
  have HW1 : Hid (At (w.setCell ⟨g, 256 + b, none⟩ (.int .i64 x)) g (.cells c1 65 (0, 0)) ∧ Turn (fun i => i = g) w (w.setCell ⟨g, 256 + b, none⟩ (.int .i64 x)) ∧ c1.size = 514) := Lib.hid ⟨a1, Turn.set1 _ _ _ _, hs1⟩
  have HK := Lib.hid (And.intro hk hle)
  have hlen := len_byt h.asc h.byt
  clear h hv hc1 a1 hs1 hsz hk hle
  go_enter Try.func12, Try.ntmps12
  go_upto_region 2 with fail
  generalize w.setCell ⟨g, 256 + b, none⟩ (.int .i64 x) = w1 at HW1 ⊢
  clear c0 f0
  have d0 : w1.cell? ⟨g, b, none⟩ = some (.bool (getC L b).isSome) ∧ w1.frozen? ⟨g, b, none⟩ = false := NI.cells258 HW1.out.1 (by rw [HC1.out, if_neg (by omega)]; exact HL.out.has b hb)
  obtain ⟨e0, z0⟩ := d0
  cases hg : getC L b with
  | some y =>
    rw [hg] at e0
    have HF : Hid (RefE w1 g (putC L b x) (NI.kup L k b)) := Lib.hid (HL.out.put x hb HW1.out.1 HW1.out.2.2 (fun i hi => by
        rw [HC1.out]
        by_cases h2 : i = b
        · rw [if_pos h2, if_neg (by omega), h2, HL.out.has b hb, hg]; rfl
        · rw [if_neg h2]) (by rw [HC1.out, if_neg (by omega), len_put_old HL.out.asc x hg]; exact HL.out.cnt) (by rw [HC1.out, if_neg (by omega), show NI.kup L k b = k by unfold NI.kup; rw [if_neg (fun e => by rw [hg] at e; cases e.1)]]; exact HL.out.siz))
    have HG := Lib.hid hg
    clear hg z0
    go_wp2_with fail
    go_ret
    exact ⟨by first | rfl | (rw [HG.out]; rfl), HF.out, HW1.out.2.1⟩
  | none =>
    rw [hg] at e0
    have hln := len_put_new HL.out.asc x hg
    have d1 : w1.cell? ⟨g, 512, none⟩ = some (.int .i64 (L.length : Int)) := (NI.cells258 HW1.out.1 (by rw [HC1.out, if_neg (by omega)]; exact HL.out.cnt)).1
    have d2 : w1.cell? ⟨g, 513, none⟩ = some (.int .i64 (k : Int)) ∧ w1.frozen? ⟨g, 513, none⟩ = false := NI.cells258 HW1.out.1 (by rw [HC1.out, if_neg (by omega)]; exact HL.out.siz)
    obtain ⟨d2, z2⟩ := d2
    have hkup : NI.kup L k b = if L.length = k then NI.nextK k else k := by
      unfold NI.kup
      by_cases hf : L.length = k
      · rw [if_pos ⟨hg, hf⟩, if_pos hf]
      · rw [if_neg (fun e => hf e.2), if_neg hf]
    have h256 : L.length ≠ 256 := fun e => by have := len_byt (asc_put HL.out.asc b x) (byt_put HL.out.byt hb x); omega
    obtain ⟨n, hn⟩ : ∃ n, L.length = n := ⟨_, rfl⟩
    have HN := Lib.hid (And.intro hn hln)
    rw [hn] at d1 hkup hlen h256
    have HKU := Lib.hid hkup
    have hw : IntKind.i64.wrap ((n : Int) + 1) = (n : Int) + 1 := by rw [IntKind.wrap_i64]; omega
    -- what the two last stores leave
    have HEND : Hid (∀ (W : World) (cc : Array Value) (k' : Nat), At W g (.cells cc 65 (0, 0)) → cc.size = 514 → (∀ j : Nat, j < 513 → cc[j]? = c1[j]?) → cc[513]? = some (.int .i64 (k' : Int)) → NI.kup L k b = k' → Turn (fun i => i = g) w W →
        (W.cell? ⟨g, b, none⟩ = some (.bool false) ∧ W.frozen? ⟨g, b, none⟩ = false ∧ (W.setCell ⟨g, b, none⟩ (.bool true)).cell? ⟨g, 512, none⟩ = some (.int .i64 (n : Int)) ∧ (W.setCell ⟨g, b, none⟩ (.bool true)).frozen? ⟨g, 512, none⟩ = false) ∧
        RefE ((W.setCell ⟨g, b, none⟩ (.bool true)).setCell ⟨g, 512, none⟩ (.int .i64 ((n : Int) + 1))) g (putC L b x) (NI.kup L k b) ∧ Turn (fun i => i = g) w ((W.setCell ⟨g, b, none⟩ (.bool true)).setCell ⟨g, 512, none⟩ (.int .i64 ((n : Int) + 1)))) := Lib.hid fun W cc k' hat hsc hcc h513 hk' hT => by
      have q1 : cc[b]? = some (.bool false) := by rw [hcc b (by omega), HC1.out, if_neg (by omega), HL.out.has b hb, hg]; rfl
      have q2 : cc[512]? = some (.int .i64 (n : Int)) := by rw [hcc 512 (by omega), HC1.out, if_neg (by omega), ← HN.out.1]; exact HL.out.cnt
      have at2 := hat.set b (.bool true)
      have q3 : (cc.setIfInBounds b (.bool true))[512]? = some (.int .i64 (n : Int)) := by rw [Array.getElem?_setIfInBounds_ne (by omega)]; exact q2
      have at3 := at2.set 512 (.int .i64 ((n : Int) + 1))
      refine ⟨⟨(NI.cells258 hat q1).1, (NI.cells258 hat q1).2, (NI.cells258 at2 q3).1, (NI.cells258 at2 q3).2⟩, HL.out.put x hb at3 (by simp [hsc]) (fun i hi => ?_) ?_ ?_, (hT.trans (Turn.set1 _ _ _ _)).trans (Turn.set1 _ _ _ _)⟩
      · rw [Array.getElem?_setIfInBounds_ne (by omega), seti _ _ _ _ (by omega), hcc i (by omega), HC1.out]
      · rw [Array.getElem?_setIfInBounds_self_of_lt (by simp [hsc]), HN.out.2, HN.out.1]; rfl
      · rw [Array.getElem?_setIfInBounds_ne (by decide), Array.getElem?_setIfInBounds_ne (by omega), hk']; exact h513
    have HG := Lib.hid hg
    clear hg hln hn hkup z0 hlen
    by_cases hf : n = k
    · have hkk := HK.out.1
      subst hf
      have HT1 := HW1.out.2.1
      have hkk4 : n = 4 ∨ n = 16 ∨ n = 48 := by omega
      rcases hkk4 with e | e | e
      all_goals subst e
      · go_upto_region 5 with fail
        go_quiet (fail)
        go_upto_region 12 with fail
        obtain ⟨⟨q1, q2, q3, q4⟩, hE1, hE2⟩ := HEND.out ((w1.drewN nq).setCell ⟨g, 513, none⟩ (.int .i64 16)) (c1.setIfInBounds 513 (.int .i64 16)) 16 ((HW1.out.1.no ((Turn.refl No w1).drewN nq)).set 513 _) (by simp [HW1.out.2.2]) (fun j hj => Array.getElem?_setIfInBounds_ne (by omega)) (Array.getElem?_setIfInBounds_self_of_lt (by rw [HW1.out.2.2]; decide)) (by rw [HKU.out]; rfl) ((HT1.trans (((Turn.refl No w1).drewN nq).mono fun _ _ h => h.elim)).trans (Turn.set1 _ _ _ _))
        generalize (w1.drewN nq).setCell ⟨g, 513, none⟩ (.int .i64 16) = W at q1 q2 q3 q4 hE1 hE2 ⊢
        replace hE1 := Lib.hid hE1
        replace hE2 := Lib.hid hE2
        go_wp2_with fail
        go_ret
        exact ⟨by first | rfl | (rw [HG.out]; rfl), hE1.out, hE2.out⟩
      · go_upto_region 5 with fail
        go_quiet (fail)
        go_upto_region 12 with fail
        obtain ⟨⟨q1, q2, q3, q4⟩, hE1, hE2⟩ := HEND.out ((w1.drewN nq).setCell ⟨g, 513, none⟩ (.int .i64 48)) (c1.setIfInBounds 513 (.int .i64 48)) 48 ((HW1.out.1.no ((Turn.refl No w1).drewN nq)).set 513 _) (by simp [HW1.out.2.2]) (fun j hj => Array.getElem?_setIfInBounds_ne (by omega)) (Array.getElem?_setIfInBounds_self_of_lt (by rw [HW1.out.2.2]; decide)) (by rw [HKU.out]; rfl) ((HT1.trans (((Turn.refl No w1).drewN nq).mono fun _ _ h => h.elim)).trans (Turn.set1 _ _ _ _))
        generalize (w1.drewN nq).setCell ⟨g, 513, none⟩ (.int .i64 48) = W at q1 q2 q3 q4 hE1 hE2 ⊢
        replace hE1 := Lib.hid hE1
        replace hE2 := Lib.hid hE2
        go_wp2_with fail
        go_ret
        exact ⟨by first | rfl | (rw [HG.out]; rfl), hE1.out, hE2.out⟩
      · go_upto_region 5 with fail
        go_quiet (fail)
        go_upto_region 12 with fail
        obtain ⟨⟨q1, q2, q3, q4⟩, hE1, hE2⟩ := HEND.out ((w1.drewN nq).setCell ⟨g, 513, none⟩ (.int .i64 256)) (c1.setIfInBounds 513 (.int .i64 256)) 256 ((HW1.out.1.no ((Turn.refl No w1).drewN nq)).set 513 _) (by simp [HW1.out.2.2]) (fun j hj => Array.getElem?_setIfInBounds_ne (by omega)) (Array.getElem?_setIfInBounds_self_of_lt (by rw [HW1.out.2.2]; decide)) (by rw [HKU.out]; rfl) ((HT1.trans (((Turn.refl No w1).drewN nq).mono fun _ _ h => h.elim)).trans (Turn.set1 _ _ _ _))
        generalize (w1.drewN nq).setCell ⟨g, 513, none⟩ (.int .i64 256) = W at q1 q2 q3 q4 hE1 hE2 ⊢
        replace hE1 := Lib.hid hE1
        replace hE2 := Lib.hid hE2
        go_wp2_with fail
        go_ret
        exact ⟨by first | rfl | (rw [HG.out]; rfl), hE1.out, hE2.out⟩
    · have hnf : ¬ ((n : Int) = (k : Int)) := by omega
      have HT1 := HW1.out.2.1
      go_upto_region 5 with fail
      go_quiet (fail)
      go_upto_region 12 with fail
      obtain ⟨⟨q1, q2, q3, q4⟩, hE1, hE2⟩ := HEND.out (w1.drewN nq) c1 k (HW1.out.1.no ((Turn.refl No w1).drewN nq)) HW1.out.2.2 (fun j hj => rfl) (by rw [HC1.out, if_neg (by omega)]; exact HL.out.siz) (by rw [HKU.out, if_neg hf]) (HT1.trans (((Turn.refl No w1).drewN nq).mono fun _ _ h => h.elim))
      generalize w1.drewN nq = W at q1 q2 q3 q4 hE1 hE2 ⊢
      replace hE1 := Lib.hid hE1
      replace hE2 := Lib.hid hE2
      go_wp2_with fail
      go_ret
      exact ⟨by first | rfl | (rw [HG.out]; rfl), hE1.out, hE2.out⟩
end
end Go.Proofs.Ytijlcehjlacihaa
