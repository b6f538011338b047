/-
  What the law's world tells of its arenas' handles.
-/
import Derived.Test.YtbdfbgkfhaiccaaDoorWorld
import Derived.Test.YtbdfbgkfhaiccaaDoorIterB
import Derived.Test.YtbdfbgkfhaiccaaDoorWHndS
import Derived.Test.YtbdfbgkfhaiccaaDoorWHndT
import Derived.Deep.RegionWith
import Derived.Deep.Cut
import Derived.Deep.CutRange
namespace Go.Proofs.YtbdfbgkfhaiccaaDoor
open Go.RowKit Go.Maps
set_option linter.unusedVariables false

/-- What handles tells: the document's, and how many. -/
def WHandles (L : List Sl) (i n m : Nat) (wr : World) (e : Ending) (w' : World) : Prop :=
  ∃ A cp w3, e = .returned (.tuple #[.slice A m cp, .int .i64 (m : Int)]) ∧ (dhs L i n).length = m ∧ Told w3 w' (.slice A m cp) (dhs L i n) ∧ Turn (fun _ => False) wr w'

set_option maxRecDepth 100000 in
set_option maxHeartbeats 1000000 in
theorem whandles_1 {w0 wr : World} {n xb pb gb fb : Nat} {ab mb : Nat → Nat} {qb lb cap : Nat} {vt : Value} {G : List Nat} {fr : Nat → Bool} {MM : Nat → Nat → Option (Nat × Value)} {nn : Nat → Nat} {ff : Nat → Int → Option Value} {L : List Sl} {hs : List (Nat × Nat)} (h : WSt w0 wr n xb pb gb fb ab mb qb lb cap vt G fr MM nn ff L hs) (hn : n ≤ 4096) :
    Calls Tryd.prog 27 #[.pointer (some ⟨xb, 0, none⟩), .int .i64 1] wr (WHandles L 1 n (nn 1) wr) := by
  have hle := h.pv.le (i := 1) (by omega) (by omega)
  have HN : Hid (∀ W, Turn (fun _ => False) wr W → Calls Tryd.prog 29 #[.pointer (some ⟨ab 1, 0, none⟩)] W (HandlesPost (MM 1) W)) := Lib.hid (fun W t => handlesS sortedAtS ⟨_, (h.a 1 (Or.inl rfl)).same t⟩ (by omega) (fun x hx => by have := h.pv.bound (i := 1) (by omega) (by omega) hx; omega))
  have LV : Hid (∀ W, Turn (fun _ => False) wr W → Calls Tryd.prog 20 #[.pointer (some ⟨ab 1, 0, none⟩)] W fun e w' => e = .returned (.int .i64 (nn 1 : Int)) ∧ W = w') := Lib.hid (fun W t => liveS ⟨_, (h.a 1 (Or.inl rfl)).same t⟩)
  have PH := Lib.hid (fun (xs : List Nat) (hm : ∀ x, x ∈ xs ↔ (MM 1 x).isSome = true) (hu : xs.Pairwise (· < ·)) => h.pv.handles (i := 1) (by omega) (by omega) hm hu)
  have c1 := h.hd.cell 1
  simp at c1
  have lx := h.hd.lt
  have HX := Lib.hid h.hd
  clear h
  obtain ⟨k, hk⟩ : ∃ k, k = nn 1 := ⟨_, rfl⟩
  rw [← hk] at hle LV PH ⊢
  clear hk
  go_enter Tryd.func27, Tryd.ntmps27
  go_wp2_with fail
  go_region_with (first
    | (go_at_call 29; refine (HN.out _ ((Turn.refl _ _).drew)).mono ?_; rintro e w3 ⟨A, cp, xs, w2, rfl, hm, hu, hto, ht⟩; have HM := Lib.hid (PH.out xs hm hu); have HT := Lib.hid (And.intro hto ht); have c3 : w3.cell? ⟨xb, 1, none⟩ = some (.pointer (some ⟨ab 1, 0, none⟩)) := by { have := (HX.out.turn (((Turn.refl (fun _ => False) wr).drew).trans ht) (fun h => h)).cell 1; simpa using this }; clear hm hu hto ht)
    | (go_at_call 20; refine (LV.out _ (((Turn.refl (fun _ => False) wr).drew).trans HT.out.2)).mono ?_; rintro e w4 ⟨rfl, rfl⟩))
  all_goals
    go_wp2_with fail
    go_ret2
    obtain ⟨e1, e2⟩ := HM.out
    obtain ⟨hto, ht⟩ := HT.out
    rw [e1] at hto
    refine ⟨A, cp, w2, by rw [e2]; rfl, ?_, ?_, ((Turn.refl (fun _ => False) wr).drew).trans ht⟩
    · rw [← e1, List.length_map, e2]
    · rw [e2] at hto; exact hto

set_option maxRecDepth 100000 in
set_option maxHeartbeats 1000000 in
theorem whandles_2 {w0 wr : World} {n xb pb gb fb : Nat} {ab mb : Nat → Nat} {qb lb cap : Nat} {vt : Value} {G : List Nat} {fr : Nat → Bool} {MM : Nat → Nat → Option (Nat × Value)} {nn : Nat → Nat} {ff : Nat → Int → Option Value} {L : List Sl} {hs : List (Nat × Nat)} (h : WSt w0 wr n xb pb gb fb ab mb qb lb cap vt G fr MM nn ff L hs) (hn : n ≤ 4096) :
    Calls Tryd.prog 27 #[.pointer (some ⟨xb, 0, none⟩), .int .i64 2] wr (WHandles L 2 n (nn 2) wr) := by
  have hle := h.pv.le (i := 2) (by omega) (by omega)
  have HN : Hid (∀ W, Turn (fun _ => False) wr W → Calls Tryd.prog 47 #[.pointer (some ⟨ab 2, 0, none⟩)] W (HandlesPost (MM 2) W)) := Lib.hid (fun W t => handlesT sortedAtT ⟨_, (h.b).same t⟩ (by omega) (fun x hx => by have := h.pv.bound (i := 2) (by omega) (by omega) hx; omega))
  have LV : Hid (∀ W, Turn (fun _ => False) wr W → Calls Tryd.prog 48 #[.pointer (some ⟨ab 2, 0, none⟩)] W fun e w' => e = .returned (.int .i64 (nn 2 : Int)) ∧ W = w') := Lib.hid (fun W t => liveT ⟨_, (h.b).same t⟩)
  have PH := Lib.hid (fun (xs : List Nat) (hm : ∀ x, x ∈ xs ↔ (MM 2 x).isSome = true) (hu : xs.Pairwise (· < ·)) => h.pv.handles (i := 2) (by omega) (by omega) hm hu)
  have c1 := h.hd.cell 3
  simp at c1
  have lx := h.hd.lt
  have HX := Lib.hid h.hd
  clear h
  obtain ⟨k, hk⟩ : ∃ k, k = nn 2 := ⟨_, rfl⟩
  rw [← hk] at hle LV PH ⊢
  clear hk
  go_enter Tryd.func27, Tryd.ntmps27
  go_wp2_with fail
  go_region_with (first
    | (go_at_call 47; refine (HN.out _ ((Turn.refl _ _).drew)).mono ?_; rintro e w3 ⟨A, cp, xs, w2, rfl, hm, hu, hto, ht⟩; have HM := Lib.hid (PH.out xs hm hu); have HT := Lib.hid (And.intro hto ht); have c3 : w3.cell? ⟨xb, 3, none⟩ = some (.pointer (some ⟨ab 2, 0, none⟩)) := by { have := (HX.out.turn (((Turn.refl (fun _ => False) wr).drew).trans ht) (fun h => h)).cell 3; simpa using this }; clear hm hu hto ht)
    | (go_at_call 48; refine (LV.out _ (((Turn.refl (fun _ => False) wr).drew).trans HT.out.2)).mono ?_; rintro e w4 ⟨rfl, rfl⟩))
  all_goals
    go_wp2_with fail
    go_ret2
    obtain ⟨e1, e2⟩ := HM.out
    obtain ⟨hto, ht⟩ := HT.out
    rw [e1] at hto
    refine ⟨A, cp, w2, by rw [e2]; rfl, ?_, ?_, ((Turn.refl (fun _ => False) wr).drew).trans ht⟩
    · rw [← e1, List.length_map, e2]
    · rw [e2] at hto; exact hto

set_option maxRecDepth 100000 in
set_option maxHeartbeats 1000000 in
theorem whandles_3 {w0 wr : World} {n xb pb gb fb : Nat} {ab mb : Nat → Nat} {qb lb cap : Nat} {vt : Value} {G : List Nat} {fr : Nat → Bool} {MM : Nat → Nat → Option (Nat × Value)} {nn : Nat → Nat} {ff : Nat → Int → Option Value} {L : List Sl} {hs : List (Nat × Nat)} (h : WSt w0 wr n xb pb gb fb ab mb qb lb cap vt G fr MM nn ff L hs) (hn : n ≤ 4096) :
    Calls Tryd.prog 27 #[.pointer (some ⟨xb, 0, none⟩), .int .i64 3] wr (WHandles L 3 n (nn 3) wr) := by
  have hle := h.pv.le (i := 3) (by omega) (by omega)
  have HN : Hid (∀ W, Turn (fun _ => False) wr W → Calls Tryd.prog 29 #[.pointer (some ⟨ab 3, 0, none⟩)] W (HandlesPost (MM 3) W)) := Lib.hid (fun W t => handlesS sortedAtS ⟨_, (h.a 3 (Or.inr rfl)).same t⟩ (by omega) (fun x hx => by have := h.pv.bound (i := 3) (by omega) (by omega) hx; omega))
  have LV : Hid (∀ W, Turn (fun _ => False) wr W → Calls Tryd.prog 20 #[.pointer (some ⟨ab 3, 0, none⟩)] W fun e w' => e = .returned (.int .i64 (nn 3 : Int)) ∧ W = w') := Lib.hid (fun W t => liveS ⟨_, (h.a 3 (Or.inr rfl)).same t⟩)
  have PH := Lib.hid (fun (xs : List Nat) (hm : ∀ x, x ∈ xs ↔ (MM 3 x).isSome = true) (hu : xs.Pairwise (· < ·)) => h.pv.handles (i := 3) (by omega) (by omega) hm hu)
  have c1 := h.hd.cell 2
  simp at c1
  have lx := h.hd.lt
  have HX := Lib.hid h.hd
  clear h
  obtain ⟨k, hk⟩ : ∃ k, k = nn 3 := ⟨_, rfl⟩
  rw [← hk] at hle LV PH ⊢
  clear hk
  go_enter Tryd.func27, Tryd.ntmps27
  go_wp2_with fail
  go_region_with (first
    | (go_at_call 29; refine (HN.out _ ((Turn.refl _ _).drew)).mono ?_; rintro e w3 ⟨A, cp, xs, w2, rfl, hm, hu, hto, ht⟩; have HM := Lib.hid (PH.out xs hm hu); have HT := Lib.hid (And.intro hto ht); have c3 : w3.cell? ⟨xb, 2, none⟩ = some (.pointer (some ⟨ab 3, 0, none⟩)) := by { have := (HX.out.turn (((Turn.refl (fun _ => False) wr).drew).trans ht) (fun h => h)).cell 2; simpa using this }; clear hm hu hto ht)
    | (go_at_call 20; refine (LV.out _ (((Turn.refl (fun _ => False) wr).drew).trans HT.out.2)).mono ?_; rintro e w4 ⟨rfl, rfl⟩))
  all_goals
    go_wp2_with fail
    go_ret2
    obtain ⟨e1, e2⟩ := HM.out
    obtain ⟨hto, ht⟩ := HT.out
    rw [e1] at hto
    refine ⟨A, cp, w2, by rw [e2]; rfl, ?_, ?_, ((Turn.refl (fun _ => False) wr).drew).trans ht⟩
    · rw [← e1, List.length_map, e2]
    · rw [e2] at hto; exact hto
end Go.Proofs.YtbdfbgkfhaiccaaDoor
