/-
  OmapApart: an operation leaves alone what it does not name, and two operations that name no key, both, may be done in either row; for every row of pairs and every two operations that came in.
-/
import Derived.Test.YtjjmooegpoeomaaRows
import Derived.WalkKit
import Derived.ProofKit
import Derived.OpenShut
import Derived.ShutString
import Derived.ChangeOld
import Derived.Below
import Derived.SizedLaws
import Derived.Test.YtjjmooegpoeomaaArgs
import Derived.Test.YtjjmooegpoeomaaWApt
namespace Go.Proofs.Ytjjmooegpoeomaa.omapApart
open Go.ChangeShapes Go.WideShapes Go.ChangeAt Go.RowKit
open Go.Proofs.Ytjjmooegpoeomaa
open Go.ChangeMaps (open_string shut_string)
set_option linter.unusedVariables false

theorem own : ownKnob Try.prog.godebug = none := by kernel_rfl
theorem laidOut : laidOutB Try.prog = true := by kernel_rfl

set_option maxRecDepth 100000 in
theorem lifted (os : Go.Os) (started : os.Started) (H : Type) (enc : TypeId × Value → H) :
    ReturnsInHanded {} Try.checked os 8 .any (Rows.omapApartSpec.pre6 enc Try.prog Try.f8 Rows.omapApartRow.domain false) (Rows.omapApartSpec.post enc Try.prog Try.f8 false true false false) := by
  refine returnsInHanded_of_change_sized (C := Try.checked) own started (by kernel_rfl) Try.func8
    (ChangeSpec.witness6 (enc := enc) (C := Try.checked) false ⟨#[], #[.slice none 0 0, .agg #[.int .u8 0, .string ⟨#[]⟩, .string ⟨#[]⟩, .string ⟨#[]⟩, .bool false, .bool false, .slice none 0 0], .agg #[.int .u8 0, .string ⟨#[]⟩, .string ⟨#[]⟩, .string ⟨#[]⟩, .bool false, .bool false, .slice none 0 0]], []⟩ 8 (by kernel_rfl) (by kernel_rfl) (by kernel_rfl) (by kernel_rfl)) ?_
  intro W base args ds gs before hval0 hW hcnd hsz0 _
  have hsz : (DataW.weightsEach Try.prog (Try.f8.params.toList ++ Rows.omapApartSpec.plain.varTypes Try.prog) (ds ++ gs)).all (· ≤ reachBytes) = true := hsz0
  have hval : ∀ (j : Nat) t v, Try.f8.params[j]? = some t → args[j]? = some v → Value.okWide Try.prog W .any base t v := hval0
  have hW' := hW
  obtain ⟨p, q, hA0, hV, rfl, hfz, hnd⟩ := hW
  have hA : DataW.TrodAll enc Try.prog W 0 (fun _ => true) true Try.f8.params.toList args.toList ds p := hA0
  rw [Try.params8] at hA hval hsz
  obtain ⟨v0, vs0, d0, ds0, p0, q0, hargs, rfl, rfl, h0, r0⟩ := trodAll_cons hA
  obtain ⟨v1, vs1, d1, ds1, p1, q1, rfl, rfl, rfl, h1, r1⟩ := trodAll_cons r0
  obtain ⟨v2, vs2, d2, ds2, p2, q2, rfl, rfl, rfl, h2, r2⟩ := trodAll_cons r1
  obtain ⟨rfl, rfl, rfl⟩ := trodAll_nil r2
  obtain rfl : args = #[v0, v1, v2] := by cases args; simp_all
  obtain ⟨rfl, rfl⟩ := trodVars_none hV
  obtain ⟨a0, len0, cap0, rfl⟩ := okWide_slice Try.underlying22 (hval 0 22 v0 rfl rfl)
  have k0 := h0
  have lt0 : ∀ x ∈ p0, x.block < W.heap.size := by obtain ⟨m, hm⟩ := k0; exact DataW.trod_lt m _ _ _ hm
  have sz0 : Sz Try.prog 22 d0 := fun n hn => by
    have := List.all_eq_true.1 hsz n (DataW.weights_mem_each (j := 0) (t := 22) rfl rfl n hn)
    simpa using this
  have w0 : ∃ l, InP W a0 len0 cap0 l := by
    obtain ⟨fuel, hf⟩ := h0
    exact inP_of hf sz0
  obtain ⟨l0, hin0⟩ := w0
  obtain rfl : l0.length = len0 := hin0.hlen
  obtain ⟨cs1, rfl, hz1⟩ := okWide_struct Try.underlying39 (hval 1 39 v1 rfl rfl)
  have hl1 : cs1.toList.length = 7 := by rw [Array.length_toList, hz1, cells39]
  have k1 := h1
  have lt1 : ∀ x ∈ p1, x.block < W.heap.size := by obtain ⟨m, hm⟩ := k1; exact DataW.trod_lt m _ _ _ hm
  have sz1 : Sz Try.prog 39 d1 := fun n hn => by
    have := List.all_eq_true.1 hsz n (DataW.weights_mem_each (j := 1) (t := 39) rfl rfl n hn)
    simpa using this
  have w1 : ∃ o ws, cs1.toList = o.cs ∧ InO W o ws := by
    obtain ⟨fuel, hf⟩ := h1
    exact inO_of hl1 hf sz1
  obtain ⟨⟨kd1, ok1, ov1, oo1, oh1, oa1, A1, ln1, cp1⟩, ws1, hcs1, hin1⟩ := w1
  obtain rfl : cs1 = #[.int .u8 kd1, .string ok1, .string ov1, .string oo1, .bool oh1, .bool oa1, .slice A1 ln1 cp1] := by
    apply Array.ext'
    rw [hcs1]
    rfl
  obtain rfl : ws1.length = ln1 := hin1.row.hlen
  obtain ⟨cs2, rfl, hz2⟩ := okWide_struct Try.underlying39 (hval 2 39 v2 rfl rfl)
  have hl2 : cs2.toList.length = 7 := by rw [Array.length_toList, hz2, cells39]
  have k2 := h2
  have lt2 : ∀ x ∈ p2, x.block < W.heap.size := by obtain ⟨m, hm⟩ := k2; exact DataW.trod_lt m _ _ _ hm
  have sz2 : Sz Try.prog 39 d2 := fun n hn => by
    have := List.all_eq_true.1 hsz n (DataW.weights_mem_each (j := 2) (t := 39) rfl rfl n hn)
    simpa using this
  have w2 : ∃ o ws, cs2.toList = o.cs ∧ InO W o ws := by
    obtain ⟨fuel, hf⟩ := h2
    exact inO_of hl2 hf sz2
  obtain ⟨⟨kd2, ok2, ov2, oo2, oh2, oa2, A2, ln2, cp2⟩, ws2, hcs2, hin2⟩ := w2
  obtain rfl : cs2 = #[.int .u8 kd2, .string ok2, .string ov2, .string oo2, .bool oh2, .bool oa2, .slice A2 ln2 cp2] := by
    apply Array.ext'
    rw [hcs2]
    rfl
  obtain rfl : ws2.length = ln2 := hin2.row.hlen
  clear hA0 hval0
  refine (apart_any a0 cap0 l0 kd1 ok1 ov1 oo1 oh1 oa1 A1 cp1 ws1 kd2 ok2 ov2 oo2 oh2 oa2 A2 cp2 ws2 W hin0 hin1 hin2).mono fun e W' he0 => ?_
  obtain ⟨he, bel⟩ := ends_true he0
  subst he
  exact ⟨_, rfl, _, _, _, [], _, [], hW', trodAll_mk1 (shut_bool Try.underlying4 _), (trodAll_cons_mk (Below.trod laidOut (by kernel_rfl) (of_decide_eq_true (by kernel_rfl)) k0 bel lt0) (trodAll_cons_mk (Below.trod laidOut (by kernel_rfl) (of_decide_eq_true (by kernel_rfl)) k1 bel lt1) (trodAll_cons_mk (Below.trod laidOut (by kernel_rfl) (of_decide_eq_true (by kernel_rfl)) k2 bel lt2) trodAll_mk0))), rfl, bel.frame _, fun h => by cases h⟩

theorem over : Rows.omapApartRow.holds Try.pinned (OpenSpec.ofChange Rows.omapApartSpec) :=
  OpenClaim.holds_of_wide 8 Try.f8 rfl rfl rfl rfl rfl rfl rfl ⟨rfl, rfl, rfl, rfl, rfl⟩ rfl rfl rfl rfl rfl (by kernel_rfl) Try.func8 (by kernel_rfl)
    (of_decide_eq_true (by kernel_rfl)) (by unfold Func.isWrapper; first | (rw [if_pos (by decide +kernel)]; kernel_rfl) | (rw [if_neg (by decide +kernel)]; exact ⟨rfl, rfl⟩))
    (fun os started H enc _ => lifted os started H enc)

theorem proved : Rows.OmapApartSaid := over
#print axioms proved
end Go.Proofs.Ytjjmooegpoeomaa.omapApart
