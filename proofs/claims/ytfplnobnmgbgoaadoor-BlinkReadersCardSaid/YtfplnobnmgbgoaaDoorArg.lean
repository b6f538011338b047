/-
  Rows of acts that came in.
-/
import Derived.Test.YtfplnobnmgbgoaaDoorJ18
import Derived.Test.YtfplnobnmgbgoaaDoorJ4
import Derived.ProofKit
import Derived.Deep.Slices
import Derived.Deep.Fields
import Derived.ChangeSame
import Derived.SizedLaws
namespace Go.Proofs.YtfplnobnmgbgoaaDoor
open Go.RowKit Go.Lib
set_option linter.unusedVariables false
set_option maxRecDepth 20000
set_option linter.unusedSimpArgs false


open Go.ChangeShapes Go.WideShapes Go.Deep
/-- A row of acts that came in. -/
def ActsIn (W : World) (A : Option Addr) (len : Nat) : Prop := ∃ K : List Ac, K.length = len ∧ K.length ≤ 9223372036854775807 ∧ Row W A (acs K) ∧ ∀ k ∈ K, Fit k.k ∧ Fit k.v
theorem cellsAC : Tryd.prog.cellsOf 51 = 4 := by kernel_rfl
section
variable {H : Type} {enc : TypeId × Value → H} {W : World}
theorem decode_act {n : Nat} {cs : List Value} {D : DataW H × List MemPlace} (hl : cs.length = 4) (h : DataW.trod enc Tryd.prog W 0 (fun _ => true) true n 51 cs = some D) : ∃ x : Ac, cs = x.cs ∧ (Sz Tryd.prog 51 D.1 → Fit x.k ∧ Fit x.v) := by
  obtain ⟨xs, n1, _, hx, _, hxl, hf⟩ := DataW.trod_struct Tryd.underlying51 h
  match cs, hl with
  | [v0, v1, v2, v3], _ =>
    match xs, hxl with
    | [y0, y1, y2, y3], _ =>
      have q0 : DataW.trod enc Tryd.prog W 0 (fun _ => true) true n1 3 (([v0, v1, v2, v3].drop 0).take (Tryd.prog.cellsOf 3)) = some y0 := hf 0 _ rfl
      have q1 : DataW.trod enc Tryd.prog W 0 (fun _ => true) true n1 9 (([v0, v1, v2, v3].drop 1).take (Tryd.prog.cellsOf 9)) = some y1 := hf 1 _ rfl
      have q2 : DataW.trod enc Tryd.prog W 0 (fun _ => true) true n1 9 (([v0, v1, v2, v3].drop 2).take (Tryd.prog.cellsOf 9)) = some y2 := hf 2 _ rfl
      have q3 : DataW.trod enc Tryd.prog W 0 (fun _ => true) true n1 4 (([v0, v1, v2, v3].drop 3).take (Tryd.prog.cellsOf 4)) = some y3 := hf 3 _ rfl
      rw [cells3] at q0
      rw [cells9] at q1 q2
      rw [cells4] at q3
      obtain ⟨d, e0, _⟩ := DataW.trod_int Tryd.underlying3 q0
      obtain ⟨k, e1, d1, _⟩ := DataW.trod_string Tryd.underlying9 q1
      obtain ⟨v, e2, d2, _⟩ := DataW.trod_string Tryd.underlying9 q2
      obtain ⟨g, e3, _⟩ := DataW.trod_bool Tryd.underlying4 q3
      simp at e0 e1 e2 e3
      subst e0 e1 e2 e3
      refine ⟨⟨d, k, v, g⟩, rfl, fun hs => ?_⟩
      subst hx d1 d2
      exact ⟨(Sz.part Tryd.underlying51 hs (i := 1) rfl rfl).text, (Sz.part Tryd.underlying51 hs (i := 2) rfl rfl).text⟩
theorem acts_of {fuel : Nat} {A : Option Addr} {len cap : Nat} {x : DataW H × List MemPlace} (h : DataW.trod enc Tryd.prog W 0 (fun _ => true) true fuel 48 [.slice A len cap] = some x) (hs : Sz Tryd.prog 48 x.1) : ActsIn W A len := by
  obtain ⟨_, hm, hi⟩ := open_row Tryd.underlying48 cellsAC (by decide) h
  obtain ⟨K, hwl, hwp⟩ := list_of (fun i (x : Ac) => (Fit x.k ∧ Fit x.v) ∧ ∃ b o, A = some ⟨b, o, none⟩ ∧ b < W.heap.size ∧ ∀ j u, x.cs[j]? = some u → W.cell? ⟨b, o + i * 4 + j, none⟩ = some u) len (fun i hlt => by
    obtain ⟨cs, n, D, hcl, htr, hsz, hcell⟩ := hi i hlt
    obtain ⟨x, rfl, hx⟩ := decode_act hcl htr
    exact ⟨x, hx (hsz hs), hcell⟩)
  have hr := row_of_parts Ac.cs 4 (by decide) (fun _ => rfl) (fun i x hx => (hwp i x hx).2)
  refine ⟨K, hwl, by unfold maxLen at hm; omega, hr, fun x hx => ?_⟩
  obtain ⟨j, hj⟩ := List.mem_iff_getElem?.1 hx
  exact (hwp j x hj).1
end
theorem cellsWX : Tryd.prog.cellsOf 26 = 3 := by kernel_rfl
theorem cellsU8 : Tryd.prog.cellsOf 5 = 1 := by kernel_rfl
/-- A row of writes that came in. -/
def WritesIn (W : World) (A : Option Addr) (len cap : Nat) : Prop := ∃ K : List Wx, K.length = len ∧ (K.length ≤ 9223372036854775807 ∧ K.length ≤ cap) ∧ Row W A (xcs K) ∧ ∀ k ∈ K, Fit k.k ∧ Fit k.v
/-- A row of bytes that came in. -/
def BytesIn (W : World) (A : Option Addr) (len cap : Nat) : Prop := ∃ K : List Nat, K.length = len ∧ (K.length ≤ 9223372036854775807 ∧ K.length ≤ cap) ∧ Row W A (K.map fun (x : Nat) => Value.int .u8 (x : Int)) ∧ ∀ x ∈ K, x < 256
section
variable {H : Type} {enc : TypeId × Value → H} {W : World}
theorem decode_wx {n : Nat} {cs : List Value} {D : DataW H × List MemPlace} (hl : cs.length = 3) (h : DataW.trod enc Tryd.prog W 0 (fun _ => true) true n 26 cs = some D) : ∃ x : Wx, cs = x.cs ∧ (Sz Tryd.prog 26 D.1 → Fit x.k ∧ Fit x.v) := by
  obtain ⟨xs, n1, _, hx, _, hxl, hf⟩ := DataW.trod_struct Tryd.underlying26 h
  match cs, hl with
  | [v0, v1, v2], _ =>
    match xs, hxl with
    | [y0, y1, y2], _ =>
      have q0 : DataW.trod enc Tryd.prog W 0 (fun _ => true) true n1 9 (([v0, v1, v2].drop 0).take (Tryd.prog.cellsOf 9)) = some y0 := hf 0 _ rfl
      have q1 : DataW.trod enc Tryd.prog W 0 (fun _ => true) true n1 9 (([v0, v1, v2].drop 1).take (Tryd.prog.cellsOf 9)) = some y1 := hf 1 _ rfl
      have q2 : DataW.trod enc Tryd.prog W 0 (fun _ => true) true n1 4 (([v0, v1, v2].drop 2).take (Tryd.prog.cellsOf 4)) = some y2 := hf 2 _ rfl
      rw [cells9] at q0 q1
      rw [cells4] at q2
      obtain ⟨k, e0, d0, _⟩ := DataW.trod_string Tryd.underlying9 q0
      obtain ⟨v, e1, d1, _⟩ := DataW.trod_string Tryd.underlying9 q1
      obtain ⟨g, e2, _⟩ := DataW.trod_bool Tryd.underlying4 q2
      simp at e0 e1 e2
      subst e0 e1 e2
      refine ⟨⟨k, v, g⟩, rfl, fun hs => ?_⟩
      subst hx d0 d1
      exact ⟨(Sz.part Tryd.underlying26 hs (i := 0) rfl rfl).text, (Sz.part Tryd.underlying26 hs (i := 1) rfl rfl).text⟩
theorem writes_of {fuel : Nat} {A : Option Addr} {len cap : Nat} {x : DataW H × List MemPlace} (h : DataW.trod enc Tryd.prog W 0 (fun _ => true) true fuel 22 [.slice A len cap] = some x) (hs : Sz Tryd.prog 22 x.1) : WritesIn W A len cap := by
  obtain ⟨hcap, hm, hi⟩ := open_row Tryd.underlying22 cellsWX (by decide) h
  obtain ⟨K, hwl, hwp⟩ := list_of (fun i (x : Wx) => (Fit x.k ∧ Fit x.v) ∧ ∃ b o, A = some ⟨b, o, none⟩ ∧ b < W.heap.size ∧ ∀ j u, x.cs[j]? = some u → W.cell? ⟨b, o + i * 3 + j, none⟩ = some u) len (fun i hlt => by
    obtain ⟨cs, n, D, hcl, htr, hsz, hcell⟩ := hi i hlt
    obtain ⟨x, rfl, hx⟩ := decode_wx hcl htr
    exact ⟨x, hx (hsz hs), hcell⟩)
  have hr := row_of_parts Wx.cs 3 (by decide) (fun _ => rfl) (fun i x hx => (hwp i x hx).2)
  refine ⟨K, hwl, ⟨by unfold maxLen at hm; omega, by omega⟩, hr, fun x hx => ?_⟩
  obtain ⟨j, hj⟩ := List.mem_iff_getElem?.1 hx
  exact (hwp j x hj).1
theorem u8_of {i : Int} (h : (Lit.int .u8 i).wf = true) : ∃ n : Nat, i = (n : Int) ∧ n < 256 := by
  have h' : IntKind.u8.min ≤ i ∧ i ≤ IntKind.u8.max := by simpa [Lit.wf] using h
  have e1 : IntKind.u8.min = 0 := by decide
  have e2 : IntKind.u8.max = 255 := by decide
  exact ⟨i.toNat, by omega, by omega⟩
theorem bytes_flat : ∀ K : List Nat, K.flatMap (fun x : Nat => [Value.int .u8 (x : Int)]) = K.map fun (x : Nat) => Value.int .u8 (x : Int)
  | [] => rfl
  | x :: K => by rw [List.flatMap_cons, bytes_flat K]; rfl
theorem bytes_of {fuel : Nat} {A : Option Addr} {len cap : Nat} {x : DataW H × List MemPlace} (h : DataW.trod enc Tryd.prog W 0 (fun _ => true) true fuel 23 [.slice A len cap] = some x) (hs : Sz Tryd.prog 23 x.1) : BytesIn W A len cap := by
  obtain ⟨hcap, hm, hi⟩ := open_row Tryd.underlying23 cellsU8 (by decide) h
  obtain ⟨K, hwl, hwp⟩ := list_of (fun i (x : Nat) => x < 256 ∧ ∃ b o, A = some ⟨b, o, none⟩ ∧ b < W.heap.size ∧ ∀ j u, [Value.int .u8 (x : Int)][j]? = some u → W.cell? ⟨b, o + i * 1 + j, none⟩ = some u) len (fun i hlt => by
    obtain ⟨cs, n, D, hcl, htr, hsz, hcell⟩ := hi i hlt
    match cs, hcl with
    | [v0], _ =>
      obtain ⟨y, e0, _, wy⟩ := DataW.trod_int Tryd.underlying5 htr
      simp at e0
      subst e0
      obtain ⟨m, rfl, hm⟩ := u8_of wy
      exact ⟨m, hm, hcell⟩)
  have hr := row_of_parts (fun x : Nat => [Value.int .u8 (x : Int)]) 1 (by decide) (fun _ => rfl) (fun i x hx => (hwp i x hx).2)
  rw [bytes_flat] at hr
  refine ⟨K, hwl, ⟨by unfold maxLen at hm; omega, by omega⟩, hr, fun x hx => ?_⟩
  obtain ⟨j, hj⟩ := List.mem_iff_getElem?.1 hx
  exact (hwp j x hj).1
end
end Go.Proofs.YtfplnobnmgbgoaaDoor
