/-
  What is wanted of the answers of Put, Delete and Add; caps of a node that came in.
-/
import Derived.Test.YtengbkopihiiaaaWg
import Derived.Test.YtengbkopihiiaaaWNs
namespace Go.Proofs.Ytengbkopihiiaaa
open Go.RowKit Go.Lib
set_option linter.unusedVariables false
set_option maxRecDepth 20000
set_option linter.unusedSimpArgs false

section
variable {H : Type} {enc : TypeId × Value → H} {W : World}
theorem inC_of {fuel : Nat} {x : DataW H × List MemPlace} {cs : List Value} (hl : cs.length = 8) (h : DataW.trod enc Try.prog W 0 (fun _ => true) true fuel 29 cs = some x) (hs : Sz Try.prog 29 x.1) : ∃ n AK ck AV cv AD cd, cs = [.bool n.leaf, .slice AK n.keys.length ck, .slice AV n.vals.length cv, .slice AD n.kids.length cd, .string n.high, .bool n.bnd, .int .i64 n.nx.slot, .int .u64 n.nx.gen] ∧ InN W n AK AV AD ∧ n.keys.length ≤ ck ∧ n.kids.length ≤ cd := by
  obtain ⟨n, AK, ck, AV, cv, AD, cd, e, hin⟩ := inN_of hl h hs
  subst e
  obtain ⟨xs, n1, _, hx, _, hxl, hf⟩ := DataW.trod_struct Try.underlying29 h
  match xs, hxl with
  | [y0, y1, y2, y3, y4, y5, y6], _ =>
    have q1 : DataW.trod enc Try.prog W 0 (fun _ => true) true n1 23 (([Value.bool n.leaf, .slice AK n.keys.length ck, .slice AV n.vals.length cv, .slice AD n.kids.length cd, .string n.high, .bool n.bnd, .int .i64 n.nx.slot, .int .u64 n.nx.gen].drop 1).take (Try.prog.cellsOf 23)) = some y1 := hf 1 _ rfl
    have q3 : DataW.trod enc Try.prog W 0 (fun _ => true) true n1 24 (([Value.bool n.leaf, .slice AK n.keys.length ck, .slice AV n.vals.length cv, .slice AD n.kids.length cd, .string n.high, .bool n.bnd, .int .i64 n.nx.slot, .int .u64 n.nx.gen].drop 3).take (Try.prog.cellsOf 24)) = some y3 := hf 3 _ rfl
    rw [cells23] at q1
    rw [cells24] at q3
    exact ⟨n, AK, ck, AV, cv, AD, cd, rfl, hin, (open_row Try.underlying23 cells9 (by decide) q1).1, (open_row Try.underlying24 cells27 (by decide) q3).1⟩
end
theorem row_noneK {w : World} {A : Option Addr} {K : List ByteArray} (h : Row w A (kcs K)) (hA : A = none) : K.length = 0 := by
  cases K with
  | nil => rfl
  | cons k l => obtain ⟨b, o, h1, _⟩ := h 0 (.string k) rfl; rw [hA] at h1; cases h1
theorem row_noneH {w : World} {A : Option Addr} {D : List Hn} (h : Row w A (hcs D)) (hA : A = none) : D.length = 0 := by
  cases D with
  | nil => rfl
  | cons k l => obtain ⟨b, o, h1, _⟩ := h 0 (.int .i64 k.slot) rfl; rw [hA] at h1; cases h1
/-- What is wanted of a leaf: the block r, whose rows stay whatever is written into the block r22. -/
def Wn (wx : World) (r22 r : Nat) (leaf : Bool) (K V : List ByteArray) (D : List Hn) (high : ByteArray) (bnd : Bool) (sl ge : Int) (AD : Option Addr) (cd : Nat) : Prop := ∃ A ca B cb, At wx r (.cells #[.bool leaf, .slice A K.length ca, .slice B V.length cb, .slice AD D.length cd, .string high, .bool bnd, .int .i64 sl, .int .u64 ge] 29 (0, 0)) ∧ ∀ W, Turn (fun k => k = r22) wx W → Row W A (kcs K) ∧ Row W B (kcs V)
theorem wn_past {w wx w2 : World} {r r21 r22 : Nat} {leaf : Bool} {D : List Hn} {high : ByteArray} {bnd : Bool} {sl ge : Int} {AD : Option Addr} {cd : Nat} {L : List Pr} {c c2 : Array Value} (h : En w r leaf D high bnd sl ge AD cd L wx) (h21 : At wx r21 (.cells c 29 (0, 0))) (hne : r ≠ r21) (t : Turn (fun k => k = r21) wx w2) (h22 : At w2 r22 (.cells c2 29 (0, 0))) : Wn w2 r22 r leaf (L.map Pr.k) (L.map Pr.v) D high bnd sl ge AD cd := by
  obtain ⟨_, A, ca, B, cb, h1, h2, h3⟩ := h
  have k2 := own_grown h2 t fun k hk e => own_neG h2 h21 (by decide) (by rw [← e]; exact hk)
  have k3 := own_grown h3 t fun k hk e => own_neG h3 h21 (by decide) (by rw [← e]; exact hk)
  refine ⟨A, ca, B, cb, by rw [List.length_map, List.length_map]; exact h1.turn t hne, fun W t2 => ⟨row_of_own (own_grown k2 t2 fun k hk e => own_neG k2 h22 (by decide) (by rw [← e]; exact hk)), row_of_own (own_grown k3 t2 fun k hk e => own_neG k3 h22 (by decide) (by rw [← e]; exact hk))⟩⟩
theorem wn_of {w wx : World} {r r22 : Nat} {leaf : Bool} {D : List Hn} {high : ByteArray} {bnd : Bool} {sl ge : Int} {AD : Option Addr} {cd : Nat} {L : List Pr} {c2 : Array Value} (h : En w r leaf D high bnd sl ge AD cd L wx) (h22 : At wx r22 (.cells c2 29 (0, 0))) : Wn wx r22 r leaf (L.map Pr.k) (L.map Pr.v) D high bnd sl ge AD cd := by
  obtain ⟨_, A, ca, B, cb, h1, h2, h3⟩ := h
  exact ⟨A, ca, B, cb, by rw [List.length_map, List.length_map]; exact h1, fun W t2 => ⟨row_of_own (own_grown h2 t2 fun k hk e => own_neG h2 h22 (by decide) (by rw [← e]; exact hk)), row_of_own (own_grown h3 t2 fun k hk e => own_neG h3 h22 (by decide) (by rw [← e]; exact hk))⟩⟩
theorem ins_kcs (K : List ByteArray) (P : Nat) (k : ByteArray) : kcs (ins K P k) = kcs (K.take P) ++ [.string k] ++ kcs (K.drop P) := by
  unfold ins
  rw [kcs_append]
  simp [kcs]
theorem ins_hcs (D : List Hn) (P : Nat) (x : Hn) : hcs (ins D P x) = hcs (D.take P) ++ [.int .i64 x.slot, .int .u64 x.gen] ++ hcs (D.drop P) := by
  unfold ins
  rw [hcs_append, List.append_assoc]
  rfl
theorem Wr.lens {leaf : Bool} {K V : List ByteArray} {D : List Hn} {high : ByteArray} {bnd : Bool} {sl ge : Int} {key val : ByteArray} {kid : Hn} {lb ab : Bool} {was : ByteArray} {is : Bool} {KA VA KB VB KC : List ByteArray} {DC : List Hn} (h : Wr leaf K V D high bnd sl ge key val kid lb ab was is KA VA KB VB KC DC) :
    (KA.length ≤ K.length + 1 ∧ VA.length ≤ K.length + V.length + 1) ∧ (KB.length ≤ K.length ∧ VB.length ≤ K.length + V.length) ∧ KC.length ≤ K.length + 1 ∧ DC.length ≤ D.length + 1 := by
  have hz := zip_len K V
  have h1 : (KA.length ≤ K.length + 1 ∧ VA.length ≤ K.length + V.length + 1) ∧ (KB.length ≤ K.length ∧ VB.length ≤ K.length + V.length) := by
    cases lb with
    | true =>
      obtain ⟨_, ⟨rfl, rfl⟩, rfl, rfl⟩ := h.yes rfl
      have p1 := put_length (zipP K V) key val
      have p2 := del_length (zipP K V) key
      simp only [List.length_map]
      omega
    | false =>
      obtain ⟨_, _, ⟨rfl, rfl⟩, rfl, rfl⟩ := h.no rfl
      omega
  refine ⟨h1.1, h1.2, ?_⟩
  cases ab with
  | true =>
    obtain ⟨rfl, rfl⟩ := h.in_ rfl
    unfold ins
    simp only [List.length_append, List.length_cons, List.length_take, List.length_drop]
    omega
  | false =>
    obtain ⟨rfl, rfl⟩ := h.out rfl
    omega
/-- What is wanted of Add's answer: the block r22. -/
def Wc (wx : World) (r : Nat) (leaf : Bool) (K V : List ByteArray) (D : List Hn) (high : ByteArray) (bnd : Bool) (sl ge : Int) : Prop := ∃ X x1 Y x2 Z x3, At wx r (.cells #[.bool leaf, .slice X K.length x1, .slice Y V.length x2, .slice Z D.length x3, .string high, .bool bnd, .int .i64 sl, .int .u64 ge] 29 (0, 0)) ∧ Row wx X (kcs K) ∧ Row wx Y (kcs V) ∧ Row wx Z (hcs D)
theorem zip_fit {w : World} {n : Nd} {AK AV AD : Option Addr} (h : In w n AK AV AD) (hl : n.vals.length = n.keys.length) : ∀ p ∈ zipP n.keys n.vals, Fit p.k := fun p hp => by
  have := List.mem_map_of_mem (f := Pr.k) hp
  rw [(zip_keys hl).1] at this
  exact h.fk _ this
end Go.Proofs.Ytengbkopihiiaaa
