/-
  What is asked of the program's Find; the law's value over it.
-/
import Derived.Test.YtengbkopihiiaaaWNn
namespace Go.Proofs.Ytengbkopihiiaaa
open Go.RowKit Go.Lib
set_option linter.unusedVariables false
set_option maxRecDepth 20000
set_option maxRecDepth 20000
set_option linter.unusedSimpArgs false

/-- A row of keys may be asked of: it is read, small, fit. -/
def FindC : Prop := ∀ (leaf : Bool) (K : List ByteArray) (nv nd : Nat) (high : ByteArray) (bnd : Bool) (slot gen : Int) (AK AV AD : Option Addr) (ck cv cd : Nat) (key : ByteArray) (w : World), Row w AK (kcs K) → (∀ k ∈ K, Fit k) → Fit key → K.length ≤ 100000 →
  Calls Try.prog 11 #[.agg #[.bool leaf, .slice AK K.length ck, .slice AV nv cv, .slice AD nd cd, .string high, .bool bnd, .int .i64 slot, .int .u64 gen], .string key] w fun e w' => e = .returned (.tuple #[.int .i64 (plc K key : Int), .bool (inK K key)]) ∧ Turn No w w'
/-- What value answers. -/
def valT (K V : List ByteArray) (key : ByteArray) : Value := if inK K key = true ∧ plc K key < V.length then .tuple #[.string (V.getD (plc K key) ⟨#[]⟩), .bool true] else .tuple #[.string ⟨#[]⟩, .bool false]
set_option maxRecDepth 100000 in
set_option maxHeartbeats 8000000 in
theorem value_any (hF : FindC) (leaf : Bool) (K V : List ByteArray) (nd : Nat) (high : ByteArray) (bnd : Bool) (slot gen : Int) (AK AV AD : Option Addr) (ck cv cd : Nat) (key : ByteArray) (w : World) (hK : Row w AK (kcs K)) (hV : Row w AV (kcs V)) (hf : ∀ k ∈ K, Fit k) (hk : Fit key) (n1 : K.length ≤ 100000) (n2 : V.length ≤ 100000) :
    Calls Try.prog 36 #[.agg #[.bool leaf, .slice AK K.length ck, .slice AV V.length cv, .slice AD nd cd, .string high, .bool bnd, .int .i64 slot, .int .u64 gen], .string key] w fun e w' => e = .returned (valT K V key) ∧ Turn No w w' := by
  have t1 : Turn No w (w.alloc (.cells #[.bool leaf, .slice AK K.length ck, .slice AV V.length cv, .slice AD nd cd, .string high, .bool bnd, .int .i64 slot, .int .u64 gen] 29)) := (Turn.refl _ _).alloc _
  have HB : Hid (Turn No w (w.alloc (.cells #[.bool leaf, .slice AK K.length ck, .slice AV V.length cv, .slice AD nd cd, .string high, .bool bnd, .int .i64 slot, .int .u64 gen] 29)) ∧ At (w.alloc (.cells #[.bool leaf, .slice AK K.length ck, .slice AV V.length cv, .slice AD nd cd, .string high, .bool bnd, .int .i64 slot, .int .u64 gen] 29)) w.heap.size (.cells #[.bool leaf, .slice AK K.length ck, .slice AV V.length cv, .slice AD nd cd, .string high, .bool bnd, .int .i64 slot, .int .u64 gen] 29 (0, 0))) := Lib.hid ⟨t1, At.new _ _⟩
  have HF := Lib.hid (hF leaf K V.length nd high bnd slot gen AK AV AD ck cv cd key _ (hK.no t1) hf hk n1)
  have HR := Lib.hid hV
  obtain ⟨T, hT⟩ : ∃ x, valT K V key = x := ⟨_, rfl⟩
  have HT := Lib.hid hT
  rw [hT]
  obtain ⟨P, hP⟩ : ∃ x, plc K key = x := ⟨_, rfl⟩
  obtain ⟨Q, hQ⟩ : ∃ x, inK K key = x := ⟨_, rfl⟩
  rw [hP, hQ] at HF
  have HPQ := Lib.hid (And.intro hP hQ)
  have HPn := Lib.hid (hP ▸ plc_le K key)
  clear t1 hK hV hf hT hP hQ
  go_enter Try.func36, Try.ntmps36
  go_upto_region 1 with fail
  generalize w.alloc (.cells #[.bool leaf, .slice AK K.length ck, .slice AV V.length cv, .slice AD nd cd, .string high, .bool bnd, .int .i64 slot, .int .u64 gen] 29) = w1 at HB HF ⊢
  generalize w.heap.size = g at HB ⊢
  have c0 := HB.out.2.cell 0
  have c1 := HB.out.2.cell 1
  have c2 := HB.out.2.cell 2
  have c3 := HB.out.2.cell 3
  have c4 := HB.out.2.cell 4
  have c5 := HB.out.2.cell 5
  have c6 := HB.out.2.cell 6
  have c7 := HB.out.2.cell 7
  simp at c0 c1 c2 c3 c4 c5 c6 c7
  go_wp2_with fail
  with_reducible refine HF.out.mono ?_
  rintro e w2 ⟨rfl, ht⟩
  have H2 := Lib.hid ht
  clear ht c0 c1 c2 c3 c4 c5 c6 c7 HF
  have c2 := (HB.out.2.no H2.out).cell 2
  simp at c2
  have HPi : (0 : Int) ≤ (P : Int) := by omega
  have HPl := HPn.out
  cases Q with
  | false =>
    have HE : Hid (T = .tuple #[.string ⟨#[]⟩, .bool false]) := Lib.hid (by rw [← HT.out, valT, if_neg (fun h => by rw [HPQ.out.2] at h; cases h.1)])
    go_wp2_with fail
    go_ret2
    exact ⟨by rw [HE.out]; rfl, HB.out.1.trans H2.out⟩
  | true =>
    by_cases hlt : P < V.length
    · have q1 : ¬ (V.length : Int) ≤ (P : Int) := by omega
      have q2 : (P : Int) < (V.length : Int) := by omega
      obtain ⟨x, hx⟩ : ∃ u, V[P]? = some u := ⟨V[P], List.getElem?_eq_getElem hlt⟩
      have HE : Hid (T = .tuple #[.string x, .bool true]) := Lib.hid (by rw [← HT.out, valT, HPQ.out.1, HPQ.out.2, if_pos ⟨rfl, hlt⟩, List.getD_eq_getElem?_getD, hx]; rfl)
      obtain ⟨b, o, hB, hc⟩ := kcs_hold (HR.out.no (HB.out.1.trans H2.out)) hx
      have x0 := hc w2 (Turn.refl _ _)
      subst hB
      clear hc hx
      go_wp2_with fail
      go_ret2
      exact ⟨by rw [HE.out]; rfl, HB.out.1.trans H2.out⟩
    · have q1 : (V.length : Int) ≤ (P : Int) := by omega
      have HE : Hid (T = .tuple #[.string ⟨#[]⟩, .bool false]) := Lib.hid (by rw [← HT.out, valT, if_neg (fun h => hlt (by rw [HPQ.out.1] at h; exact h.2))])
      go_wp2_with fail
      go_ret2
      exact ⟨by rw [HE.out]; rfl, HB.out.1.trans H2.out⟩
end Go.Proofs.Ytengbkopihiiaaa
