/-
  The law's spoil: writes over what an answer has.
-/
import Derived.Test.YtengbkopihiiaaaWNk
namespace Go.Proofs.Ytengbkopihiiaaa
open Go.RowKit Go.Lib
set_option linter.unusedVariables false
set_option maxRecDepth 20000
set_option maxRecDepth 20000
set_option linter.unusedSimpArgs false

/-- A row that may be written over: at any place of its block. -/
def Wt (w : World) (t s : Nat) (A : Option Addr) (n : Nat) : Prop := n = 0 ∨ ∃ b off cur, A = some ⟨b, off, none⟩ ∧ At w b (.cells cur t (0, 0)) ∧ off + n * s ≤ cur.size
theorem wt_own {w : World} {Z t s n c : Nat} {A : Option Addr} {xs : List Value} (h : w.ownsRow Z t s (.slice A n c) n xs) : Wt w t s A n := by
  rcases h.2 with ⟨hv, hn⟩ | ⟨g, cap, cur, hv, hb, hg, hn, hc, hs, ht⟩
  · exact Or.inl hn
  · injection hv with hA _ hcap
    subst hA hcap
    refine Or.inr ⟨g, 0, cur, rfl, hg, ?_⟩
    rw [hs, Nat.zero_add]
    exact Nat.mul_le_mul_right s hn
theorem Wt.no {w w' : World} {t s n : Nat} {A : Option Addr} (h : Wt w t s A n) (tn : Turn No w w') : Wt w' t s A n := by
  rcases h with h | ⟨b, off, cur, hA, hat, hs⟩
  · exact Or.inl h
  · exact Or.inr ⟨b, off, cur, hA, hat.no tn, hs⟩
theorem Wt.set {w : World} {t s n : Nat} {A : Option Addr} (h : Wt w t s A n) (g o : Nat) (v : Value) : Wt (w.setCell ⟨g, o, none⟩ v) t s A n := by
  rcases h with h | ⟨b, off, cur, hA, hat, hs⟩
  · exact Or.inl h
  · by_cases e : g = b
    · subst e
      exact Or.inr ⟨g, off, cur.setIfInBounds o v, hA, hat.set o v, by simpa using hs⟩
    · exact Or.inr ⟨b, off, cur, hA, hat.turn (Turn.set1 w g o v) fun h => e h.symm, hs⟩
theorem Wt.at_ {w : World} {t s n i : Nat} {A : Option Addr} (h : Wt w t s A n) (hi : i < n * s) : ∃ b off cur u, A = some ⟨b, off, none⟩ ∧ ablk A = some b ∧ At w b (.cells cur t (0, 0)) ∧ (∀ j, j < n * s → ∃ u, cur[off + j]? = some u) ∧ cur[off + i]? = some u := by
  rcases h with h | ⟨b, off, cur, hA, hat, hs⟩
  · subst h
    rw [Nat.zero_mul] at hi
    omega
  · have hall : ∀ j, j < n * s → ∃ u, cur[off + j]? = some u := fun j hj => ⟨cur[off + j]'(by omega), Array.getElem?_eq_getElem (by omega)⟩
    obtain ⟨u, hu⟩ := hall i hi
    exact ⟨b, off, cur, u, hA, by rw [hA]; rfl, hat, hall, hu⟩
/-- What stands while an answer is spoilt. -/
structure Sp (w wr : World) (g : Nat) (node : Array Value) (nk : Nat) (AK : Option Addr) (ck : Nat) (nv : Nat) (AV : Option Addr) (cv : Nat) (nd : Nat) (AD : Option Addr) (cd : Nat) : Prop where
  tu : Turn (fun k => ablk AK = some k ∨ ablk AV = some k ∨ ablk AD = some k) w wr
  ob : At wr g (.cells node 29 (0, 0))
  k : Wt wr 9 1 AK nk
  v : Wt wr 9 1 AV nv
  d : Wt wr 27 2 AD nd
theorem Sp.set {w wr : World} {g : Nat} {node : Array Value} {nk nv nd ck cv cd : Nat} {AK AV AD : Option Addr} (h : Sp w wr g node nk AK ck nv AV cv nd AD cd) {b t : Nat} {cur : Array Value} (hb : At wr b (.cells cur t (0, 0))) (ht : t ≠ 29) (hX : ablk AK = some b ∨ ablk AV = some b ∨ ablk AD = some b) (o : Nat) (v : Value) :
    Sp w (wr.setCell ⟨b, o, none⟩ v) g node nk AK ck nv AV cv nd AD cd := by
  have s1 := Turn.set1 wr b o v
  refine ⟨h.tu.trans (s1.mono fun k _ e => by rw [e]; exact hX), h.ob.turn s1 fun e => ?_, h.k.set b o v, h.v.set b o v, h.d.set b o v⟩
  have e2 := h.ob.eq (e ▸ hb)
  injection e2 with _ e3 _
  exact ht e3.symm
set_option maxRecDepth 100000 in
set_option maxHeartbeats 8000000 in
theorem spoil_any (leaf : Bool) (nk nv nd : Nat) (high : ByteArray) (bnd : Bool) (slot gen : Int) (AK AV AD : Option Addr) (ck cv cd : Nat) (w : World) (hK : Wt w 9 1 AK nk) (hV : Wt w 9 1 AV nv) (hD : Wt w 27 2 AD nd) (n1 : nk ≤ 100000) (n2 : nv ≤ 100000) (n3 : nd ≤ 100000) :
    Calls Try.prog 35 #[.agg #[.bool leaf, .slice AK nk ck, .slice AV nv cv, .slice AD nd cd, .string high, .bool bnd, .int .i64 slot, .int .u64 gen]] w fun e w' => e = .returned (.tuple #[]) ∧ Turn (fun k => ablk AK = some k ∨ ablk AV = some k ∨ ablk AD = some k) w w' := by
  have tn : Turn No w (w.alloc (.cells #[.bool leaf, .slice AK nk ck, .slice AV nv cv, .slice AD nd cd, .string high, .bool bnd, .int .i64 slot, .int .u64 gen] 29)) := (Turn.refl _ _).alloc _
  have HB : Hid (Sp w (w.alloc (.cells #[.bool leaf, .slice AK nk ck, .slice AV nv cv, .slice AD nd cd, .string high, .bool bnd, .int .i64 slot, .int .u64 gen] 29)) w.heap.size #[.bool leaf, .slice AK nk ck, .slice AV nv cv, .slice AD nd cd, .string high, .bool bnd, .int .i64 slot, .int .u64 gen] nk AK ck nv AV cv nd AD cd) := Lib.hid ⟨tn.mono fun _ _ h => False.elim h, At.new _ _, hK.no tn, hV.no tn, hD.no tn⟩
  clear hK hV hD tn
  go_enter Try.func35, Try.ntmps35
  go_upto_region 1 with fail
  obtain ⟨w1, hw1⟩ : ∃ x, w.alloc (.cells #[.bool leaf, .slice AK nk ck, .slice AV nv cv, .slice AD nd cd, .string high, .bool bnd, .int .i64 slot, .int .u64 gen] 29) = x := ⟨_, rfl⟩
  obtain ⟨g, hg⟩ : ∃ x, w.heap.size = x := ⟨_, rfl⟩
  rw [hw1, hg] at HB
  rw [hw1, hg]
  clear hw1 hg
  go_wp2_with fail
  go_loopw [2] (fun x wr => ∃ i : Nat, i ≤ nk ∧ x = .int .i64 (i : Int) ∧ Hid (Sp w wr g #[.bool leaf, .slice AK nk ck, .slice AV nv cv, .slice AD nd cd, .string high, .bool bnd, .int .i64 slot, .int .u64 gen] nk AK ck nv AV cv nd AD cd)) (fun x _ => nk - (RowKit.intOf x).toNat)
  case atStart => exact ⟨0, Nat.zero_le _, rfl, HB⟩
  case round =>
    obtain ⟨i, hi, rfl, HP⟩ := hrel
    have c1 : wr.cell? ⟨g, 1, none⟩ = some (.slice AK nk ck) := HP.out.ob.cell 1
    by_cases hlt : i < nk
    · obtain ⟨b, off, cur, u, hA, hbl, hat, _, hu⟩ := HP.out.k.at_ (i := i) (by omega)
      have x0 : wr.cell? ⟨b, off + i, none⟩ = some u := by rw [hat.cell]; exact hu
      have z0 := hat.thawed (off + i)
      have HN := Lib.hid (HP.out.set hat (by decide) (Or.inl hbl) (off + i) (.string ⟨#[115, 112, 111, 105, 108, 116]⟩))
      subst hA
      have hq1 : (0 : Int) ≤ (i : Int) := by omega
      have hq2 : (i : Int) < (nk : Int) := by omega
      clear hu hat hbl
      go_wp2_with fail
      exact ⟨⟨i + 1, by omega, by go_num, HN⟩, by simp [RowKit.intOf]; omega⟩
    · have hq2 : ¬ (i : Int) < (nk : Int) := by omega
      go_upto_region 5 with fail
      clear hq2 c1 hlt hi
      generalize wr = w2 at HP ⊢
      go_wp2_with fail
      go_loopw [3] (fun x wr => ∃ i : Nat, i ≤ nv ∧ x = .int .i64 (i : Int) ∧ Hid (Sp w wr g #[.bool leaf, .slice AK nk ck, .slice AV nv cv, .slice AD nd cd, .string high, .bool bnd, .int .i64 slot, .int .u64 gen] nk AK ck nv AV cv nd AD cd)) (fun x _ => nv - (RowKit.intOf x).toNat)
      case atStart => exact ⟨0, Nat.zero_le _, rfl, HP⟩
      case round =>
        obtain ⟨i, hi, rfl, HP⟩ := hrel
        have c1 : wr.cell? ⟨g, 2, none⟩ = some (.slice AV nv cv) := HP.out.ob.cell 2
        by_cases hlt : i < nv
        · obtain ⟨b, off, cur, u, hA, hbl, hat, _, hu⟩ := HP.out.v.at_ (i := i) (by omega)
          have x0 : wr.cell? ⟨b, off + i, none⟩ = some u := by rw [hat.cell]; exact hu
          have z0 := hat.thawed (off + i)
          have HN := Lib.hid (HP.out.set hat (by decide) (Or.inr (Or.inl hbl)) (off + i) (.string ⟨#[115, 112, 111, 105, 108, 116]⟩))
          subst hA
          have hq1 : (0 : Int) ≤ (i : Int) := by omega
          have hq2 : (i : Int) < (nv : Int) := by omega
          clear hu hat hbl
          go_wp2_with fail
          exact ⟨⟨i + 1, by omega, by go_num, HN⟩, by simp [RowKit.intOf]; omega⟩
        · have hq2 : ¬ (i : Int) < (nv : Int) := by omega
          go_upto_region 9 with fail
          clear hq2 c1 hlt hi
          generalize wr = w3 at HP ⊢
          go_wp2_with fail
          go_loopw [4] (fun x wr => ∃ i : Nat, i ≤ nd ∧ x = .int .i64 (i : Int) ∧ Hid (Sp w wr g #[.bool leaf, .slice AK nk ck, .slice AV nv cv, .slice AD nd cd, .string high, .bool bnd, .int .i64 slot, .int .u64 gen] nk AK ck nv AV cv nd AD cd)) (fun x _ => nd - (RowKit.intOf x).toNat)
          case atStart => exact ⟨0, Nat.zero_le _, rfl, HP⟩
          case round =>
            obtain ⟨i, hi, rfl, HP⟩ := hrel
            have c1 : wr.cell? ⟨g, 3, none⟩ = some (.slice AD nd cd) := HP.out.ob.cell 3
            by_cases hlt : i < nd
            · obtain ⟨b, off, cur, u, hA, hbl, hat, hall, hu⟩ := HP.out.d.at_ (i := i * 2) (by omega)
              obtain ⟨u2, hu2⟩ := hall (i * 2 + 1) (by omega)
              have x0 : wr.cell? ⟨b, off + i * 2, none⟩ = some u := by rw [hat.cell]; exact hu
              have x1 : wr.cell? ⟨b, off + i * 2 + 1, none⟩ = some u2 := by rw [hat.cell]; exact hu2
              have z0 := hat.thawed (off + i * 2)
              have z1 := hat.thawed (off + i * 2 + 1)
              have HN := Lib.hid ((HP.out.set hat (by decide) (Or.inr (Or.inr hbl)) (off + i * 2) (.int .i64 99)).set (hat.set (off + i * 2) (.int .i64 99)) (by decide) (Or.inr (Or.inr hbl)) (off + i * 2 + 1) (.int .u64 99))
              clear hall hu2
              subst hA
              have hq1 : (0 : Int) ≤ (i : Int) := by omega
              have hq2 : (i : Int) < (nd : Int) := by omega
              clear hu hat hbl
              go_wp2_with fail
              exact ⟨⟨i + 1, by omega, by go_num, HN⟩, by simp [RowKit.intOf]; omega⟩
            · have hq2 : ¬ (i : Int) < (nd : Int) := by omega
              go_wp2_with fail
              (try simp only [Exit.inBlock, Exit.then])
              refine bodyPost_end (results_none rfl _ _ _) rfl ?_
              exact ⟨rfl, HP.out.tu⟩
end Go.Proofs.Ytengbkopihiiaaa
