/-
  Put, Delete, Add as the law BlnodeWrites wants them; spoil, told by what it writes.
-/
import Derived.Test.YtengbkopihiiaaaRy
namespace Go.Proofs.Ytengbkopihiiaaa
open Go.RowKit Go.Lib
set_option linter.unusedVariables false
set_option maxRecDepth 20000
set_option linter.unusedSimpArgs false

/-- What stands while an answer is spoilt. -/
structure Sx (w wr : World) (g : Nat) (node : Array Value) (nk : Nat) (AK : Option Addr) (ck : Nat) (nv : Nat) (AV : Option Addr) (cv : Nat) (nd : Nat) (AD : Option Addr) (cd : Nat) : Prop where
  tu : Turn (fun k => (0 < nk ∧ ablk AK = some k) ∨ (0 < nv ∧ ablk AV = some k) ∨ (0 < nd ∧ ablk AD = some k)) w wr
  ob : At wr g (.cells node 29 (0, 0))
  k : Wt wr 9 1 AK nk
  v : Wt wr 9 1 AV nv
  d : Wt wr 27 2 AD nd
theorem Sx.set {w wr : World} {g : Nat} {node : Array Value} {nk nv nd ck cv cd : Nat} {AK AV AD : Option Addr} (h : Sx w wr g node nk AK ck nv AV cv nd AD cd) {b t : Nat} {cur : Array Value} (hb : At wr b (.cells cur t (0, 0))) (ht : t ≠ 29) (hX : (0 < nk ∧ ablk AK = some b) ∨ (0 < nv ∧ ablk AV = some b) ∨ (0 < nd ∧ ablk AD = some b)) (o : Nat) (v : Value) :
    Sx w (wr.setCell ⟨b, o, none⟩ v) g node nk AK ck nv AV cv nd AD cd := by
  have s1 := Turn.set1 wr b o v
  refine ⟨h.tu.trans (s1.mono fun k _ e => by rw [e]; exact hX), h.ob.turn s1 fun e => ?_, h.k.set b o v, h.v.set b o v, h.d.set b o v⟩
  have e2 := h.ob.eq (e ▸ hb)
  injection e2 with _ e3 _
  exact ht e3.symm
set_option maxRecDepth 100000 in
set_option maxHeartbeats 8000000 in
theorem spoil_x (leaf : Bool) (nk nv nd : Nat) (high : ByteArray) (bnd : Bool) (slot gen : Int) (AK AV AD : Option Addr) (ck cv cd : Nat) (w : World) (hK : Wt w 9 1 AK nk) (hV : Wt w 9 1 AV nv) (hD : Wt w 27 2 AD nd) (n1 : nk ≤ 100000) (n2 : nv ≤ 100000) (n3 : nd ≤ 100000) :
    Calls Try.prog 35 #[.agg #[.bool leaf, .slice AK nk ck, .slice AV nv cv, .slice AD nd cd, .string high, .bool bnd, .int .i64 slot, .int .u64 gen]] w fun e w' => e = .returned (.tuple #[]) ∧ Turn (fun k => (0 < nk ∧ ablk AK = some k) ∨ (0 < nv ∧ ablk AV = some k) ∨ (0 < nd ∧ ablk AD = some k)) w w' := by
  have tn : Turn No w (w.alloc (.cells #[.bool leaf, .slice AK nk ck, .slice AV nv cv, .slice AD nd cd, .string high, .bool bnd, .int .i64 slot, .int .u64 gen] 29)) := (Turn.refl _ _).alloc _
  have HB : Hid (Sx w (w.alloc (.cells #[.bool leaf, .slice AK nk ck, .slice AV nv cv, .slice AD nd cd, .string high, .bool bnd, .int .i64 slot, .int .u64 gen] 29)) w.heap.size #[.bool leaf, .slice AK nk ck, .slice AV nv cv, .slice AD nd cd, .string high, .bool bnd, .int .i64 slot, .int .u64 gen] nk AK ck nv AV cv nd AD cd) := Lib.hid ⟨tn.mono fun _ _ h => False.elim h, At.new _ _, hK.no tn, hV.no tn, hD.no tn⟩
  clear hK hV hD tn
  go_enter Try.func35, Try.ntmps35
  go_upto_region 1 with fail
  obtain ⟨w1, hw1⟩ : ∃ x, w.alloc (.cells #[.bool leaf, .slice AK nk ck, .slice AV nv cv, .slice AD nd cd, .string high, .bool bnd, .int .i64 slot, .int .u64 gen] 29) = x := ⟨_, rfl⟩
  obtain ⟨g, hg⟩ : ∃ x, w.heap.size = x := ⟨_, rfl⟩
  rw [hw1, hg] at HB
  rw [hw1, hg]
  clear hw1 hg
  go_wp2_with fail
  go_loopw [2] (fun x wr => ∃ i : Nat, i ≤ nk ∧ x = .int .i64 (i : Int) ∧ Hid (Sx w wr g #[.bool leaf, .slice AK nk ck, .slice AV nv cv, .slice AD nd cd, .string high, .bool bnd, .int .i64 slot, .int .u64 gen] nk AK ck nv AV cv nd AD cd)) (fun x _ => nk - (RowKit.intOf x).toNat)
  case atStart => exact ⟨0, Nat.zero_le _, rfl, HB⟩
  case round =>
    obtain ⟨i, hi, rfl, HP⟩ := hrel
    have c1 : wr.cell? ⟨g, 1, none⟩ = some (.slice AK nk ck) := HP.out.ob.cell 1
    by_cases hlt : i < nk
    · obtain ⟨b, off, cur, u, hA, hbl, hat, _, hu⟩ := HP.out.k.at_ (i := i) (by omega)
      have x0 : wr.cell? ⟨b, off + i, none⟩ = some u := by rw [hat.cell]; exact hu
      have z0 := hat.thawed (off + i)
      have HN := Lib.hid (HP.out.set hat (by decide) (Or.inl ⟨Nat.lt_of_le_of_lt (Nat.zero_le _) hlt, hbl⟩) (off + i) (.string ⟨#[115, 112, 111, 105, 108, 116]⟩))
      subst hA
      have hq1 : (0 : Int) ≤ (i : Int) := by omega
      have hq2 : (i : Int) < (nk : Int) := by omega
      clear hu hat hbl
      go_wp2_with fail
      exact ⟨⟨i + 1, by omega, by go_num, HN⟩, by simp [RowKit.intOf]; omega⟩
    · have hq2 : ¬ (i : Int) < (nk : Int) := by omega
      go_upto_region 5 with fail
      clear hq2 c1 hlt hi
      generalize wr = w2 at HP ⊢
      go_wp2_with fail
      go_loopw [3] (fun x wr => ∃ i : Nat, i ≤ nv ∧ x = .int .i64 (i : Int) ∧ Hid (Sx w wr g #[.bool leaf, .slice AK nk ck, .slice AV nv cv, .slice AD nd cd, .string high, .bool bnd, .int .i64 slot, .int .u64 gen] nk AK ck nv AV cv nd AD cd)) (fun x _ => nv - (RowKit.intOf x).toNat)
      case atStart => exact ⟨0, Nat.zero_le _, rfl, HP⟩
      case round =>
        obtain ⟨i, hi, rfl, HP⟩ := hrel
        have c1 : wr.cell? ⟨g, 2, none⟩ = some (.slice AV nv cv) := HP.out.ob.cell 2
        by_cases hlt : i < nv
        · obtain ⟨b, off, cur, u, hA, hbl, hat, _, hu⟩ := HP.out.v.at_ (i := i) (by omega)
          have x0 : wr.cell? ⟨b, off + i, none⟩ = some u := by rw [hat.cell]; exact hu
          have z0 := hat.thawed (off + i)
          have HN := Lib.hid (HP.out.set hat (by decide) (Or.inr (Or.inl ⟨Nat.lt_of_le_of_lt (Nat.zero_le _) hlt, hbl⟩)) (off + i) (.string ⟨#[115, 112, 111, 105, 108, 116]⟩))
          subst hA
          have hq1 : (0 : Int) ≤ (i : Int) := by omega
          have hq2 : (i : Int) < (nv : Int) := by omega
          clear hu hat hbl
          go_wp2_with fail
          exact ⟨⟨i + 1, by omega, by go_num, HN⟩, by simp [RowKit.intOf]; omega⟩
        · have hq2 : ¬ (i : Int) < (nv : Int) := by omega
          go_upto_region 9 with fail
          clear hq2 c1 hlt hi
          generalize wr = w3 at HP ⊢
          go_wp2_with fail
          go_loopw [4] (fun x wr => ∃ i : Nat, i ≤ nd ∧ x = .int .i64 (i : Int) ∧ Hid (Sx w wr g #[.bool leaf, .slice AK nk ck, .slice AV nv cv, .slice AD nd cd, .string high, .bool bnd, .int .i64 slot, .int .u64 gen] nk AK ck nv AV cv nd AD cd)) (fun x _ => nd - (RowKit.intOf x).toNat)
          case atStart => exact ⟨0, Nat.zero_le _, rfl, HP⟩
          case round =>
            obtain ⟨i, hi, rfl, HP⟩ := hrel
            have c1 : wr.cell? ⟨g, 3, none⟩ = some (.slice AD nd cd) := HP.out.ob.cell 3
            by_cases hlt : i < nd
            · obtain ⟨b, off, cur, u, hA, hbl, hat, hall, hu⟩ := HP.out.d.at_ (i := i * 2) (by omega)
              obtain ⟨u2, hu2⟩ := hall (i * 2 + 1) (by omega)
              have x0 : wr.cell? ⟨b, off + i * 2, none⟩ = some u := by rw [hat.cell]; exact hu
              have x1 : wr.cell? ⟨b, off + i * 2 + 1, none⟩ = some u2 := by rw [hat.cell]; exact hu2
              have z0 := hat.thawed (off + i * 2)
              have z1 := hat.thawed (off + i * 2 + 1)
              have HN := Lib.hid ((HP.out.set hat (by decide) (Or.inr (Or.inr ⟨Nat.lt_of_le_of_lt (Nat.zero_le _) hlt, hbl⟩)) (off + i * 2) (.int .i64 99)).set (hat.set (off + i * 2) (.int .i64 99)) (by decide) (Or.inr (Or.inr ⟨Nat.lt_of_le_of_lt (Nat.zero_le _) hlt, hbl⟩)) (off + i * 2 + 1) (.int .u64 99))
              clear hall hu2
              subst hA
              have hq1 : (0 : Int) ≤ (i : Int) := by omega
              have hq2 : (i : Int) < (nd : Int) := by omega
              clear hu hat hbl
              go_wp2_with fail
              exact ⟨⟨i + 1, by omega, by go_num, HN⟩, by simp [RowKit.intOf]; omega⟩
            · have hq2 : ¬ (i : Int) < (nd : Int) := by omega
              go_wp2_with fail
              (try simp only [Exit.inBlock, Exit.then])
              refine bodyPost_end (results_none rfl _ _ _) rfl ?_
              exact ⟨rfl, HP.out.tu⟩
theorem wt_lt {w : World} {t s n : Nat} {A : Option Addr} (h : Wt w t s A n) {k : Nat} (hn : 0 < n) (hk : ablk A = some k) : k < w.heap.size := by
  rcases h with h | ⟨b, off, cur, hA, hat, _⟩
  · omega
  · rw [hA] at hk
    injection hk with hk
    subst hk
    exact hat.lt
/-- The blocks that spoil writes. -/
def Xs (nk nv nd : Nat) (AK AV AD : Option Addr) (k : Nat) : Prop := (0 < nk ∧ ablk AK = some k) ∨ (0 < nv ∧ ablk AV = some k) ∨ (0 < nd ∧ ablk AD = some k)
theorem xs_of {Z : Nat} {w : World} {n : Nd} {AK AV AD : Option Addr} (h : Got Z w n AK AV AD) {k : Nat} (hx : Xs n.keys.length n.vals.length n.kids.length AK AV AD k) : Z ≤ k ∧ k < w.heap.size := by
  rcases hx with ⟨h1, h2⟩ | ⟨h1, h2⟩ | ⟨h1, h2⟩
  · exact ⟨h.zk k h2, wt_lt h.wk h1 h2⟩
  · exact ⟨h.zv k h2, wt_lt h.wv h1 h2⟩
  · exact ⟨h.zd k h2, wt_lt h.wd h1 h2⟩
theorem Wt.past {w w2 : World} {t s n Z : Nat} {A : Option Addr} {X : Nat → Prop} (h : Wt w t s A n) (hz : ∀ b, ablk A = some b → Z ≤ b) (tu : Turn X w w2) (hX : ∀ k, X k → k < Z) : Wt w2 t s A n := by
  rcases h with h | ⟨b, off, cur, hA, hat, hs⟩
  · exact Or.inl h
  · refine Or.inr ⟨b, off, cur, hA, hat.turn tu fun e => ?_, hs⟩
    have h1 := hz b (by rw [hA]; rfl)
    have h2 := hX b e
    omega
theorem lcov_yes (n : Nd) (key : ByteArray) (AK AV AD : Option Addr) (ck cv cd : Nat) (w : World) (hk : Fit key) (hh : Fit n.high) (hc : NdCov n key) :
    Calls Try.prog 23 #[.agg #[.bool n.leaf, .slice AK n.keys.length ck, .slice AV n.vals.length cv, .slice AD n.kids.length cd, .string n.high, .bool n.bnd, .int .i64 n.nx.slot, .int .u64 n.nx.gen], .string key] w fun e w' => e = .returned (.bool true) ∧ Turn No w w' := by
  refine (covers_any n key AK AV AD ck cv cd w hk hh).mono ?_
  rintro e w' ⟨b, rfl, hb, ht⟩
  exact ⟨by rw [hb.2 hc], ht⟩
theorem lcov_no (n : Nd) (key : ByteArray) (AK AV AD : Option Addr) (ck cv cd : Nat) (w : World) (hk : Fit key) (hh : Fit n.high) (hc : ¬ NdCov n key) :
    Calls Try.prog 23 #[.agg #[.bool n.leaf, .slice AK n.keys.length ck, .slice AV n.vals.length cv, .slice AD n.kids.length cd, .string n.high, .bool n.bnd, .int .i64 n.nx.slot, .int .u64 n.nx.gen], .string key] w fun e w' => e = .returned (.bool false) ∧ Turn No w w' := by
  refine (covers_any n key AK AV AD ck cv cd w hk hh).mono ?_
  rintro e w' ⟨b, rfl, hb, ht⟩
  cases b with
  | false => exact ⟨rfl, ht⟩
  | true => exact absurd (hb.1 rfl) hc
section
variable {leaf : Bool} {K V : List ByteArray} {D : List Hn} {high : ByteArray} {bnd : Bool} {sl ge : Int} {AK AV AD : Option Addr} (ck cv cd : Nat) {w : World}
theorem put_w (hin : In w ⟨leaf, K, V, D, high, bnd, ⟨sl, ge⟩⟩ AK AV AD) {key val : ByteArray} (fk : Fit key) (fv : Fit val) {KA VA : List ByteArray} {was : ByteArray} {is : Bool} (h : ∀ m old had, PutR ⟨leaf, K, V, D, high, bnd, ⟨sl, ge⟩⟩ key val m old had → m = ⟨leaf, KA, VA, D, high, bnd, ⟨sl, ge⟩⟩ ∧ old = was ∧ had = is) :
    Calls Try.prog 12 #[.agg #[.bool leaf, .slice AK K.length ck, .slice AV V.length cv, .slice AD D.length cd, .string high, .bool bnd, .int .i64 sl, .int .u64 ge], .string key, .string val] w fun e w' => ∃ BK dk BV dv BD dd, e = .returned (.tuple #[.agg #[.bool leaf, .slice BK KA.length dk, .slice BV VA.length dv, .slice BD D.length dd, .string high, .bool bnd, .int .i64 sl, .int .u64 ge], .string was, .bool is]) ∧ Got w.heap.size w' ⟨leaf, KA, VA, D, high, bnd, ⟨sl, ge⟩⟩ BK BV BD ∧ Turn No w w' := by
  refine (put_c ⟨leaf, K, V, D, high, bnd, ⟨sl, ge⟩⟩ AK AV AD ck cv cd key val w hin fk fv).mono ?_
  rintro e w' ⟨m, BK, dk, BV, dv, BD, dd, old, had, rfl, hp, hg, ht⟩
  obtain ⟨rfl, rfl, rfl⟩ := h m old had hp
  exact ⟨BK, dk, BV, dv, BD, dd, rfl, hg, ht⟩
theorem del_w (hin : In w ⟨leaf, K, V, D, high, bnd, ⟨sl, ge⟩⟩ AK AV AD) {key : ByteArray} (fk : Fit key) {KA VA : List ByteArray} {was : ByteArray} {is : Bool} (h : ∀ m old had, DelR ⟨leaf, K, V, D, high, bnd, ⟨sl, ge⟩⟩ key m old had → m = ⟨leaf, KA, VA, D, high, bnd, ⟨sl, ge⟩⟩ ∧ old = was ∧ had = is) :
    Calls Try.prog 13 #[.agg #[.bool leaf, .slice AK K.length ck, .slice AV V.length cv, .slice AD D.length cd, .string high, .bool bnd, .int .i64 sl, .int .u64 ge], .string key] w fun e w' => ∃ BK dk BV dv BD dd, e = .returned (.tuple #[.agg #[.bool leaf, .slice BK KA.length dk, .slice BV VA.length dv, .slice BD D.length dd, .string high, .bool bnd, .int .i64 sl, .int .u64 ge], .string was, .bool is]) ∧ Got w.heap.size w' ⟨leaf, KA, VA, D, high, bnd, ⟨sl, ge⟩⟩ BK BV BD ∧ Turn No w w' := by
  refine (del_c ⟨leaf, K, V, D, high, bnd, ⟨sl, ge⟩⟩ AK AV AD ck cv cd key w hin fk).mono ?_
  rintro e w' ⟨m, BK, dk, BV, dv, BD, dd, old, had, rfl, hp, hg, ht⟩
  obtain ⟨rfl, rfl, rfl⟩ := h m old had hp
  exact ⟨BK, dk, BV, dv, BD, dd, rfl, hg, ht⟩
theorem add_w (hin : In w ⟨leaf, K, V, D, high, bnd, ⟨sl, ge⟩⟩ AK AV AD) {key : ByteArray} {kid : Hn} (fk : Fit key) {KA : List ByteArray} {DA : List Hn} (h : ∀ m, AddR ⟨leaf, K, V, D, high, bnd, ⟨sl, ge⟩⟩ key kid m → m = ⟨leaf, KA, V, DA, high, bnd, ⟨sl, ge⟩⟩) :
    Calls Try.prog 16 #[.agg #[.bool leaf, .slice AK K.length ck, .slice AV V.length cv, .slice AD D.length cd, .string high, .bool bnd, .int .i64 sl, .int .u64 ge], .string key, .agg #[.int .i64 kid.slot, .int .u64 kid.gen]] w fun e w' => ∃ BK dk BV dv BD dd, e = .returned (.agg #[.bool leaf, .slice BK KA.length dk, .slice BV V.length dv, .slice BD DA.length dd, .string high, .bool bnd, .int .i64 sl, .int .u64 ge]) ∧ Got w.heap.size w' ⟨leaf, KA, V, DA, high, bnd, ⟨sl, ge⟩⟩ BK BV BD ∧ Turn No w w' := by
  refine (add_c ⟨leaf, K, V, D, high, bnd, ⟨sl, ge⟩⟩ AK AV AD ck cv cd key kid w hin fk).mono ?_
  rintro e w' ⟨m, BK, dk, BV, dv, BD, dd, rfl, hp, hg, ht⟩
  obtain rfl := h m hp
  exact ⟨BK, dk, BV, dv, BD, dd, rfl, hg, ht⟩
end
/-- What Put, Delete and Add of a node come to, as plain data. -/
structure Wr (leaf : Bool) (K V : List ByteArray) (D : List Hn) (high : ByteArray) (bnd : Bool) (sl ge : Int) (key val : ByteArray) (kid : Hn) (lb ab : Bool) (was : ByteArray) (is : Bool) (KA VA KB VB KC : List ByteArray) (DC : List Hn) : Prop where
  hlb : lb = true ↔ LeafR ⟨leaf, K, V, D, high, bnd, ⟨sl, ge⟩⟩ key
  hab : ab = true ↔ AddO ⟨leaf, K, V, D, high, bnd, ⟨sl, ge⟩⟩ key
  put : ∀ m old had, PutR ⟨leaf, K, V, D, high, bnd, ⟨sl, ge⟩⟩ key val m old had → m = ⟨leaf, KA, VA, D, high, bnd, ⟨sl, ge⟩⟩ ∧ old = was ∧ had = is
  del : ∀ m old had, DelR ⟨leaf, K, V, D, high, bnd, ⟨sl, ge⟩⟩ key m old had → m = ⟨leaf, KB, VB, D, high, bnd, ⟨sl, ge⟩⟩ ∧ old = was ∧ had = is
  add : ∀ m, AddR ⟨leaf, K, V, D, high, bnd, ⟨sl, ge⟩⟩ key kid m → m = ⟨leaf, KC, V, DC, high, bnd, ⟨sl, ge⟩⟩
  yes : lb = true → gT (zipP K V) key = .tuple #[.string was, .bool is] ∧ (KA = (putL (zipP K V) key val).map Pr.k ∧ VA = (putL (zipP K V) key val).map Pr.v) ∧ KB = (delL (zipP K V) key).map Pr.k ∧ VB = (delL (zipP K V) key).map Pr.v
  no : lb = false → was = ⟨#[]⟩ ∧ is = false ∧ (KA = K ∧ VA = V) ∧ KB = K ∧ VB = V
  in_ : ab = true → KC = ins K (plc K key) key ∧ DC = ins D (plc K key + 1) kid
  out : ab = false → KC = K ∧ DC = D
theorem wr_plain (leaf : Bool) (K V : List ByteArray) (D : List Hn) (high : ByteArray) (bnd : Bool) (sl ge : Int) (key val : ByteArray) (kid : Hn) : ∃ lb ab was is KA VA KB VB KC DC, Wr leaf K V D high bnd sl ge key val kid lb ab was is KA VA KB VB KC DC := by
  by_cases hL : LeafR ⟨leaf, K, V, D, high, bnd, ⟨sl, ge⟩⟩ key
  · have hA : ¬ AddO ⟨leaf, K, V, D, high, bnd, ⟨sl, ge⟩⟩ key := fun h => by
      have h1 : leaf = true := hL.2.1
      have h2 : leaf = false := h.2.1
      rw [h1] at h2
      cases h2
    exact ⟨true, false, _, _, _, _, _, _, K, D, ⟨⟨fun _ => hL, fun _ => rfl⟩, ⟨fun h => (by cases h), fun h => absurd h hA⟩, fun m old had h => h.1 hL, fun m old had h => h.1 hL, fun m h => h.2 hA, fun _ => ⟨rfl, ⟨rfl, rfl⟩, rfl, rfl⟩, fun h => (by cases h), fun h => (by cases h), fun _ => ⟨rfl, rfl⟩⟩⟩
  · by_cases hA : AddO ⟨leaf, K, V, D, high, bnd, ⟨sl, ge⟩⟩ key
    · exact ⟨false, true, _, _, _, _, _, _, _, _, ⟨⟨fun h => (by cases h), fun h => absurd h hL⟩, ⟨fun _ => hA, fun _ => rfl⟩, fun m old had h => h.2 hL, fun m old had h => h.2 hL, fun m h => h.1 hA, fun h => (by cases h), fun _ => ⟨rfl, rfl, ⟨rfl, rfl⟩, rfl, rfl⟩, fun _ => ⟨rfl, rfl⟩, fun h => (by cases h)⟩⟩
    · exact ⟨false, false, _, _, _, _, _, _, K, D, ⟨⟨fun h => (by cases h), fun h => absurd h hL⟩, ⟨fun h => (by cases h), fun h => absurd h hA⟩, fun m old had h => h.2 hL, fun m old had h => h.2 hL, fun m h => h.2 hA, fun h => (by cases h), fun _ => ⟨rfl, rfl, ⟨rfl, rfl⟩, rfl, rfl⟩, fun h => (by cases h), fun _ => ⟨rfl, rfl⟩⟩⟩
theorem get_w (l : List Pr) (key : ByteArray) : ∃ g1 g2, gT l key = .tuple #[.string g1, .bool g2] ∧ ∀ (B : Option Addr) (c : Nat) (w : World), Row w B (pcs l) → l.length ≤ 100000 →
    Calls Try.prog 30 #[.slice B l.length c, .string key] w fun e w' => e = .returned (.tuple #[.string g1, .bool g2]) ∧ Turn No w w' := by
  refine ⟨_, _, rfl, fun B c w hR hn => (get_any l key B c w hR hn).mono ?_⟩
  rintro e w' ⟨he, rfl⟩
  exact ⟨he, Turn.refl _ _⟩
theorem zip_len (K V : List ByteArray) : (zipP K V).length ≤ K.length := by
  unfold zipP
  simp
  omega
end Go.Proofs.Ytengbkopihiiaaa
