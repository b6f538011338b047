/-
  Leaves as lists of pairs; what the laws ask of Put, Delete, equal.
-/
import Derived.Test.YtengbkopihiiaaaWCz
namespace Go.Proofs.Ytengbkopihiiaaa
open Go.RowKit Go.Lib
set_option linter.unusedVariables false
set_option maxRecDepth 20000
set_option linter.unusedSimpArgs false

/-- The keys and values of a list of pairs. -/
def Lf (L : List Pr) (K V : List ByteArray) : Prop := L.map Pr.k = K ∧ L.map Pr.v = V
theorem pr_ext : ∀ {L M : List Pr}, L.map Pr.k = M.map Pr.k → L.map Pr.v = M.map Pr.v → L = M
  | [], [], _, _ => rfl
  | ⟨k, v⟩ :: L, ⟨k2, v2⟩ :: M, h1, h2 => by
    injection h1 with e1 e2
    injection h2 with e3 e4
    have e1 : k = k2 := e1
    have e3 : v = v2 := e3
    rw [e1, e3, pr_ext e2 e4]
  | [], _ :: _, h, _ => by simp at h
  | _ :: _, [], h, _ => by simp at h
theorem Lf.len {L : List Pr} {K V : List ByteArray} (h : Lf L K V) : K.length = L.length ∧ V.length = L.length := by
  rw [← h.1, ← h.2, List.length_map, List.length_map]
  exact ⟨rfl, rfl⟩
theorem Lf.zip {L : List Pr} {K V : List ByteArray} (h : Lf L K V) : zipP K V = L := by
  obtain ⟨e1, e2⟩ := zip_keys (K := K) (V := V) (by rw [h.len.1, h.len.2])
  exact pr_ext (by rw [e1, h.1]) (by rw [e2, h.2])
theorem Lf.of {K V : List ByteArray} (h : V.length = K.length) : Lf (zipP K V) K V := zip_keys h
theorem Lf.uniq {L : List Pr} {K V K2 V2 : List ByteArray} (h : Lf L K V) (h2 : Lf L K2 V2) : K = K2 ∧ V = V2 := ⟨h.1.symm.trans h2.1, h.2.symm.trans h2.2⟩
/-- A leaf that is right. -/
def LeafOK (L : List Pr) (high : ByteArray) (bnd : Bool) : Prop := Asc L ∧ (bnd = false → high = ⟨#[]⟩) ∧ (bnd = true → ∀ p ∈ L, kl p.k high)
theorem right_lf {L : List Pr} {K V : List ByteArray} (h : Lf L K V) {high : ByteArray} {bnd : Bool} : RightP true K V.length 0 high bnd ↔ LeafOK L high bnd := by
  have hk : Rk K ↔ Asc L := by rw [asc_keys, h.1]
  have hw : (∀ k ∈ K, kl k high) ↔ ∀ p ∈ L, kl p.k high := by
    rw [← h.1]
    exact ⟨fun hh p hp => hh _ (List.mem_map.2 ⟨p, hp, rfl⟩), fun hh k hk => by
      obtain ⟨p, hp, rfl⟩ := List.mem_map.1 hk
      exact hh p hp⟩
  unfold RightP LeafOK
  rw [hk]
  exact ⟨fun ⟨a, b, c, _⟩ => ⟨a, b, fun e => hw.1 (c e)⟩, fun ⟨a, b, c⟩ => ⟨a, b, fun e => hw.2 (c e), fun _ => ⟨by rw [h.len.1, h.len.2], rfl⟩, fun e => by cases e⟩⟩
theorem mem_put {k v : ByteArray} : ∀ {L : List Pr} {p : Pr}, p ∈ putL L k v → p ∈ L ∨ p = ⟨k, v⟩
  | [], p, h => by
    have : p ∈ [(⟨k, v⟩ : Pr)] := h
    simp at this
    exact .inr this
  | q :: t, p, h => by
    have h : p ∈ (if kl q.k k then q :: putL t k v else if q.k = k then ⟨k, v⟩ :: t else ⟨k, v⟩ :: q :: t) := h
    by_cases h1 : kl q.k k
    · rw [if_pos h1] at h
      rcases List.mem_cons.1 h with e | e
      · exact .inl (e ▸ List.mem_cons_self)
      · exact (mem_put e).imp (List.mem_cons_of_mem _) id
    · rw [if_neg h1] at h
      by_cases h2 : q.k = k
      · rw [if_pos h2] at h
        rcases List.mem_cons.1 h with e | e
        · exact .inr e
        · exact .inl (List.mem_cons_of_mem _ e)
      · rw [if_neg h2] at h
        rcases List.mem_cons.1 h with e | e
        · exact .inr e
        · exact .inl e
theorem mem_del {k : ByteArray} {L : List Pr} {p : Pr} (h : p ∈ delL L k) : p ∈ L := (List.mem_filter.1 h).1
theorem LeafOK.put {L : List Pr} {high : ByteArray} {bnd : Bool} (h : LeafOK L high bnd) {key : ByteArray} (hc : bnd = true → kl key high) (val : ByteArray) : LeafOK (putL L key val) high bnd :=
  ⟨h.1.put key val, h.2.1, fun e p hp => (mem_put hp).elim (fun hm => h.2.2 e p hm) fun he => by rw [he]; exact hc e⟩
theorem LeafOK.del {L : List Pr} {high : ByteArray} {bnd : Bool} (h : LeafOK L high bnd) (key : ByteArray) : LeafOK (delL L key) high bnd := ⟨h.1.del key, h.2.1, fun e p hp => h.2.2 e p (mem_del hp)⟩
/-- Texts within reach, few. -/
def FitL (L : List Pr) (n : Nat) : Prop := (∀ p ∈ L, Fit p.k ∧ Fit p.v) ∧ L.length ≤ n
theorem FitL.put {L : List Pr} {n : Nat} (h : FitL L n) {k v : ByteArray} (hk : Fit k) (hv : Fit v) : FitL (putL L k v) (n + 1) :=
  ⟨fun p hp => (mem_put hp).elim (h.1 p) fun e => by rw [e]; exact ⟨hk, hv⟩, Nat.le_trans (put_length L k v) (Nat.add_le_add_right h.2 1)⟩
theorem FitL.del {L : List Pr} {n : Nat} (h : FitL L n) (k : ByteArray) : FitL (delL L k) n := ⟨fun p hp => h.1 p (mem_del hp), Nat.le_trans (del_length L k) h.2⟩
theorem Lf.fits {L : List Pr} {K V : List ByteArray} (h : Lf L K V) {n : Nat} (hf : FitL L n) : (∀ k ∈ K, Fit k) ∧ (∀ k ∈ V, Fit k) ∧ K.length ≤ n ∧ V.length ≤ n := by
  refine ⟨fun k hk => ?_, fun k hk => ?_, by rw [h.len.1]; exact hf.2, by rw [h.len.2]; exact hf.2⟩
  · rw [← h.1] at hk
    obtain ⟨p, hp, rfl⟩ := List.mem_map.1 hk
    exact (hf.1 p hp).1
  · rw [← h.2] at hk
    obtain ⟨p, hp, rfl⟩ := List.mem_map.1 hk
    exact (hf.1 p hp).2
theorem fitL_of {L : List Pr} {K V : List ByteArray} (h : Lf L K V) {n : Nat} (fk : ∀ k ∈ K, Fit k) (fv : ∀ k ∈ V, Fit k) (hn : K.length ≤ n) : FitL L n :=
  ⟨fun p hp => ⟨fk _ (by rw [← h.1]; exact List.mem_map.2 ⟨p, hp, rfl⟩), fv _ (by rw [← h.2]; exact List.mem_map.2 ⟨p, hp, rfl⟩)⟩, by rw [← h.len.1]; exact hn⟩
/-- A variable that holds a leaf: its cell, and its rows. -/
def Vr (w : World) (r : Nat) (K V : List ByteArray) (D : List Hn) (high : ByteArray) (bnd : Bool) (sl ge : Int) (AK : Option Addr) (ck : Nat) (AV : Option Addr) (cv : Nat) (AD : Option Addr) (cd : Nat) : Prop :=
  At w r (.cells #[.bool true, .slice AK K.length ck, .slice AV V.length cv, .slice AD D.length cd, .string high, .bool bnd, .int .i64 sl, .int .u64 ge] 29 (0, 0)) ∧ In w ⟨true, K, V, D, high, bnd, ⟨sl, ge⟩⟩ AK AV AD
theorem Vr.no {w w2 : World} {r : Nat} {K V : List ByteArray} {D : List Hn} {high : ByteArray} {bnd : Bool} {sl ge : Int} {AK : Option Addr} {ck : Nat} {AV : Option Addr} {cv : Nat} {AD : Option Addr} {cd : Nat} (h : Vr w r K V D high bnd sl ge AK ck AV cv AD cd) (t : Turn No w w2) : Vr w2 r K V D high bnd sl ge AK ck AV cv AD cd := ⟨h.1.no t, h.2.no t⟩
/-- What is known of a leaf. -/
structure Kf (L : List Pr) (K V : List ByteArray) (high : ByteArray) (bnd : Bool) (n : Nat) : Prop where
  lf : Lf L K V
  ok : LeafOK L high bnd
  fit : FitL L n
theorem in_got {w : World} {Z : Nat} {L : List Pr} {K V : List ByteArray} {high : ByteArray} {bnd : Bool} {nx : Hn} {AK AV AD : Option Addr} {D : List Hn} (g : Got Z w ⟨true, K, V, D, high, bnd, nx⟩ AK AV AD) (hD : D.length = 0) (h : Lf L K V) {n : Nat} (hf : FitL L n) (hn : n ≤ 10000) (hh : Fit high) : In w ⟨true, K, V, D, high, bnd, nx⟩ AK AV AD := by
  obtain ⟨a, b, c, d⟩ := h.fits hf
  exact ⟨g.k, g.v, g.d, a, b, hh, Nat.le_trans c hn, Nat.le_trans d hn, by show D.length ≤ 10000; omega⟩
section
variable {w : World} {L : List Pr} {K V : List ByteArray} {D : List Hn} {high : ByteArray} {bnd : Bool} {sl ge : Int} {AK AV AD : Option Addr} (ck cv cd : Nat) {key val : ByteArray}
/-- Put into a leaf that is right and covers. -/
theorem put_l (hL : Lf L K V) (hD : D.length = 0) (hin : In w ⟨true, K, V, D, high, bnd, ⟨sl, ge⟩⟩ AK AV AD) (hok : LeafOK L high bnd) (hc : bnd = true → kl key high) (fk : Fit key) (fv : Fit val) :
    Calls Try.prog 12 #[.agg #[.bool true, .slice AK K.length ck, .slice AV V.length cv, .slice AD D.length cd, .string high, .bool bnd, .int .i64 sl, .int .u64 ge], .string key, .string val] w fun e w' =>
      ∃ K1 V1 BK dk BV dv BD dd, e = .returned (.tuple #[.agg #[.bool true, .slice BK K1.length dk, .slice BV V1.length dv, .slice BD D.length dd, .string high, .bool bnd, .int .i64 sl, .int .u64 ge], .string ((getL L key).getD ⟨#[]⟩), .bool (getL L key).isSome]) ∧ Lf (putL L key val) K1 V1 ∧ Got w.heap.size w' ⟨true, K1, V1, D, high, bnd, ⟨sl, ge⟩⟩ BK BV BD ∧ Turn No w w' := by
  refine (put_c ⟨true, K, V, D, high, bnd, ⟨sl, ge⟩⟩ AK AV AD ck cv cd key val w hin fk fv).mono ?_
  rintro e w' ⟨m, BK, dk, BV, dv, BD, dd, old, had, rfl, hp, hg, ht⟩
  obtain ⟨rfl, rfl, rfl⟩ := hp.1 ⟨by show RightP true K V.length D.length high bnd; rw [hD]; exact (right_lf hL).2 hok, rfl, hc⟩
  rw [show zipP (Nd.mk true K V D high bnd ⟨sl, ge⟩).keys (Nd.mk true K V D high bnd ⟨sl, ge⟩).vals = L from hL.zip] at hg ⊢
  exact ⟨_, _, BK, dk, BV, dv, BD, dd, rfl, ⟨rfl, rfl⟩, hg, ht⟩
/-- Delete from a leaf that is right and covers. -/
theorem del_l (hL : Lf L K V) (hD : D.length = 0) (hin : In w ⟨true, K, V, D, high, bnd, ⟨sl, ge⟩⟩ AK AV AD) (hok : LeafOK L high bnd) (hc : bnd = true → kl key high) (fk : Fit key) :
    Calls Try.prog 13 #[.agg #[.bool true, .slice AK K.length ck, .slice AV V.length cv, .slice AD D.length cd, .string high, .bool bnd, .int .i64 sl, .int .u64 ge], .string key] w fun e w' =>
      ∃ K1 V1 BK dk BV dv BD dd, e = .returned (.tuple #[.agg #[.bool true, .slice BK K1.length dk, .slice BV V1.length dv, .slice BD D.length dd, .string high, .bool bnd, .int .i64 sl, .int .u64 ge], .string ((getL L key).getD ⟨#[]⟩), .bool (getL L key).isSome]) ∧ Lf (delL L key) K1 V1 ∧ Got w.heap.size w' ⟨true, K1, V1, D, high, bnd, ⟨sl, ge⟩⟩ BK BV BD ∧ Turn No w w' := by
  refine (del_c ⟨true, K, V, D, high, bnd, ⟨sl, ge⟩⟩ AK AV AD ck cv cd key w hin fk).mono ?_
  rintro e w' ⟨m, BK, dk, BV, dv, BD, dd, old, had, rfl, hp, hg, ht⟩
  obtain ⟨rfl, rfl, rfl⟩ := hp.1 ⟨by show RightP true K V.length D.length high bnd; rw [hD]; exact (right_lf hL).2 hok, rfl, hc⟩
  rw [show zipP (Nd.mk true K V D high bnd ⟨sl, ge⟩).keys (Nd.mk true K V D high bnd ⟨sl, ge⟩).vals = L from hL.zip] at hg ⊢
  exact ⟨_, _, BK, dk, BV, dv, BD, dd, rfl, ⟨rfl, rfl⟩, hg, ht⟩
end
theorem Vr.new {w : World} {Z : Nat} {L : List Pr} {K V : List ByteArray} {D : List Hn} {high : ByteArray} {bnd : Bool} {sl ge : Int} {AK AV AD : Option Addr} (ck cv cd : Nat) {n : Nat} (hk : Kf L K V high bnd n) (hD : D.length = 0) (hh : Fit high) (hn : n ≤ 10000) (g : Got Z w ⟨true, K, V, D, high, bnd, ⟨sl, ge⟩⟩ AK AV AD) :
    Vr (w.alloc (.cells #[.bool true, .slice AK K.length ck, .slice AV V.length cv, .slice AD D.length cd, .string high, .bool bnd, .int .i64 sl, .int .u64 ge] 29)) w.heap.size K V D high bnd sl ge AK ck AV cv AD cd := by
  have tn : Turn No w (w.alloc (.cells #[.bool true, .slice AK K.length ck, .slice AV V.length cv, .slice AD D.length cd, .string high, .bool bnd, .int .i64 sl, .int .u64 ge] 29)) := (Turn.refl _ _).alloc _
  exact ⟨At.new _ _, (in_got g hD hk.lf hk.fit hn hh).no tn⟩
/-- Two nodes that are alike: what the law's equal tells. -/
theorem eq_c (n m : Nd) (AK AV AD BK BV BD : Option Addr) (ck cv cd dk dv dd : Nat) (w : World) (h1 : Row w AK (kcs n.keys)) (h2 : Row w AV (kcs n.vals)) (h3 : Row w AD (hcs n.kids)) (h4 : Row w BK (kcs m.keys)) (h5 : Row w BV (kcs m.vals)) (h6 : Row w BD (hcs m.kids)) (n1 : n.keys.length ≤ 100000) (n2 : n.vals.length ≤ 100000) (n3 : n.kids.length ≤ 100000) :
    Calls Try.prog 18 #[.agg #[.bool n.leaf, .slice AK n.keys.length ck, .slice AV n.vals.length cv, .slice AD n.kids.length cd, .string n.high, .bool n.bnd, .int .i64 n.nx.slot, .int .u64 n.nx.gen], .agg #[.bool m.leaf, .slice BK m.keys.length dk, .slice BV m.vals.length dv, .slice BD m.kids.length dd, .string m.high, .bool m.bnd, .int .i64 m.nx.slot, .int .u64 m.nx.gen]] w fun e w' => BRes (n = m) w e w' := by
  obtain ⟨l1, K1, V1, D1, h1', b1, ⟨s1, g1⟩⟩ := n
  obtain ⟨l2, K2, V2, D2, h2', b2, ⟨s2, g2⟩⟩ := m
  refine (equal_any l1 l2 K1 K2 V1 V2 D1 D2 h1' h2' b1 b2 s1 g1 s2 g2 AK AV AD BK BV BD ck cv cd dk dv dd w h1 h2 h3 h4 h5 h6 n1 n2 n3).mono ?_
  rintro e w' ⟨b, rfl, hb, ht⟩
  refine ⟨b, rfl, hb.trans ⟨?_, ?_⟩, ht⟩
  · rintro ⟨rfl, rfl, rfl, rfl, ⟨rfl, rfl⟩, rfl, rfl⟩
    rfl
  · intro h
    injection h with e1 e2 e3 e4 e5 e6 e7
    injection e7 with e8 e9
    exact ⟨e4, e1, e5, e6, ⟨e8, e9⟩, e2, e3⟩
/-- Nodes that are alike. -/
theorem eq_yes (n : Nd) (AK AV AD BK BV BD : Option Addr) (ck cv cd dk dv dd : Nat) (w : World) (h1 : Row w AK (kcs n.keys)) (h2 : Row w AV (kcs n.vals)) (h3 : Row w AD (hcs n.kids)) (h4 : Row w BK (kcs n.keys)) (h5 : Row w BV (kcs n.vals)) (h6 : Row w BD (hcs n.kids)) (n1 : n.keys.length ≤ 100000) (n2 : n.vals.length ≤ 100000) (n3 : n.kids.length ≤ 100000) :
    Calls Try.prog 18 #[.agg #[.bool n.leaf, .slice AK n.keys.length ck, .slice AV n.vals.length cv, .slice AD n.kids.length cd, .string n.high, .bool n.bnd, .int .i64 n.nx.slot, .int .u64 n.nx.gen], .agg #[.bool n.leaf, .slice BK n.keys.length dk, .slice BV n.vals.length dv, .slice BD n.kids.length dd, .string n.high, .bool n.bnd, .int .i64 n.nx.slot, .int .u64 n.nx.gen]] w fun e w' => e = .returned (.bool true) ∧ Turn No w w' := by
  refine (eq_c n n AK AV AD BK BV BD ck cv cd dk dv dd w h1 h2 h3 h4 h5 h6 n1 n2 n3).mono ?_
  rintro e w' ⟨b, rfl, hb, ht⟩
  exact ⟨by rw [hb.2 rfl], ht⟩
theorem right_yes (n : Nd) (AK AV AD : Option Addr) (ck cv cd : Nat) (w : World) (h : In w n AK AV AD) (hr : NdRight n) : Calls Try.prog 25 #[.agg #[.bool n.leaf, .slice AK n.keys.length ck, .slice AV n.vals.length cv, .slice AD n.kids.length cd, .string n.high, .bool n.bnd, .int .i64 n.nx.slot, .int .u64 n.nx.gen]] w fun e w' => e = .returned (.bool true) ∧ Turn No w w' := by
  refine (right_c n AK AV AD ck cv cd w h).mono ?_
  rintro e w' ⟨b, rfl, hb, ht⟩
  exact ⟨by rw [hb.2 hr], ht⟩
theorem right_kf {L : List Pr} {K V : List ByteArray} {D : List Hn} {high : ByteArray} {bnd : Bool} {sl ge : Int} {n : Nat} (h : Kf L K V high bnd n) (hD : D.length = 0) : NdRight ⟨true, K, V, D, high, bnd, ⟨sl, ge⟩⟩ := by
  show RightP true K V.length D.length high bnd
  rw [hD]
  exact (right_lf h.lf).2 h.ok
theorem row_wt {w w2 : World} {t s n r : Nat} {A : Option Addr} {xs : List Value} {c : Array Value} {f : Nat × Nat} {t' : Nat} (h : Row w A xs) (hl : xs.length = n * s) (wt : Wt w t s A n) (hr : At w r (.cells c t' f)) (ht : t ≠ t') (tu : Turn (fun k => k = r) w w2) : Row w2 A xs := by
  rcases wt with h0 | ⟨b, off, cur, hA, hat, _⟩
  · rw [h0, Nat.zero_mul] at hl
    rw [List.eq_nil_of_length_eq_zero hl]
    exact Row.nil _ _
  · refine h.turn tu fun b' o' hA' e => ?_
    rw [hA] at hA'
    injection hA' with hA'
    injection hA' with e1 _
    subst e1
    subst e
    have := hat.eq hr
    injection this with _ e2 _
    exact ht e2
/-- A node's rows where another node is written. -/
theorem Got.wr {Z : Nat} {w w2 : World} {n : Nd} {AK AV AD : Option Addr} {r : Nat} {c : Array Value} {f : Nat × Nat} (h : Got Z w n AK AV AD) (hr : At w r (.cells c 29 f)) (tu : Turn (fun k => k = r) w w2) : Row w2 AK (kcs n.keys) ∧ Row w2 AV (kcs n.vals) ∧ Row w2 AD (hcs n.kids) :=
  ⟨row_wt h.k (by rw [kcs_length, Nat.mul_one]) h.wk hr (by decide) tu, row_wt h.v (by rw [kcs_length, Nat.mul_one]) h.wv hr (by decide) tu, row_wt h.d (hcs_length _) h.wd hr (by decide) tu⟩
end Go.Proofs.Ytengbkopihiiaaa
