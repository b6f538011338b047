/-
  put: a key has a value.
  remove: a key is not there.
-/
import Derived.Test.YtllppkfeiifklaaJ3
namespace Go.Proofs.Ytllppkfeiifklaa
open Go.RowKit Go.Lib
set_option linter.unusedVariables false
set_option maxRecDepth 20000
set_option linter.unusedSimpArgs false

theorem len_L (l : List Pr) (key : ByteArray) : (lowL l key).length + (hiL l key).length = l.length := by
  have := congrArg List.length (split_L l key)
  rwa [List.length_append] at this
theorem insert_at {w : World} {Z cap : Nat} {A : Option Addr} (l : List Pr) (key : ByteArray) (h : w.ownsRow Z 47 2 (.slice A l.length cap) l.length (pcs l))
    (hn : l.length ≤ 50000) (vb : Nat) (p : Pr) (hp : At w vb (.cells #[.string p.k, .string p.v] 47 (0, 0))) (hne : (Value.slice A l.length cap).ownBlock ≠ some vb) (hz : Z ≤ w.heap.size) :
    Calls Try.prog 97 #[.slice A l.length cap, .int .i64 ((lowL l key).length : Int), .slice (some ⟨vb, 0, none⟩) 1 1] w fun e w' => ∃ B cap', e = .returned (.slice (some ⟨B, 0, none⟩) (l.length + 1) cap') ∧
      w'.ownsRow Z 47 2 (.slice (some ⟨B, 0, none⟩) (l.length + 1) cap') (l.length + 1) (pcs (lowL l key ++ p :: hiL l key)) ∧ Turn (fun k => (Value.slice A l.length cap).ownBlock = some k) w w' ∧ ((Value.slice A l.length cap).ownBlock = some B ∨ w.heap.size ≤ B) := by
  have hl := len_L l key
  have := insert_any (A := A) (cap := cap) (lowL l key) (hiL l key) (by rw [split_L, hl]; exact h) (by omega) vb p hp (by rw [hl]; exact hne) hz
  rwa [hl] at this
/-- A map whose row has a pair of a known key at a known place. -/
structure Mid (w : World) (Z mb rb : Nat) (X Y : List Pr) (p : Pr) (n cap : Nat) : Prop where
  cell : At w mb (.cells #[.slice (some ⟨rb, 0, none⟩) n cap] 98 (0, 0))
  row : w.ownsRow Z 47 2 (.slice (some ⟨rb, 0, none⟩) n cap) n (pcs (X ++ p :: Y))
  len : n = X.length + Y.length + 1
  mb_new : Z ≤ mb
  ne : mb ≠ rb
theorem Mid.no {w w' : World} {Z mb rb n cap : Nat} {X Y : List Pr} {p : Pr} (h : Mid w Z mb rb X Y p n cap) (t : Turn No w w') : Mid w' Z mb rb X Y p n cap :=
  ⟨h.cell.no t, own_grown h.row t fun _ _ h => h, h.len, h.mb_new, h.ne⟩
theorem pcs_set (X Y : List Pr) (p : Pr) (v : ByteArray) : (pcs (X ++ p :: Y)).set (X.length * 2 + 1) (.string v) = pcs (X ++ ⟨p.k, v⟩ :: Y) := by
  rw [pcs_mid, pcs_mid, List.append_assoc, List.append_assoc, List.set_append_right _ _ (by rw [pcs_length]; omega), pcs_length]
  have : X.length * 2 + 1 - X.length * 2 = 1 := by omega
  rw [this]
  rfl
theorem Mid.target {w : World} {Z mb rb n cap : Nat} {X Y : List Pr} {p : Pr} (h : Mid w Z mb rb X Y p n cap) : w.cell? ⟨rb, X.length * 2 + 1, none⟩ = some (.string p.v) ∧ w.frozen? ⟨rb, X.length * 2 + 1, none⟩ = false := by
  refine ⟨?_, h.row.frozenAt _⟩
  rw [h.row.cellAt _ (by rw [h.len]; omega), pcs_mid, List.append_assoc, List.getElem?_append_right (by rw [pcs_length]; omega), pcs_length]
  have : X.length * 2 + 1 - X.length * 2 = 1 := by omega
  rw [this]
  rfl
theorem Mid.store {w : World} {Z mb rb n cap : Nat} {X Y : List Pr} {p : Pr} (h : Mid w Z mb rb X Y p n cap) (v : ByteArray) (ha : Asc (X ++ ⟨p.k, v⟩ :: Y)) (hf : ∀ q ∈ X ++ ⟨p.k, v⟩ :: Y, Fit q.k ∧ Fit q.v) (hn : n ≤ 50000) :
    Om (w.setCell ⟨rb, X.length * 2 + 1, none⟩ (.string v)) Z mb (some rb) (X ++ ⟨p.k, v⟩ :: Y) := by
  have hl : (X ++ (⟨p.k, v⟩ : Pr) :: Y).length = n := by rw [h.len]; simp; omega
  refine ⟨⟨some ⟨rb, 0, none⟩, cap, ?_, ?_, ?_⟩, ha, by rw [hl]; exact hn, hf, h.mb_new⟩
  · rw [hl]; exact h.cell.turn (Turn.set1 w rb _ _) h.ne
  · rw [hl, ← pcs_set X Y p v]
    exact (h.row.stored _ _).1
  · rfl

/-- What is there behind the search, and the two answers' cells. -/
structure Pt (w wr : World) (Z mb : Nat) (rb : Option Nat) (l : List Pr) (g g2 : Nat) (a : Ans) : Prop where
  om : Om wr Z mb rb l
  tu : Turn No w wr
  res : At wr g (.cells ans0 38 (0, 0))
  had : At wr g2 (.cells a.ar 38 (0, 0))
  old : w.heap.size ≤ g
  old2 : w.heap.size ≤ g2
  ne : g ≠ g2
theorem Pt.no {w wr w2 : World} {Z mb : Nat} {rb : Option Nat} {l : List Pr} {g g2 : Nat} {a : Ans} (h : Pt w wr Z mb rb l g g2 a) (t : Turn No wr w2) : Pt w w2 Z mb rb l g g2 a :=
  ⟨h.om.no t, h.tu.trans t, h.res.no t, h.had.no t, h.old, h.old2, h.ne⟩
/-- The same where the row has the key. -/
structure Rdy (w wr : World) (Z mb : Nat) (rb : Option Nat) (key v : ByteArray) (g g2 : Nat) (a : Ans) (rb1 : Nat) (X Y : List Pr) (v0 : ByteArray) (n cap : Nat) : Prop where
  mid : Mid wr Z mb rb1 X Y ⟨key, v0⟩ n cap
  tu : Turn (fun k => k = mb ∨ rb = some k) w wr
  res : At wr g (.cells ans0 38 (0, 0))
  had : At wr g2 (.cells a.ar 38 (0, 0))
  old : w.heap.size ≤ g
  mlt : mb < w.heap.size
  gne : g ≠ rb1
  g2ne : g2 ≠ rb1
  rbs : rb = some rb1 ∨ w.heap.size ≤ rb1
  asc : Asc (X ++ ⟨key, v⟩ :: Y)
  fit : ∀ q ∈ X ++ (⟨key, v⟩ : Pr) :: Y, Fit q.k ∧ Fit q.v
  few : n ≤ 50000
structure Fin (w wr : World) (Z mb : Nat) (rb : Option Nat) (g g2 : Nat) (a : Ans) (rb' : Option Nat) (l' : List Pr) : Prop where
  om : Om wr Z mb rb' l'
  tu : Turn (fun k => k = mb ∨ rb = some k) w wr
  res : At wr g (.cells ans0 38 (0, 0))
  had : At wr g2 (.cells a.ar 38 (0, 0))
  old : w.heap.size ≤ g
  mlt : mb < w.heap.size
  gne : rb' ≠ some g
  rbs : rb' = rb ∨ ∃ k, rb' = some k ∧ w.heap.size ≤ k
section
variable {w wr w2 : World} {Z mb : Nat} {rb : Option Nat} {key v : ByteArray} {g g2 : Nat} {a : Ans} {rb1 : Nat} {X Y : List Pr} {v0 : ByteArray} {n cap : Nat}
theorem Rdy.no (h : Rdy w wr Z mb rb key v g g2 a rb1 X Y v0 n cap) (t : Turn No wr w2) : Rdy w w2 Z mb rb key v g g2 a rb1 X Y v0 n cap :=
  ⟨h.mid.no t, h.tu.then t (fun _ _ h => h.elim), h.res.no t, h.had.no t, h.old, h.mlt, h.gne, h.g2ne, h.rbs, h.asc, h.fit, h.few⟩
theorem Rdy.fin (h : Rdy w wr Z mb rb key v g g2 a rb1 X Y v0 n cap) : Fin w (wr.setCell ⟨rb1, X.length * 2 + 1, none⟩ (.string v)) Z mb rb g g2 a (some rb1) (X ++ ⟨key, v⟩ :: Y) :=
  ⟨h.mid.store v h.asc h.fit h.few, h.tu.setCell (p := ⟨rb1, X.length * 2 + 1, none⟩) (h.rbs.imp Or.inr id) _, h.res.turn (Turn.set1 wr rb1 _ _) h.gne, h.had.turn (Turn.set1 wr rb1 _ _) h.g2ne, h.old, h.mlt,
    fun e => h.gne (by injection e with e; exact e.symm), h.rbs.imp (fun e => e.symm) (fun e => ⟨rb1, rfl, e⟩)⟩
theorem Fin.no {rb' : Option Nat} {l' : List Pr} (h : Fin w wr Z mb rb g g2 a rb' l') (t : Turn No wr w2) : Fin w w2 Z mb rb g g2 a rb' l' :=
  ⟨h.om.no t, h.tu.then t (fun _ _ h => h.elim), h.res.no t, h.had.no t, h.old, h.mlt, h.gne, h.rbs⟩
theorem Fin.result {rb' : Option Nat} {l' : List Pr} (h : Fin w wr Z mb rb g g2 a rb' l') (y0 y1 y2 y3 : Value) :
    Om ((((wr.setCell ⟨g, 0, none⟩ y0).setCell ⟨g, 1, none⟩ y1).setCell ⟨g, 2, none⟩ y2).setCell ⟨g, 3, none⟩ y3) Z mb rb' l' ∧
    (rb' = rb ∨ ∃ k, rb' = some k ∧ w.heap.size ≤ k) ∧
    Turn (fun k => k = mb ∨ rb = some k) w ((((wr.setCell ⟨g, 0, none⟩ y0).setCell ⟨g, 1, none⟩ y1).setCell ⟨g, 2, none⟩ y2).setCell ⟨g, 3, none⟩ y3) ∧
    At ((((wr.setCell ⟨g, 0, none⟩ y0).setCell ⟨g, 1, none⟩ y1).setCell ⟨g, 2, none⟩ y2).setCell ⟨g, 3, none⟩ y3) g (.cells #[y0, y1, y2, y3] 38 (0, 0)) := by
  have t : Turn (fun k => k = g) wr ((((wr.setCell ⟨g, 0, none⟩ y0).setCell ⟨g, 1, none⟩ y1).setCell ⟨g, 2, none⟩ y2).setCell ⟨g, 3, none⟩ y3) := (((Turn.set1 wr g 0 y0).trans (Turn.set1 _ g 1 y1)).trans (Turn.set1 _ g 2 y2)).trans (Turn.set1 _ g 3 y3)
  have ho := h.old
  have hm := h.mlt
  refine ⟨h.om.turn t (by omega) (fun k hk e => h.gne (by rw [hk, e])), h.rbs, h.tu.then t (fun i hi e => by omega), ?_⟩
  simpa [ans0] using (((h.res.set 0 y0).set 1 y1).set 2 y2).set 3 y3
end

set_option maxHeartbeats 2000000 in
theorem put_any {w : World} {Z mb : Nat} {rb : Option Nat} {l : List Pr} (h : Om w Z mb rb l) (key v : ByteArray) (hk : Fit key) (hv : Fit v) (hn : l.length < 50000) (hZ : Z ≤ w.heap.size) :
    Calls Try.prog 66 #[.pointer (some ⟨mb, 0, none⟩), .string key, .string v] w fun e w' => e = .returned (gans (getL l key)).val ∧ ∃ rb', Om w' Z mb rb' (putL l key v) ∧ (rb' = rb ∨ ∃ k, rb' = some k ∧ w.heap.size ≤ k) ∧ Turn (fun k => k = mb ∨ rb = some k) w w' := by
  obtain ⟨fo, hfo⟩ : ∃ b, (getL l key).isSome = b := ⟨_, rfl⟩
  obtain ⟨vo, hvo⟩ : ∃ b, (getL l key).getD ⟨#[]⟩ = b := ⟨_, rfl⟩
  have hga : gans (getL l key) = ⟨0, fo, ⟨#[]⟩, vo⟩ := by unfold gans; rw [hfo, hvo]
  rw [hga]
  have hlt0 := h.lt
  have HR := Lib.hid (Res.start w)
  have CG : Hid (∀ W, Turn No w W → Calls Try.prog 65 #[.pointer (some ⟨mb, 0, none⟩), .string key] W fun e w' => e = .returned (.agg #[.int .i64 0, .bool fo, .string ⟨#[]⟩, .string vo]) ∧ Turn No W w') := Lib.hid fun W t => by
    have := get_any (h.no t) key
    rw [hga] at this
    exact this
  have CF := Lib.hid fun (W : World) (t : Turn No w W) => find_any (h.no t) key
  have HB := Lib.hid (And.intro hlt0 (And.intro hk hn))
  have HM0 := Lib.hid h
  have hv'2 := hv
  clear h hlt0 hga hfo hvo hn
  go_enter Try.func66, Try.ntmps66
  go_upto_region 1 with fail
  unfold ans0 at HR
  generalize w.alloc (.cells #[.int .i64 0, .bool false, .string ⟨#[]⟩, .string ⟨#[]⟩] 38) = w1 at HR ⊢
  obtain ⟨g, hg⟩ : ∃ g, w.heap.size = g := ⟨_, rfl⟩
  rw [hg] at HR ⊢
  have HG := Lib.hid hg
  clear hg
  go_upto_region 2 with (go_at_call 65; refine (CG.out _ HR.out.tu).mono ?_; rintro e w2 ⟨rfl, ht⟩; have H2 := Lib.hid (HR.out.no ht); clear ht)
  have H3 : Hid (Pt w (w2.alloc (.cells #[.int .i64 0, .bool fo, .string ⟨#[]⟩, .string vo] 38)) Z mb rb l g w2.heap.size ⟨0, fo, ⟨#[]⟩, vo⟩) := Lib.hid (by
    have hs : Turn No w2 (w2.alloc (.cells #[.int .i64 0, .bool fo, .string ⟨#[]⟩, .string vo] 38)) := (Turn.refl _ _).alloc _
    have hl := H2.out.at_.lt
    exact ⟨HM0.out.no (H2.out.tu.trans hs), H2.out.tu.trans hs, H2.out.at_.no hs, At.new _ _, H2.out.old, H2.out.tu.size, by omega⟩)
  clear H2 CG HR
  generalize w2.alloc (.cells #[.int .i64 0, .bool fo, .string ⟨#[]⟩, .string vo] 38) = w3 at H3 ⊢
  generalize w2.heap.size = g2 at H3 ⊢
  go_upto_if 20 with (go_at_call 96; refine (CF.out _ H3.out.tu).mono ?_; rintro e w4 ⟨rfl, ht⟩; have H4 := Lib.hid (H3.out.no ht); clear ht)
  clear H3 CF
  cases hh : hasL l key with
  | true =>
    obtain ⟨v0, t, ht⟩ := has_true hh
    have hL : lowL l key ++ ⟨key, v⟩ :: t = putL l key v := by rw [put_low, hh, ht]; rfl
    have hsp : l = lowL l key ++ ⟨key, v0⟩ :: t := by rw [← ht, split_L]
    obtain ⟨rb1, n, cap, HM⟩ : ∃ rb1 n cap, Hid (Rdy w w4 Z mb rb key v g g2 ⟨0, fo, ⟨#[]⟩, vo⟩ rb1 (lowL l key) t v0 n cap) := by
      obtain ⟨A, cap, h0, hr, hb⟩ := H4.out.om.rowed
      have hlen : l.length = (lowL l key).length + t.length + 1 := by
        have := congrArg List.length hsp
        rw [List.length_append, List.length_cons] at this
        omega
      rcases hr.2 with ⟨hv, h1⟩ | ⟨rb1, c, cur, hv, hb1, hg1, _⟩
      · omega
      · injection hv with e1 _ e3
        subst e1 e3
        have hrl := H4.out.om.rb_lt hb.symm
        have hold : rb1 < w.heap.size := (HM0.out.rb_lt hb.symm).2
        refine ⟨rb1, l.length, cap, Lib.hid ⟨⟨h0, hsp ▸ hr, hlen, H4.out.om.mb_new, H4.out.om.ne hb.symm⟩, H4.out.tu.mono (fun _ _ h => h.elim), H4.out.res, H4.out.had, H4.out.old, HB.out.1, ?_, ?_, .inl hb.symm, ?_, ?_, H4.out.om.few⟩⟩
        · have := H4.out.old; omega
        · have := H4.out.old2; omega
        · rw [hL]; exact H4.out.om.asc.put key v
        · intro q hq
          rcases List.mem_append.1 hq with h | h
          · exact H4.out.om.fit q (by rw [hsp]; exact List.mem_append.2 (.inl h))
          · rcases List.mem_cons.1 h with rfl | h
            · exact ⟨HB.out.2.1, hv'2⟩
            · exact H4.out.om.fit q (by rw [hsp]; exact List.mem_append.2 (.inr (List.mem_cons_of_mem _ h)))
    have HL := Lib.hid hL
    obtain ⟨c, hc⟩ : ∃ c, (lowL l key).length = c := ⟨_, rfl⟩
    have HC := Lib.hid hc
    rw [hc]
    clear hc hL hsp ht hh H4 HM0 HB
    go_wp2_with fail
    have hlt : c < n := by have := HM.out.mid.len; have := HC.out; omega
    have CV := Lib.hid fun (W : World) (t : Turn No w4 W) => clone_turn v hv W t
    have m0 : w4.drew.cell? ⟨mb, 0, none⟩ = some (.slice (some ⟨rb1, 0, none⟩) n cap) := by simpa using HM.out.mid.cell.cell 0
    have hS1 : Hid (∀ w2, Turn No w4 w2 → w2.cell? ⟨mb, 0, none⟩ = some (.slice (some ⟨rb1, 0, none⟩) n cap)) := Lib.hid fun w2 t => by simpa using (HM.out.no t).mid.cell.cell 0
    have hS2 : Hid (∀ w2, Turn No w4 w2 → (w2.setCell ⟨rb1, c * 2 + 1, none⟩ (.string v)).cell? ⟨mb, 0, none⟩ = some (.slice (some ⟨rb1, 0, none⟩) n cap)) := Lib.hid fun w2 t => by simpa using ((HM.out.no t).mid.cell.turn (Turn.set1 w2 rb1 _ _) HM.out.mid.ne).cell 0
    have hT : Hid (∀ w2, Turn No w4 w2 → w2.cell? ⟨rb1, c * 2 + 1, none⟩ = some (.string v0) ∧ w2.frozen? ⟨rb1, c * 2 + 1, none⟩ = false) := Lib.hid fun w2 t => by
      have := (HM.out.no t).mid.target
      rwa [HC.out] at this
    go_region_held3 (fun W => W.cell? ⟨mb, 0, none⟩ = some (.slice (some ⟨rb1, 0, none⟩) n cap)) (first | (with_reducible exact m0) | (with_reducible exact hS1.out _ hy.out) | (with_reducible exact hS2.out _ hy.out)) (first | (go_at_call 79; refine (CV.out _ ((Turn.refl _ _).drewN _)).mono ?_; rintro e wy ⟨rfl, _, hy⟩; replace hy := Lib.hid hy; obtain ⟨yt0, yt1⟩ := hT.out _ hy.out))
    have HE := Lib.hid (HM.out.no hy.out).fin
    rw [HC.out] at HE
    clear m0 hS1 hS2 hT CV HM hy yt0 yt1
    generalize wy.setCell ⟨rb1, c * 2 + 1, none⟩ (.string v) = w8 at HE ⊢
    have f0 := HE.out.res.thawed 0
    have f1 := HE.out.res.thawed 1
    have f2 := HE.out.res.thawed 2
    have f3 := HE.out.res.thawed 3
    have d0 := HE.out.res.cell 0
    have d1 := HE.out.res.cell 1
    have d2 := HE.out.res.cell 2
    have d3 := HE.out.res.cell 3
    have a0 := HE.out.had.cell 0
    have a1 := HE.out.had.cell 1
    have a2 := HE.out.had.cell 2
    have a3 := HE.out.had.cell 3
    simp [ans0, Ans.ar] at d0 d1 d2 d3 a0 a1 a2 a3
    go_wp2_with fail
    have HZ := Lib.hid (HE.out.result (.int .i64 0) (.bool fo) (.string ⟨#[]⟩) (.string vo))
    clear HE f0 f1 f2 f3 d0 d1 d2 d3 a0 a1 a2 a3
    generalize (((w8.setCell ⟨g, 0, none⟩ (.int .i64 0)).setCell ⟨g, 1, none⟩ (.bool fo)).setCell ⟨g, 2, none⟩ (.string ⟨#[]⟩)).setCell ⟨g, 3, none⟩ (.string vo) = w9 at HZ ⊢
    (try simp only [Exit.inBlock, Exit.then])
    refine bodyPost_ret (results_cell_row rfl _ _ g 38 _ (0, 0) _ (by rfl) HZ.out.2.2.2 Try.underlying38 rfl (by kernel_rfl)) rfl ?_
    exact ⟨rfl, _, HL.out ▸ HZ.out.1, HZ.out.2.1, HZ.out.2.2.1⟩
  | false =>
    have hL : lowL l key ++ ⟨key, v⟩ :: hiL l key = putL l key v := by rw [put_low, hh]; rfl
    obtain ⟨A, cap, h0, hr, hb⟩ := H4.out.om.rowed
    have HI : Hid (∀ W, Turn No w4 W → Calls Try.prog 97 #[.slice A l.length cap, .int .i64 ((lowL l key).length : Int), .slice (some ⟨W.heap.size, 0, none⟩) 1 1] (W.alloc (.cells #[.string key, .string ⟨#[]⟩] 47)) fun e w' => ∃ B cap', e = .returned (.slice (some ⟨B, 0, none⟩) (l.length + 1) cap') ∧
        w'.cell? ⟨mb, 0, none⟩ = some (.slice A l.length cap) ∧ w'.frozen? ⟨mb, 0, none⟩ = false ∧ Hid (Rdy w (w'.setCell ⟨mb, 0, none⟩ (.slice (some ⟨B, 0, none⟩) (l.length + 1) cap')) Z mb rb key v g g2 ⟨0, fo, ⟨#[]⟩, vo⟩ B (lowL l key) (hiL l key) ⟨#[]⟩ (l.length + 1) cap')) := Lib.hid fun W t => by
      have tA : Turn No w4 (W.alloc (.cells #[.string key, .string ⟨#[]⟩] 47)) := t.alloc _
      refine (insert_at l key (own_grown hr tA fun _ _ h => h) H4.out.om.few W.heap.size ⟨key, ⟨#[]⟩⟩ (At.new _ _) (fun e => ?_) (Nat.le_trans hZ (Nat.le_trans H4.out.tu.size tA.size))).mono ?_
      · have := (hr.lt _ e).2
        have := t.size
        omega
      · rintro e w' ⟨B, cap', rfl, ho, ht, hB⟩
        have hnm : ¬ (Value.slice A l.length cap).ownBlock = some mb := fun e => H4.out.om.ne (hb ▸ e) rfl
        have hcell := (h0.no tA).turn ht hnm
        have hsz : w4.heap.size < (W.alloc (.cells #[.string key, .string ⟨#[]⟩] 47)).heap.size := by have := t.size; simp; omega
        have hmB : mb ≠ B := by
          rcases hB with h1 | h1
          · exact fun e => hnm (e ▸ h1)
          · have := H4.out.om.lt; omega
        have hgB : ∀ k, k < w4.heap.size → w.heap.size ≤ k → k ≠ B := by
          intro k hk hkw
          rcases hB with h1 | h1
          · have := (HM0.out.rb_lt (hb ▸ h1)).2; omega
          · omega
        refine ⟨B, cap', rfl, by simpa using hcell.cell 0, hcell.thawed 0, Lib.hid ⟨⟨?_, ?_, ?_, H4.out.om.mb_new, hmB⟩, ?_, ?_, ?_, H4.out.old, HB.out.1, hgB g H4.out.res.lt H4.out.old, hgB g2 H4.out.had.lt H4.out.old2, ?_, ?_, ?_, ?_⟩⟩
        · simpa using hcell.set 0 (.slice (some ⟨B, 0, none⟩) (l.length + 1) cap')
        · exact own_grown ho (Turn.set1 w' mb _ _) (fun k hk e => hmB (by injection hk with hk; exact e.symm.trans hk.symm))
        · rw [len_L]
        · exact ((((H4.out.tu.trans tA).mono (Y := fun k => k = mb ∨ rb = some k) (fun _ _ h => h.elim)).then ht (fun i _ hy => Or.inr (hb ▸ hy))).setCell (p := ⟨mb, 0, none⟩) (Or.inl (Or.inl rfl)) _)
        · exact ((H4.out.res.no tA).turn ht (fun e => by have := (HM0.out.rb_lt (hb ▸ e)).2; have := H4.out.old; omega)).turn (Turn.set1 w' mb _ _) (by have := HB.out.1; have := H4.out.old; omega)
        · exact ((H4.out.had.no tA).turn ht (fun e => by have := (HM0.out.rb_lt (hb ▸ e)).2; have := H4.out.old2; omega)).turn (Turn.set1 w' mb _ _) (by have := HB.out.1; have := H4.out.old2; omega)
        · rcases hB with h1 | h1
          · exact .inl (hb ▸ h1)
          · have := H4.out.tu.size; exact .inr (by omega)
        · rw [hL]; exact H4.out.om.asc.put key v
        · intro q hq
          have hin : ∀ q ∈ lowL l key ++ hiL l key, Fit q.k ∧ Fit q.v := by rw [split_L]; exact H4.out.om.fit
          rcases List.mem_append.1 hq with h | h
          · exact hin q (List.mem_append.2 (.inl h))
          · rcases List.mem_cons.1 h with rfl | h
            · exact ⟨HB.out.2.1, hv'2⟩
            · exact hin q (List.mem_append.2 (.inr h))
        · have := HB.out.2.2; omega
    have HL := Lib.hid hL
    obtain ⟨n0, hn0⟩ : ∃ n0, l.length = n0 := ⟨_, rfl⟩
    obtain ⟨X, hX⟩ : ∃ X, lowL l key = X := ⟨_, rfl⟩
    have m0 : w4.drew.cell? ⟨mb, 0, none⟩ = some (.slice A n0 cap) := by rw [← hn0]; simpa using h0.cell 0
    have hS1 : Hid (∀ w2, Turn No w4 w2 → w2.cell? ⟨mb, 0, none⟩ = some (.slice A n0 cap)) := Lib.hid fun w2 t => by rw [← hn0]; simpa using (h0.no t).cell 0
    have CK := Lib.hid fun (W : World) (t : Turn No w4 W) => clone_turn key HB.out.2.1 W t
    rw [hX, hn0] at HI
    rw [hX] at HL
    rw [hX]
    obtain ⟨c, hc⟩ : ∃ c, X.length = c := ⟨_, rfl⟩
    have HC := Lib.hid hc
    rw [hc] at HI
    rw [hc]
    clear hc hX hn0 hL h0 hr hb hh H4 HM0
    go_wp2_with fail
    go_region_with (first | (go_at_call 79; refine (CK.out _ ((Turn.refl _ _).drewN _)).mono ?_; rintro e wy ⟨rfl, _, hy⟩; replace hy := Lib.hid hy; have y0 := hS1.out _ hy.out; have y1 := hS1.out (wy.alloc (.cells #[.string key, .string ⟨#[]⟩] 47)) (hy.out.alloc _)) | (go_at_call 97; refine (HI.out _ hy.out).mono ?_; rintro e wz ⟨B, cap', rfl, z0, z1, HM⟩))
    all_goals
      generalize wz.setCell ⟨mb, 0, none⟩ (.slice (some ⟨B, 0, none⟩) (n0 + 1) cap') = w7 at HM ⊢
      obtain ⟨n, hn⟩ : ∃ n, n0 + 1 = n := ⟨_, rfl⟩
      rw [hn] at HM ⊢
      clear HI CK m0 hS1 y0 y1 z0 z1 hy hn
      go_wp2_with fail
      have hlt : c < n := by have := HM.out.mid.len; have := HC.out; omega
      have CV := Lib.hid fun (W : World) (t : Turn No w7 W) => clone_turn v hv W t
      have m0 : w7.drew.cell? ⟨mb, 0, none⟩ = some (.slice (some ⟨B, 0, none⟩) n cap') := by simpa using HM.out.mid.cell.cell 0
      have hS1 : Hid (∀ w2, Turn No w7 w2 → w2.cell? ⟨mb, 0, none⟩ = some (.slice (some ⟨B, 0, none⟩) n cap')) := Lib.hid fun w2 t => by simpa using (HM.out.no t).mid.cell.cell 0
      have hS2 : Hid (∀ w2, Turn No w7 w2 → (w2.setCell ⟨B, c * 2 + 1, none⟩ (.string v)).cell? ⟨mb, 0, none⟩ = some (.slice (some ⟨B, 0, none⟩) n cap')) := Lib.hid fun w2 t => by simpa using ((HM.out.no t).mid.cell.turn (Turn.set1 w2 B _ _) HM.out.mid.ne).cell 0
      have hT : Hid (∀ w2, Turn No w7 w2 → w2.cell? ⟨B, c * 2 + 1, none⟩ = some (.string ⟨#[]⟩) ∧ w2.frozen? ⟨B, c * 2 + 1, none⟩ = false) := Lib.hid fun w2 t => by
        have := (HM.out.no t).mid.target
        rwa [HC.out] at this
      go_region_held3 (fun W => W.cell? ⟨mb, 0, none⟩ = some (.slice (some ⟨B, 0, none⟩) n cap')) (first | (with_reducible exact m0) | (with_reducible exact hS1.out _ hy.out) | (with_reducible exact hS2.out _ hy.out)) (first | (go_at_call 79; refine (CV.out _ ((Turn.refl _ _).drewN _)).mono ?_; rintro e wy ⟨rfl, _, hy⟩; replace hy := Lib.hid hy; obtain ⟨yt0, yt1⟩ := hT.out _ hy.out))
      have HE := Lib.hid (HM.out.no hy.out).fin
      rw [HC.out] at HE
      clear m0 hS1 hS2 hT CV HM hy yt0 yt1
      generalize wy.setCell ⟨B, c * 2 + 1, none⟩ (.string v) = w8 at HE ⊢
      have f0 := HE.out.res.thawed 0
      have f1 := HE.out.res.thawed 1
      have f2 := HE.out.res.thawed 2
      have f3 := HE.out.res.thawed 3
      have d0 := HE.out.res.cell 0
      have d1 := HE.out.res.cell 1
      have d2 := HE.out.res.cell 2
      have d3 := HE.out.res.cell 3
      have a0 := HE.out.had.cell 0
      have a1 := HE.out.had.cell 1
      have a2 := HE.out.had.cell 2
      have a3 := HE.out.had.cell 3
      simp [ans0, Ans.ar] at d0 d1 d2 d3 a0 a1 a2 a3
      go_wp2_with fail
      have HZ := Lib.hid (HE.out.result (.int .i64 0) (.bool fo) (.string ⟨#[]⟩) (.string vo))
      clear HE f0 f1 f2 f3 d0 d1 d2 d3 a0 a1 a2 a3
      generalize (((w8.setCell ⟨g, 0, none⟩ (.int .i64 0)).setCell ⟨g, 1, none⟩ (.bool fo)).setCell ⟨g, 2, none⟩ (.string ⟨#[]⟩)).setCell ⟨g, 3, none⟩ (.string vo) = w9 at HZ ⊢
      (try simp only [Exit.inBlock, Exit.then])
      refine bodyPost_ret (results_cell_row rfl _ _ g 38 _ (0, 0) _ (by rfl) HZ.out.2.2.2 Try.underlying38 rfl (by kernel_rfl)) rfl ?_
      exact ⟨rfl, _, HL.out ▸ HZ.out.1, HZ.out.2.1, HZ.out.2.2.1⟩
end Go.Proofs.Ytllppkfeiifklaa
namespace Go.Proofs.Ytllppkfeiifklaa
open Go.RowKit Go.Lib
set_option linter.unusedVariables false
set_option maxRecDepth 20000
set_option linter.unusedSimpArgs false

theorem Pt.fin {w wr : World} {Z mb : Nat} {rb : Option Nat} {l : List Pr} {g g2 : Nat} {a : Ans} (h : Pt w wr Z mb rb l g g2 a) (hm : mb < w.heap.size) (hr : ∀ k, rb = some k → k < w.heap.size) : Fin w wr Z mb rb g g2 a rb l :=
  ⟨h.om, h.tu.mono (fun _ _ h => h.elim), h.res, h.had, h.old, hm, fun e => by have := hr g e; have := h.old; omega, .inl rfl⟩
set_option maxHeartbeats 2000000 in
theorem remove_any {w : World} {Z mb : Nat} {rb : Option Nat} {l : List Pr} (h : Om w Z mb rb l) (key : ByteArray) :
    Calls Try.prog 67 #[.pointer (some ⟨mb, 0, none⟩), .string key] w fun e w' => e = .returned (gans (getL l key)).val ∧ ∃ rb', Om w' Z mb rb' (delL l key) ∧ (rb' = rb ∨ ∃ k, rb' = some k ∧ w.heap.size ≤ k) ∧ Turn (fun k => k = mb ∨ rb = some k) w w' := by
  obtain ⟨fo, hfo⟩ : ∃ b, (getL l key).isSome = b := ⟨_, rfl⟩
  obtain ⟨vo, hvo⟩ : ∃ b, (getL l key).getD ⟨#[]⟩ = b := ⟨_, rfl⟩
  have hga : gans (getL l key) = ⟨0, fo, ⟨#[]⟩, vo⟩ := by unfold gans; rw [hfo, hvo]
  rw [hga]
  have hlt0 := h.lt
  have HR := Lib.hid (Res.start w)
  have CG : Hid (∀ W, Turn No w W → Calls Try.prog 65 #[.pointer (some ⟨mb, 0, none⟩), .string key] W fun e w' => e = .returned (.agg #[.int .i64 0, .bool fo, .string ⟨#[]⟩, .string vo]) ∧ Turn No W w') := Lib.hid fun W t => by
    have := get_any (h.no t) key
    rw [hga] at this
    exact this
  have CF := Lib.hid fun (W : World) (t : Turn No w W) => find_any (h.no t) key
  have HB := Lib.hid (And.intro hlt0 hlt0)
  have HM0 := Lib.hid h
  clear h hlt0 hga hfo hvo
  go_enter Try.func67, Try.ntmps67
  go_upto_region 1 with fail
  unfold ans0 at HR
  generalize w.alloc (.cells #[.int .i64 0, .bool false, .string ⟨#[]⟩, .string ⟨#[]⟩] 38) = w1 at HR ⊢
  obtain ⟨g, hg⟩ : ∃ g, w.heap.size = g := ⟨_, rfl⟩
  rw [hg] at HR ⊢
  have HG := Lib.hid hg
  clear hg
  go_upto_region 2 with (go_at_call 65; refine (CG.out _ HR.out.tu).mono ?_; rintro e w2 ⟨rfl, ht⟩; have H2 := Lib.hid (HR.out.no ht); clear ht)
  have H3 : Hid (Pt w (w2.alloc (.cells #[.int .i64 0, .bool fo, .string ⟨#[]⟩, .string vo] 38)) Z mb rb l g w2.heap.size ⟨0, fo, ⟨#[]⟩, vo⟩) := Lib.hid (by
    have hs : Turn No w2 (w2.alloc (.cells #[.int .i64 0, .bool fo, .string ⟨#[]⟩, .string vo] 38)) := (Turn.refl _ _).alloc _
    have hl := H2.out.at_.lt
    exact ⟨HM0.out.no (H2.out.tu.trans hs), H2.out.tu.trans hs, H2.out.at_.no hs, At.new _ _, H2.out.old, H2.out.tu.size, by omega⟩)
  clear H2 CG HR
  generalize w2.alloc (.cells #[.int .i64 0, .bool fo, .string ⟨#[]⟩, .string vo] 38) = w3 at H3 ⊢
  generalize w2.heap.size = g2 at H3 ⊢
  go_upto_if 17 with (go_at_call 96; refine (CF.out _ H3.out.tu).mono ?_; rintro e w4 ⟨rfl, ht⟩; have H4 := Lib.hid (H3.out.no ht); clear ht)
  clear H3 CF
  cases hh : hasL l key with
  | true =>
    obtain ⟨v0, t, ht⟩ := has_true hh
    have hL : lowL l key ++ t = delL l key := by rw [H4.out.om.asc.del_low, hh, ht]; rfl
    have hsp : l = lowL l key ++ ⟨key, v0⟩ :: t := by rw [← ht, split_L]
    obtain ⟨rb1, cap, n, c, hn, hc, hrb1, CD⟩ : ∃ rb1 cap n c, l.length = n ∧ (lowL l key).length = c ∧ (w4.cell? ⟨mb, 0, none⟩ = some (.slice (some ⟨rb1, 0, none⟩) n cap) ∧ w4.frozen? ⟨mb, 0, none⟩ = false) ∧ Hid (Calls Try.prog 98 #[.slice (some ⟨rb1, 0, none⟩) n cap, .int .i64 (c : Int), .int .i64 ((c : Int) + 1)] w4 fun e w' =>
        ∃ n1, e = .returned (.slice (some ⟨rb1, 0, none⟩) n1 cap) ∧ w'.cell? ⟨mb, 0, none⟩ = some (.slice (some ⟨rb1, 0, none⟩) n cap) ∧ w'.frozen? ⟨mb, 0, none⟩ = false ∧ Hid (Fin w (w'.setCell ⟨mb, 0, none⟩ (.slice (some ⟨rb1, 0, none⟩) n1 cap)) Z mb rb g g2 ⟨0, fo, ⟨#[]⟩, vo⟩ rb (delL l key))) := by
      obtain ⟨A, cap, h0, hr, hb⟩ := H4.out.om.rowed
      have hlen : l.length = (lowL l key).length + (t.length + 1) := by
        have := congrArg List.length hsp
        rwa [List.length_append, List.length_cons] at this
      rcases hr.2 with ⟨hv, h1⟩ | ⟨rb1, c, cur, hv, hb1, hg1, hnc, hcm, hcs, htk⟩
      · omega
      · injection hv with e1 _ e3
        subst e1 e3
        have hrl := H4.out.om.rb_lt hb.symm
        have hold : rb1 < w.heap.size := (HM0.out.rb_lt hb.symm).2
        have hne := H4.out.om.ne hb.symm
        refine ⟨rb1, cap, l.length, (lowL l key).length, rfl, rfl, ⟨by simpa using h0.cell 0, h0.thawed 0⟩, Lib.hid ?_⟩
        have hd : Hd w4 rb1 cap cur.toList (lowL l key ++ ⟨key, v0⟩ :: t) := ⟨by unfold Blk At; simpa using hg1, by simpa using hcs, by rw [← hsp]; exact hnc, by rw [← hsp]; exact htk⟩
        have := delete_any (lowL l key) t ⟨key, v0⟩ hd hcm
        rw [← hlen] at this
        refine this.mono ?_
        rintro e w' ⟨rfl, ⟨cur', hd'⟩, ht'⟩
        have hc' := h0.turn ht' hne
        refine ⟨_, rfl, by simpa using hc'.cell 0, hc'.thawed 0, Lib.hid ⟨⟨⟨some ⟨rb1, 0, none⟩, cap, ?_, ?_, hb⟩, ?_, ?_, ?_, H4.out.om.mb_new⟩, ?_, ?_, ?_, H4.out.old, HB.out.1, ?_, .inl rfl⟩⟩
        · have := hc'.set 0 (.slice (some ⟨rb1, 0, none⟩) ((lowL l key).length + t.length) cap)
          rw [← hL, List.length_append]
          simpa using this
        · have := hd'.own hb1 hcm
          rw [← hL]
          exact own_grown this (Turn.set1 w' mb _ _) (fun k hk e => hne (by injection hk with hk; exact e.symm.trans hk.symm))
        · exact H4.out.om.asc.del key
        · exact Nat.le_trans (del_length l key) H4.out.om.few
        · exact fun p hp => H4.out.om.fit p (List.mem_filter.1 hp).1
        · exact (((H4.out.tu.mono (Y := fun k => k = mb ∨ rb = some k) (fun _ _ h => h.elim)).then ht' (fun i _ e => Or.inr (by rw [e]; exact hb.symm))).setCell (p := ⟨mb, 0, none⟩) (Or.inl (Or.inl rfl)) _)
        · exact (H4.out.res.turn ht' (by have := H4.out.old; omega)).turn (Turn.set1 w' mb _ _) (by have := HB.out.1; have := H4.out.old; omega)
        · exact (H4.out.had.turn ht' (by have := H4.out.old2; omega)).turn (Turn.set1 w' mb _ _) (by have := HB.out.1; have := H4.out.old2; omega)
        · exact fun e => by have := (HM0.out.rb_lt e).2; have := H4.out.old; omega
    obtain ⟨m0, m1⟩ := hrb1
    have hcl : c < n := by
      have := congrArg List.length hsp
      rw [List.length_append, List.length_cons] at this
      omega
    have hnb : n ≤ 50000 := hn ▸ H4.out.om.few
    rw [hc]
    clear hc hn hL hsp ht hh H4 HM0 HB
    have nn : (c : Int) + 1 ≤ 9223372036854775807 := by omega
    go_upto_region 5 with (go_at_call 98; refine CD.out.mono ?_; rintro e w7 ⟨n1, rfl, z0, z1, HE⟩)
    clear m0 m1 z0 z1 CD
    generalize w7.setCell ⟨mb, 0, none⟩ (.slice (some ⟨rb1, 0, none⟩) n1 cap) = w8 at HE ⊢
    have f0 := HE.out.res.thawed 0
    have f1 := HE.out.res.thawed 1
    have f2 := HE.out.res.thawed 2
    have f3 := HE.out.res.thawed 3
    have d0 := HE.out.res.cell 0
    have d1 := HE.out.res.cell 1
    have d2 := HE.out.res.cell 2
    have d3 := HE.out.res.cell 3
    have a0 := HE.out.had.cell 0
    have a1 := HE.out.had.cell 1
    have a2 := HE.out.had.cell 2
    have a3 := HE.out.had.cell 3
    simp [ans0, Ans.ar] at d0 d1 d2 d3 a0 a1 a2 a3
    go_wp2_with fail
    have HZ := Lib.hid (HE.out.result (.int .i64 0) (.bool fo) (.string ⟨#[]⟩) (.string vo))
    clear HE f0 f1 f2 f3 d0 d1 d2 d3 a0 a1 a2 a3
    generalize (((w8.setCell ⟨g, 0, none⟩ (.int .i64 0)).setCell ⟨g, 1, none⟩ (.bool fo)).setCell ⟨g, 2, none⟩ (.string ⟨#[]⟩)).setCell ⟨g, 3, none⟩ (.string vo) = w9 at HZ ⊢
    (try simp only [Exit.inBlock, Exit.then])
    refine bodyPost_ret (results_cell_row rfl _ _ g 38 _ (0, 0) _ (by rfl) HZ.out.2.2.2 Try.underlying38 rfl (by kernel_rfl)) rfl ?_
    exact ⟨rfl, _, HZ.out.1, HZ.out.2.1, HZ.out.2.2.1⟩
  | false =>
    have hL : l = delL l key := by
      have := H4.out.om.asc.del_low key
      rw [hh] at this
      rw [this]
      exact (split_L l key).symm
    have HE : Hid (Fin w w4 Z mb rb g g2 ⟨0, fo, ⟨#[]⟩, vo⟩ rb (delL l key)) := Lib.hid (hL ▸ H4.out.fin HB.out.1 (fun k hk => (HM0.out.rb_lt hk).2))
    clear hL hh H4 HM0 HB
    obtain ⟨w8, hw8⟩ : ∃ x, x = w4 := ⟨_, rfl⟩
    subst hw8
    have f0 := HE.out.res.thawed 0
    have f1 := HE.out.res.thawed 1
    have f2 := HE.out.res.thawed 2
    have f3 := HE.out.res.thawed 3
    have d0 := HE.out.res.cell 0
    have d1 := HE.out.res.cell 1
    have d2 := HE.out.res.cell 2
    have d3 := HE.out.res.cell 3
    have a0 := HE.out.had.cell 0
    have a1 := HE.out.had.cell 1
    have a2 := HE.out.had.cell 2
    have a3 := HE.out.had.cell 3
    simp [ans0, Ans.ar] at d0 d1 d2 d3 a0 a1 a2 a3
    go_wp2_with fail
    have HZ := Lib.hid (HE.out.result (.int .i64 0) (.bool fo) (.string ⟨#[]⟩) (.string vo))
    clear HE f0 f1 f2 f3 d0 d1 d2 d3 a0 a1 a2 a3
    generalize (((w8.setCell ⟨g, 0, none⟩ (.int .i64 0)).setCell ⟨g, 1, none⟩ (.bool fo)).setCell ⟨g, 2, none⟩ (.string ⟨#[]⟩)).setCell ⟨g, 3, none⟩ (.string vo) = w9 at HZ ⊢
    (try simp only [Exit.inBlock, Exit.then])
    refine bodyPost_ret (results_cell_row rfl _ _ g 38 _ (0, 0) _ (by rfl) HZ.out.2.2.2 Try.underlying38 rfl (by kernel_rfl)) rfl ?_
    exact ⟨rfl, _, HZ.out.1, HZ.out.2.1, HZ.out.2.2.1⟩
end Go.Proofs.Ytllppkfeiifklaa
