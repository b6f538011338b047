/-
  The tree's split.
  The tree's grow.
  A tree with its pool in memory.
  A node that is too full is kept, as plain data: split, and the one above gets one kid more.
  A node that is too full is kept: the tree with its pool behind each step.
-/
import Derived.Test.YtfplnobnmgbgoaaDoorJ12
namespace Go.Proofs.YtfplnobnmgbgoaaDoor
open Go.RowKit Go.Lib
set_option linter.unusedVariables false
set_option maxRecDepth 20000
set_option linter.unusedSimpArgs false

theorem Got.inn {Z : Nat} {w : World} {m : Nd} {AK AV AD : Option Addr} (g : Got Z w m AK AV AD) (fk : ∀ k ∈ m.keys, Fit k) (fv : ∀ k ∈ m.vals, Fit k) (fh : Fit m.high) (lk : m.keys.length ≤ 10000) (lv : m.vals.length ≤ 10000) (ld : m.kids.length ≤ 10000) : Inn w m AK AV AD :=
  ⟨⟨g.k, g.v, g.d, fk, fv, fh, lk, lv, ld⟩, g.wk, g.wv, g.wd⟩
theorem node_there {w : World} {q g : Nat} {n : Nd} {AK : Option Addr} {ck : Nat} {AV : Option Addr} {cv : Nat} {AD : Option Addr} {cd : Nat} (h : At w q (.cells (#[.int .u64 (g : Int)] ++ ndc n AK ck AV cv AD cd) 121 (0, 0))) : w.there q 1 8 := fun j hj => by
  refine ⟨?_, h.thawed _⟩
  rw [h.cell]
  unfold ndc
  match j, hj with
  | 0, _ | 1, _ | 2, _ | 3, _ | 4, _ | 5, _ | 6, _ | 7, _ => rfl
def putsA (c : Array Value) (o : Nat) : List Value → Array Value
  | [] => c
  | v :: vs => putsA (c.setIfInBounds o v) (o + 1) vs
theorem at_setCells {q : Nat} {t : TypeId} : ∀ (vs : List Value) (w : World) (c : Array Value) (o : Nat), At w q (.cells c t (0, 0)) → At (w.setCells q o vs) q (.cells (putsA c o vs) t (0, 0))
  | [], _, _, _, h => h
  | v :: vs, w, c, o, h => at_setCells vs _ _ _ (h.set o v)
theorem store_node {w : World} {q g : Nat} {n : Nd} {AK : Option Addr} {ck : Nat} {AV : Option Addr} {cv : Nat} {AD : Option Addr} {cd : Nat} (h : At w q (.cells (#[.int .u64 (g : Int)] ++ ndc n AK ck AV cv AD cd) 121 (0, 0)))
    (m : Nd) (BK : Option Addr) (dk : Nat) (BV : Option Addr) (dv : Nat) (BD : Option Addr) (dd : Nat) : At (w.setCells q 1 (ndc m BK dk BV dv BD dd).toList) q (.cells (#[.int .u64 (g : Int)] ++ ndc m BK dk BV dv BD dd) 121 (0, 0)) := by
  have h1 := at_setCells (ndc m BK dk BV dv BD dd).toList w _ 1 h
  have e : putsA (#[.int .u64 (g : Int)] ++ ndc n AK ck AV cv AD cd) 1 (ndc m BK dk BV dv BD dd).toList = #[.int .u64 (g : Int)] ++ ndc m BK dk BV dv BD dd := by
    unfold ndc
    simp [putsA]
  rw [e] at h1
  exact h1
theorem ndc_one (m : Nd) (BK : Option Addr) (dk : Nat) (BV : Option Addr) (dv : Nat) (BD : Option Addr) (dd : Nat) : (ndc m BK dk BV dv BD dd).all (·.oneCell') = true := by
  unfold ndc
  simp [Value.oneCell']
theorem box_range {w : World} {b t : Nat} {n : Nd} {AK : Option Addr} {ck : Nat} {AV : Option Addr} {cv : Nat} {AD : Option Addr} {cd : Nat} (h : At w b (.cells (ndc n AK ck AV cv AD cd) t (0, 0))) : w.rangeAt b 0 (ndc n AK ck AV cv AD cd).toList := fun j v hj => by
  rw [h.cell, Nat.zero_add]
  unfold ndc at hj ⊢
  match j, hj with
  | 0, hj | 1, hj | 2, hj | 3, hj | 4, hj | 5, hj | 6, hj | 7, hj => exact hj
theorem inn_nd0 (w : World) : Inn w nd0 none none none :=
  ⟨⟨Row.nil _ _, Row.nil _ _, Row.nil _ _, (fun k hk => by cases hk), (fun k hk => by cases hk), by unfold Fit nd0; decide, Nat.zero_le _, Nat.zero_le _, Nat.zero_le _⟩, .inl rfl, .inl rfl, .inl rfl⟩
/-- The halves come in as the node did. -/
theorem spl_inn {t l r : Nd} {sep : ByteArray} {nxt : Hn} {w w' : World} {AK AV AD A1 A2 A3 B1 B2 B3 : Option Addr} {Z : Nat} (hr : NdRight t) (h5 : t.keys.length = 5) (hs : SplR t nxt l r sep) (hi : In w t AK AV AD) (g1 : Got Z w' l A1 A2 A3) (g2 : Got Z w' r B1 B2 B3) : Inn w' l A1 A2 A3 ∧ Inn w' r B1 B2 B3 ∧ Fit sep := by
  obtain ⟨h, _, _⟩ := sp5_of hr h5 hs
  have fs : Fit sep := hi.fk sep h.ks
  have hO : SplO t := ⟨hr, fun _ => by omega, fun _ => by omega⟩
  obtain ⟨_, el, er⟩ := hs.1 hO
  have lk := hi.lk
  have lv := hi.lv
  have ld := hi.ld
  have e1 : (∀ v ∈ l.vals, v ∈ t.vals) ∧ l.vals.length ≤ t.vals.length ∧ l.kids.length ≤ t.kids.length ∧ l.keys.length ≤ t.keys.length := by
    rw [el]
    unfold spL
    split
    · exact ⟨fun v hv => List.mem_of_mem_take hv, (by rw [List.length_take]; omega), Nat.zero_le _, (by rw [List.length_take]; omega)⟩
    · exact ⟨(fun v hv => by cases hv), Nat.zero_le _, (by rw [List.length_take]; omega), (by rw [List.length_take]; omega)⟩
  have e2 : (∀ v ∈ r.vals, v ∈ t.vals) ∧ r.vals.length ≤ t.vals.length ∧ r.kids.length ≤ t.kids.length ∧ r.keys.length ≤ t.keys.length := by
    rw [er]
    unfold spR
    split
    · exact ⟨fun v hv => List.mem_of_mem_drop hv, (by rw [List.length_drop]; omega), Nat.zero_le _, (by rw [List.length_drop]; omega)⟩
    · exact ⟨(fun v hv => by cases hv), Nat.zero_le _, (by rw [List.length_drop]; omega), (by rw [List.length_drop]; omega)⟩
  exact ⟨g1.inn (fun k hk => hi.fk k (h.kx k hk)) (fun v hv => hi.fv v (e1.1 v hv)) (by rw [h.xh]; exact fs) (by omega) (by omega) (by omega), g2.inn (fun k hk => hi.fk k (h.ky k hk)) (fun v hv => hi.fv v (e2.1 v hv)) (by rw [h.yh]; exact hi.fh) (by omega) (by omega) (by omega), fs⟩
theorem updE_three (N : Nat → Option Ent) (s x : Nat) (a b c : Option Ent) : updE (updE (updE N s a) x b) s c = updE (updE N x b) s c := by
  funext y
  unfold updE
  by_cases h : y = s
  · simp [h]
  · simp [h]
theorem tsplit_end {w4 w5 w6 : World} {I : Ids} {N : Nat → Option Ent} {n : Nat} {s x Y q X : Nat} {e : Ent} (h : Br w4 I (updE N s (some ⟨Y, q, nd0⟩)) n) (he : N x = some e) (hN : N s = none) (hX : e.blk = X) {l rr : Nd} {A1 A2 A3 B1 B2 B3 : Option Addr} {c1 c2 c3 d1 d2 d3 : Nat} (hl : Inn w4 l A1 A2 A3) (hr : Inn w4 rr B1 B2 B3)
    (h5 : w4.setCells X 1 (ndc l A1 c1 A2 c2 A3 c3).toList = w5) (h6 : w5.setCells q 1 (ndc rr B1 d1 B2 d2 B3 d3).toList = w6) :
    Br w6 I (updE (updE N x (some ⟨e.gen, e.blk, l⟩)) s (some ⟨Y, q, rr⟩)) n ∧ Turn (fun i => i = X ∨ i = q) w4 w6 ∧ (∃ c, At w4 X (.cells c 121 (0, 0))) ∧ (∃ c, At w4 q (.cells c 121 (0, 0))) ∧ I.Z ≤ X ∧ I.Z ≤ q := by
  have hxs : x ≠ s := fun e2 => by rw [e2, hN] at he; cases he
  have k1 : updE N s (some ⟨Y, q, nd0⟩) x = some e := by unfold updE; rw [if_neg hxs]; exact he
  have k2 : updE N s (some ⟨Y, q, nd0⟩) s = some ⟨Y, q, nd0⟩ := by unfold updE; rw [if_pos rfl]
  obtain ⟨AK, ck, AV, cv, AD, cd, a1, _⟩ := h.at_ k1
  obtain ⟨BK, dk, BV, dv, BD, dd, a2, _⟩ := h.at_ k2
  have hz1 : I.Z ≤ e.blk := by obtain ⟨M, f, hb⟩ := h; exact (hb.z x e k1).1
  have hz2 : I.Z ≤ q := by obtain ⟨M, f, hb⟩ := h; exact (hb.z s _ k2).1
  have t1 : Turn (fun i => i = X) w4 w5 := by rw [← h5]; exact turn_sets X _ 1 w4
  have t2 : Turn (fun i => i = q) w5 w6 := by rw [← h6]; exact turn_sets q _ 1 w5
  subst hX
  have b1 : At w5 e.blk (.cells (#[.int .u64 (e.gen : Int)] ++ ndc l A1 c1 A2 c2 A3 c3) 121 (0, 0)) := by rw [← h5]; exact store_node a1 ..
  have s5 := h.set k1 hl t1 b1
  have tyX : ∀ {i : Nat} {c : Array Value} {ty : TypeId}, At w4 i (.cells c ty (0, 0)) → ty ≠ 121 → i ≠ e.blk := fun {i c ty} hi hty e2 => by
    subst e2
    have := hi.eq a1
    injection this with _ this
    exact hty this
  have hr5 : Inn w5 rr B1 B2 B3 := hr.turn t1 (fun b c hb => tyX hb (by decide)) (fun b c hb => tyX hb (by decide))
  have k3 : updE (updE N s (some ⟨Y, q, nd0⟩)) x (some ⟨e.gen, e.blk, l⟩) s = some ⟨Y, q, nd0⟩ := by
    unfold updE
    rw [if_neg (fun h => hxs h.symm), if_pos rfl]
  obtain ⟨BK2, dk2, BV2, dv2, BD2, dd2, a3, _⟩ := s5.at_ k3
  have b2 : At w6 q (.cells (#[.int .u64 (Y : Int)] ++ ndc rr B1 d1 B2 d2 B3 d3) 121 (0, 0)) := by rw [← h6]; exact store_node a3 ..
  have s6 := s5.set k3 hr5 t2 b2
  rw [updE_three] at s6
  exact ⟨s6, (t1.mono fun _ _ h => .inl h).then t2 fun i _ h => .inr h, ⟨_, a1⟩, ⟨_, a2⟩, hz1, hz2⟩
theorem at_alc {w w' : World} {I : Ids} {N : Nat → Option Ent} {n : Nat} {G : List Nat} {fr : Nat → Bool} (hb : Br w I N n) (hP : Pool w I.pb I.gb I.fb G fr) (t : Turn (fun i => i = I.fb ∨ i = I.mb) w w') {i : Nat} {c : Array Value} {ty : TypeId} (h : At w i (.cells c ty (0, 0))) (hty : ty ≠ 68) : At w' i (.cells c ty (0, 0)) := by
  obtain ⟨M, f, hb⟩ := hb
  refine h.turn t fun hx => ?_
  rcases hx with e | e
  · subst e
    obtain ⟨F, _, _, hf, _⟩ := hP
    have := h.eq hf
    injection this with _ this
    exact hty this
  · exact hb.mbne h e
theorem Pool.typed {w w' : World} {pb gb fb : Nat} {G : List Nat} {fr : Nat → Bool} (h : Pool w pb gb fb G fr) {Y : Nat → Prop} (t : Turn Y w w') (hY : ∀ i, Y i → ∃ c ty, At w i (.cells c ty (0, 0)) ∧ ty ≠ 70 ∧ ty ≠ 68) : Pool w' pb gb fb G fr := by
  have hp := h
  obtain ⟨F, q1, q2, q3, _⟩ := h
  refine hp.turn t (fun hy => ?_) (fun hy => ?_) (fun hy => ?_)
  all_goals
    obtain ⟨c, ty, h1, h2, h3⟩ := hY _ hy
    first
      | (have := h1.eq q1; injection this with _ this; exact h2 this)
      | (have := h1.eq q2; injection this with _ this; exact h3 this)
      | (have := h1.eq q3; injection this with _ this; exact h3 this)
/-- The same value once more. -/
theorem setCell_same {w : World} {b i : Nat} {c : Array Value} {t : TypeId} {f : Nat × Nat} {u : Value} (h : At w b (.cells c t f)) (hu : c[i]? = some u) : w.setCell ⟨b, i, none⟩ u = w := by
  unfold At at h
  have hh : (w.setCell ⟨b, i, none⟩ u).heap = w.heap := by
    unfold World.setCell
    apply Array.ext_getElem?
    intro j
    simp only
    rw [Array.getElem?_modify]
    by_cases hj : b = j
    · subst hj
      rw [if_pos rfl, h]
      simp only [Option.map_some, Option.isSome_none, Bool.false_eq_true, if_false]
      congr 2
      apply Array.ext_getElem?
      intro k
      rw [Array.getElem?_setIfInBounds]
      split
      · rename_i hk
        subst hk
        rw [hu]
        have := (Array.getElem?_eq_some_iff.1 hu).1
        simp [this]
      · rfl
    · rw [if_neg hj]
  calc w.setCell ⟨b, i, none⟩ u = { w with heap := (w.setCell ⟨b, i, none⟩ u).heap } := rfl
    _ = w := by rw [hh]
theorem set2 {w : World} {b : Nat} {u0 u1 v0 v1 : Value} {t : TypeId} (h : At w b (.cells #[u0, u1] t (0, 0))) : At ((w.setCell ⟨b, 0, none⟩ v0).setCell ⟨b, 1, none⟩ v1) b (.cells #[v0, v1] t (0, 0)) ∧ Turn (fun i => i = b) w ((w.setCell ⟨b, 0, none⟩ v0).setCell ⟨b, 1, none⟩ v1) :=
  ⟨(h.set 0 v0).set 1 v1, ((Turn.refl (fun i => i = b) w).setCell (p := ⟨b, 0, none⟩) (Or.inl rfl) _).setCell (p := ⟨b, 1, none⟩) (Or.inl rfl) _⟩
theorem st_node {w : World} {q : Nat} (h : w.there q 1 8) (m : Nd) (BK : Option Addr) (dk : Nat) (BV : Option Addr) (dv : Nat) (BD : Option Addr) (dd : Nat) : w.there q 1 (ndc m BK dk BV dv BD dd).size ∧ (Tryd.prog.info? 79).map (·.size) = some (ndc m BK dk BV dv BD dd).size ∧ (ndc m BK dk BV dv BD dd).all (·.oneCell') = true :=
  ⟨h, inf79, ndc_one ..⟩
theorem tsplit_there {w w' : World} {I : Ids} {N : Nat → Option Ent} {n : Nat} {s x Y q X : Nat} {e : Ent} (h : Br w I (updE N s (some ⟨Y, q, nd0⟩)) n) (he : N x = some e) (hN : N s = none) (hX : e.blk = X) (t : Turn No w w') : w'.there X 1 8 ∧ X ≠ q ∧ w'.there q 1 8 := by
  have hxs : x ≠ s := fun e2 => by rw [e2, hN] at he; cases he
  have h1 : updE N s (some ⟨Y, q, nd0⟩) x = some e := by unfold updE; rw [if_neg hxs]; exact he
  have h2 : updE N s (some ⟨Y, q, nd0⟩) s = some ⟨Y, q, nd0⟩ := by unfold updE; rw [if_pos rfl]
  obtain ⟨AK, ck, AV, cv, AD, cd, a1, _⟩ := (h.no t).at_ h1
  obtain ⟨BK, dk, BV, dv, BD, dd, a2, _⟩ := (h.no t).at_ h2
  rw [hX] at a1
  refine ⟨node_there a1, fun e2 => ?_, node_there a2⟩
  obtain ⟨M, f, hb⟩ := h
  exact hxs (hb.apart h1 h2 (by rw [hX]; exact e2))
set_option maxRecDepth 100000 in
set_option maxHeartbeats 4000000 in
theorem tsplit_any {w : World} {I : Ids} {N : Nat → Option Ent} {n : Nat} {root : Hn} {G : List Nat} {fr : Nat → Bool} {s x : Nat} {e : Ent} {t : Nd} {AK : Option Addr} (ck : Nat) {AV : Option Addr} (cv : Nat) {AD : Option Addr} (cd : Nat)
    (hb : Br w I N n) (ht : TrB w I root) (hP : Pool w I.pb I.gb I.fb G fr) (hT : Tab w) (he : N x = some e) (hi : Inn w t AK AV AD) (hr : NdRight t) (h5 : t.keys.length = 5) (hs : fr s = true) (hl : ∀ y, y < s → fr y = false) (hN : N s = none) (hn : n < 1000000) (hg : 1 ≤ G.getD s 0) (hz : I.Z ≤ w.heap.size) :
    Calls Tryd.prog 71 #[.pointer (some ⟨I.tb, 0, none⟩), pq e.blk, .agg (ndc t AK ck AV cv AD cd)] w fun r w' => ∃ sep l rr q, r = .returned (.tuple #[.string sep, .agg #[.int .i64 (s : Int), .int .u64 (G.getD s 0 : Nat)]]) ∧ Fit sep ∧ SplR t ⟨(s : Int), (G.getD s 0 : Nat)⟩ l rr sep ∧
      Pool w' I.pb I.gb I.fb G (fun y => fr y && y != s) ∧ Br w' I (updE (updE N x (some ⟨e.gen, e.blk, l⟩)) s (some ⟨G.getD s 0, q, rr⟩)) (n + 1) ∧ TrB w' I root ∧ Tn I w w' := by
  obtain ⟨X, hX⟩ : ∃ X, e.blk = X := ⟨_, rfl⟩
  obtain ⟨Y, hY⟩ : ∃ Y, G.getD s 0 = Y := ⟨_, rfl⟩
  rw [hX]
  have HX := Lib.hid hX
  have HY := Lib.hid hY
  -- the box, the result's cell
  have tj := ((Turn.refl No w).alloc (.cells (ndc t AK ck AV cv AD cd) 79)).alloc (.cells #[.int .i64 0, .int .u64 0] 77)
  have HB0 := At.no (At.new w (.cells (ndc t AK ck AV cv AD cd) 79)) ((Turn.refl No _).alloc (.cells #[.int .i64 0, .int .u64 0] 77))
  have HB1 := At.new (w.alloc (.cells (ndc t AK ck AV cv AD cd) 79)) (.cells #[.int .i64 0, .int .u64 0] 77)
  have hsz : (w.alloc (.cells (ndc t AK ck AV cv AD cd) 79)).heap.size = w.heap.size + 1 := by simp
  rw [hsz] at HB1
  have HALL := Lib.hid (And.intro hb (And.intro ht (And.intro hP (And.intro hT (And.intro hi (And.intro hr (And.intro h5 (And.intro he (And.intro hN tj)))))))))
  have t1 := At.cell (At.no ht tj) 1
  simp at t1
  have ltb := At.lt ht
  have CA := Lib.hid (allocB_some hb tj (hP.turn tj (fun h => h) (fun h => h) (fun h => h)) (hT.turn tj (fun h => h) hT.pos) hs hl hN hn hg (by have := tj.size; omega) 0 0 0 (inn_nd0 _))
  rw [hY] at CA hg
  clear hb ht hP hT he hi hr h5 hN
  unfold pq
  go_enter Tryd.func71, Tryd.ntmps71
  go_upto_region 10 with fail
  refine CA.out.mono ?_
  rintro ee w1 ⟨rfl, hp1, hm1, ⟨q, hq, hbq⟩, ht1⟩
  obtain ⟨hb, ht, hP, hT, hi, hr, h5, he, hN, tj⟩ := HALL.out
  have hPj := hP.turn tj (fun h => h) (fun h => h) (fun h => h)
  have hbj := hb.no tj
  have hA0 := at_alc hbj hPj ht1 HB0 (by decide)
  have hA1 := at_alc hbj hPj ht1 HB1 (by decide)
  have hAt := at_alc hbj hPj ht1 (At.no ht tj) (by decide)
  obtain ⟨b0, hb0⟩ : ∃ x, w.heap.size = x := ⟨_, rfl⟩
  rw [hb0] at hA0 hA1 ⊢
  have l1 := hA1.lt
  obtain ⟨y0, y1⟩ := at2 hA1
  have z0 := hA1.thawed 0
  have z1 := hA1.thawed 1
  have s1 := At.cell hAt 1
  simp at s1
  have HW1 := Lib.hid (And.intro hp1 (And.intro hm1 (And.intro hq (And.intro hbq (And.intro ht1 (And.intro hA0 (And.intro hA1 (And.intro hAt hb0))))))))
  clear hb ht hP hT hi hr h5 he hN tj hPj hbj hA0 hA1 hAt hp1 hm1 hq hbq ht1 t1 HB0 HB1 CA
  go_upto_region 11 with fail
  obtain ⟨hp1, hm1, hq, hbq, ht1, hA0, hA1, hAt, hb0⟩ := HW1.out
  obtain ⟨hA12, t12⟩ := set2 (v0 := .int .i64 (s : Int)) (v1 := .int .u64 (Y : Int)) hA1
  generalize (w1.setCell ⟨b0 + 1, 0, none⟩ (.int .i64 (s : Int))).setCell ⟨b0 + 1, 1, none⟩ (.int .u64 (Y : Int)) = w2 at hA12 t12 ⊢
  have hb2 := hbq w2 _ t12 (by intro i hi; rw [hi]; exact ⟨by omega, _, _, hA1, by decide⟩) (inn_nd0 _)
  have hp2 := hp1.typed t12 (by intro i hi; rw [hi]; exact ⟨_, _, hA1, by decide, by decide⟩)
  have hA02 := hA0.turn t12 (by omega)
  have hAt2 : TrB w2 I root := At.turn hAt t12 fun e2 => by
    have h := hA1
    rw [← e2] at h
    have := At.eq hAt h
    injection this with _ this
    exact absurd this (by decide)
  have hwt : Turn (fun i => i = I.fb ∨ i = I.mb) w w2 := by
    obtain ⟨_, _, _, _, _, _, _, _, _, tj⟩ := HALL.out
    exact (Turn.then (X := fun i => i = I.fb ∨ i = I.mb) (tj.mono fun _ _ hx => hx.elim) ht1 fun i _ hi => hi).then t12 fun i hi e2 => by omega
  have HW2 := Lib.hid (And.intro hb2 (And.intro hp2 (And.intro hA02 (And.intro hA12 (And.intro hAt2 hwt)))))
  have s1' := At.cell hAt2 1
  simp at s1'
  obtain ⟨y0', y1'⟩ := at2 hA12
  have hes : updE N s (some ⟨Y, q, nd0⟩) s = some ⟨Y, q, nd0⟩ := by unfold updE; rw [if_pos rfl]
  have GY : Hid (∀ W, Turn No w2 W → Calls Tryd.prog 61 #[.pointer (some ⟨I.ab, 0, none⟩), .agg #[.int .i64 (s : Int), .int .u64 (Y : Int)]] W fun r w' => r = .returned (.tuple #[.pointer (some ⟨q, 1, none⟩), .bool true]) ∧ Turn No W w') := Lib.hid fun W tW => getB_yes (HW2.out.1.no tW) hes
  have HS : Hid (∀ W, Turn No w2 W → W.cell? ⟨I.tb, 1, none⟩ = some (.pointer (some ⟨I.ab, 0, none⟩)) ∧ W.cell? ⟨b0 + 1, 0, none⟩ = some (.int .i64 (s : Int)) ∧ W.cell? ⟨b0 + 1, 1, none⟩ = some (.int .u64 (Y : Int))) := Lib.hid fun W t => ⟨by simpa using At.cell (At.no HW2.out.2.2.2.2.1 t) 1, at2 (HW2.out.2.2.2.1.no t)⟩
  have l1' := hA12.lt
  clear hp1 hm1 hbq ht1 hA0 hA1 hAt t12 hb2 hp2 hA02 hA12 hAt2 hwt hb0 y0 y1 z0 z1 s1 hes
  go_region_held3 (fun W => W.cell? ⟨I.tb, 1, none⟩ = some (.pointer (some ⟨I.ab, 0, none⟩)) ∧ W.cell? ⟨b0 + 1, 0, none⟩ = some (.int .i64 (s : Int)) ∧ W.cell? ⟨b0 + 1, 1, none⟩ = some (.int .u64 (Y : Int))) (first | (with_reducible exact ⟨s1', y0', y1'⟩) | (exact HS.out _ (by first | exact (Turn.refl No _).drew | assumption))) (first | (go_at_call 61; (with_reducible refine (GY.out _ (Turn.refl No _).drew).mono ?_); rintro e w3 ⟨rfl, ht⟩; have ht : Turn No w2 w3 := (Turn.refl No w2).drew.trans ht))
  obtain ⟨hb2, hp2, hA02, hA12, hAt2, hwt⟩ := HW2.out
  obtain ⟨hb, htt, hP, hT, hi, hr, h5, he, hN, tj⟩ := HALL.out
  have hi3 : Inn w3 t AK AV AD := by
    have t3 : Turn (fun i => i = I.fb ∨ i = I.mb) w w3 := hwt.then ht fun i _ hx => hx.elim
    refine hi.any t3 fun i hx => ?_
    rcases hx with e2 | e2
    · subst e2
      obtain ⟨F, _, _, hf, _⟩ := hP
      exact .inl ⟨_, _, hf, by decide, by decide⟩
    · subst e2
      obtain ⟨M, f, hb⟩ := hb
      exact .inr fun c t hc => hb.ar.2.1.ne hc rfl
  have CS := Lib.hid (split_c t AK AV AD ck cv cd ⟨(s : Int), (Y : Int)⟩ w3 hi3.i)
  have hr0 := box_range (hA02.no ht)
  obtain ⟨y2, y3⟩ := at2 (hA12.no ht)
  have l3 := (hA12.no ht).lt
  have l30 := (hA02.no ht).lt
  have HT3 := Lib.hid ht
  have HI3 := Lib.hid hi3
  clear hb2 hp2 hA02 hA12 hAt2 hwt hb htt hP hT hi hr h5 he hN tj hi3 ht s1' y0' y1' l1'
  go_wp2_with (first | (refine wpList_load_mid rfl 79 _ rfl b0 0 rfl (ndc t AK ck AV cv AD cd).toList _ hr0 Tryd.underlying79 rfl inf79 ?_))
  refine CS.out.mono ?_
  rintro ee w4 ⟨l, rr, sep, A1, c1, A2, c2, A3, c3, B1, d1, B2, d2, B3, d3, rfl, hsp, hg1, hg2, _, ht4⟩
  have HSP := Lib.hid (And.intro hsp (And.intro hg1 (And.intro hg2 ht4)))
  clear hsp hg1 hg2 ht4
  have hth := tsplit_there HW2.out.1 HALL.out.2.2.2.2.2.2.2.1 HALL.out.2.2.2.2.2.2.2.2.1 HX.out (HT3.out.trans HSP.out.2.2.2)
  have hst1 : w4.there X 1 (#[.bool l.leaf, .slice A1 l.keys.length c1, .slice A2 l.vals.length c2, .slice A3 l.kids.length c3, .string l.high, .bool l.bnd, .int .i64 l.nx.slot, .int .u64 l.nx.gen] : Array Value).size ∧ (Tryd.prog.info? 79).map (·.size) = some (#[.bool l.leaf, .slice A1 l.keys.length c1, .slice A2 l.vals.length c2, .slice A3 l.kids.length c3, .string l.high, .bool l.bnd, .int .i64 l.nx.slot, .int .u64 l.nx.gen] : Array Value).size ∧ (#[.bool l.leaf, .slice A1 l.keys.length c1, .slice A2 l.vals.length c2, .slice A3 l.kids.length c3, .string l.high, .bool l.bnd, .int .i64 l.nx.slot, .int .u64 l.nx.gen] : Array Value).all (·.oneCell') = true := st_node hth.1 l A1 c1 A2 c2 A3 c3
  have hst2 : (w4.setCells X 1 (#[.bool l.leaf, .slice A1 l.keys.length c1, .slice A2 l.vals.length c2, .slice A3 l.kids.length c3, .string l.high, .bool l.bnd, .int .i64 l.nx.slot, .int .u64 l.nx.gen] : Array Value).toList).there q 1 (#[.bool rr.leaf, .slice B1 rr.keys.length d1, .slice B2 rr.vals.length d2, .slice B3 rr.kids.length d3, .string rr.high, .bool rr.bnd, .int .i64 rr.nx.slot, .int .u64 rr.nx.gen] : Array Value).size ∧ (Tryd.prog.info? 79).map (·.size) = some (#[.bool rr.leaf, .slice B1 rr.keys.length d1, .slice B2 rr.vals.length d2, .slice B3 rr.kids.length d3, .string rr.high, .bool rr.bnd, .int .i64 rr.nx.slot, .int .u64 rr.nx.gen] : Array Value).size ∧ (#[.bool rr.leaf, .slice B1 rr.keys.length d1, .slice B2 rr.vals.length d2, .slice B3 rr.kids.length d3, .string rr.high, .bool rr.bnd, .int .i64 rr.nx.slot, .int .u64 rr.nx.gen] : Array Value).all (·.oneCell') = true := st_node (World.there_setCells hth.2.2 X 1 (ndc l A1 c1 A2 c2 A3 c3).toList) rr B1 d1 B2 d2 B3 d3
  have hXq := hth.2.1
  clear hth
  obtain ⟨w5, hw5, hst2⟩ : ∃ w5, w4.setCells X 1 (#[.bool l.leaf, .slice A1 l.keys.length c1, .slice A2 l.vals.length c2, .slice A3 l.kids.length c3, .string l.high, .bool l.bnd, .int .i64 l.nx.slot, .int .u64 l.nx.gen] : Array Value).toList = w5 ∧ w5.there q 1 (#[.bool rr.leaf, .slice B1 rr.keys.length d1, .slice B2 rr.vals.length d2, .slice B3 rr.kids.length d3, .string rr.high, .bool rr.bnd, .int .i64 rr.nx.slot, .int .u64 rr.nx.gen] : Array Value).size ∧ (Tryd.prog.info? 79).map (·.size) = some (#[.bool rr.leaf, .slice B1 rr.keys.length d1, .slice B2 rr.vals.length d2, .slice B3 rr.kids.length d3, .string rr.high, .bool rr.bnd, .int .i64 rr.nx.slot, .int .u64 rr.nx.gen] : Array Value).size ∧ (#[.bool rr.leaf, .slice B1 rr.keys.length d1, .slice B2 rr.vals.length d2, .slice B3 rr.kids.length d3, .string rr.high, .bool rr.bnd, .int .i64 rr.nx.slot, .int .u64 rr.nx.gen] : Array Value).all (·.oneCell') = true := ⟨_, rfl, hst2⟩
  obtain ⟨w6, hw6⟩ : ∃ w6, w5.setCells q 1 (#[.bool rr.leaf, .slice B1 rr.keys.length d1, .slice B2 rr.vals.length d2, .slice B3 rr.kids.length d3, .string rr.high, .bool rr.bnd, .int .i64 rr.nx.slot, .int .u64 rr.nx.gen] : Array Value).toList = w6 := ⟨_, rfl⟩
  have HST := Lib.hid (And.intro hst1 hst2)
  have HW5 := Lib.hid (And.intro hw5 hw6)
  clear hst1 hst2 hw5 hw6
  go_upto_region 4 with (first | (refine wpList_store_mid rfl 79 (.tmp 37) (.tmp 34) rfl X 1 #[.bool l.leaf, .slice A1 l.keys.length c1, .slice A2 l.vals.length c2, .slice A3 l.kids.length c3, .string l.high, .bool l.bnd, .int .i64 l.nx.slot, .int .u64 l.nx.gen] rfl rfl HST.out.1.1 HST.out.1.2.1 HST.out.1.2.2 ?_; rw [HW5.out.1]) | (refine wpList_store_mid rfl 79 (.tmp 38) (.tmp 35) rfl q 1 #[.bool rr.leaf, .slice B1 rr.keys.length d1, .slice B2 rr.vals.length d2, .slice B3 rr.kids.length d3, .string rr.high, .bool rr.bnd, .int .i64 rr.nx.slot, .int .u64 rr.nx.gen] rfl rfl HST.out.2.1 HST.out.2.2.1 HST.out.2.2.2 ?_; rw [HW5.out.2]))
  obtain ⟨hb2, hp2, hA02, hA12, hAt2, hwt⟩ := HW2.out
  obtain ⟨hb, htt, hP, hT, hi, hr, h5, he, hN, tj⟩ := HALL.out
  have ht24 := HT3.out.trans HSP.out.2.2.2
  obtain ⟨hil, hir, fs⟩ := spl_inn hr h5 HSP.out.1 HI3.out.i HSP.out.2.1 HSP.out.2.2.1
  obtain ⟨hbr, tE, ⟨cX, hXc⟩, ⟨cq, hqc⟩, zX, zq⟩ := tsplit_end (hb2.no ht24) he hN HX.out hil hir HW5.out.1 HW5.out.2
  have hYt : ∀ i, i = X ∨ i = q → ∃ c, At w4 i (.cells c 121 (0, 0)) := fun i hi => by
    rcases hi with e2 | e2
    · exact ⟨cX, by rw [e2]; exact hXc⟩
    · exact ⟨cq, by rw [e2]; exact hqc⟩
  have hp6 := (hp2.turn ht24 (fun h => h) (fun h => h) (fun h => h)).typed tE fun i hi => by
    obtain ⟨c, hc⟩ := hYt i hi
    exact ⟨c, _, hc, by decide, by decide⟩
  have keep : ∀ {i : Nat} {c : Array Value} {ty : TypeId}, At w4 i (.cells c ty (0, 0)) → ty ≠ 121 → At w6 i (.cells c ty (0, 0)) := fun {i c ty} h hty => h.turn tE fun hx => by
    obtain ⟨c2, hc⟩ := hYt i hx
    have := h.eq hc
    injection this with _ this
    exact hty this
  have hAt6 : TrB w6 I root := keep (At.no hAt2 ht24) (by decide)
  have hA16 := keep (hA12.no ht24) (by decide)
  have hTn : Tn I w w6 := by
    have t4 : Turn (fun i => i = I.fb ∨ i = I.mb) w w4 := hwt.then ht24 fun i _ hx => hx.elim
    refine Turn.then (X := Xt I w) (t4.mono fun i _ hx => ?_) tE fun i hi hx => ?_
    · rcases hx with e2 | e2
      · exact .inr (.inr (.inr (.inl e2)))
      · exact .inl e2
    · by_cases hm : i = I.fb ∨ i = I.mb
      · rcases hm with e2 | e2
        · exact .inr (.inr (.inr (.inl e2)))
        · exact .inl e2
      · obtain ⟨c, hc⟩ := hYt i hx
        exact .inr (.inr (.inr (.inr ⟨by rcases hx with e2 | e2 <;> rw [e2] <;> assumption, c, (t4.block i hi hm).symm.trans hc⟩)))
  have HEND := Lib.hid (And.intro hbr (And.intro hp6 (And.intro hAt6 (And.intro hTn (And.intro fs hA16)))))
  obtain ⟨y4, y5⟩ := at2 hA16
  have z4 := hA16.thawed 0
  have z5 := hA16.thawed 1
  have l6 := hA16.lt
  clear hb2 hp2 hA02 hA12 hAt2 hwt hb htt hP hT hi hr h5 he hN tj ht24 hil hir fs hbr tE hXc hqc zX zq hYt hp6 keep hAt6 hA16 hTn
  have hsame : (w6.setCell ⟨b0 + 1, 0, none⟩ (.int .i64 (s : Int))).setCell ⟨b0 + 1, 1, none⟩ (.int .u64 (Y : Int)) = w6 := by
    rw [setCell_same (u := .int .i64 (s : Int)) HEND.out.2.2.2.2.2 (i := 0) rfl, setCell_same (u := .int .u64 (Y : Int)) HEND.out.2.2.2.2.2 (i := 1) rfl]
  have HSM := Lib.hid hsame
  clear hsame
  go_region
  rw [HSM.out]
  go_wp2_with fail
  refine bodyPost_ret (v := .tuple #[.string sep, .agg #[.int .i64 (s : Int), .int .u64 (Y : Int)]]) (by simp [results, Tryd.results71, go_sem, y4, y5]) rfl ?_
  obtain ⟨hbr, hp6, hAt6, hTn, fs, _⟩ := HEND.out
  have td : Turn No w6 w6.drew := (Turn.refl _ _).drew
  rw [HX.out] at hbr
  rw [HY.out]
  exact ⟨sep, l, rr, q, rfl, fs, HSP.out.1, hp6.turn td (fun h => h) (fun h => h) (fun h => h), hbr.no td, At.no hAt6 td, hTn.trans (Tn.no td)⟩
end Go.Proofs.YtfplnobnmgbgoaaDoor
namespace Go.Proofs.YtfplnobnmgbgoaaDoor
open Go.RowKit Go.Lib
set_option linter.unusedVariables false
set_option maxRecDepth 20000
set_option linter.unusedSimpArgs false

def nroot (root right : Hn) (sep : ByteArray) : Nd := ⟨false, [sep], [], [root, right], ⟨#[]⟩, false, ⟨0, 0⟩⟩
def nroot0 (root : Hn) : Nd := ⟨false, [], [], [root], ⟨#[]⟩, false, ⟨0, 0⟩⟩
theorem nroot0_right (root : Hn) : NdRight (nroot0 root) := ⟨List.Pairwise.nil, fun _ => rfl, fun h => (by cases h), fun h => (by cases h), fun _ => ⟨rfl, rfl⟩⟩
theorem nroot_add {root right : Hn} {sep : ByteArray} {m : Nd} (h : AddR (nroot0 root) sep right m) : m = nroot root right sep :=
  h.1 ⟨nroot0_right root, rfl, fun h => (by cases h), fun h => (by cases h)⟩
theorem Br.typed {w w' : World} {I : Ids} {N : Nat → Option Ent} {n : Nat} (h : Br w I N n) {Y : Nat → Prop} (t : Turn Y w w') (hY : ∀ i, Y i → ∃ c ty, At w i (.cells c ty (0, 0)) ∧ ty ≠ 116 ∧ ty ≠ 121 ∧ ty ≠ 9 ∧ ty ≠ 77) : Br w' I N n := by
  obtain ⟨M, f, h⟩ := h
  have ne : ∀ {i : Nat} {c : Array Value} {ty : TypeId}, At w i (.cells c ty (0, 0)) → (ty = 116 ∨ ty = 121 ∨ ty = 9 ∨ ty = 77) → ¬ Y i := fun {i c ty} hi hty hy => by
    obtain ⟨c2, t2, k1, k2, k3, k4, k5⟩ := hY i hy
    have := hi.eq k1
    injection this with _ this
    subst this
    rcases hty with e | e | e | e
    · exact k2 e
    · exact k3 e
    · exact k4 e
    · exact k5 e
  refine ⟨M, f, h.ar.turn t (ne h.ar.1 (.inl rfl)) (fun hy => ?_) (fun q c hq => ne hq (.inr (.inl rfl))), h.no, fun x e hx => ?_, h.z⟩
  · obtain ⟨c2, t2, k1, _⟩ := hY _ hy
    exact h.ar.2.1.ne k1 rfl
  · obtain ⟨v, k1, k2, AK, ck, AV, cv, AD, cd, k3, k4⟩ := h.yes x e hx
    exact ⟨v, k1, k2, AK, ck, AV, cv, AD, cd, k3, k4.turn t (fun b c hb => ne hb (.inr (.inr (.inl rfl)))) (fun b c hb => ne hb (.inr (.inr (.inr rfl))))⟩
theorem TrB.set {w : World} {I : Ids} {root : Hn} (h : TrB w I root) (r : Hn) : TrB ((w.setCell ⟨I.tb, 2, none⟩ (.int .i64 r.slot)).setCell ⟨I.tb, 3, none⟩ (.int .u64 r.gen)) I r ∧ Turn (fun i => i = I.tb) w ((w.setCell ⟨I.tb, 2, none⟩ (.int .i64 r.slot)).setCell ⟨I.tb, 3, none⟩ (.int .u64 r.gen)) :=
  ⟨(At.set h 2 (.int .i64 r.slot)).set 3 (.int .u64 r.gen), ((Turn.refl (fun i => i = I.tb) w).setCell (p := ⟨I.tb, 2, none⟩) (Or.inl rfl) _).setCell (p := ⟨I.tb, 3, none⟩) (Or.inl rfl) _⟩
theorem grow_end {w w2 w3 : World} {I : Ids} {N : Nat → Option Ent} {n : Nat} {root r : Hn} {G : List Nat} {fr : Nat → Bool} (t : Turn No w w2) (h : TrB w3 I root) (hb : Br w3 I N n) (hP : Pool w3 I.pb I.gb I.fb G fr) (ht : Turn (fun i => i = I.fb ∨ i = I.mb) w2 w3) :
    Pool ((w3.setCell ⟨I.tb, 2, none⟩ (.int .i64 r.slot)).setCell ⟨I.tb, 3, none⟩ (.int .u64 r.gen)) I.pb I.gb I.fb G fr ∧ Br ((w3.setCell ⟨I.tb, 2, none⟩ (.int .i64 r.slot)).setCell ⟨I.tb, 3, none⟩ (.int .u64 r.gen)) I N n ∧ TrB ((w3.setCell ⟨I.tb, 2, none⟩ (.int .i64 r.slot)).setCell ⟨I.tb, 3, none⟩ (.int .u64 r.gen)) I r ∧ Tn I w ((w3.setCell ⟨I.tb, 2, none⟩ (.int .i64 r.slot)).setCell ⟨I.tb, 3, none⟩ (.int .u64 r.gen)) := by
  obtain ⟨h1, h2⟩ := h.set r
  refine ⟨hP.typed h2 ?_, hb.typed h2 ?_, h1, ?_⟩
  · intro i hi
    rw [hi]
    exact ⟨_, _, h, by decide, by decide⟩
  · intro i hi
    rw [hi]
    exact ⟨_, _, h, by decide, by decide, by decide, by decide⟩
  · refine (Tn.no t).trans ((Tn.of ht fun i hi => ?_).trans (Tn.of h2 fun i hi => .inr (.inl hi)))
    rcases hi with e | e
    · exact .inr (.inr (.inr (.inl e)))
    · exact .inl e
set_option maxRecDepth 100000 in
set_option maxHeartbeats 8000000 in
theorem grow_any {w : World} {I : Ids} {N : Nat → Option Ent} {n : Nat} {root right : Hn} {sep : ByteArray} {G : List Nat} {fr : Nat → Bool} {s : Nat}
    (hb : Br w I N n) (ht : TrB w I root) (hP : Pool w I.pb I.gb I.fb G fr) (hT : Tab w) (hf : Fit sep) (hs : fr s = true) (hl : ∀ y, y < s → fr y = false) (hN : N s = none) (hn : n < 1000000) (hg : 1 ≤ G.getD s 0) (hz : I.Z ≤ w.heap.size) :
    Calls Tryd.prog 72 #[.pointer (some ⟨I.tb, 0, none⟩), .string sep, .agg #[.int .i64 right.slot, .int .u64 right.gen]] w fun r w' => r = .returned (.tuple #[]) ∧
      Pool w' I.pb I.gb I.fb G (fun y => fr y && y != s) ∧ (∃ q, Br w' I (updE N s (some ⟨G.getD s 0, q, nroot root right sep⟩)) (n + 1)) ∧ TrB w' I ⟨(s : Int), (G.getD s 0 : Nat)⟩ ∧ Tn I w w' := by
  obtain ⟨Y, hY⟩ : ∃ Y, G.getD s 0 = Y := ⟨_, rfl⟩
  have HY := Lib.hid hY
  have t1 := At.cell ht 2
  have t2 := At.cell ht 3
  simp at t1 t2
  have ltb := At.lt ht
  have HALL := Lib.hid (And.intro hb (And.intro ht (And.intro hP (And.intro hT (And.intro hf (And.intro hs (And.intro hl (And.intro hN (And.intro hn (And.intro hg hz))))))))))
  clear hb ht hP hT hf hs hl hN hn hg hz
  rw [hY]
  clear hY
  go_enter Tryd.func72, Tryd.ntmps72
  go_upto_region 16 with fail
  have tj := (((Turn.refl No w).alloc (.cells #[.int .i64 right.slot, .int .u64 right.gen] 77)).alloc (.cells #[.int .i64 root.slot, .int .u64 root.gen] 77)).alloc (.cells #[.bool false, .slice none 0 0, .slice none 0 0, .slice (some ⟨w.heap.size + 1, 0, none⟩) 1 1, .string ⟨#[]⟩, .bool false, .int .i64 0, .int .u64 0] 79)
  obtain ⟨b0, hb0⟩ : ∃ x, w.heap.size = x := ⟨_, rfl⟩
  have s1 : (w.alloc (.cells #[.int .i64 right.slot, .int .u64 right.gen] 77)).heap.size = b0 + 1 := by simp [hb0]
  have s2 : ((w.alloc (.cells #[.int .i64 right.slot, .int .u64 right.gen] 77)).alloc (.cells #[.int .i64 root.slot, .int .u64 root.gen] 77)).heap.size = b0 + 2 := by simp [hb0]
  have a0 := At.no (At.no (At.new w (.cells #[.int .i64 right.slot, .int .u64 right.gen] 77)) ((Turn.refl No _).alloc (.cells #[.int .i64 root.slot, .int .u64 root.gen] 77))) ((Turn.refl No _).alloc (.cells #[.bool false, .slice none 0 0, .slice none 0 0, .slice (some ⟨w.heap.size + 1, 0, none⟩) 1 1, .string ⟨#[]⟩, .bool false, .int .i64 0, .int .u64 0] 79))
  have o1 := World.ownsRow_lit (base := w.heap.size) (e := 77) (size := 2) (w.alloc (.cells #[.int .i64 right.slot, .int .u64 right.gen] 77)) #[.int .i64 root.slot, .int .u64 root.gen] 1 (by simp) (by decide) (by rfl)
  have o1 := own_grown o1 ((Turn.refl No _).alloc (.cells #[.bool false, .slice none 0 0, .slice none 0 0, .slice (some ⟨w.heap.size + 1, 0, none⟩) 1 1, .string ⟨#[]⟩, .bool false, .int .i64 0, .int .u64 0] 79)) fun _ _ h => h
  have a2 := At.new ((w.alloc (.cells #[.int .i64 right.slot, .int .u64 right.gen] 77)).alloc (.cells #[.int .i64 root.slot, .int .u64 root.gen] 77)) (.cells #[.bool false, .slice none 0 0, .slice none 0 0, .slice (some ⟨w.heap.size + 1, 0, none⟩) 1 1, .string ⟨#[]⟩, .bool false, .int .i64 0, .int .u64 0] 79)
  rw [s2] at a2
  rw [s1] at o1
  rw [hb0] at a0 a2 o1 tj ⊢
  generalize ((w.alloc (.cells #[.int .i64 right.slot, .int .u64 right.gen] 77)).alloc (.cells #[.int .i64 root.slot, .int .u64 root.gen] 77)).alloc (.cells #[.bool false, .slice none 0 0, .slice none 0 0, .slice (some ⟨b0 + 1, 0, none⟩) 1 1, .string ⟨#[]⟩, .bool false, .int .i64 0, .int .u64 0] 79) = w1 at a0 a2 o1 tj ⊢
  clear s1 s2
  have hin : Inn w1 (nroot0 root) none none (some ⟨b0 + 1, 0, none⟩) := ⟨⟨Row.nil _ _, Row.nil _ _, row_of_own o1, (fun k hk => by cases hk), (fun k hk => by cases hk), by show Fit ⟨#[]⟩; unfold Fit; decide, Nat.zero_le _, Nat.zero_le _, by show 1 ≤ 10000; decide⟩, .inl rfl, .inl rfl, wt_own o1⟩
  have HA := Lib.hid (And.intro tj (And.intro a0 (And.intro a2 (And.intro hin hb0))))
  have CA : Hid (∀ W, Turn No w1 W → Calls Tryd.prog 73 #[.agg #[.bool false, .slice none 0 0, .slice none 0 0, .slice (some ⟨b0 + 1, 0, none⟩) 1 1, .string ⟨#[]⟩, .bool false, .int .i64 0, .int .u64 0], .string sep, .agg #[.int .i64 right.slot, .int .u64 right.gen]] W fun e W' => ∃ BK dk BV dv BD dd, e = .returned (.agg (ndc (nroot root right sep) BK dk BV dv BD dd)) ∧ Inn W' (nroot root right sep) BK BV BD ∧ Turn No W W') := Lib.hid fun W tW => by
    refine (add_c (nroot0 root) none none (some ⟨b0 + 1, 0, none⟩) 0 0 1 sep right W (HA.out.2.2.2.1.i.no tW) HALL.out.2.2.2.2.1).mono ?_
    rintro e W' ⟨m, BK, dk, BV, dv, BD, dd, rfl, hm, hg, ht⟩
    have := nroot_add hm
    subst this
    exact ⟨BK, dk, BV, dv, BD, dd, rfl, hg.inn (fun k hk => (List.mem_singleton.1 hk) ▸ HALL.out.2.2.2.2.1) (fun k hk => by cases hk) (by show Fit ⟨#[]⟩; unfold Fit; decide) (by show 1 ≤ 10000; decide) (Nat.zero_le _) (by show 2 ≤ 10000; decide), ht⟩
  have CL : Hid (∀ W, Turn No w1 W → ∀ BK dk BV dv BD dd, Inn W (nroot root right sep) BK BV BD → Calls Tryd.prog 31 #[.pointer (some ⟨I.ab, 0, none⟩), .agg (ndc (nroot root right sep) BK dk BV dv BD dd)] W fun e W' => e = .returned (.tuple #[.agg #[.int .i64 (s : Int), .int .u64 (Y : Int)], .int .i64 0]) ∧
      Pool W' I.pb I.gb I.fb G (fun x => fr x && x != s) ∧ Inn W' (nroot root right sep) BK BV BD ∧ (∃ q, W.heap.size ≤ q ∧ ∀ (w2 : World) (Z : Nat → Prop), Turn Z W' w2 → (∀ i, Z i → w.heap.size ≤ i ∧ ∃ c t, At W' i (.cells c t (0, 0)) ∧ t ≠ 121) → Inn w2 (nroot root right sep) BK BV BD → Br w2 I (updE N s (some ⟨Y, q, nroot root right sep⟩)) (n + 1)) ∧ Turn (fun i => i = I.fb ∨ i = I.mb) W W') := Lib.hid fun W tW BK dk BV dv BD dd hi => by
    obtain ⟨hb, ht, hP, hT, hf, hs, hl, hN, hn, hg, hz⟩ := HALL.out
    have t0 := HA.out.1.trans tW
    have := allocB_some hb t0 (hP.turn t0 (fun h => h) (fun h => h) (fun h => h)) (hT.turn t0 (fun h => h) hT.pos) hs hl hN hn hg (by have := t0.size; omega) dk dv dd hi
    rw [HY.out] at this
    exact this
  have q1 := At.cell (At.no HALL.out.2.1 tj) 1
  simp at q1
  obtain ⟨y0, y1⟩ := at2 a0
  obtain ⟨x0, x1, x2, x3, x4, x5, x6, x7⟩ := at8 a2
  have l0 := a0.lt
  have l2 := a2.lt
  clear t1 t2 a0 a2 o1 tj hin hb0
  go_region_law (first | (go_simp; go_at_call 73; (first | (with_reducible refine (CA.out _ (Turn.refl No _).drew).mono ?_) | (with_reducible refine (CA.out _ (Turn.refl No _)).mono ?_)); rintro e w2 ⟨BK, dk, BV, dv, BD, dd, rfl, hi2, ht2⟩; have ht2 : Turn No w1 w2 := (Turn.refl No w1).drew.trans ht2; have H2 := Lib.hid (And.intro hi2 ht2); have q12 := At.cell (At.no HALL.out.2.1 (HA.out.1.trans ht2)) 1; simp at q12; clear hi2 ht2) | (go_simp; go_at_call 31; (with_reducible refine (CL.out _ H2.out.2 BK dk BV dv BD dd H2.out.1).mono ?_); rintro e w3 ⟨rfl, hp3, hm3, ⟨q, hq, hbq⟩, ht3⟩; have hat := at_alc (HALL.out.1.no (HA.out.1.trans H2.out.2)) (HALL.out.2.2.1.turn (HA.out.1.trans H2.out.2) (fun h => h) (fun h => h) (fun h => h)) ht3 (At.no HALL.out.2.1 (HA.out.1.trans H2.out.2)) (by decide); have H3 := Lib.hid (And.intro hp3 (And.intro hm3 (And.intro hq (And.intro hbq (And.intro ht3 hat))))); have r2 := At.cell hat 2; have r3 := At.cell hat 3; have f2 := At.thawed hat 2; have f3 := At.thawed hat 3; have lt3 := At.lt hat; simp at r2 r3; clear hp3 hm3 hq hbq ht3 hat))
  all_goals
    go_wp2_with fail
    go_end0
    obtain ⟨hp3, hm3, hq, hbq, ht3, hat⟩ := H3.out
    obtain ⟨k1, k2, k3, k4⟩ := grow_end (r := ⟨(s : Int), (Y : Int)⟩) (HA.out.1.trans H2.out.2) hat (hbq w3 No (Turn.refl _ _) (fun _ h => h.elim) hm3) hp3 ht3
    exact ⟨rfl, k1, ⟨q, k2⟩, k3, k4⟩
end Go.Proofs.YtfplnobnmgbgoaaDoor
namespace Go.Proofs.YtfplnobnmgbgoaaDoor
open Go.RowKit Go.Lib
set_option linter.unusedVariables false
set_option maxRecDepth 20000
set_option linter.unusedSimpArgs false

/-- A tree's blocks in memory, with its pool: X: the nodes that stand there. -/
structure Tm (w : World) (I : Ids) (N : Nat → Option Ent) (X : Lvl) (root : Hn) (G : List Nat) (fr : Nat → Bool) : Prop where
  b : Br w I N X.length
  t : TrB w I root
  p : Pool w I.pb I.gb I.fb G fr
  tab : Tab w
  s : Sto N X
  tk : ∀ x e, N x = some e → fr x = false
  gn : ∀ x, fr x = true → 1 ≤ G.getD x 0
  z : I.Z ≤ w.heap.size
  z1 : 1 ≤ I.Z
section
variable {w w' : World} {I : Ids} {N : Nat → Option Ent} {X : Lvl} {root : Hn} {G : List Nat} {fr : Nat → Bool}
theorem Tm.no (h : Tm w I N X root G fr) (t : Turn No w w') : Tm w' I N X root G fr :=
  ⟨h.b.no t, At.no h.t t, h.p.turn t (fun h => h) (fun h => h) (fun h => h), h.tab.turn t (fun h => h) h.tab.pos, h.s, h.tk, h.gn, Nat.le_trans h.z t.size, h.z1⟩
theorem tab_tn {n : Nat} (hb : Br w I N n) (ht : TrB w I root) (hp : Pool w I.pb I.gb I.fb G fr) (hT : Tab w) (hz : 1 ≤ I.Z) (t : Tn I w w') : Tab w' := by
  refine hT.turn t (fun hx => ?_) hT.pos
  have h0 := hT 0 (by decide)
  obtain ⟨n1, n2, n3⟩ := hp.ne0 hT
  obtain ⟨M, f, hb⟩ := hb
  rcases hx with e | e | e | e | ⟨e, _⟩
  · obtain ⟨es, clock, hm⟩ := hb.ar.2.1.obj
    rw [← e] at hm
    unfold At at hm
    simp [World.cell?, hm] at h0
  · have := At.cell ht 0
    rw [← e] at this
    rw [this] at h0
    simp at h0
  · exact n1 e.symm
  · exact n2 e.symm
  · omega
theorem nodup_len : ∀ (m : Nat) (l : List Nat), l.Nodup → (∀ x ∈ l, x < m) → l.length ≤ m
  | 0, [], _, _ => Nat.le_refl _
  | 0, x :: _, _, h => absurd (h x (List.mem_cons_self ..)) (Nat.not_lt_zero _)
  | m + 1, l, hn, h => by
    have ih := nodup_len m (l.erase m) (hn.erase m) (fun x hx => by
      have h1 := (hn.mem_erase_iff).1 hx
      have h2 := h x h1.2
      have h3 : x ≠ m := h1.1
      omega)
    by_cases hm : m ∈ l
    · rw [List.length_erase_of_mem hm] at ih
      omega
    · rw [List.erase_of_not_mem hm] at ih
      omega
theorem Tm.len (h : Tm w I N X root G fr) : X.length ≤ 4096 := by
  have h1 : ∀ x ∈ X, ∃ k : Nat, k < 4096 ∧ x.1.slot = (k : Int) := fun x hx => by
    obtain ⟨hh, n⟩ := x
    obtain ⟨k, e, h1, h2, _⟩ := (h.s.mem hh n).1 hx
    obtain ⟨M, f, hb⟩ := h.b
    exact ⟨k, (hb.z k e h1).2.2, by rw [h2]⟩
  have h2 := h.s.nd
  have h3 : (X.map fun x => x.1.slot.toNat).Nodup := by
    unfold List.Nodup at h2 ⊢
    rw [List.pairwise_map] at h2 ⊢
    refine h2.imp_of_mem fun {a b} ha hb hne he => hne ?_
    obtain ⟨k, _, e1⟩ := h1 a ha
    obtain ⟨l, _, e2⟩ := h1 b hb
    rw [e1, e2] at he ⊢
    have he : k = l := by simpa using he
    rw [he]
  have := nodup_len 4096 _ h3 fun x hx => by
    obtain ⟨y, hy, rfl⟩ := List.mem_map.1 hx
    obtain ⟨k, hk, e1⟩ := h1 y hy
    rw [e1]
    simpa using hk
  rwa [List.length_map] at this
end
end Go.Proofs.YtfplnobnmgbgoaaDoor
namespace Go.Proofs.YtfplnobnmgbgoaaDoor
open Go.RowKit Go.Lib
set_option linter.unusedVariables false
set_option maxRecDepth 20000
set_option linter.unusedSimpArgs false

/-- May a reader on its way to a key stand here (and, if it is asked so, at a leaf)? -/
def VisT (V : List Lvl) (h : Hn) (q : ByteArray × Bool) : Prop := ∃ l ∈ V, ∃ A n B, l = A ++ (h, n) :: B ∧ (∀ a ∈ A, ¬ NdCov a.2 q.1) ∧ (q.2 = true → n.leaf = true)
/-- Leaves have two keys, unless there is one alone. -/
def MinL (V : List Lvl) : Prop := (leaves V).length = 1 ∨ ∀ x ∈ leaves V, 2 ≤ x.2.keys.length
/-- What becomes of a tree by splits: what it has stays; who stands on a way stands on it. -/
structure Rl (d : Nat) (V V' : List Lvl) : Prop where
  fl : flatT V' = flatT V
  vis : ∀ h q, VisT V h q → VisT V' h q
  lv : (leaves V').length ≤ (leaves V).length + d
  mn : MinL V → MinL V'
theorem Rl.refl (V : List Lvl) : Rl 0 V V := ⟨rfl, fun _ _ h => h, Nat.le_refl _, fun h => h⟩
theorem Rl.trans {d e : Nat} {V W X : List Lvl} (h : Rl d V W) (k : Rl e W X) : Rl (d + e) V X := ⟨k.fl.trans h.fl, fun a q x => k.vis a q (h.vis a q x), by have := h.lv; have := k.lv; omega, fun x => k.mn (h.mn x)⟩
theorem Rl.mono {d e : Nat} {V W : List Lvl} (h : Rl d V W) (hd : d ≤ e) : Rl e V W := ⟨h.fl, h.vis, by have := h.lv; omega, h.mn⟩
def vt (U : List Lvl) (A : Lvl) (h : Hn) (t : Nd) (B : Lvl) (D : List Lvl) : List Lvl := U.reverse ++ (A ++ (h, t) :: B) :: D
/-- A node, perhaps too full, that is to be kept. -/
structure Kst (key : ByteArray) (U : List Lvl) (L A : Lvl) (h : Hn) (t : Nd) (B : Lvl) (D : List Lvl) (root : Hn) : Prop where
  tw : Tower ((A ++ (h, t) :: B) :: D)
  ab : Above (A ++ (h, t) :: B) U
  pt : Pth key U L A.length
  rt : ∃ n R, vt U A h t B D = [(root, n)] :: R
  su : ∀ u ∈ U, ∀ x ∈ u, x.2.keys.length ≤ 4
  sd : ∀ u ∈ D, ∀ x ∈ u, x.2.keys.length ≤ 4
  sa : ∀ x ∈ A, x.2.keys.length ≤ 4
  sb : ∀ x ∈ B, x.2.keys.length ≤ 4
  st : t.keys.length ≤ 5
  fl : Fil (vt U A h t B D)
section
variable {key : ByteArray} {U : List Lvl} {L A : Lvl} {h : Hn} {t : Nd} {B : Lvl} {D : List Lvl} {root : Hn}
theorem Kst.right (k : Kst key U L A h t B D root) : NdRight t := by
  cases D with
  | nil => exact (ch_leaf k.tw.1 t (by simp)).2
  | cons d D => exact (k.tw.1.inner (h, t) (by simp)).2
theorem vt_tower (k : Kst key U L A h t B D root) : Tower (vt U A h t B D) := tower_up k.tw k.ab
theorem Kst.done (k : Kst key U L A h t B D root) (h4 : t.keys.length ≤ 4) : Good (vt U A h t B D) root := by
  refine ⟨vt_tower k, k.rt, fun l hl x hx => ?_, k.fl⟩
  rcases List.mem_append.1 hl with h1 | h1
  · exact k.su l (List.mem_reverse.1 h1) x hx
  · rcases List.mem_cons.1 h1 with h2 | h2
    · subst h2
      rcases List.mem_append.1 hx with h3 | h3
      · exact k.sa x h3
      · rcases List.mem_cons.1 h3 with h4' | h4'
        · rw [h4']; exact h4
        · exact k.sb x h4'
    · exact k.sd l h2 x hx
theorem vt_leaves (U : List Lvl) (A : Lvl) (h : Hn) (t : Nd) (B : Lvl) (D : List Lvl) : leaves (vt U A h t B D) = leaves ((A ++ (h, t) :: B) :: D) := leaves_app U.reverse _ D
/-- A node of a level is changed for its halves: what readers see. -/
theorem vis_level {k : Hn} {x y : Nd} {sep : ByteArray} {r : Hn} (hs : Sp5 t x y sep r) {g : Hn} {q : ByteArray} {A' : Lvl} {n : Nd} {B' : Lvl} (e : A ++ (k, t) :: B = A' ++ (g, n) :: B') (ha : ∀ a ∈ A', ¬ NdCov a.2 q) :
    ∃ A2 n2 B2, A ++ (k, x) :: (r, y) :: B = A2 ++ (g, n2) :: B2 ∧ (∀ a ∈ A2, ¬ NdCov a.2 q) ∧ (n.leaf = true → n2.leaf = true) := by
  rcases List.append_eq_append_iff.1 e with ⟨C, h1, h2⟩ | ⟨C, h1, h2⟩
  · cases C with
    | nil =>
      simp at h1 h2
      subst h1
      obtain ⟨⟨h3, h4⟩, h5⟩ := h2
      exact ⟨A', x, (r, y) :: B, by rw [h3], ha, fun hl => hs.lx.trans (by rw [h4]; exact hl)⟩
    | cons c C =>
      injection h2 with h3 h4
      subst h3 h4
      have hnt : ¬ NdCov t q := ha (k, t) (by rw [h1]; simp)
      have hnx : ¬ NdCov x q := fun hc => hnt fun hb => by
        have h5 := hc hs.xb
        rw [hs.xh] at h5
        exact kl_trans h5 (hs.rt.2.2.1 hb sep hs.ks)
      have hny : ¬ NdCov y q := fun hc => hnt fun hb => by
        have h5 := hc (by rw [hs.yb]; exact hb)
        rw [hs.yh] at h5
        exact h5
      refine ⟨A ++ (k, x) :: (r, y) :: C, n, B', by simp, fun a hm => ?_, fun h => h⟩
      rcases List.mem_append.1 hm with h5 | h5
      · exact ha a (by rw [h1]; exact List.mem_append.2 (.inl h5))
      · rcases List.mem_cons.1 h5 with h6 | h6
        · rw [h6]; exact hnx
        · rcases List.mem_cons.1 h6 with h7 | h7
          · rw [h7]; exact hny
          · exact ha a (by rw [h1]; exact List.mem_append.2 (.inr (List.mem_cons_of_mem _ h7)))
  · cases C with
    | nil =>
      simp at h1 h2
      subst h1
      obtain ⟨⟨h3, h4⟩, h5⟩ := h2
      subst h3 h4 h5
      exact ⟨A, x, _, rfl, ha, fun hl => hs.lx.trans hl⟩
    | cons c C =>
      injection h2 with h3 h4
      subst h3
      exact ⟨A', n, C ++ (k, x) :: (r, y) :: B, by rw [h1]; simp, ha, fun h => h⟩
/-- A node of a level is changed for one that ends alike: what readers see. -/
theorem vis_same {k : Hn} {m : Nd} (he : En1 m = En1 t) (hl0 : t.leaf = true → m.leaf = true) {g : Hn} {q : ByteArray} {A' : Lvl} {n : Nd} {B' : Lvl} (e : A ++ (k, t) :: B = A' ++ (g, n) :: B') (ha : ∀ a ∈ A', ¬ NdCov a.2 q) :
    ∃ A2 n2 B2, A ++ (k, m) :: B = A2 ++ (g, n2) :: B2 ∧ (∀ a ∈ A2, ¬ NdCov a.2 q) ∧ (n.leaf = true → n2.leaf = true) := by
  rcases List.append_eq_append_iff.1 e with ⟨C, h1, h2⟩ | ⟨C, h1, h2⟩
  · cases C with
    | nil =>
      simp at h1 h2
      subst h1
      obtain ⟨⟨h3, h4⟩, h5⟩ := h2
      exact ⟨A', m, B, by rw [h3], ha, fun hl => hl0 (by rw [h4]; exact hl)⟩
    | cons c C =>
      injection h2 with h3 h4
      subst h3 h4
      have hnt : ¬ NdCov t q := ha (k, t) (by rw [h1]; simp)
      refine ⟨A ++ (k, m) :: C, n, B', by simp, fun a hm => ?_, fun h => h⟩
      rcases List.mem_append.1 hm with h5 | h5
      · exact ha a (by rw [h1]; exact List.mem_append.2 (.inl h5))
      · rcases List.mem_cons.1 h5 with h6 | h6
        · rw [h6]
          exact fun hc => hnt ((cov_iff t q).2 (by rw [← he]; exact (cov_iff m q).1 hc))
        · exact ha a (by rw [h1]; exact List.mem_append.2 (.inr (List.mem_cons_of_mem _ h6)))
  · cases C with
    | nil =>
      simp at h1 h2
      subst h1
      obtain ⟨⟨h3, h4⟩, h5⟩ := h2
      subst h3 h4 h5
      exact ⟨A, m, _, rfl, ha, hl0⟩
    | cons c C =>
      injection h2 with h3 h4
      subst h3
      exact ⟨A', n, C ++ (k, m) :: B, by rw [h1]; simp, ha, fun h => h⟩
/-- The lowest level is split, or one above it. -/
theorem split_leaves {k : Hn} {x y : Nd} {sep : ByteArray} {r : Hn} (hT : Tower ((A ++ (k, t) :: B) :: D)) (hs : Sp5 t x y sep r) (hx : x.keys.length = 2) (hy : 2 ≤ y.keys.length) (h5 : t.keys.length = 5) :
    flatT ((A ++ (k, x) :: (r, y) :: B) :: D) = flatT ((A ++ (k, t) :: B) :: D) ∧ (leaves ((A ++ (k, x) :: (r, y) :: B) :: D)).length ≤ (leaves ((A ++ (k, t) :: B) :: D)).length + (if D = [] then 1 else 0) ∧ (MinL ((A ++ (k, t) :: B) :: D) → MinL ((A ++ (k, x) :: (r, y) :: B) :: D)) := by
  cases D with
  | nil =>
    refine ⟨?_, ?_, fun hm => ?_⟩
    · unfold flatT
      rw [leaves_one, leaves_one, List.map_append, List.map_cons, List.map_cons, List.map_append, List.map_cons]
      exact flat_two (hs.lf (ch_leaf hT.1 t (by simp)).1)
    · rw [leaves_one, leaves_one, if_pos rfl]
      simp
      omega
    · refine .inr fun z hz => ?_
      unfold MinL at hm
      rw [leaves_one] at hz hm
      rcases List.mem_append.1 hz with h1 | h1
      · rcases hm with hm | hm
        · have h0 : A = [] := List.eq_nil_of_length_eq_zero (by simp at hm; omega)
          rw [h0] at h1
          cases h1
        · exact hm z (List.mem_append.2 (.inl h1))
      · rcases List.mem_cons.1 h1 with h2 | h2
        · rw [h2]; exact Nat.le_of_eq hx.symm
        · rcases List.mem_cons.1 h2 with h3 | h3
          · rw [h3]; exact hy
          · rcases hm with hm | hm
            · have h0 : B = [] := List.eq_nil_of_length_eq_zero (by simp at hm; omega)
              rw [h0] at h3
              cases h3
            · exact hm z (List.mem_append.2 (.inr (List.mem_cons_of_mem _ h3)))
  | cons d D =>
    unfold flatT MinL
    rw [leaves_cons, leaves_cons]
    exact ⟨rfl, by simp, fun h => h⟩
end
section
variable {key : ByteArray} {U : List Lvl} {L A : Lvl} {h : Hn} {t : Nd} {B : Lvl} {D : List Lvl} {root : Hn} {x y : Nd} {sep : ByteArray} {r : Hn}
/-- One level up. -/
theorem Kst.up {u : Lvl} {h2 : Hn} {n2 m2 : Nd} (k : Kst key (u :: U) ((h2, n2) :: L) A h t B D root) (hs : Sp5 t x y sep r) (h5 : t.keys.length = 5) (hx : x.keys.length = 2) (hy : 2 ≤ y.keys.length ∧ y.keys.length ≤ 3) (hm : AddR n2 sep r m2) :
    ∃ A2 B2, u = A2 ++ (h2, n2) :: B2 ∧ Kst key U L A2 h2 m2 B2 ((A ++ (h, x) :: (r, y) :: B) :: D) root ∧ m2.keys.length = n2.keys.length + 1 ∧ Rl (if D = [] then 1 else 0) (vt (u :: U) A h t B D) (vt U A2 h2 m2 B2 ((A ++ (h, x) :: (r, y) :: B) :: D)) := by
  obtain ⟨A2, B2, e, ea, hp⟩ := k.pt
  subst e
  obtain ⟨hL, hN, hA⟩ := k.ab
  obtain ⟨hO, em, hT⟩ := up_step k.tw hL hN ea hs hm
  have hen : En1 m2 = En1 n2 := by rw [em]; rfl
  have hlen : m2.keys.length = n2.keys.length + 1 := by rw [em]; exact ins_length _ (plc_le _ _) _
  have h4 : n2.keys.length ≤ 4 := k.su _ (List.mem_cons_self ..) (h2, n2) (by simp)
  have hv : ∀ W : List Lvl, vt (W ++ []) A h t B D = vt W A h t B D := fun W => by rw [List.append_nil]
  have hvt : vt ((A2 ++ (h2, n2) :: B2) :: U) A h t B D = vt U A2 h2 n2 B2 ((A ++ (h, t) :: B) :: D) := by
    unfold vt
    rw [List.reverse_cons, List.append_assoc]
    rfl
  obtain ⟨s1, s2, s3⟩ := split_leaves k.tw hs hx hy.1 h5
  refine ⟨A2, B2, rfl, ⟨hT, above_keep hA (by rw [List.map_append, List.map_append, List.map_cons, List.map_cons]; simp only [hen]) (by rw [List.map_append, List.map_append, List.map_cons, List.map_cons]), hp, ?_, fun v hv z hz => k.su v (List.mem_cons_of_mem _ hv) z hz, ?_, fun z hz => k.su _ (List.mem_cons_self ..) z (List.mem_append.2 (.inl hz)), fun z hz => k.su _ (List.mem_cons_self ..) z (List.mem_append.2 (.inr (List.mem_cons_of_mem _ hz))), by omega, ?_⟩, hlen, ?_⟩
  · obtain ⟨n, R, e⟩ := k.rt
    rw [hvt] at e
    unfold vt at e ⊢
    cases hU : U.reverse with
    | nil =>
      rw [hU] at e
      injection e with e1 e2
      have : A2 = [] ∧ (h2, n2) = (root, n) ∧ B2 = [] := by
        cases A2 with
        | nil => injection e1 with e1 e3; exact ⟨rfl, e1, e3⟩
        | cons a A2 => injection e1 with _ e3; cases A2 <;> cases e3
      obtain ⟨q1, q2, q3⟩ := this
      injection q2 with q2 _
      subst q1 q2 q3
      exact ⟨m2, _, rfl⟩
    | cons v V =>
      rw [hU] at e
      injection e with e1 e2
      exact ⟨n, _, by rw [List.cons_append, e1]⟩
  · intro v hv z hz
    rcases List.mem_cons.1 hv with e | e
    · subst e
      rcases List.mem_append.1 hz with h1 | h1
      · exact k.sa z h1
      · rcases List.mem_cons.1 h1 with h1 | h1
        · rw [h1]; show x.keys.length ≤ 4; omega
        · rcases List.mem_cons.1 h1 with h1 | h1
          · rw [h1]; show y.keys.length ≤ 4; omega
          · exact k.sb z h1
    · exact k.sd v e z hz
  · have hf := k.fl
    rw [hvt] at hf
    intro v hv z hz hl
    rcases List.mem_append.1 hv with h1 | h1
    · exact hf v (List.mem_append.2 (.inl h1)) z hz hl
    · rcases List.mem_cons.1 h1 with h2' | h2'
      · subst h2'
        rcases List.mem_append.1 hz with h3 | h3
        · exact hf _ (List.mem_append.2 (.inr (List.mem_cons_self ..))) z (List.mem_append.2 (.inl h3)) hl
        · rcases List.mem_cons.1 h3 with h4' | h4'
          · rw [h4']
            intro e0
            have : m2.keys.length = 0 := by rw [e0]; rfl
            omega
          · exact hf _ (List.mem_append.2 (.inr (List.mem_cons_self ..))) z (List.mem_append.2 (.inr (List.mem_cons_of_mem _ h4'))) hl
      · rcases List.mem_cons.1 h2' with h3 | h3
        · subst h3
          rcases List.mem_append.1 hz with h4' | h4'
          · exact hf (A ++ (h, t) :: B) (List.mem_append.2 (.inr (List.mem_cons_of_mem _ (List.mem_cons_self ..)))) z (List.mem_append.2 (.inl h4')) hl
          · rcases List.mem_cons.1 h4' with h6 | h6
            · rw [h6]; intro e0; have : x.keys.length = 0 := by rw [e0]; rfl
              omega
            · rcases List.mem_cons.1 h6 with h6 | h6
              · rw [h6]; intro e0; have : y.keys.length = 0 := by rw [e0]; rfl
                omega
              · exact hf (A ++ (h, t) :: B) (List.mem_append.2 (.inr (List.mem_cons_of_mem _ (List.mem_cons_self ..)))) z (List.mem_append.2 (.inr (List.mem_cons_of_mem _ h6))) hl
        · exact hf v (List.mem_append.2 (.inr (List.mem_cons_of_mem _ (List.mem_cons_of_mem _ h3)))) z hz hl
  · rw [hvt]
    refine ⟨?_, fun g q hg => ?_, ?_, fun hm2 => ?_⟩
    · unfold flatT at s1 ⊢
      rw [vt_leaves, vt_leaves, leaves_cons, leaves_cons]
      exact s1
    · obtain ⟨l, hl, A', n, B', e, ha, hlf⟩ := hg
      rcases List.mem_append.1 hl with h1 | h1
      · exact ⟨l, List.mem_append.2 (.inl h1), A', n, B', e, ha, hlf⟩
      · rcases List.mem_cons.1 h1 with h2' | h2'
        · subst h2'
          obtain ⟨A3, n3, B3, e3, h3⟩ := vis_same hen (fun hh => by rw [(hL.inner (h2, n2) (by simp)).1] at hh; cases hh) e ha
          exact ⟨_, List.mem_append.2 (.inr (List.mem_cons_self ..)), A3, n3, B3, e3, h3.1, fun hq => h3.2 (hlf hq)⟩
        · rcases List.mem_cons.1 h2' with h3 | h3
          · subst h3
            obtain ⟨A3, n3, B3, e3, h3⟩ := vis_level hs e ha
            exact ⟨_, List.mem_append.2 (.inr (List.mem_cons_of_mem _ (List.mem_cons_self ..))), A3, n3, B3, e3, h3.1, fun hq => h3.2 (hlf hq)⟩
          · exact ⟨l, List.mem_append.2 (.inr (List.mem_cons_of_mem _ (List.mem_cons_of_mem _ h3))), A', n, B', e, ha, hlf⟩
    · rw [vt_leaves, vt_leaves, leaves_cons, leaves_cons]
      exact s2
    · unfold MinL at s3 hm2 ⊢
      rw [vt_leaves, leaves_cons] at hm2 ⊢
      exact s3 hm2
/-- The root is split. -/
theorem Kst.top {g : Hn} (k : Kst key [] [] A h t B D root) (hs : Sp5 t x y sep r) (h5 : t.keys.length = 5) (hx : x.keys.length = 2) (hy : 2 ≤ y.keys.length ∧ y.keys.length ≤ 3) :
    A = [] ∧ B = [] ∧ h = root ∧ Good ([(g, nroot root r sep)] :: [(root, x), (r, y)] :: D) g ∧ Rl (if D = [] then 1 else 0) (vt [] A h t B D) ([(g, nroot root r sep)] :: [(root, x), (r, y)] :: D) := by
  have ha : A = [] := List.eq_nil_of_length_eq_zero k.pt
  subst ha
  obtain ⟨n, R, e⟩ := k.rt
  unfold vt at e
  injection e with e1 e2
  injection e1 with e1 e3
  injection e1 with e1 _
  subst e1 e3
  obtain ⟨s1, s2, s3⟩ := split_leaves k.tw hs hx hy.1 h5
  have hT := tower_split k.tw hs
  have hen : En1 t = none := by
    obtain ⟨P, k2, c, e2, h1, _⟩ := tower_lst rfl k.tw
    have : P = [] := by
      cases P with
      | nil => rfl
      | cons p P => injection e2 with _ e2; cases P <;> cases e2
    subst this
    injection e2 with e2
    injection e2 with _ e2
    rw [e2]; exact h1
  obtain ⟨n1, n2⟩ := hs.en
  refine ⟨rfl, rfl, rfl, ⟨⟨Lev.root n1 (n2.trans hen) rfl rfl rfl ⟨rfl, ?_⟩, rfl, hT⟩, ⟨_, _, rfl⟩, ?_, ?_⟩, ⟨?_, ?_, ?_, ?_⟩⟩
  · exact ⟨List.pairwise_singleton _ _, fun _ => rfl, fun h => (by cases h), fun h => (by cases h), fun _ => ⟨rfl, rfl⟩⟩
  · intro l hl z hz
    rcases List.mem_cons.1 hl with e | e
    · subst e
      simp at hz
      rw [hz]
      show 1 ≤ 4
      decide
    · rcases List.mem_cons.1 e with e | e
      · subst e
        rcases List.mem_cons.1 hz with e | e
        · rw [e]; show x.keys.length ≤ 4; omega
        · simp at e
          rw [e]; show y.keys.length ≤ 4; omega
      · exact k.sd l e z hz
  · intro l hl z hz hz2
    rcases List.mem_cons.1 hl with e | e
    · subst e
      simp at hz
      rw [hz]
      intro e0
      cases e0
    · rcases List.mem_cons.1 e with e | e
      · subst e
        rcases List.mem_cons.1 hz with e | e
        · rw [e]; intro e0; have : x.keys.length = 0 := by rw [e0]; rfl
          omega
        · simp at e
          rw [e]; intro e0; have : y.keys.length = 0 := by rw [e0]; rfl
          omega
      · exact k.fl l (List.mem_append.2 (.inr (List.mem_cons_of_mem _ e))) z hz hz2
  · exact s1
  · intro f q hg
    obtain ⟨l, hl, A', n, B', e, ha, hlf⟩ := hg
    rcases List.mem_cons.1 hl with h2' | h2'
    · subst h2'
      obtain ⟨A3, n3, B3, e3, h3⟩ := vis_level hs e ha
      exact ⟨_, List.mem_cons_of_mem _ (List.mem_cons_self ..), A3, n3, B3, e3, h3.1, fun hq => h3.2 (hlf hq)⟩
    · exact ⟨l, List.mem_cons_of_mem _ (List.mem_cons_of_mem _ h2'), A', n, B', e, ha, hlf⟩
  · exact s2
  · exact s3
end
end Go.Proofs.YtfplnobnmgbgoaaDoor
namespace Go.Proofs.YtfplnobnmgbgoaaDoor
open Go.RowKit Go.Lib
set_option linter.unusedVariables false
set_option maxRecDepth 20000
set_option linter.unusedSimpArgs false

theorem perm_of_count {α : Type} {X Y : List α} (h : ∀ [DecidableEq α], ∀ a, X.count a = Y.count a) : X.Perm Y := by
  classical
  exact List.perm_iff_count.2 fun a => h a
/-- How many slots it takes to give one kid more to the nodes above. -/
def nds : Lvl → Nat
  | [] => 1
  | (_, n) :: L => if n.keys.length < 4 then 0 else 1 + nds L
/-- What keep comes to. -/
structure KRes (I : Ids) (X : Lvl) (G : List Nat) (fr : Nat → Bool) (V : List Lvl) (d : Nat) (w : World) (e : Ending) (w' : World) : Prop where
  e : e = .returned (.tuple #[])
  r : ∃ N' T' root' fr', Tm w' I N' T'.flatten root' G fr' ∧ Good T' root' ∧ Tn I w w' ∧ Rl d V T' ∧ cnt fr' G.length + T'.flatten.length = cnt fr G.length + X.length ∧ ∀ s, fr s = false → fr' s = false
def rest (U : List Lvl) (A B : Lvl) (D : List Lvl) : Lvl := U.flatten ++ (A ++ (B ++ D.flatten))
theorem vt_perm (U : List Lvl) (A : Lvl) (h : Hn) (t : Nd) (B : Lvl) (D : List Lvl) : ((h, t) :: rest U A B D).Perm (vt U A h t B D).flatten := by
  have h1 : (U.reverse.flatten).Perm U.flatten := (List.reverse_perm U).flatten
  unfold vt rest
  rw [List.flatten_append, List.flatten_cons]
  refine List.Perm.trans ?_ (List.Perm.append_right _ h1.symm)
  refine perm_of_count fun a => ?_
  simp only [List.count_append, List.count_cons]
  omega
theorem up_perm (U : List Lvl) (A A2 : Lvl) (h h2 r : Hn) (x y n2 : Nd) (B B2 : Lvl) (D : List Lvl) : ((r, y) :: (h, x) :: rest ((A2 ++ (h2, n2) :: B2) :: U) A B D).Perm ((h2, n2) :: rest U A2 B2 ((A ++ (h, x) :: (r, y) :: B) :: D)) := by
  refine perm_of_count fun a => ?_
  unfold rest
  simp only [List.count_append, List.count_cons, List.flatten_cons]
  omega
theorem top_perm (h r : Hn) (x y : Nd) (D : List Lvl) (g : Hn) (m : Nd) : ((g, m) :: (r, y) :: (h, x) :: rest [] [] [] D).Perm ([(g, m)] :: [(h, x), (r, y)] :: D).flatten := by
  refine perm_of_count fun a => ?_
  unfold rest
  simp only [List.count_append, List.count_cons, List.flatten_cons, List.flatten_nil, List.count_nil, List.nil_append, List.cons_append]
  omega
section
variable {w w' : World} {I : Ids} {N : Nat → Option Ent} {X : Lvl} {root : Hn} {G : List Nat} {fr : Nat → Bool} {h : Hn} {n : Nd}
theorem Tm.perm {Y : Lvl} (k : Tm w I N X root G fr) (hp : X.Perm Y) : Tm w I N Y root G fr := ⟨by rw [← hp.length_eq]; exact k.b, k.t, k.p, k.tab, k.s.perm hp, k.tk, k.gn, k.z, k.z1⟩
/-- A node has been written over. -/
theorem Tm.put (k : Tm w I N ((h, n) :: X) root G fr) {x : Nat} {e : Ent} (he : N x = some e) (hh : h = ⟨(x : Int), (e.gen : Int)⟩) {m : Nd} (hb : Br w' I (updE N x (some ⟨e.gen, e.blk, m⟩)) (X.length + 1)) (ht : TrB w' I root) (hp : Pool w' I.pb I.gb I.fb G fr) (t : Tn I w w') :
    Tm w' I (updE N x (some ⟨e.gen, e.blk, m⟩)) ((h, m) :: X) root G fr := by
  subst hh
  have hn : n = e.nd := by
    obtain ⟨y, d, h1, h2, h3⟩ := k.s.head
    injection h2 with h2 h4
    have : y = x := by omega
    subst this
    rw [he] at h1
    injection h1 with h1
    rw [h3, ← h1]
  refine ⟨hb, ht, hp, tab_tn k.b k.t k.p k.tab k.z1 t, k.s.set he m, fun y d hy => ?_, k.gn, Nat.le_trans k.z t.size, k.z1⟩
  unfold updE at hy
  split at hy
  · rename_i hyx
    rw [hyx]
    exact k.tk x e he
  · exact k.tk y d hy
/-- A node has been split: its right half stands in a slot that was free. -/
theorem Tm.split (k : Tm w I N ((h, n) :: X) root G fr) {x s q : Nat} {e : Ent} (he : N x = some e) (hh : h = ⟨(x : Int), (e.gen : Int)⟩) (hs : fr s = true) {l r : Nd} (hb : Br w' I (updE (updE N x (some ⟨e.gen, e.blk, l⟩)) s (some ⟨G.getD s 0, q, r⟩)) (X.length + 1 + 1)) (ht : TrB w' I root) (hp : Pool w' I.pb I.gb I.fb G (fun y => fr y && y != s)) (t : Tn I w w') :
    Tm w' I (updE (updE N x (some ⟨e.gen, e.blk, l⟩)) s (some ⟨G.getD s 0, q, r⟩)) ((⟨(s : Int), (G.getD s 0 : Nat)⟩, r) :: (h, l) :: X) root G (fun y => fr y && y != s) := by
  subst hh
  have hn : n = e.nd := by
    obtain ⟨y, d, h1, h2, h3⟩ := k.s.head
    injection h2 with h2 h4
    have : y = x := by omega
    subst this
    rw [he] at h1
    injection h1 with h1
    rw [h3, ← h1]
  have hN : N s = none := by
    cases hc : N s with
    | none => rfl
    | some d =>
      have := k.tk s d hc
      rw [hs] at this
      cases this
  have hxs : x ≠ s := fun e2 => by rw [e2, hN] at he; cases he
  have s1 := k.s.set he l
  have h2 : updE N x (some ⟨e.gen, e.blk, l⟩) s = none := by
    unfold updE
    rw [if_neg (fun h => hxs h.symm)]
    exact hN
  refine ⟨hb, ht, hp, tab_tn k.b k.t k.p k.tab k.z1 t, s1.add h2 ⟨G.getD s 0, q, r⟩, fun y d hy => ?_, fun y hy => k.gn y (by simp at hy; exact hy.1), Nat.le_trans k.z t.size, k.z1⟩
  unfold updE at hy
  split at hy
  · rename_i hys
    simp [hys]
  · rename_i hys
    split at hy
    · rename_i hyx
      rw [hyx, k.tk x e he]
      rfl
    · rw [k.tk y d hy]
      rfl
/-- One node more, in a slot that was free. -/
theorem Tm.more (k : Tm w I N X root G fr) {s q : Nat} (hs : fr s = true) {m : Nd} {r2 : Hn} (hb : Br w' I (updE N s (some ⟨G.getD s 0, q, m⟩)) (X.length + 1)) (ht : TrB w' I r2) (hp : Pool w' I.pb I.gb I.fb G (fun y => fr y && y != s)) (t : Tn I w w') :
    Tm w' I (updE N s (some ⟨G.getD s 0, q, m⟩)) ((⟨(s : Int), (G.getD s 0 : Nat)⟩, m) :: X) r2 G (fun y => fr y && y != s) := by
  have hN : N s = none := by
    cases hc : N s with
    | none => rfl
    | some d =>
      have := k.tk s d hc
      rw [hs] at this
      cases this
  refine ⟨hb, ht, hp, tab_tn k.b k.t k.p k.tab k.z1 t, k.s.add hN ⟨G.getD s 0, q, m⟩, fun y d hy => ?_, fun y hy => k.gn y (by simp at hy; exact hy.1), Nat.le_trans k.z t.size, k.z1⟩
  unfold updE at hy
  split at hy
  · rename_i hys
    simp [hys]
  · rw [k.tk y d hy]
    rfl
theorem Tm.none (k : Tm w I N X root G fr) {s : Nat} (hs : fr s = true) : N s = none := by
  cases hc : N s with
  | none => rfl
  | some d =>
    have := k.tk s d hc
    rw [hs] at this
    cases this
/-- Where the others stand is as it was. -/
theorem blk_split (k : Tm w I N ((h, n) :: X) root G fr) {x s q : Nat} {e : Ent} (he : N x = some e) (hh : h = ⟨(x : Int), (e.gen : Int)⟩) (hs : fr s = true) {l r : Nd} {z : Hn × Nd} (hz : z ∈ X) :
    blkOf (updE (updE N x (some ⟨e.gen, e.blk, l⟩)) s (some ⟨G.getD s 0, q, r⟩)) z = blkOf N z := by
  obtain ⟨d, y, h1, h2, h3⟩ := k.s.blk (List.mem_cons_of_mem _ hz)
  have hys : y ≠ s := fun e2 => by rw [e2, k.none hs] at h1; cases h1
  have hyx : y ≠ x := fun e2 => by
    subst e2
    have := k.s.nd
    rw [List.map_cons, List.nodup_cons] at this
    refine this.1 (List.mem_map.2 ⟨z, hz, ?_⟩)
    rw [h2, hh]
  unfold blkOf
  rw [h2]
  show ((updE (updE N x (some ⟨e.gen, e.blk, l⟩)) s (some ⟨G.getD s 0, q, r⟩) ((y : Int).toNat)).map Ent.blk).getD 0 = ((N ((y : Int).toNat)).map Ent.blk).getD 0
  rw [Int.toNat_natCast]
  unfold updE
  rw [if_neg hys, if_neg hyx]
theorem ptrs_split (k : Tm w I N ((h, n) :: X) root G fr) {x s q : Nat} {e : Ent} (he : N x = some e) (hh : h = ⟨(x : Int), (e.gen : Int)⟩) (hs : fr s = true) {l r : Nd} {Z : Lvl} (hz : ∀ z ∈ Z, z ∈ X) :
    ptrs (updE (updE N x (some ⟨e.gen, e.blk, l⟩)) s (some ⟨G.getD s 0, q, r⟩)) Z = ptrs N Z := List.map_congr_left fun z hzz => blk_split k he hh hs (hz z hzz)
end
/-- A row of pointers that is read, in a block of such. -/
structure PRow (w : World) (b o : Nat) (Q : List Nat) : Prop where
  r : Row w (some ⟨b, o, none⟩) (Q.map pq)
  a : ∃ cur, At w b (.cells cur 86 (0, 0))
theorem PRow.turn {w w' : World} {b o : Nat} {Q : List Nat} (h : PRow w b o Q) {X : Nat → Prop} (t : Turn X w w') (hX : ∀ c, At w b (.cells c 86 (0, 0)) → ¬ X b) : PRow w' b o Q := by
  obtain ⟨cur, ha⟩ := h.a
  refine ⟨h.r.turn t fun b2 o2 e => ?_, cur, ha.turn t (hX _ ha)⟩
  injection e with e
  injection e with e _
  subst e
  exact hX _ ha
theorem PRow.no {w w' : World} {b o : Nat} {Q : List Nat} (h : PRow w b o Q) (t : Turn No w w') : PRow w' b o Q := h.turn t fun _ _ h => h
theorem PRow.pre {w : World} {b o : Nat} {Q R : List Nat} (h : PRow w b o (Q ++ R)) : PRow w b o Q := by
  refine ⟨fun j u hj => h.r j u ?_, h.a⟩
  rw [List.map_append, List.getElem?_append_left (List.getElem?_eq_some_iff.1 hj).1]
  exact hj
theorem Ptrs.prow {w0 wx : World} {Q : List Nat} {g c : Nat} (h : Ptrs w0 wx Q (some ⟨g, 0, none⟩) c) : PRow wx g 0 Q ∧ Q.length ≤ c := by
  refine ⟨⟨row_of_own h.row, ?_⟩, ?_⟩
  · obtain ⟨_, cur, hc⟩ := own_at h.row rfl
    exact ⟨cur, hc⟩
  · rcases h.row.2 with ⟨hv, hn⟩ | ⟨g2, cap, cur, hv, hb, hg, hn, hc, hs, ht⟩
    · cases hv
    · injection hv with _ _ hcap
      omega
/-- What is of another kind stays, whatever a tree's calls turn. -/
theorem Tm.keepAt {w w' : World} {I : Ids} {N : Nat → Option Ent} {X : Lvl} {root : Hn} {G : List Nat} {fr : Nat → Bool} (k : Tm w I N X root G fr) (t : Tn I w w') {i : Nat} {c : Array Value} {ty : TypeId} (h : At w i (.cells c ty (0, 0))) (h1 : ty ≠ 83) (h2 : ty ≠ 68) (h3 : ty ≠ 121) : ¬ Xt I w i := by
  have hp := k.p
  obtain ⟨F, q1, q2, q3, _⟩ := hp
  obtain ⟨M, f, hb⟩ := k.b
  rintro (e | e | e | e | ⟨_, c2, hc⟩)
  · exact hb.mbne h e
  · subst e
    have := h.eq k.t
    injection this with _ this
    exact h1 this
  · subst e
    have := h.eq q2
    injection this with _ this
    exact h2 this
  · subst e
    have := h.eq q3
    injection this with _ this
    exact h2 this
  · have := h.eq hc
    injection this with _ this
    exact h3 this
theorem Tm.prow {w w' : World} {I : Ids} {N : Nat → Option Ent} {X : Lvl} {root : Hn} {G : List Nat} {fr : Nat → Bool} (k : Tm w I N X root G fr) (t : Tn I w w') {b o : Nat} {Q : List Nat} (h : PRow w b o Q) : PRow w' b o Q :=
  h.turn t fun c hc => k.keepAt t hc (by decide) (by decide) (by decide)
end Go.Proofs.YtfplnobnmgbgoaaDoor
