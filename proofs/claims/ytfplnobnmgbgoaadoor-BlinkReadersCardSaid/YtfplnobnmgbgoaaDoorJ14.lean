/-
  The tree's keep.
  slices.Backward over a row of pointers.
  The slots that a Put needs: needs.
  A key's leaf gets other keys: what the tree has then.
  The leaf's Put, on the way of the tree's.
-/
import Derived.Test.YtfplnobnmgbgoaaDoorJ13
import Derived.RangeFuncBox
import Derived.RangeFuncLeaves
import Derived.Shelf.Abstract
import Derived.OwnWalkIn
import Derived.TacticsInMore
import Derived.LoopNIn
import Derived.LoopIn
namespace Go.Proofs.YtfplnobnmgbgoaaDoor
open Go.RowKit Go.Lib
set_option linter.unusedVariables false
set_option maxRecDepth 20000
set_option linter.unusedSimpArgs false

structure KeepC (U : List Lvl) : Prop where
  k : ∀ {key : ByteArray} {L A : Lvl} {h : Hn} {t : Nd} {B : Lvl} {D : List Lvl} {root : Hn} (w : World) (I : Ids) (N : Nat → Option Ent) (told : Nd) (G : List Nat) (fr : Nat → Bool) (AK : Option Addr) (ck : Nat) (AV : Option Addr) (cv : Nat) (AD : Option Addr) (cd : Nat) (b o : Nat) (Q : List Nat) (q c : Nat),
  Kst key U L A h t B D root → Tm w I N ((h, told) :: rest U A B D) root G fr → Inn w t AK AV AD → PRow w b o (Q ++ [q]) → Q ++ [q] = ptrs N (L.reverse ++ [(h, told)]) → Q.length + 1 ≤ c → Q.length < 10000 → (t.keys.length = 5 → 1 + nds L ≤ cnt fr G.length) →
  Calls Tryd.prog 50 #[.pointer (some ⟨I.tb, 0, none⟩), .slice (some ⟨b, o, none⟩) (Q.length + 1) c, .agg (ndc t AK ck AV cv AD cd)] w (KRes I ((h, told) :: rest U A B D) G fr (vt U A h t B D) (if D = [] then 1 else 0) w)
theorem last_c {w : World} {b o : Nat} {Q : List Nat} {q c : Nat} (h : PRow w b o (Q ++ [q])) (hn : Q.length < 10000) (W : World) (t : Turn No w W) : Calls Tryd.prog 46 #[.slice (some ⟨b, o, none⟩) (Q.length + 1) c] W fun e w' => e = .returned (.pointer (some ⟨q, 1, none⟩)) ∧ Turn No W w' := by
  refine (last_any b o Q q c W (h.r.no t) (by omega)).mono ?_
  rintro e w' ⟨rfl, rfl⟩
  exact ⟨rfl, Turn.refl _ _⟩
theorem full_c2 {w : World} {t : Nd} {AK : Option Addr} {ck : Nat} {AV : Option Addr} {cv : Nat} {AD : Option Addr} {cd : Nat} (h : Inn w t AK AV AD) (W : World) (tW : Turn No w W) : Calls Tryd.prog 70 #[.agg (ndc t AK ck AV cv AD cd)] W fun e w' => e = .returned (.bool (decide (4 < t.keys.length))) ∧ Turn No W w' := by
  refine (full_c t AK AV AD ck cv cd W (h.no tW).i).mono ?_
  rintro e w' ⟨b, rfl, hb, ht⟩
  refine ⟨?_, ht⟩
  have : b = decide (4 < t.keys.length) := by
    cases b with
    | true => exact (decide_eq_true (hb.1 rfl)).symm
    | false => exact (decide_eq_false fun h => by have := hb.2 h; cases this).symm
  rw [this]
/-- The node is put into its place. -/
theorem keep_store {w w3 : World} {I : Ids} {N : Nat → Option Ent} {X : Lvl} {root h : Hn} {told t : Nd} {G : List Nat} {fr : Nat → Bool} {x q : Nat} {e : Ent} {AK AV AD : Option Addr} (hm : Tm w I N ((h, told) :: X) root G fr) (hi : Inn w t AK AV AD) (he : N x = some e) (hh : h = ⟨(x : Int), (e.gen : Int)⟩) (hq : q = e.blk) (ck cv cd : Nat) (t3 : Turn No w w3) :
    ∃ w4, (w3.there q 1 (ndc t AK ck AV cv AD cd).size ∧ (Tryd.prog.info? 79).map (·.size) = some (ndc t AK ck AV cv AD cd).size ∧ (ndc t AK ck AV cv AD cd).all (·.oneCell') = true) ∧ w3.setCells q 1 (ndc t AK ck AV cv AD cd).toList = w4 ∧
      Tm w4 I (updE N x (some ⟨e.gen, e.blk, t⟩)) ((h, t) :: X) root G fr ∧ Tn I w w4 := by
  have h3 := hm.no t3
  obtain ⟨BK, dk, BV, dv, BD, dd, a1, _⟩ := h3.b.at_ he
  subst hq
  have hz : I.Z ≤ e.blk := by obtain ⟨M, f, hb⟩ := h3.b; exact (hb.z x e he).1
  have ts : Turn (fun i => i = e.blk) w3 (w3.setCells e.blk 1 (ndc t AK ck AV cv AD cd).toList) := turn_sets e.blk _ 1 w3
  have tn3 : Tn I w3 (w3.setCells e.blk 1 (ndc t AK ck AV cv AD cd).toList) := Tn.of ts fun i hi => by
    rw [hi]
    exact .inr (.inr (.inr (.inr ⟨hz, _, a1⟩)))
  have a2 := store_node a1 t AK ck AV cv AD cd
  refine ⟨_, st_node (node_there a1) t AK ck AV cv AD cd, rfl, h3.put he hh (h3.b.set he (hi.no t3) ts a2) ?_ (h3.p.typed ts fun i hi => by rw [hi]; exact ⟨_, _, a1, by decide, by decide⟩) tn3, (Tn.no t3).trans tn3⟩
  exact At.turn h3.t ts fun e2 => by
    have h := a1
    rw [← e2] at h
    have := At.eq h3.t h
    injection this with _ this
    exact absurd this (by decide)
theorem keep_done {w w4 : World} {I : Ids} {N' : Nat → Option Ent} {key : ByteArray} {U : List Lvl} {L A : Lvl} {h : Hn} {told t : Nd} {B : Lvl} {D : List Lvl} {root : Hn} {G : List Nat} {fr : Nat → Bool} {d : Nat} (hk : Kst key U L A h t B D root) (hm : Tm w4 I N' ((h, t) :: rest U A B D) root G fr) (h4 : ¬ 4 < t.keys.length) (tn : Tn I w w4) :
    KRes I ((h, told) :: rest U A B D) G fr (vt U A h t B D) d w (.returned (.tuple #[])) w4 :=
  ⟨rfl, N', vt U A h t B D, root, fr, hm.perm (vt_perm ..), hk.done (by omega), tn, (Rl.refl _).mono (Nat.zero_le _), by rw [← (vt_perm U A h t B D).length_eq]; rfl, fun _ h => h⟩
/-- The node is split. -/
theorem keep_split {w : World} {I : Ids} {N : Nat → Option Ent} {key : ByteArray} {U : List Lvl} {L A : Lvl} {h : Hn} {told t : Nd} {B : Lvl} {D : List Lvl} {root : Hn} {G : List Nat} {fr : Nat → Bool} {x q s : Nat} {e : Ent} {AK AV AD : Option Addr} (hk : Kst key U L A h t B D root) (hm : Tm w I N ((h, told) :: rest U A B D) root G fr) (hi : Inn w t AK AV AD) (he : N x = some e) (hh : h = ⟨(x : Int), (e.gen : Int)⟩) (hq : q = e.blk) (h5 : t.keys.length = 5) (hs : fr s = true) (hl : ∀ y, y < s → fr y = false) (ck cv cd : Nat) (W : World) (tW : Turn No w W) :
    Calls Tryd.prog 71 #[.pointer (some ⟨I.tb, 0, none⟩), .pointer (some ⟨q, 1, none⟩), .agg (ndc t AK ck AV cv AD cd)] W fun r w' => ∃ sep l rr qq, r = .returned (.tuple #[.string sep, .agg #[.int .i64 (s : Int), .int .u64 (G.getD s 0 : Nat)]]) ∧ Fit sep ∧ Sp5 t l rr sep ⟨(s : Int), (G.getD s 0 : Nat)⟩ ∧ l.keys.length = 2 ∧ (2 ≤ rr.keys.length ∧ rr.keys.length ≤ 3) ∧
      Tm w' I (updE (updE N x (some ⟨e.gen, e.blk, l⟩)) s (some ⟨G.getD s 0, qq, rr⟩)) ((⟨(s : Int), (G.getD s 0 : Nat)⟩, rr) :: (h, l) :: rest U A B D) root G (fun y => fr y && y != s) ∧ Tn I W w' := by
  have h3 := hm.no tW
  subst hq
  refine (tsplit_any ck cv cd h3.b h3.t h3.p h3.tab he (hi.no tW) hk.right h5 hs hl (h3.none hs) (by have := h3.len; omega) (h3.gn s hs) h3.z).mono ?_
  rintro r w' ⟨sep, l, rr, qq, rfl, fs, hsp, hp, hb, ht, tn⟩
  obtain ⟨h6, h7, h8⟩ := sp5_of hk.right h5 hsp
  exact ⟨sep, l, rr, qq, rfl, fs, h6, h7, by rw [h8]; split <;> omega, h3.split he hh hs hb ht hp tn, tn⟩
theorem keep_top {N : Nat → Option Ent} {key : ByteArray} {U : List Lvl} {L A : Lvl} {h : Hn} {told t : Nd} {B : Lvl} {D : List Lvl} {root : Hn} {q : Nat} (hk : Kst key U L A h t B D root) (hQ : [] ++ [q] = ptrs N (L.reverse ++ [(h, told)])) : U = [] ∧ L = [] := by
  have h1 := congrArg List.length hQ
  unfold ptrs at h1
  simp at h1
  have h2 := pth_len hk.pt
  rw [h1] at h2
  exact ⟨List.eq_nil_of_length_eq_zero (by simpa using h2), h1⟩
theorem keep_free2 {G : List Nat} {fr : Nat → Bool} {s n : Nat} (hs : fr s = true) (hl : s < G.length) (hf : 1 + (n + 1) ≤ cnt fr G.length) : ∃ s2, s2 < G.length ∧ (fr s2 && s2 != s) = true ∧ ∀ y, y < s2 → (fr y && y != s) = false := by
  have h1 := cnt_out fr s hs G.length hl
  exact cnt_pos (fun x => fr x && x != s) G.length (by omega)
/-- A new root. -/
theorem keep_grow {w : World} {I : Ids} {N : Nat → Option Ent} {X : Lvl} {root r : Hn} {sep : ByteArray} {G : List Nat} {fr : Nat → Bool} {s : Nat} (hm : Tm w I N X root G fr) (fs : Fit sep) (hs : fr s = true) (hl : ∀ y, y < s → fr y = false) (W : World) (tW : Turn No w W) :
    Calls Tryd.prog 72 #[.pointer (some ⟨I.tb, 0, none⟩), .string sep, .agg #[.int .i64 r.slot, .int .u64 r.gen]] W fun e w' => e = .returned (.tuple #[]) ∧ ∃ N', Tm w' I N' ((⟨(s : Int), (G.getD s 0 : Nat)⟩, nroot root r sep) :: X) ⟨(s : Int), (G.getD s 0 : Nat)⟩ G (fun y => fr y && y != s) ∧ Tn I W w' := by
  have h3 := hm.no tW
  refine (grow_any h3.b h3.t h3.p h3.tab fs hs hl (h3.none hs) (by have := h3.len; omega) (h3.gn s hs) h3.z).mono ?_
  rintro e w' ⟨rfl, hp, ⟨q, hb⟩, ht, tn⟩
  exact ⟨rfl, _, h3.more hs hb ht hp tn, tn⟩
theorem keep_small {key : ByteArray} {u : Lvl} {U : List Lvl} {L A : Lvl} {h h2 : Hn} {t n2 : Nd} {B : Lvl} {D : List Lvl} {root : Hn} (hk : Kst key (u :: U) ((h2, n2) :: L) A h t B D root) : n2.keys.length ≤ 9000 ∧ n2.kids.length ≤ 9000 := by
  obtain ⟨A2, B2, e2, _⟩ := hk.pt
  have h4 : n2.keys.length ≤ 4 := hk.su u (List.mem_cons_self ..) (h2, n2) (by rw [e2]; simp)
  obtain ⟨hL, _, _⟩ := hk.ab
  obtain ⟨h6, h7⟩ := hL.inner (h2, n2) (by rw [e2]; simp)
  have h8 : n2.kids.length = n2.keys.length + 1 := (h7.2.2.2.2 h6).2
  omega
theorem node_cells {w : World} {q g : Nat} {n : Nd} {AK : Option Addr} {ck : Nat} {AV : Option Addr} {cv : Nat} {AD : Option Addr} {cd : Nat} (h : At w q (.cells (#[.int .u64 (g : Int)] ++ ndc n AK ck AV cv AD cd) 121 (0, 0))) :
    w.cell? ⟨q, 1, none⟩ = some (.bool n.leaf) ∧ w.cell? ⟨q, 2, none⟩ = some (.slice AK n.keys.length ck) ∧ w.cell? ⟨q, 3, none⟩ = some (.slice AV n.vals.length cv) ∧ w.cell? ⟨q, 4, none⟩ = some (.slice AD n.kids.length cd) ∧ w.cell? ⟨q, 5, none⟩ = some (.string n.high) ∧ w.cell? ⟨q, 6, none⟩ = some (.bool n.bnd) ∧ w.cell? ⟨q, 7, none⟩ = some (.int .i64 n.nx.slot) ∧ w.cell? ⟨q, 8, none⟩ = some (.int .u64 n.nx.gen) :=
  ⟨h.cell 1, h.cell 2, h.cell 3, h.cell 4, h.cell 5, h.cell 6, h.cell 7, h.cell 8⟩
theorem keep_root {w w6 : World} {I : Ids} {N6 : Nat → Option Ent} {key : ByteArray} {A : Lvl} {h r g : Hn} {told t l rr : Nd} {B : Lvl} {D : List Lvl} {root : Hn} {sep : ByteArray} {G : List Nat} {fr : Nat → Bool} {s s2 : Nat} (hk : Kst key [] [] A h t B D root) (hs : Sp5 t l rr sep r) (h5 : t.keys.length = 5) (hl2 : l.keys.length = 2) (hr2 : 2 ≤ rr.keys.length ∧ rr.keys.length ≤ 3)
    (hm : Tm w6 I N6 ((g, nroot root r sep) :: (r, rr) :: (h, l) :: rest [] A B D) g G (fun y => (fr y && y != s) && y != s2)) (f1 : fr s = true) (l1 : s < G.length) (f2 : (fr s2 && s2 != s) = true) (l2 : s2 < G.length) (tn : Tn I w w6) :
    KRes I ((h, told) :: rest [] A B D) G fr (vt [] A h t B D) (if D = [] then 1 else 0) w (.returned (.tuple #[])) w6 := by
  obtain ⟨hA, hB, hh, hg, hrl⟩ := hk.top (g := g) hs h5 hl2 hr2
  subst hA hB hh
  have hp := top_perm h r l rr D g (nroot h r sep)
  refine ⟨rfl, N6, _, g, _, hm.perm hp, hg, tn, hrl, ?_, fun y hy => by simp only [hy]; rfl⟩
  rw [← hp.length_eq]
  have c1 := cnt_out fr s f1 G.length l1
  have c2 := cnt_out (fun y => fr y && y != s) s2 f2 G.length l2
  simp only [List.length_cons]
  omega
theorem keep_next {N : Nat → Option Ent} {key : ByteArray} {U : List Lvl} {L A : Lvl} {h : Hn} {told t : Nd} {B : Lvl} {D : List Lvl} {root : Hn} {Q : List Nat} {q q2 : Nat} (hk : Kst key U L A h t B D root) (hQ : (Q ++ [q2]) ++ [q] = ptrs N (L.reverse ++ [(h, told)])) : ∃ u U' h2 n2 L', U = u :: U' ∧ L = (h2, n2) :: L' ∧ Q ++ [q2] = ptrs N (L'.reverse ++ [(h2, n2)]) := by
  have h2 := pth_len hk.pt
  cases L with
  | nil =>
    have h1 := congrArg List.length hQ
    unfold ptrs at h1
    simp at h1
  | cons z L =>
    obtain ⟨h2', n2⟩ := z
    cases U with
    | nil => cases h2
    | cons u U =>
      refine ⟨u, U, h2', n2, L, rfl, rfl, ?_⟩
      unfold ptrs at hQ ⊢
      rw [List.map_append] at hQ
      have := (List.append_inj' hQ rfl).1
      rw [this, List.reverse_cons]
/-- The node above, where it stands behind the split. -/
theorem keep_at {w w5 : World} {I : Ids} {N : Nat → Option Ent} {key : ByteArray} {u : Lvl} {U : List Lvl} {L A : Lvl} {h h2 : Hn} {told t l rr n2 : Nd} {B : Lvl} {D : List Lvl} {root : Hn} {G : List Nat} {fr : Nat → Bool} {x s qq Y : Nat} {e : Ent} {Q : List Nat} {q2 : Nat}
    (hm5 : Tm w5 I (updE (updE N x (some ⟨e.gen, e.blk, l⟩)) s (some ⟨Y, qq, rr⟩)) ((⟨(s : Int), (Y : Int)⟩, rr) :: (h, l) :: rest (u :: U) A B D) root G (fun y => fr y && y != s)) (hk : Kst key (u :: U) ((h2, n2) :: L) A h t B D root) (hm : Tm w I N ((h, told) :: rest (u :: U) A B D) root G fr) (he : N x = some e) (hh : h = ⟨(x : Int), (e.gen : Int)⟩) (hs : fr s = true) (hY : G.getD s 0 = Y) (hQ : Q ++ [q2] = ptrs N (L.reverse ++ [(h2, n2)])) :
    ∃ (g2 : Nat) (BK : Option Addr) (dk : Nat) (BV : Option Addr) (dv : Nat) (BD : Option Addr) (dd : Nat), At w5 q2 (.cells (#[.int .u64 (g2 : Int)] ++ ndc n2 BK dk BV dv BD dd) 121 (0, 0)) ∧ Inn w5 n2 BK BV BD := by
  subst hY
  have hmem : (h2, n2) ∈ rest (u :: U) A B D := by
    obtain ⟨A2, B2, e2, _⟩ := hk.pt
    unfold rest
    rw [e2, List.flatten_cons]
    simp
  have hb := blk_split (l := l) (r := rr) (q := qq) hm he hh hs hmem
  obtain ⟨e2, y, k1, k2, k3⟩ := hm5.s.blk (List.mem_cons_of_mem _ (List.mem_cons_of_mem _ hmem))
  have hq2 : q2 = blkOf N (h2, n2) := by
    unfold ptrs at hQ
    rw [List.map_append] at hQ
    have := (List.append_inj' hQ rfl).2
    injection this
  obtain ⟨BK, dk, BV, dv, BD, dd, a1, a2⟩ := hm5.b.at_ k1
  injection k2 with k4 k5
  rw [k5, hq2, ← hb, k3]
  exact ⟨e2.gen, BK, dk, BV, dv, BD, dd, a1, a2⟩
theorem keep_add {w5 : World} {n2 : Nd} {BK : Option Addr} (dk : Nat) {BV : Option Addr} (dv : Nat) {BD : Option Addr} (dd : Nat) {sep : ByteArray} {r : Hn} (hi : Inn w5 n2 BK BV BD) (fs : Fit sep) (h4 : n2.keys.length ≤ 9000) (hd : n2.kids.length ≤ 9000) (W : World) (tW : Turn No w5 W) :
    Calls Tryd.prog 73 #[.agg (ndc n2 BK dk BV dv BD dd), .string sep, .agg #[.int .i64 r.slot, .int .u64 r.gen]] W fun e W' => ∃ m2 EK ek EV ev ED ed, e = .returned (.agg (ndc m2 EK ek EV ev ED ed)) ∧ AddR n2 sep r m2 ∧ Inn W' m2 EK EV ED ∧ Turn No W W' := by
  have hi2 := hi.no tW
  refine (add_c n2 BK BV BD dk dv dd sep r W hi2.i fs).mono ?_
  rintro e W' ⟨m, EK, ek, EV, ev, ED, ed, rfl, hm, hg, ht⟩
  refine ⟨m, EK, ek, EV, ev, ED, ed, rfl, hm, ?_, ht⟩
  have lv := hi2.i.lv
  by_cases hO : AddO n2 sep
  · have e2 := hm.1 hO
    subst e2
    refine hg.inn (fun k hk => ?_) hi2.i.fv hi2.i.fh ?_ lv ?_
    · rcases mem_ins.1 hk with h1 | h1
      · rw [h1]; exact fs
      · exact hi2.i.fk k h1
    · show (ins n2.keys (plc n2.keys sep) sep).length ≤ 10000
      rw [ins_length _ (plc_le _ _)]
      omega
    · show (ins n2.kids (plc n2.keys sep + 1) r).length ≤ 10000
      have := (hO.1.2.2.2.2 hO.2.1).2
      rw [ins_length _ (by have := plc_le n2.keys sep; omega)]
      omega
  · have e2 := hm.2 hO
    subst e2
    exact hg.inn hi2.i.fk hi2.i.fv hi2.i.fh hi2.i.lk lv hi2.i.ld
theorem keep_rec {w w5 : World} {I : Ids} {N : Nat → Option Ent} {key : ByteArray} {u : Lvl} {U : List Lvl} {L A : Lvl} {h h2 : Hn} {told t l rr n2 : Nd} {B : Lvl} {D : List Lvl} {root : Hn} {G : List Nat} {fr : Nat → Bool} {x s qq Y b o c : Nat} {e : Ent} {Q : List Nat} {q q2 : Nat} {sep : ByteArray} (IH : KeepC U)
    (hm5 : Tm w5 I (updE (updE N x (some ⟨e.gen, e.blk, l⟩)) s (some ⟨Y, qq, rr⟩)) ((⟨(s : Int), (Y : Int)⟩, rr) :: (h, l) :: rest (u :: U) A B D) root G (fun y => fr y && y != s)) (hk : Kst key (u :: U) ((h2, n2) :: L) A h t B D root) (hm : Tm w I N ((h, told) :: rest (u :: U) A B D) root G fr) (he : N x = some e) (hh : h = ⟨(x : Int), (e.gen : Int)⟩) (hs : fr s = true) (hY : G.getD s 0 = Y) (hQ : Q ++ [q2] = ptrs N (L.reverse ++ [(h2, n2)]))
    (hp : PRow w b o ((Q ++ [q2]) ++ [q])) (tn5 : Tn I w w5) (hsp : Sp5 t l rr sep ⟨(s : Int), (Y : Int)⟩) (h5 : t.keys.length = 5) (hl2 : l.keys.length = 2) (hr2 : 2 ≤ rr.keys.length ∧ rr.keys.length ≤ 3) (hc : (Q ++ [q2]).length + 1 ≤ c) (hql : (Q ++ [q2]).length < 10000) (hfree : 1 + nds ((h2, n2) :: L) ≤ cnt fr G.length) (hsl : s < G.length)
    (W : World) (tW : Turn No w5 W) (m2 : Nd) (hadd : AddR n2 sep ⟨(s : Int), (Y : Int)⟩ m2) {EK EV ED : Option Addr} (ek ev ed : Nat) (hi : Inn W m2 EK EV ED) :
    Calls Tryd.prog 50 #[.pointer (some ⟨I.tb, 0, none⟩), .slice (some ⟨b, o, none⟩) (Q.length + 1) c, .agg (ndc m2 EK ek EV ev ED ed)] W (KRes I ((h, told) :: rest (u :: U) A B D) G fr (vt (u :: U) A h t B D) (if D = [] then 1 else 0) w) := by
  subst hY
  obtain ⟨A2, B2, eu, hk2, hlen, hrl⟩ := hk.up hsp h5 hl2 hr2 hadd
  subst eu
  have hp1 := up_perm U A A2 h h2 ⟨(s : Int), ((G.getD s 0 : Nat) : Int)⟩ l rr n2 B B2 D
  have c1 := cnt_out fr s hs G.length hsl
  rw [List.length_append, List.length_singleton] at hc hql
  have hn2 : (h2, n2) ∈ rest ((A2 ++ (h2, n2) :: B2) :: U) A B D := by unfold rest; simp
  have hL : ∀ z ∈ L.reverse ++ [(h2, n2)], z ∈ rest ((A2 ++ (h2, n2) :: B2) :: U) A B D := fun z hz => by
    have hz2 : z ∈ (h2, n2) :: L := by
      rcases List.mem_append.1 hz with h1 | h1
      · exact List.mem_cons_of_mem _ (List.mem_reverse.1 h1)
      · rw [List.mem_singleton.1 h1]; exact List.mem_cons_self ..
    obtain ⟨v, hv, hzv⟩ := pth_mem hk.pt z hz2
    unfold rest
    exact List.mem_append.2 (.inl (List.mem_flatten.2 ⟨v, hv, hzv⟩))
  refine (IH.k W I _ n2 G _ EK ek EV ev ED ed b o Q q2 c hk2 ((hm5.no tW).perm hp1) hi ((hm.prow tn5 hp.pre).no tW) (by rw [ptrs_split hm he hh hs hL]; exact hQ) (by omega) (by omega) (fun hm5' => ?_)).mono ?_
  · have : n2.keys.length = 4 := by omega
    have hf : nds ((h2, n2) :: L) = 1 + nds L := by
      show (if n2.keys.length < 4 then 0 else 1 + nds L) = _
      rw [if_neg (by omega)]
    omega
  · rintro ee w' ⟨rfl, N', T', root', fr', k1, k2, k3, k4, k5, k6⟩
    refine ⟨rfl, N', T', root', fr', k1, k2, tn5.trans ((Tn.no tW).trans k3), ?_, ?_, fun y hy => k6 y (by simp only [hy]; rfl)⟩
    · have e0 : (if (A ++ (h, l) :: (⟨(s : Int), ((G.getD s 0 : Nat) : Int)⟩, rr) :: B) :: D = [] then 1 else 0) = 0 := if_neg (fun e => by cases e)
      rw [e0] at k4
      exact hrl.trans k4
    · rw [k5, ← hp1.length_eq]
      simp only [List.length_cons]
      omega
set_option maxRecDepth 100000 in
set_option maxHeartbeats 8000000 in
theorem keep_any (U : List Lvl) (IH : ∀ u U', U = u :: U' → KeepC U') : KeepC U := by
  refine ⟨?_⟩
  intro key L A h t B D root w I N told G fr AK ck AV cv AD cd b o Q q c hk hm hi hp hQ hc hql hfree
  obtain ⟨x, e, he, hh, htold⟩ := hm.s.head
  obtain ⟨dd, hdd⟩ : ∃ d, (if D = [] then 1 else 0) = d := ⟨_, rfl⟩
  rw [hdd]
  have HDD := Lib.hid hdd
  clear hdd
  have hqb : q = e.blk := by
    have h1 : (Q ++ [q]).getLast? = (ptrs N (L.reverse ++ [(h, told)])).getLast? := by rw [hQ]
    unfold ptrs at h1
    rw [List.map_append] at h1
    simp at h1
    rw [h1]
    obtain ⟨d, y, k1, k2, k3⟩ := hm.s.blk (List.mem_cons_self ..)
    rw [k3]
    injection k2 with k2 _
    rw [hh] at k2
    injection k2 with k2 _
    have : x = y := by omega
    subst this
    rw [he] at k1
    injection k1 with k1
    rw [k1]
  -- the box
  have tj : Turn No w (w.alloc (.cells (ndc t AK ck AV cv AD cd) 79)) := (Turn.refl _ _).alloc _
  have ha0 := At.new w (.cells (ndc t AK ck AV cv AD cd) 79)
  obtain ⟨b0, hb0⟩ : ∃ x, w.heap.size = x := ⟨_, rfl⟩
  rw [hb0] at ha0
  obtain ⟨w1, hw1⟩ : ∃ w1, w.alloc (.cells (ndc t AK ck AV cv AD cd) 79) = w1 := ⟨_, rfl⟩
  rw [hw1] at tj ha0
  have HW1 := Lib.hid (And.intro hw1 hb0)
  clear hw1
  have hc1 : (Q.length : Int) ≤ (c : Int) := by omega
  have hc2 : (0 : Int) ≤ (Q.length : Int) := by omega
  have hc0 : ¬ c = 0 := by omega
  have hw : IntKind.i64.wrap (Q.length : Int) = (Q.length : Int) := IntWalk.i64_in _ ⟨by omega, by omega⟩
  have HALL := Lib.hid (And.intro hk (And.intro hm (And.intro hi (And.intro hp (And.intro hQ (And.intro hfree (And.intro he (And.intro hh (And.intro hqb (And.intro tj (And.intro ha0 hb0)))))))))))
  have HQL := Lib.hid (And.intro hc hql)
  have CL := Lib.hid fun W (tW : Turn No w1 W) => last_c (c := c) hp hql W (tj.trans tW)
  have CF := Lib.hid fun W (tW : Turn No w1 W) => full_c2 (ck := ck) (cv := cv) (cd := cd) hi W (tj.trans tW)
  have l0 := ha0.lt
  have x0 : w1.cell? ⟨b0, 0, none⟩ = some (.bool t.leaf) := by rw [ha0.cell]; rfl
  have HX0 : Hid (∀ W, Turn No w1 W → W.cell? ⟨b0, 0, none⟩ = some (.bool t.leaf)) := Lib.hid fun W tW => by rw [(ha0.no tW).cell]; rfl
  clear hk hm hi hp hQ hfree he hh hqb tj ha0 hb0 htold hc hql
  go_enter Tryd.func50, Tryd.ntmps50
  go_upto_region 9 with fail
  rw [HW1.out.1, HW1.out.2]
  clear HW1
  go_region_held3 (fun W => W.cell? ⟨b0, 0, none⟩ = some (.bool t.leaf)) (first | (with_reducible exact x0) | (exact HX0.out _ (by first | exact (Turn.refl No _).drew | assumption))) (first | (go_at_call 46; (with_reducible refine (CL.out _ (Turn.refl No _).drew).mono ?_); rintro ee w2 ⟨rfl, ht2⟩; have ht2 : Turn No w1 w2 := (Turn.refl No w1).drew.trans ht2))
  have HT2 := Lib.hid ht2
  have hr0 := box_range (HALL.out.2.2.2.2.2.2.2.2.2.2.1.no ht2)
  have lb0 := (HALL.out.2.2.2.2.2.2.2.2.2.2.1.no ht2).lt
  clear ht2 x0 HX0 l0
  cases h4 : decide (4 < t.keys.length) with
  | false =>
    rw [h4] at CF
    go_upto_region 4 with (first | (refine wpList_load_mid rfl 79 _ rfl b0 0 rfl (ndc t AK ck AV cv AD cd).toList _ hr0 Tryd.underlying79 rfl inf79 ?_) | (go_at_call 70; (with_reducible refine (CF.out _ HT2.out).mono ?_); rintro ee w3 ⟨rfl, ht3⟩; have HT3 := Lib.hid (HT2.out.trans ht3); have hr0 := box_range (HALL.out.2.2.2.2.2.2.2.2.2.2.1.no HT3.out); obtain ⟨w4, hst, HW4⟩ := keep_store HALL.out.2.1 HALL.out.2.2.1 HALL.out.2.2.2.2.2.2.1 HALL.out.2.2.2.2.2.2.2.1 HALL.out.2.2.2.2.2.2.2.2.1 ck cv cd (HALL.out.2.2.2.2.2.2.2.2.2.1.trans HT3.out); have HST := Lib.hid hst; have HS4 := Lib.hid HW4; clear ht3 hst HW4) | (refine wpList_store_mid rfl 79 (.tmp 22) (.tmp 21) rfl q 1 (ndc t AK ck AV cv AD cd) rfl rfl HST.out.1 HST.out.2.1 HST.out.2.2 ?_; rw [HS4.out.1]))
    go_end0
    exact (keep_done HALL.out.1 HS4.out.2.1 (fun h => by rw [decide_eq_true h] at h4; cases h4) HS4.out.2.2)
  | true =>
    have h4' : 4 < t.keys.length := of_decide_eq_true h4
    have h5 : t.keys.length = 5 := by have := HALL.out.1.st; omega
    obtain ⟨s, hsl, hs, hlow⟩ := cnt_pos fr G.length (by have := HALL.out.2.2.2.2.2.1 h5; omega)
    have CS := Lib.hid (keep_split HALL.out.1 HALL.out.2.1 HALL.out.2.2.1 HALL.out.2.2.2.2.2.2.1 HALL.out.2.2.2.2.2.2.2.1 HALL.out.2.2.2.2.2.2.2.2.1 h5 hs hlow ck cv cd)
    have H5 := Lib.hid (And.intro h5 (And.intro hs (And.intro hlow hsl)))
    clear h4' h5 hs hlow hsl
    rw [h4] at CF
    go_upto_region 10 with (first | (refine wpList_load_mid rfl 79 _ rfl b0 0 rfl (ndc t AK ck AV cv AD cd).toList _ hr0 Tryd.underlying79 rfl inf79 ?_) | (go_at_call 70; (with_reducible refine (CF.out _ HT2.out).mono ?_); rintro ee w3 ⟨rfl, ht3⟩; have HT3 := Lib.hid (HT2.out.trans ht3); have hr0 := box_range (HALL.out.2.2.2.2.2.2.2.2.2.2.1.no HT3.out); clear ht3))
    refine (CS.out w3 (HALL.out.2.2.2.2.2.2.2.2.2.1.trans HT3.out)).mono ?_
    rintro ee w4 ⟨sep, l, rr, qq, rfl, fs, hsp, hl2, hr2, hm4, tn4⟩
    obtain ⟨Y, hY⟩ : ∃ Y, G.getD s 0 = Y := ⟨_, rfl⟩
    rw [hY] at hsp hm4 ⊢
    have tj5 := (Turn.refl No w4).alloc (.cells #[.int .i64 (s : Int), .int .u64 (Y : Int)] 77)
    have ha9 := At.new w4 (.cells #[.int .i64 (s : Int), .int .u64 (Y : Int)] 77)
    obtain ⟨b9, hb9⟩ : ∃ x, w4.heap.size = x := ⟨_, rfl⟩
    rw [hb9] at ha9
    obtain ⟨w5, hw5⟩ : ∃ w5, w4.alloc (.cells #[.int .i64 (s : Int), .int .u64 (Y : Int)] 77) = w5 := ⟨_, rfl⟩
    rw [hw5] at tj5 ha9
    have HW5 := Lib.hid (And.intro hw5 hb9)
    have HS := Lib.hid (And.intro fs (And.intro hsp (And.intro hl2 (And.intro hr2 (And.intro (hm4.no tj5) (And.intro ((Tn.no (HALL.out.2.2.2.2.2.2.2.2.2.1.trans HT3.out)).trans (tn4.trans (Tn.no tj5))) (And.intro ha9 hY)))))))
    clear fs hsp hl2 hr2 hm4 tn4 hY tj5 ha9 hb9 hw5 CS CF CL hr0
    by_cases hQ0 : Q.length = 0
    · have hQ1 : Q = [] := List.eq_nil_of_length_eq_zero hQ0
      subst hQ1
      clear hQ0
      obtain ⟨hU, hL⟩ := keep_top HALL.out.1 HALL.out.2.2.2.2.1
      subst hU hL
      obtain ⟨s2, hsl2, hs2, hlow2⟩ := keep_free2 (G := G) (fr := fr) H5.out.2.1 H5.out.2.2.2 (HALL.out.2.2.2.2.2.1 H5.out.1)
      have CG := Lib.hid fun W (tW : Turn No w5 W) => keep_grow (HS.out.2.2.2.2.1) HS.out.1 hs2 hlow2 W tW (r := ⟨(s : Int), (Y : Int)⟩)
      have HS2 := Lib.hid (And.intro hs2 (And.intro hsl2 hlow2))
      obtain ⟨y0, y1⟩ := at2 HS.out.2.2.2.2.2.2.1
      have l9 := HS.out.2.2.2.2.2.2.1.lt
      clear hs2 hsl2 hlow2
      go_wp2_with fail
      rw [HW5.out.1]
      refine (CG.out w5 (Turn.refl _ _)).mono ?_
      rintro ee w6 ⟨rfl, N6, hm6, tn6⟩
      have H6 := Lib.hid (And.intro hm6 tn6)
      clear hm6 tn6
      go_wp2_with fail
      go_end0
      have k := keep_root (told := told) HALL.out.1 HS.out.2.1 H5.out.1 HS.out.2.2.1 HS.out.2.2.2.1 H6.out.1 H5.out.2.1 H5.out.2.2.2 HS2.out.1 HS2.out.2.1 (HS.out.2.2.2.2.2.1.trans H6.out.2)
      rw [HDD.out] at k
      exact k
    · obtain ⟨Q', q2, hQ2⟩ : ∃ Q' q2, Q = Q' ++ [q2] := by
        rcases List.eq_nil_or_concat Q with e2 | ⟨Q', q2, e2⟩
        · rw [e2] at hQ0; exact absurd rfl hQ0
        · exact ⟨Q', q2, by rw [e2]; simp⟩
      subst hQ2
      obtain ⟨u, U', h2, n2, L', hU, hL, hq2⟩ := keep_next HALL.out.1 HALL.out.2.2.2.2.1
      subst hU hL
      have hIH := Lib.hid (IH u U' rfl)
      obtain ⟨g2, BK, dk, BV, dv, BD, dd2, hcell, hin2⟩ := keep_at HS.out.2.2.2.2.1 HALL.out.1 HALL.out.2.1 HALL.out.2.2.2.2.2.2.1 HALL.out.2.2.2.2.2.2.2.1 H5.out.2.1 HS.out.2.2.2.2.2.2.2 hq2
      have fsn : n2.keys.length ≤ 9000 ∧ n2.kids.length ≤ 9000 := keep_small HALL.out.1
      have CLs := Lib.hid fun W (tW : Turn No w5 W) => last_c (c := c) ((HALL.out.2.1.prow HS.out.2.2.2.2.2.1 HALL.out.2.2.2.1.pre)) (by have := HQL.out.2; rw [List.length_append] at this; omega) W tW
      have CAd : Hid (∀ W, Turn No w5 W → Calls Tryd.prog 73 #[.agg #[.bool n2.leaf, .slice BK n2.keys.length dk, .slice BV n2.vals.length dv, .slice BD n2.kids.length dd2, .string n2.high, .bool n2.bnd, .int .i64 n2.nx.slot, .int .u64 n2.nx.gen], .string sep, .agg #[.int .i64 (s : Int), .int .u64 (Y : Int)]] W fun e W' => ∃ m2 EK ek EV ev ED ed, e = .returned (.agg (ndc m2 EK ek EV ev ED ed)) ∧ AddR n2 sep ⟨(s : Int), (Y : Int)⟩ m2 ∧ Inn W' m2 EK EV ED ∧ Turn No W W') := Lib.hid fun W (tW : Turn No w5 W) => keep_add (r := ⟨(s : Int), (Y : Int)⟩) dk dv dd2 hin2 HS.out.1 fsn.1 fsn.2 W tW
      have CKp : Hid (∀ W, Turn No w5 W → ∀ m2, AddR n2 sep ⟨(s : Int), (Y : Int)⟩ m2 → ∀ EK ek EV ev ED ed, Inn W m2 EK EV ED → Calls Tryd.prog 50 #[.pointer (some ⟨I.tb, 0, none⟩), .slice (some ⟨b, o, none⟩) (Q'.length + 1) c, .agg (ndc m2 EK ek EV ev ED ed)] W (KRes I ((h, told) :: rest (u :: U') A B D) G fr (vt (u :: U') A h t B D) (if D = [] then 1 else 0) w)) := Lib.hid fun W tW m2 ha EK ek EV ev ED ed hi2 => keep_rec hIH.out HS.out.2.2.2.2.1 HALL.out.1 HALL.out.2.1 HALL.out.2.2.2.2.2.2.1 HALL.out.2.2.2.2.2.2.2.1 H5.out.2.1 HS.out.2.2.2.2.2.2.2 hq2 HALL.out.2.2.2.1 HS.out.2.2.2.2.2.1 HS.out.2.1 H5.out.1 HS.out.2.2.1 HS.out.2.2.2.1 HQL.out.1 HQL.out.2 (HALL.out.2.2.2.2.2.1 H5.out.1) H5.out.2.2.2 W tW m2 ha ek ev ed hi2
      rw [HDD.out] at CKp
      have CZ := Lib.hid fun W (tW : Turn No w5 W) => (node_cells (hcell.no tW))
      have CB := Lib.hid fun W (tW : Turn No w5 W) => at2 (HS.out.2.2.2.2.2.2.1.no tW)
      have l9 := HS.out.2.2.2.2.2.2.1.lt
      have lq2 := hcell.lt
      clear hcell hin2 fsn hq2 hQ0
      go_upto_region 10 with fail
      rw [HW5.out.1, HW5.out.2]
      clear HW5
      obtain ⟨z1, z2, z3, z4, z5, z6, z7, z8⟩ := CZ.out w5 (Turn.refl _ _)
      obtain ⟨y0, y1⟩ := CB.out w5 (Turn.refl _ _)
      go_region_law (first | (go_simp; go_at_call 46; (first | (with_reducible refine (CLs.out _ (Turn.refl No _).drew).mono ?_) | (with_reducible refine (CLs.out _ (Turn.refl No _)).mono ?_)); rintro ee w6 ⟨rfl, ht6⟩; have ht6 : Turn No w5 w6 := (Turn.refl No w5).drew.trans ht6; have H6 := Lib.hid ht6; clear z1 z2 z3 z4 z5 z6 z7 z8 y0 y1; obtain ⟨z1, z2, z3, z4, z5, z6, z7, z8⟩ := CZ.out w6 H6.out; obtain ⟨y0, y1⟩ := CB.out w6 H6.out; clear ht6) | (go_simp; go_at_call 73; (with_reducible refine (CAd.out _ H6.out).mono ?_); rintro ee w7 ⟨m2, EK, ek, EV, ev, ED, ed, rfl, hr7, hi7, ht7⟩; have H7 := Lib.hid (And.intro hr7 (And.intro hi7 (H6.out.trans ht7))); clear hr7 hi7 ht7) | (go_simp; go_at_call 50; (with_reducible refine (CKp.out _ H7.out.2.2 m2 H7.out.1 EK ek EV ev ED ed H7.out.2.1).mono ?_); rintro ee w8 ⟨rfl, hr8⟩; have H8 := Lib.hid hr8; clear hr8))
      all_goals
        go_end0
        exact ⟨rfl, H8.out⟩
/-- The tree's keep. -/
theorem keep_c : ∀ U : List Lvl, KeepC U
  | [] => keep_any [] fun u U' e => by cases e
  | u :: U => keep_any (u :: U) fun u' U' e => by
    injection e with _ e
    rw [← e]
    exact keep_c U
end Go.Proofs.YtfplnobnmgbgoaaDoor
namespace Go.Proofs.YtfplnobnmgbgoaaDoor
open Go.RowKit Go.Lib
set_option linter.unusedVariables false
set_option maxRecDepth 20000
set_option linter.unusedSimpArgs false

open Go.Shelf
attribute [local go_sem] Oper.semAt_some
/-- WHAT HAS COME WHEN k ROUNDS ARE OVER. -/
def upto {α : Type} (f : Nat → α) (k : Nat) : List α := (List.range k).map f
theorem upto_succ {α : Type} (f : Nat → α) (k : Nat) : upto f (k + 1) = upto f k ++ [f k] := by simp [upto, List.range_succ]
theorem upto_length {α : Type} (f : Nat → α) (k : Nat) : (upto f k).length = k := by simp [upto]
/-- The place that is told in a round, from the last one down. -/
def bwd (len : Nat) (hl : 0 < len) (j : Nat) : Fin len := ⟨len - 1 - j, by omega⟩
set_option maxRecDepth 100000 in
set_option maxHeartbeats 4000000 in
theorem back1_in (F : Fence) (n : Nat) (h8 : F.fn 88) (hro : F.round = none) (hn : 1 ≤ n) (l Bs n₀ b off len cap : Nat) (hl0 : 0 < len) (hreach : len < 10000) (qs : Nat → Nat) (hb : b < n₀) (J Jx : List (Fin len) → World → Prop)
    (hY : ∀ pre x W, J pre W → pre.length < len → YieldAt F (n - 1) Tryd.prog l #[.int .i64 (x.1 : Int), .pointer (some ⟨qs x.1, 1, none⟩)] W fun e W' =>
      (e = .returned (.bool true) ∧ J (pre ++ [x]) W' ∧ Below n₀ W W') ∨ (e = .returned (.bool false) ∧ Jx (pre ++ [x]) W'))
    (W : World) (hBs : W.cell? ⟨Bs, 0, none⟩ = some (.slice (some ⟨b, off, none⟩) len cap)) (hBn : Bs < n₀) (hc : ∀ j, j < len → W.cell? ⟨b, off + j, none⟩ = some (.pointer (some ⟨qs j, 1, none⟩))) (h0 : J [] W) :
    CallsIn F n Tryd.prog 88 #[.func (.yield l) #[] #[], .pointer (some ⟨Bs, 0, none⟩)] W fun e W' => (∃ v, e = .returned v) ∧
      ((∃ ys, ys = upto (bwd len hl0) len ∧ J ys W') ∨ (∃ pre, (∃ k, k ≤ len ∧ pre = upto (bwd len hl0) k) ∧ Jx pre W')) := by
  refine callsIn_of_wp Tryd.func88 rfl h8 ?_ hro
  simp only [Tryd.ntmps88, List.size_toArray, List.length_cons, List.length_nil, Nat.reduceAdd, Nat.reduceSub, Array.replicate_succ, Array.replicate_zero, List.push_toArray, List.append_toArray, List.nil_append, List.cons_append]
  have hw0 : IntKind.i64.wrap ((len : Int) - 1) = (len : Int) - 1 := IntWalk.i64_in _ ⟨by omega, by omega⟩
  gi_wp2
  gi_loopw [3] (fun i wr => ∃ k : Nat, k ≤ len ∧ i = .int .i64 ((len : Int) - 1 - (k : Int)) ∧ J (upto (bwd len hl0) k) wr ∧ Below n₀ W wr)
    (fun i _ => (RowKit.intOf i + 1).toNat)
  case atStart => exact ⟨0, Nat.zero_le _, by simp, h0, Below.refl _ _⟩
  case round =>
    obtain ⟨k, hk, rfl, hJs, hnx⟩ := hrel
    by_cases hlt : k < len
    · obtain ⟨m, hm⟩ : ∃ m : Nat, len - 1 - k = m := ⟨_, rfl⟩
      have hmi : (len : Int) - 1 - (k : Int) = (m : Int) := by omega
      have hml : m < len := by omega
      have hbw : bwd len hl0 k = ⟨m, hml⟩ := Fin.ext hm
      have hcx : wr.cell? ⟨b, off + m, none⟩ = some (.pointer (some ⟨qs m, 1, none⟩)) := (hnx.cell (p := ⟨b, off + m, none⟩) hb).trans (hc m hml)
      have hbs : wr.cell? ⟨Bs, 0, none⟩ = some (.slice (some ⟨b, off, none⟩) len cap) := (hnx.cell (p := ⟨Bs, 0, none⟩) hBn).trans hBs
      obtain ⟨fn, tmps, assign, body, hy, hR⟩ := hY _ ⟨m, hml⟩ wr hJs (by rw [upto_length]; exact hlt)
      dsimp only at hy
      rw [hmi]
      have b1 : (0 : Int) ≤ (m : Int) := by omega
      have b2 : (m : Int) < (len : Int) := by omega
      have b3 : (m : Int) ≥ 0 := b1
      have hw : IntKind.i64.wrap ((m : Int) - 1) = (m : Int) - 1 := IntWalk.i64_in _ ⟨by omega, by omega⟩
      gi_wp2
      refine hR.mono ?_
      rintro e W3 (⟨rfl, hJ3, hk3⟩ | ⟨rfl, hJx3⟩)
      · gi_wp2
        go_roundw
        case rel => exact ⟨k + 1, by omega, by first | (rw [hw]; congr 1; omega) | (congr 1; omega), by rw [upto_succ, hbw]; exact hJ3, hnx.trans hk3⟩
        case measure => simp [RowKit.intOf, hw]
      · gi_wp2
        refine bodyPost_ret (results_none rfl _ _ _) rfl ?_
        exact ⟨⟨_, rfl⟩, .inr ⟨_, ⟨k + 1, by omega, by rw [upto_succ, hbw]⟩, hJx3⟩⟩
    · obtain rfl : k = len := by omega
      have hmi : (k : Int) - 1 - (k : Int) = -1 := by omega
      rw [hmi]
      gi_wp2
      go_end0
      exact ⟨⟨_, rfl⟩, .inl ⟨_, rfl, hJs⟩⟩
set_option maxHeartbeats 1000000 in
theorem back_in (F : Fence) (n : Nat) (h6 : F.fn 69) (hro : F.round = none) (a : Option Addr) (len cap : Nat) (w : World) :
    CallsIn F n Tryd.prog 69 #[.slice a len cap] w fun e w' => e = .returned (.func (.func 88) #[] #[.pointer (some ⟨w.heap.size, 0, none⟩)]) ∧ w' = w.alloc (.cells #[.slice a len cap] 101) := by
  refine callsIn_of_wp Tryd.func69 rfl h6 ?_ hro
  simp only [Tryd.ntmps69, List.size_toArray, List.length_cons, List.length_nil, Nat.reduceAdd, Nat.reduceSub, Array.replicate_succ, Array.replicate_zero, List.push_toArray, List.append_toArray, List.nil_append, List.cons_append]
  gi_wp2
  go_ret
  exact ⟨rfl, rfl⟩
theorem back_stops (F : Fence) (n : Nat) (h8 : F.fn 88) (hro : F.round = none) (hn : 1 ≤ n) (Bs n₀ b off len cap : Nat) (hl0 : 0 < len) (hreach : len < 10000) (qs : Nat → Nat) (w : World) (hBs : Bs < n₀) (hn₀ : n₀ ≤ w.heap.size) (hb : b < n₀)
    (hc : w.cell? ⟨Bs, 0, none⟩ = some (.slice (some ⟨b, off, none⟩) len cap)) (hI : ∀ j, j < len → w.cell? ⟨b, off + j, none⟩ = some (.pointer (some ⟨qs j, 1, none⟩))) :
    SeqStopsK F n Tryd.prog 88 #[.pointer (some ⟨Bs, 0, none⟩)] (fun x : Fin len => #[Value.int .i64 (x.1 : Int), Value.pointer (some ⟨qs x.1, 1, none⟩)]) (Below n₀) (fun ys => ys = upto (bwd len hl0) len)
      (fun pre => ∃ k, k ≤ len ∧ pre = upto (bwd len hl0) k) len w := fun l J Jx W hW _ _ hY h0 => by
  have hc' := (hW.cell (p := ⟨Bs, 0, none⟩) (Nat.lt_of_lt_of_le hBs hn₀)).trans hc
  exact back1_in F n h8 hro hn l Bs n₀ b off len cap hl0 hreach qs hb J Jx hY W hc' hBs (fun j hj => (hW.cell (p := ⟨b, off + j, none⟩) (Nat.lt_of_lt_of_le hb hn₀)).trans (hI j hj)) h0
end Go.Proofs.YtfplnobnmgbgoaaDoor
namespace Go.Proofs.YtfplnobnmgbgoaaDoor
open Go.RowKit Go.Lib
set_option linter.unusedVariables false
set_option maxRecDepth 20000
set_option linter.unusedSimpArgs false

open Go.Shelf
attribute [local go_sem] Oper.semAt_some
/-- How many nodes, from the last one up, are full; one more if all are. -/
def ndk : List Nat → Nat
  | [] => 1
  | k :: K => if k < 4 then 0 else 1 + ndk K
theorem nds_ndk : ∀ L : Lvl, nds L = ndk (L.map fun x => x.2.keys.length)
  | [] => rfl
  | (h, n) :: L => by
    show (if n.keys.length < 4 then 0 else 1 + nds L) = if n.keys.length < 4 then 0 else 1 + ndk (L.map fun x => x.2.keys.length)
    rw [nds_ndk L]
theorem ndk_all : ∀ {K : List Nat}, (∀ k ∈ K, 4 ≤ k) → ndk K = K.length + 1
  | [], _ => rfl
  | k :: K, h => by
    show (if k < 4 then 0 else 1 + ndk K) = _
    rw [if_neg (by have := h k (List.mem_cons_self ..); omega), ndk_all fun x hx => h x (List.mem_cons_of_mem _ hx), List.length_cons]
    omega
theorem ndk_first : ∀ {K R : List Nat} {k : Nat}, (∀ x ∈ K, 4 ≤ x) → k < 4 → ndk (K ++ k :: R) = K.length
  | [], R, k, _, hk => by
    show (if k < 4 then 0 else 1 + ndk R) = 0
    rw [if_pos hk]
  | x :: K, R, k, h, hk => by
    show (if x < 4 then 0 else 1 + ndk (K ++ k :: R)) = _
    rw [if_neg (by have := h x (List.mem_cons_self ..); omega), ndk_first (fun y hy => h y (List.mem_cons_of_mem _ hy)) hk, List.length_cons]
    omega
set_option maxRecDepth 100000 in
set_option maxHeartbeats 4000000 in
/-- needs, within a fence: len + 1, or how many stand behind the last one that is not full. -/
theorem needs_in (F : Fence) (n : Nat) (h4 : F.fn 49) (h6 : F.fn 69) (h8 : F.fn 88) (hro : F.round = none) (hn : 3 ≤ n) (b off len cap : Nat) (hl0 : 0 < len) (hreach : len < 10000) (qs ks : Nat → Nat) (w : World)
    (hI : ∀ j, j < len → b < w.heap.size ∧ w.cell? ⟨b, off + j, none⟩ = some (.pointer (some ⟨qs j, 1, none⟩))) (hK : ∀ j, j < len → qs j < w.heap.size ∧ ∃ A c, w.cell? ⟨qs j, 2, none⟩ = some (.slice A (ks j) c)) :
    CallsIn F n Tryd.prog 49 #[.slice (some ⟨b, off, none⟩) len cap] w fun e W' =>
      ((e = .returned (.int .i64 ((len : Int) + 1)) ∧ ∀ j, j < len → 4 ≤ ks j) ∨ (∃ k : Nat, k < len ∧ e = .returned (.int .i64 ((len - 1 - k : Nat) : Int)) ∧ ks k < 4 ∧ ∀ j, k < j → j < len → 4 ≤ ks j)) ∧ Below w.heap.size w W' := by
  have h1 : 1 ≤ n := by omega
  refine callsIn_of_wp_marks Tryd.func49 rfl h4 ?_ hro
  simp only [Tryd.ntmps49, List.size_toArray, List.length_cons, List.length_nil, Nat.reduceAdd, Nat.reduceSub, Array.replicate_succ, Array.replicate_zero, List.push_toArray, List.append_toArray, List.nil_append, List.cons_append]
  gi_wp2_with (gi_at_call 69; refine (back_in F (n - 1) h6 hro _ _ _ _).mono ?_; rintro e w' ⟨rfl, rfl⟩)
  have hL1 : IntKind.i64.wrap ((len : Int) + 1) = (len : Int) + 1 := IntWalk.i64_in _ ⟨by omega, by omega⟩
  have bL := Boxed.new w 101 (.slice (some ⟨b, off, none⟩) len cap)
  have bR := Boxed.new (w.alloc (.cells #[.slice (some ⟨b, off, none⟩) len cap] 101)) 3 (.int .i64 0)
  have bN := Boxed.new ((w.alloc (.cells #[.slice (some ⟨b, off, none⟩) len cap] 101)).alloc (.cells #[.int .i64 0] 3)) 101 (.slice (some ⟨b, off, none⟩) len cap)
  have e1 : (w.alloc (.cells #[.slice (some ⟨b, off, none⟩) len cap] 101)).heap.size = w.heap.size + 1 := by simp
  have e2 : ((w.alloc (.cells #[.slice (some ⟨b, off, none⟩) len cap] 101)).alloc (.cells #[.int .i64 0] 3)).heap.size = w.heap.size + 1 + 1 := by simp
  rw [e1] at bR
  rw [e2] at bN
  clear e1 e2
  have hB0 : Below w.heap.size w (((w.alloc (.cells #[.slice (some ⟨b, off, none⟩) len cap] 101)).alloc (.cells #[.int .i64 0] 3)).alloc (.cells #[.slice (some ⟨b, off, none⟩) len cap] 101)) := (((Below.refl _ w).alloc (Nat.le_refl _) _).alloc (by simp) _).alloc (by simp; omega) _
  refine wpIn_rangeFunc_ownG hro h1 (gf := 88) (lb := #[.pointer (some ⟨w.heap.size + 1 + 1, 0, none⟩)]) rfl h8 (enters_of Tryd.func88 (by kernel_rfl) rfl)
    (back_stops F (n - 1) h8 hro (by omega) (w.heap.size + 1 + 1) (w.heap.size + 1 + 1 + 1) b off len cap hl0 hreach qs _ (by omega) (by first | (simp; done) | (simp; omega)) (by have := (hI 0 hl0).1; omega) bN.cell (fun j hj => (hB0.cell (p := ⟨b, off + j, none⟩) (hI j hj).1).trans (hI j hj).2)) belowK_t (belowK_b (by first | (simp; done) | (simp; omega))) (Below.refl _ _) (fun _ => rfl)
    (fun pre W => ((∀ p ∈ pre, 4 ≤ ks p.1) ∧ W.cell? ⟨w.heap.size, 0, none⟩ = some (.slice (some ⟨b, off, none⟩) len cap) ∧ W.cell? ⟨w.heap.size + 1, 0, none⟩ = some (.int .i64 0) ∧ W.frozen? ⟨w.heap.size + 1, 0, none⟩ = false) ∧ Below w.heap.size w W)
    (fun c pre W => (c = .ret ∧ ∃ ini last, pre = ini ++ [last] ∧ (∀ p ∈ ini, 4 ≤ ks p.1) ∧ ks last.1 < 4 ∧ W.cell? ⟨w.heap.size + 1, 0, none⟩ = some (.int .i64 ((len - 1 - last.1 : Nat) : Int))) ∧ Below w.heap.size w W)
    (OwnFrom.and (_root_.Go.Own.from (fun s A B row hs hg hr => ⟨hs.1, cell_kept hs.2.1 hg hr, cell_kept hs.2.2.1 hg hr, (frozen_kept hs.2.2.1 hg hr).trans hs.2.2.2⟩) _) (ownFrom_below (Nat.le_refl _) (by simp; omega)))
    (fun c => OwnFrom.and (_root_.Go.Own.from (fun s A B row hs hg hr => by obtain ⟨hc, ini, last, e1, e2, e3, e4⟩ := hs; exact ⟨hc, ini, last, e1, e2, e3, cell_kept e4 hg hr⟩) _) (ownFrom_below (Nat.le_refl _) (by simp; omega)))
    ⟨⟨by simp, ((bL.alloc _).alloc _).cell, (bR.alloc _).cell, (bR.alloc _).frozen⟩, hB0⟩
    (fun x => { tmps := #[.slice (some ⟨b, off, none⟩) len cap, .pointer (some ⟨w.heap.size, 0, none⟩), .pointer (some ⟨w.heap.size + 1, 0, none⟩), .int .i64 (x.1 : Int), .pointer (some ⟨qs x.1, 1, none⟩), .slice (some ⟨b, off, none⟩) len cap, .func (.func 88) #[] #[.pointer (some ⟨w.heap.size + 1 + 1, 0, none⟩)], .int .i64 (x.1 : Int), .pointer (some ⟨qs x.1, 1, none⟩), undef, undef, undef, undef, undef, undef, undef, undef, undef, undef, undef, undef, undef, undef], defers := [] }) ?assign ?body ?done ?stop
  case assign =>
    intro l x W K hK
    gi_wp2
    exact hK
  case body =>
    rintro l pre ⟨i, hi⟩ W ⟨⟨hp, hcl, hcr, hfr⟩, hB⟩ _
    obtain ⟨lq, A, c, hq0⟩ := hK i hi
    have hq : W.cell? ⟨qs i, 2, none⟩ = some (.slice A (ks i) c) := (hB.cell (p := ⟨qs i, 2, none⟩) lq).trans hq0
    obtain ⟨m, hm⟩ : ∃ m : Nat, len - 1 = m := ⟨_, rfl⟩
    have hm1 : IntKind.i64.wrap ((len : Int) - 1) = (m : Int) := by rw [show (len : Int) - 1 = (m : Int) by omega]; exact IntWalk.i64_in _ ⟨by omega, by omega⟩
    have hm2 : IntKind.i64.wrap ((m : Int) - (i : Int)) = ((len - 1 - i : Nat) : Int) := by rw [show (m : Int) - (i : Int) = ((len - 1 - i : Nat) : Int) by omega]; exact IntWalk.i64_in _ ⟨by omega, by omega⟩
    by_cases hx : ks i < 4
    · have hx' : ((ks i : Nat) : Int) < 4 := by omega
      gi_wp2
      subst hm
      exact ⟨(KeepsOthers.setCell _ _ _).from _, ⟨rfl, pre, ⟨i, hi⟩, rfl, hp, hx, World.cell?_setCell_same' _ _ _ (by rw [hcr]; rfl)⟩, hB.setCell (p := ⟨w.heap.size + 1, 0, none⟩) (by show w.heap.size ≤ w.heap.size + 1; omega) _⟩
    · have hx' : ¬ ((ks i : Nat) : Int) < 4 := by omega
      gi_wp2
      exact ⟨KeepsFrom.refl _ _, Below.refl _ _, ⟨fun p hp' => (List.mem_append.1 hp').elim (hp p) (fun e => by simp at e; subst e; show 4 ≤ ks i; omega), hcl, hcr, hfr⟩, hB⟩
  case done =>
    rintro D ys W hD rfl ⟨⟨hne, hcl, hcr, hfr⟩, hB⟩ hK
    gi_wp2
    have hK' := (KeepsOthers.setCell W ⟨w.heap.size + 1, 0, none⟩ (.int .i64 ((len : Int) + 1))).same D _ hK rfl
    refine ⟨by simp, .inl ⟨_, _, rfl, run_takeDeferred hK', ?_⟩⟩
    have hc5 := cell_kept (World.cell?_setCell_same' W ⟨w.heap.size + 1, 0, none⟩ (.int .i64 ((len : Int) + 1)) (by rw [hcr]; rfl)) (grownBy_putObj' _ D (.deferred none)) (fun r e => by cases e; exact ⟨_, hK', rfl⟩)
    refine ⟨.int .i64 ((len : Int) + 1), ?_, .inl ⟨rfl, fun j hj => hne ⟨j, hj⟩ (by simp only [upto, List.mem_map, List.mem_range]; exact ⟨len - 1 - j, by omega, Fin.ext (by show len - 1 - (len - 1 - j) = j; omega)⟩)⟩, (hB.setCell (p := ⟨w.heap.size + 1, 0, none⟩) (by show w.heap.size ≤ w.heap.size + 1; omega) _).trans (belowK_b (w := w) (Nat.le_refl _) _ D _ _ (by simp at hD; omega) hK' rfl rfl)⟩
    simp [results, Tryd.f49, go_sem, hc5]
  case stop =>
    rintro D c pre W hD ⟨k, hk, rfl⟩ ⟨⟨rfl, ini, last, e1, e2, e3, hcr⟩, hB⟩ hK
    gi_wp2
    refine ⟨by simp, .inl ⟨_, _, rfl, run_takeDeferred hK, ?_⟩⟩
    have hc5 := cell_kept hcr (grownBy_putObj' _ D (.deferred none)) (fun r e => by cases e; exact ⟨_, hK, rfl⟩)
    obtain ⟨k', rfl⟩ : ∃ k', k = k' + 1 := by
      cases k with
      | zero => simp [upto] at e1
      | succ k' => exact ⟨k', rfl⟩
    rw [upto_succ] at e1
    obtain ⟨rfl, e5⟩ := List.append_inj' e1 rfl
    obtain rfl : bwd len hl0 k' = last := by simpa using e5
    refine ⟨.int .i64 ((len - 1 - (bwd len hl0 k').1 : Nat) : Int), ?_, .inr ⟨(bwd len hl0 k').1, (bwd len hl0 k').2, rfl, e3, fun j h1 h2 => e2 ⟨j, h2⟩ (by
      simp only [upto, List.mem_map, List.mem_range]
      have h3 : (bwd len hl0 k').1 = len - 1 - k' := rfl
      exact ⟨len - 1 - j, by omega, Fin.ext (by show len - 1 - (len - 1 - j) = j; omega)⟩)⟩, hB.trans (belowK_b (w := w) (Nat.le_refl _) W D _ _ (by simp at hD; omega) hK rfl rfl)⟩
    simp [results, Tryd.f49, go_sem, hc5]
end Go.Proofs.YtfplnobnmgbgoaaDoor
namespace Go.Proofs.YtfplnobnmgbgoaaDoor
open Go.RowKit Go.Lib
set_option linter.unusedVariables false
set_option maxRecDepth 20000
set_option linter.unusedSimpArgs false

theorem kl_empty (x : ByteArray) : ¬ kl x ⟨#[]⟩ := by
  unfold kl kcmp
  cases x.data.toList with
  | nil => decide
  | cons b l => simp [Lib.compareBytes]
/-- A leaf that covers a key gets other keys, that key among them: the row is right. -/
theorem ch_swapK : ∀ {A : List Nd} {n m : Nd} {B : List Nd} {lo : Option ByteArray} {key : ByteArray}, Ch lo (A ++ n :: B) → m.leaf = true → NdRight m → m.bnd = n.bnd → m.high = n.high → (∀ l, lo = some l → ¬ kl key l) → (∀ a ∈ A, ¬ NdCov a key) → (∀ k ∈ m.keys, k ∈ n.keys ∨ k = key) → Ch lo (A ++ m :: B)
  | [], n, m, B, lo, key, h, m1, m2, m3, m4, h5, _, h6 => by
    obtain ⟨h1, h2, h3⟩ := ch_head h
    have hm : Lf1 lo m := ⟨m1, m2, fun l hl k hk => (h6 k hk).elim (h1.2.2.1 l hl k) fun e => e ▸ h5 l hl, fun l hl hb => by rw [m4]; exact h1.2.2.2 l hl (by rw [← m3]; exact hb)⟩
    cases B with
    | nil => exact ⟨hm, by rw [m3]; exact h3 rfl⟩
    | cons x r =>
      obtain ⟨k1, k2⟩ := h2 (by simp)
      exact ⟨hm, by rw [m3]; exact k1, by rw [m4]; exact k2⟩
  | a :: A, n, m, B, lo, key, h, m1, m2, m3, m4, h5, h6, h7 => by
    obtain ⟨h1, h2, _⟩ := ch_head h
    obtain ⟨hb, h3⟩ := h2 (by simp)
    refine ch_cons h1 hb (ch_swapK h3 m1 m2 m3 m4 (fun l hl hk => ?_) (fun x hx => h6 x (List.mem_cons_of_mem _ hx)) h7)
    injection hl with hl
    subst hl
    exact h6 a (List.mem_cons_self ..) fun _ => hk
section
variable {T : List Lvl} {key : ByteArray} {U : List Lvl} {L A : Lvl} {h : Hn} {n m : Nd} {B : Lvl} {root : Hn}
theorem Way.vt (d : Way T key U L A h n B) : T = vt U A h n B [] := d.d.e
/-- The key's leaf gets other keys and values. -/
theorem Way.kst (d : Way T key U L A h n B) (g : Good T root) (hl : m.leaf = true) (hr : NdRight m) (hb : m.bnd = n.bnd) (hh : m.high = n.high) (hx : m.nx = n.nx) (hk : ∀ k ∈ m.keys, k ∈ n.keys ∨ k = key) (h5 : m.keys.length ≤ 5) : Kst key U L A h m B [] root := by
  obtain ⟨d, lf⟩ := d
  have hT := d.e
  have hen : En1 m = En1 n := by unfold En1; rw [hb, hh]
  have mem : ∀ l, l ∈ U.reverse ++ [A ++ (h, n) :: B] → l ∈ T := fun l hl => by rw [hT]; exact hl
  refine ⟨⟨?_, nxs_keep d.tw.2 hx⟩, above_keep d.ab (by rw [List.map_append, List.map_append, List.map_cons, List.map_cons]; simp only [hen]) (by rw [List.map_append, List.map_append, List.map_cons, List.map_cons]), d.pt, ?_, fun u hu x hx => g.sl u (mem u (List.mem_append.2 (.inl (List.mem_reverse.2 hu)))) x hx, (fun u hu => by cases hu), fun x hx => g.sl _ (mem _ (List.mem_append.2 (.inr (List.mem_singleton.2 rfl)))) x (List.mem_append.2 (.inl hx)), fun x hx => g.sl _ (mem _ (List.mem_append.2 (.inr (List.mem_singleton.2 rfl)))) x (List.mem_append.2 (.inr (List.mem_cons_of_mem _ hx))), h5, ?_⟩
  · have hc := d.tw.1
    rw [List.map_append, List.map_cons] at hc ⊢
    exact ch_swapK hc hl hr hb hh (fun l hl => by injection hl with hl; rw [← hl]; exact kl_empty key) (fun a ha => by
      obtain ⟨x, hx, rfl⟩ := List.mem_map.1 ha
      exact d.lo x hx) hk
  · obtain ⟨n0, R, e⟩ := g.rt
    rw [hT] at e
    unfold Go.Proofs.YtfplnobnmgbgoaaDoor.vt
    cases hU : U.reverse with
    | nil =>
      rw [hU] at e
      injection e with e1 e2
      have : A = [] ∧ (h, n) = (root, n0) ∧ B = [] := by
        cases A with
        | nil => injection e1 with e1 e3; exact ⟨rfl, e1, e3⟩
        | cons a A => injection e1 with _ e3; cases A <;> cases e3
      obtain ⟨q1, q2, q3⟩ := this
      injection q2 with q2 _
      subst q1 q2 q3
      exact ⟨m, _, rfl⟩
    | cons v V =>
      rw [hU] at e
      injection e with e1 e2
      exact ⟨n0, _, by rw [List.cons_append, e1]⟩
  · intro l hl2 x hx hx2
    rcases List.mem_append.1 hl2 with h1 | h1
    · exact g.fl l (mem l (List.mem_append.2 (.inl h1))) x hx hx2
    · rw [List.mem_singleton.1 h1] at hx
      rcases List.mem_append.1 hx with h2 | h2
      · exact g.fl _ (mem _ (List.mem_append.2 (.inr (List.mem_singleton.2 rfl)))) x (List.mem_append.2 (.inl h2)) hx2
      · rcases List.mem_cons.1 h2 with h3 | h3
        · rw [h3] at hx2
          have hx2 : m.leaf = false := hx2
          rw [hl] at hx2
          cases hx2
        · exact g.fl _ (mem _ (List.mem_append.2 (.inr (List.mem_singleton.2 rfl)))) x (List.mem_append.2 (.inr (List.mem_cons_of_mem _ h3))) hx2
theorem Way.leaves (d : Way T key U L A h n B) : leaves T = A ++ (h, n) :: B := by
  rw [d.vt, vt_leaves, leaves_one]
theorem Way.lv (d : Way T key U L A h n B) : (Go.Proofs.YtfplnobnmgbgoaaDoor.leaves (Go.Proofs.YtfplnobnmgbgoaaDoor.vt U A h m B [])).length = (Go.Proofs.YtfplnobnmgbgoaaDoor.leaves T).length := by
  rw [d.leaves, vt_leaves, leaves_one, List.length_append, List.length_append, List.length_cons, List.length_cons]
theorem Way.vis (d : Way T key U L A h n B) (hb : m.bnd = n.bnd) (hh : m.high = n.high) (hml : m.leaf = true) (f : Hn) (q : ByteArray × Bool) (hv : VisT T f q) : VisT (Go.Proofs.YtfplnobnmgbgoaaDoor.vt U A h m B []) f q := by
  have hen : En1 m = En1 n := by unfold En1; rw [hb, hh]
  obtain ⟨l, hl, A', n', B', e, ha, hlf⟩ := hv
  rw [d.vt] at hl
  rcases List.mem_append.1 hl with h1 | h1
  · exact ⟨l, List.mem_append.2 (.inl h1), A', n', B', e, ha, hlf⟩
  · rw [List.mem_singleton.1 h1] at e
    obtain ⟨A3, n3, B3, e3, h3⟩ := vis_same hen (fun _ => hml) e ha
    exact ⟨_, List.mem_append.2 (.inr (List.mem_cons_self ..)), A3, n3, B3, e3, h3.1, fun hq => h3.2 (hlf hq)⟩
theorem Way.ch (d : Way T key U L A h n B) : Ch (some ⟨#[]⟩) (A.map Prod.snd ++ n :: B.map Prod.snd) ∧ (∀ a ∈ A.map Prod.snd, ¬ NdCov a key) ∧ flatT T = flat (A.map Prod.snd ++ n :: B.map Prod.snd) := by
  have hc := d.d.tw.1
  rw [List.map_append, List.map_cons] at hc
  refine ⟨hc, fun a ha => ?_, ?_⟩
  · obtain ⟨x, hx, rfl⟩ := List.mem_map.1 ha
    exact d.d.lo x hx
  · unfold flatT
    rw [d.leaves, List.map_append, List.map_cons]
theorem Way.right (d : Way T key U L A h n B) : LeafR n key := ⟨d.d.right, d.lf, d.d.cv⟩
theorem Way.get (d : Way T key U L A h n B) : getL (flatT T) key = getL (prs n) key := by
  obtain ⟨h1, h2, h3⟩ := d.ch
  rw [h3]
  exact ch_get h1 h2 d.d.cv
theorem vt_flat (U : List Lvl) (A : Lvl) (h : Hn) (m : Nd) (B : Lvl) : flatT (Go.Proofs.YtfplnobnmgbgoaaDoor.vt U A h m B []) = flat (A.map Prod.snd ++ m :: B.map Prod.snd) := by
  unfold flatT
  rw [vt_leaves, leaves_one, List.map_append, List.map_cons]
theorem Way.putF (d : Way T key U L A h n B) {v : ByteArray} (hm : prs m = putL (prs n) key v) : flatT (Go.Proofs.YtfplnobnmgbgoaaDoor.vt U A h m B []) = putL (flatT T) key v := by
  obtain ⟨h1, h2, h3⟩ := d.ch
  rw [vt_flat, h3]
  exact ch_put h1 h2 d.d.cv hm
theorem Way.delF (d : Way T key U L A h n B) (hm : prs m = delL (prs n) key) : flatT (Go.Proofs.YtfplnobnmgbgoaaDoor.vt U A h m B []) = delL (flatT T) key := by
  obtain ⟨h1, h2, h3⟩ := d.ch
  rw [vt_flat, h3]
  exact ch_del h1 h2 d.d.cv hm
theorem Way.min (d : Way T key U L A h n B) (hle : n.keys.length ≤ m.keys.length) (hm : MinL T) : MinL (Go.Proofs.YtfplnobnmgbgoaaDoor.vt U A h m B []) := by
  unfold MinL at hm ⊢
  rw [vt_leaves, leaves_one]
  rw [d.leaves] at hm
  rcases hm with h1 | h1
  · left
    rw [← h1, List.length_append, List.length_append, List.length_cons, List.length_cons]
  · right
    intro x hx
    rcases List.mem_append.1 hx with h2 | h2
    · exact h1 x (List.mem_append.2 (.inl h2))
    · rcases List.mem_cons.1 h2 with h3 | h3
      · rw [h3]
        exact Nat.le_trans (h1 (h, n) (by simp)) hle
      · exact h1 x (List.mem_append.2 (.inr (List.mem_cons_of_mem _ h3)))
end
end Go.Proofs.YtfplnobnmgbgoaaDoor
namespace Go.Proofs.YtfplnobnmgbgoaaDoor
open Go.RowKit Go.Lib
set_option linter.unusedVariables false
set_option maxRecDepth 20000
set_option linter.unusedSimpArgs false

/-- What a Put leaves, where it did it. -/
structure PutOk (I : Ids) (T : List Lvl) (G : List Nat) (fr : Nat → Bool) (F' : List Pr) (w w' : World) : Prop where
  r : ∃ N' T' root' fr', Tm w' I N' T'.flatten root' G fr' ∧ Good T' root' ∧ Tn I w w' ∧ flatT T' = F' ∧ (∀ f q, VisT T f q → VisT T' f q) ∧ (leaves T').length ≤ (leaves T).length + 1 ∧ (MinL T → MinL T') ∧ cnt fr' G.length + T'.flatten.length = cnt fr G.length + T.flatten.length ∧ ∀ s, fr s = false → fr' s = false
inductive TPut (I : Ids) (T : List Lvl) (G : List Nat) (fr : Nat → Bool) (key val : ByteArray) (w : World) (e : Ending) (w' : World) : Prop
  | ok : e = .returned (.tuple #[.string ((getL (flatT T) key).getD ⟨#[]⟩), .bool (getL (flatT T) key).isSome, .int .i64 0]) → PutOk I T G fr (putL (flatT T) key val) w w' → TPut I T G fr key val w e w'
  | full : e = .returned (.tuple #[.string ⟨#[]⟩, .bool false, .int .i64 5]) → getL (flatT T) key = none → cnt fr G.length < T.length + 2 → Turn No w w' → TPut I T G fr key val w e w'
section
variable {w : World} {I : Ids} {N : Nat → Option Ent} {T : List Lvl} {root : Hn} {G : List Nat} {fr : Nat → Bool}
theorem Tm.tr (h : Tm w I N T.flatten root G fr) (g : Good T root) : Tr w I N T root := ⟨h.b, h.t, h.s, g⟩
theorem Tm.rtz (h : Tm w I N T.flatten root G fr) (g : Good T root) : rtZ root = false := by
  obtain ⟨n, R, e⟩ := g.rt
  have hm : (root, n) ∈ T.flatten := by rw [e]; simp
  obtain ⟨x, d, h1, h2, _⟩ := (h.s.mem root n).1 hm
  obtain ⟨M, f, hb⟩ := h.b
  have := (hb.z x d h1).2.1
  unfold rtZ hnEq
  rw [h2]
  simp
  omega
theorem Good.len (g : Good T root) (hn : T.flatten.length ≤ 4096) : T.length ≤ 4096 := by
  have h1 : ∀ {R : List Lvl} {l : Lvl}, Tower (l :: R) → (l :: R).length ≤ (l :: R).flatten.length := by
    intro R
    induction R with
    | nil =>
      intro l h
      have : l ≠ [] := fun e => by rw [e] at h; exact h.1.elim
      have := List.length_pos_iff.2 this
      simp
      omega
    | cons d R ih =>
      intro l h
      have h2 := ih h.2.2
      have : l ≠ [] := fun e => by
        obtain ⟨P, k, c, e2, _⟩ := tower_lst rfl h
        rw [e] at e2
        simp at e2
      have := List.length_pos_iff.2 this
      rw [List.flatten_cons, List.length_append, List.length_cons]
      omega
  obtain ⟨n, R, e⟩ := g.rt
  have ht := g.tw
  rw [e] at ht hn ⊢
  exact Nat.le_trans (h1 ht) hn
end
/-- The leaf's Put. -/
theorem nput_c {w : World} {T : List Lvl} {key val : ByteArray} {U : List Lvl} {L A : Lvl} {h : Hn} {n : Nd} {B : Lvl} {root : Hn} {AK AV AD : Option Addr} (ck cv cd : Nat) (d : Way T key U L A h n B) (g : Good T root) (hi : Inn w n AK AV AD) (fk : Fit key) (fv : Fit val) (W : World) (tW : Turn No w W) :
    Calls Tryd.prog 47 #[.agg (ndc n AK ck AV cv AD cd), .string key, .string val] W fun e W' => ∃ m BK dk BV dv BD dd, e = .returned (.tuple #[.agg (ndc m BK dk BV dv BD dd), .string ((getL (flatT T) key).getD ⟨#[]⟩), .bool (getL (flatT T) key).isSome]) ∧ Inn W' m BK BV BD ∧ Kst key U L A h m B [] root ∧ prs m = putL (prs n) key val ∧ n.keys.length ≤ m.keys.length ∧ m.keys.length = n.keys.length + (if (getL (flatT T) key).isSome = true then 0 else 1) ∧ m.bnd = n.bnd ∧ m.high = n.high ∧ Turn No W W' := by
  have hi2 := (hi.no tW).i
  have h4 : n.keys.length ≤ 4 := g.sl _ (by rw [d.d.e]; exact List.mem_append.2 (.inr (List.mem_cons_self ..))) (h, n) (by simp)
  have hget := d.get
  have hrt := d.right
  have hlf := d.lf
  have hkst : ∀ m : Nd, m.leaf = true → NdRight m → m.bnd = n.bnd → m.high = n.high → m.nx = n.nx → (∀ k ∈ m.keys, k ∈ n.keys ∨ k = key) → m.keys.length ≤ 5 → Kst key U L A h m B [] root := fun m a1 a2 a3 a4 a5 a6 a7 => d.kst g a1 a2 a3 a4 a5 a6 a7
  clear d g
  refine (put_c n AK AV AD ck cv cd key val W hi2 fk fv).mono ?_
  rintro e w' ⟨m, BK, dk, BV, dv, BD, dd, old, had, rfl, hp, hg, ht⟩
  obtain ⟨e1, e2, e3⟩ := hp.1 hrt
  rw [e2, e3, hget]
  obtain ⟨leaf, K, V, D, high, bnd, nx⟩ := n
  obtain ⟨K1, V1, rfl, h1, h2, h3, h4', h5, h6, h7⟩ := put_ok hrt.1 hp
  obtain ⟨hLf, _⟩ := h6 hrt
  have hl : leaf = true := hlf
  subst hl
  have hv : V.length = K.length := (hrt.1.2.2.2.1 rfl).1
  have hd : D.length = 0 := (hrt.1.2.2.2.1 rfl).2
  have hlen : K1.length = K.length + (if (getL (zipP K V) key).isSome = true then 0 else 1) := by
    have h8 := put_len (zip_asc hv hrt.1.1) key val
    have h9 : (putL (zipP K V) key val).length = K1.length := by rw [← hLf.1, List.length_map]
    have h10 : (zipP K V).length = K.length := by rw [zipP_length]; omega
    rw [h9, h10] at h8
    rw [h8]
    split <;> rfl
  have h4 : K.length ≤ 4 := h4
  refine ⟨_, BK, dk, BV, dv, BD, dd, rfl, hg.inn (fun k hk => (h2 k hk).elim (hi2.fk k) fun e => e ▸ fk) (fun k hk => (h3 k hk).elim (hi2.fv k) fun e => e ▸ fv) hi2.fh (by show K1.length ≤ 10000; omega) (by show V1.length ≤ 10000; omega) (by show D.length ≤ 10000; omega), hkst _ rfl h1 rfl rfl rfl h2 (by show K1.length ≤ 5; omega), ?_, ?_, hlen, rfl, rfl, ht⟩
  · show zipP K1 V1 = _
    exact hLf.zip
  · show K.length ≤ K1.length
    rw [hlen]
    omega
end Go.Proofs.YtfplnobnmgbgoaaDoor
