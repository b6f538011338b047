/-
  alike: does a node have what the document's has?
-/
import Derived.Test.YtijlcehjlacihaaAmI
import Derived.Test.YtijlcehjlacihaaRh
namespace Go.Proofs.Ytijlcehjlacihaa
open Go.RowKit Go.Lib
set_option linter.unusedVariables false
set_option maxRecDepth 20000
set_option linter.unusedSimpArgs false

open Go.Shelf
attribute [local go_sem] Oper.semAt_some
theorem eqIn_seq2 (w : World) (d : Nat) (f : Fn) (b c : Array Value) : (Op.equalIn (d + 1) 39 (.func f b c) .nilFunc).run Try.prog w = .ok false w := by
  simp [Op.equalIn, run_underlying Try.underlying39]
theorem eql_seq2 (w : World) (f : Fn) (b c : Array Value) : (binOp .eql 39 (.func f b c) .nilFunc).run Try.prog w = .ok (.bool false) w := by
  simp only [binOp, Op.equal, Op.maxDepth]
  rw [show (10000 : Nat) = 9999 + 1 from rfl, Sem.run_bind, eqIn_seq2]
  rfl
/-- The first ones of L. -/
def Pfx (L pre : List (Nat × Int)) : Prop := pre = L.take pre.length ∧ pre.length ≤ L.length
theorem Pfx.snoc {L pre : List (Nat × Int)} {x : Nat × Int} (h : Pfx L (pre ++ [x])) : Pfx L pre ∧ L = pre ++ x :: L.drop (pre.length + 1) := by
  obtain ⟨h1, h2⟩ := h
  rw [List.length_append, List.length_singleton] at h1 h2
  have hx : L = pre ++ x :: L.drop (pre.length + 1) := by
    have := (List.take_append_drop (pre.length + 1) L).symm
    rw [← h1] at this
    simpa using this
  refine ⟨⟨?_, by omega⟩, hx⟩
  have := congrArg (List.take pre.length) hx
  rw [List.take_left' rfl] at this
  exact this.symm
theorem Pfx.all (L : List (Nat × Int)) : Pfx L L := ⟨by simp, Nat.le_refl _⟩
theorem Pfx.take {L : List (Nat × Int)} {k : Nat} (hk : k ≤ L.length) : Pfx L (L.take k) := ⟨by rw [List.length_take, Nat.min_eq_left hk], by rw [List.length_take]; omega⟩
theorem Ref.of_block {w W : World} {rb k : Nat} {L : List (Nat × Int)} {c : Array Value} (h : Ref w rb L k c) (hb : W.heap[rb]? = w.heap[rb]?) : Ref W rb L k c := ⟨h.asc, h.byt, by have := h.at_; unfold At at this ⊢; rw [hb]; exact this, h.size, h.has, h.kid, h.cnt, h.siz⟩
theorem fr_no {w W : World} (T : Turn No w W) {a : Addr} {u : Value} (hc : w.cell? a = some u) (hf : w.frozen? a = false) : W.frozen? a = false := by
  have hlt : a.block < w.heap.size := by
    unfold World.cell? at hc
    cases hh : w.heap[a.block]? with
    | none => rw [hh] at hc; cases hc
    | some o => exact (Array.getElem?_eq_some_iff.1 hh).1
  have := T.block _ hlt (fun h => h)
  unfold World.frozen? at hf ⊢
  rw [this]; exact hf
theorem cell_set_ne (W : World) {a b i : Nat} (hne : a ≠ b) (u : Value) : (W.setCell ⟨b, 0, none⟩ u).cell? ⟨a, i, none⟩ = W.cell? ⟨a, i, none⟩ := World.cell?_of_block (w := W) (Below.heap_setCell _ _ _ a hne)
theorem keeps_no {W W' : World} (T : Turn No W W') : KeepsOthers W W' := ⟨T.size, fun k o hk _ => (T.block k (Array.getElem?_eq_some_iff.1 hk).1 (fun h => h)).trans hk⟩
theorem Pfx.next {L pre : List (Nat × Int)} {x : Nat × Int} (hL : Asc L) (h : Pfx L (pre ++ [x])) : nxtC L (x.1 + 1) = (L.drop (pre ++ [x]).length).head? := by
  have hx := h.snoc.2
  have ha := hL
  rw [hx] at ha
  have := nxt_behind ha
  rw [← hx] at this
  rw [this, List.length_append, List.length_singleton]
theorem Pfx.this {L pre : List (Nat × Int)} {x : Nat × Int} (h : Pfx L (pre ++ [x])) : (L.drop pre.length).head? = some x := by
  have hx := h.snoc.2
  have := congrArg (fun l : List (Nat × Int) => (l.drop pre.length).head?) hx
  simp only [List.drop_left'] at this
  rw [this]
  rfl
set_option maxRecDepth 100000 in
set_option maxHeartbeats 16000000 in
theorem alike_any {w : World} {Z : Dom} {a k rb : Nat} {L : List (Nat × Int)} (hn : NI.Nd w Z a k L) (hr : RefE w rb L k) :
    Calls Try.prog 17 #[.pointer (some ⟨a, 0, none⟩), .pointer (some ⟨rb, 0, none⟩)] w fun e w' => e = .returned (.bool true) ∧ Turn No w w' := by
  obtain ⟨c, hr⟩ := hr
  have HN := Lib.hid hn
  have HR := Lib.hid hr
  have HRE : Hid (∀ W, Turn No w W → ∃ c, Ref W rb L k c) := Lib.hid fun W T => RefE.no ⟨c, hr⟩ T
  obtain ⟨nl, hnl⟩ : ∃ n, L.length = n := ⟨_, rfl⟩
  have CLn : Hid (∀ W, Turn No w W → Calls Try.prog 20 #[.pointer (some ⟨a, 0, none⟩)] W fun e w' => e = .returned (.int .i64 (nl : Int)) ∧ w' = W) := Lib.hid fun W T => by rw [← hnl]; exact NI.len_any (hn.no T)
  have CKn : Hid (∀ W, Turn No w W → Calls Try.prog 21 #[.pointer (some ⟨a, 0, none⟩)] W fun e w' => e = .returned (.int .i64 (k : Int)) ∧ w' = W) := Lib.hid fun W T => NI.kind_any (hn.no T)
  have CG : Hid (∀ W, Turn No w W → ∀ b : Nat, b < 256 → Calls Try.prog 18 #[.pointer (some ⟨a, 0, none⟩), .int .u8 (b : Int)] W fun e w' => e = .returned (.tuple #[.int .i64 ((getC L b).getD 0), .bool (getC L b).isSome]) ∧ Turn No W w') := Lib.hid fun W T b hb => NI.get_any (hn.no T) b hb
  have CRG : Hid (∀ W, Turn No w W → ∀ b : Nat, b < 256 → Calls Try.prog 35 #[.pointer (some ⟨rb, 0, none⟩), .int .u8 (b : Int)] W fun e w' => e = .returned (.tuple #[.int .i64 ((getC L b).getD 0), .bool (getC L b).isSome]) ∧ w' = W) := Lib.hid fun W T b hb => by
    obtain ⟨c', h'⟩ := RefE.no ⟨c, hr⟩ T
    exact rget_any h' b hb
  have CRF : Hid (∀ W, Turn No w W → ∀ b : Int, Calls Try.prog 16 #[.pointer (some ⟨rb, 0, none⟩), .int .i64 b] W fun e w' => e = .returned (NI.fromV (nxtC L b.toNat)) ∧ Turn No W w') := Lib.hid fun W T b => by
    obtain ⟨c', h'⟩ := RefE.no ⟨c, hr⟩ T
    exact rfrom_any h' b
  have CA : Hid (∀ W, Turn No w W → Calls Try.prog 19 #[.pointer (some ⟨a, 0, none⟩)] W fun e w' => ∃ l, e = .returned (.func (.func 38) #[] #[.pointer (some ⟨l, 0, none⟩)]) ∧ NI.Col W w' l L ∧ Turn No W w') := Lib.hid fun W T => NI.all_any (hn.no T)
  have T1 : Turn No w ((w.alloc (.cells #[.pointer (some ⟨rb, 0, none⟩)] 26)).alloc (.cells #[.bool false] 4)) := ((Turn.refl No w).alloc _).alloc _
  have x1 := (At.new w (.cells #[.pointer (some ⟨rb, 0, none⟩)] 26)).no ((Turn.refl No _).alloc (.cells #[.bool false] 4))
  have x2 := At.new2 w (.cells #[.pointer (some ⟨rb, 0, none⟩)] 26) (.cells #[.bool false] 4)
  have r1 := HR.out.cnt
  have r2 := HR.out.siz
  rw [hnl] at r1
  have y1 := (NI.cells258 (HR.out.at_.no T1) r1).1
  have y2 := (NI.cells258 (HR.out.at_.no T1) r2).1
  have HW1 := Lib.hid (And.intro T1 (And.intro x1 x2))
  have HNL := Lib.hid hnl
  clear hn hr hnl r1 r2 T1 x1 x2
  have qf := eql_seq2
  obtain ⟨F, hF⟩ : ∃ F, F = Fence.wide := ⟨_, rfl⟩
  refine (callsIn_wide (n := 5)).1 (callsIn_of_wp_marks (F := Fence.wide) Try.func17 rfl trivial ?_ rfl)
  refine wpIn_wide.2 ?_
  simp only [Try.ntmps17, List.size_toArray, List.length_cons, List.length_nil, Nat.reduceAdd, Nat.reduceSub, Array.replicate_succ, Array.replicate_zero, List.push_toArray, List.append_toArray, List.nil_append, List.cons_append]
  go_upto_region 1 with fail
  generalize (w.alloc (.cells #[.pointer (some ⟨rb, 0, none⟩)] 26)).alloc (.cells #[.bool false] 4) = w1 at HW1 y1 y2 ⊢
  have z1 : w1.cell? ⟨w.heap.size, 0, none⟩ = some (.pointer (some ⟨rb, 0, none⟩)) := by simpa using HW1.out.2.1.cell 0
  have HG : Hid (w.heap.size < w1.heap.size) := Lib.hid (HW1.out.2.1.lt)
  obtain ⟨g1, hg1⟩ : ∃ x, w.heap.size = x := ⟨_, rfl⟩
  rw [hg1] at z1 HW1 ⊢
  have HG1 := Lib.hid hg1
  clear hg1
  have hS : Hid (∀ W, Turn No w1 W → W.cell? ⟨g1, 0, none⟩ = some (.pointer (some ⟨rb, 0, none⟩)) ∧ W.cell? ⟨rb, 512, none⟩ = some (.int .i64 (nl : Int)) ∧ W.cell? ⟨rb, 513, none⟩ = some (.int .i64 (k : Int))) := Lib.hid fun W T => ⟨NI.cell_no T z1, NI.cell_no T y1, NI.cell_no T y2⟩
  have CL1 : Hid (∀ W, Turn No w1 W → Calls Try.prog 20 #[.pointer (some ⟨a, 0, none⟩)] W fun e w' => e = .returned (.int .i64 (nl : Int)) ∧ Turn No W w') := Lib.hid fun W T => (CLn.out W (HW1.out.1.trans T)).mono fun e w' q => ⟨q.1, by rw [q.2]; exact Turn.refl _ _⟩
  have CK1 : Hid (∀ W, Turn No w1 W → Calls Try.prog 21 #[.pointer (some ⟨a, 0, none⟩)] W fun e w' => e = .returned (.int .i64 (k : Int)) ∧ Turn No W w') := Lib.hid fun W T => (CKn.out W (HW1.out.1.trans T)).mono fun e w' q => ⟨q.1, by rw [q.2]; exact Turn.refl _ _⟩
  clear CLn CKn
  go_region_held3 (fun W => W.cell? ⟨g1, 0, none⟩ = some (.pointer (some ⟨rb, 0, none⟩)) ∧ W.cell? ⟨rb, 512, none⟩ = some (.int .i64 (nl : Int)) ∧ W.cell? ⟨rb, 513, none⟩ = some (.int .i64 (k : Int))) (first | (with_reducible exact ⟨z1, y1, y2⟩) | (exact hS.out _ (by first | exact (Turn.refl No _).drew | assumption))) (first | (go_at_call 20; (with_reducible refine (CL1.out _ (Turn.refl No _).drew).mono ?_); rintro e w5 ⟨rfl, ht5⟩; have ht5 : Turn No w1 w5 := (Turn.refl No w1).drew.trans ht5) | (go_at_call 21; (with_reducible refine (CK1.out _ ht5).mono ?_); rintro e w6 ⟨rfl, ht6⟩; have ht6 : Turn No w1 w6 := ht5.trans ht6))
  all_goals go_upto_region 4 with fail
  replace ht6 := Lib.hid ht6
  clear z1 y1 y2 CL1 CK1
  go_loopw [5] (fun s wr => ∃ i : Nat, i ≤ 256 ∧ s = .int .i64 (i : Int) ∧ Hid (Turn No w1 wr)) (fun s _ => 256 - (RowKit.intOf s).toNat)
  case atStart => exact ⟨0, by decide, rfl, ht6⟩
  case round =>
    clear ht6
    obtain ⟨i, hi, rfl, HT⟩ := hrel
    by_cases hlt : i < 256
    · have C1 := Lib.hid fun W (T : Turn No w1 W) => CG.out W (HW1.out.1.trans T) i hlt
      have C2 := Lib.hid fun W (T : Turn No w1 W) => CRG.out W (HW1.out.1.trans T) i hlt
      obtain ⟨x0, hx0⟩ : ∃ x, (getC L i).getD 0 = x := ⟨_, rfl⟩
      obtain ⟨s0, hs0⟩ : ∃ x, (getC L i).isSome = x := ⟨_, rfl⟩
      rw [hx0, hs0] at C1 C2
      have hwu : IntKind.u8.wrap (i : Int) = (i : Int) := by rw [IntKind.wrap_u8]; omega
      have HI := Lib.hid hlt
      have hlt2 : (i : Int) < 256 := by omega
      clear hx0 hs0 hi
      go_wp2_with (first
        | (go_at_call 18; (with_reducible refine (C1.out _ HT.out).mono ?_); rintro e w7 ⟨rfl, h7⟩; have z7 := (hS.out _ (HT.out.trans h7)).1; replace h7 := Lib.hid (HT.out.trans h7))
        | (go_at_call 35; (with_reducible refine (C2.out _ h7.out).mono ?_); rintro e w8 ⟨rfl, hw⟩; replace hw := hw.symm; subst hw))
      exact ⟨⟨i + 1, by have := HI.out; omega, by go_num, h7⟩, by have := HI.out; simp [RowKit.intOf]; omega⟩
    · have hnl : ¬ ((i : Int) < 256) := by omega
      clear hi hlt
      go_upto_region 11 with fail
      have HA0 : Hid (Turn No w1 (wr.alloc (.cells #[.int .i64 0] 3)) ∧ At (wr.alloc (.cells #[.int .i64 0] 3)) wr.heap.size (.cells #[.int .i64 0] 3)) := Lib.hid ⟨HT.out.trans ((Turn.refl No wr).alloc _), At.new _ _⟩
      obtain ⟨g3, hg3⟩ : ∃ x, wr.heap.size = x := ⟨_, rfl⟩
      have HG3 := Lib.hid (show g1 + 1 < g3 by
        have h1 := HW1.out.2.2.lt
        have h2 := HT.out.size
        omega)
      rw [hg3] at HA0 ⊢
      clear hg3
      generalize wr.alloc (.cells #[.int .i64 0] 3) = w7 at HA0 ⊢
      have CA1 := Lib.hid fun W (T : Turn No w1 W) => CA.out W (HW1.out.1.trans T)
      go_wp2_with (first
        | (go_at_call 19; have hx := h8; clear hx; (with_reducible refine (CA1.out _ h8.out.2).mono ?_); rintro e w9 ⟨l2, rfl, h9, h10⟩; replace h9 := Lib.hid (And.intro h9 (And.intro h10 (h8.out.2.trans h10))); clear h10)
        | (go_at_call 19; (with_reducible refine (CA1.out _ HA0.out.1).mono ?_); rintro e w8 ⟨l1, rfl, h8, h10⟩; replace h8 := Lib.hid (And.intro h10 (HA0.out.1.trans h10)); clear h10))
      obtain ⟨A, B, ca, cb, hT, hX⟩ := h9.out.1.tel
      have hX2 : ∀ i, NI.tX l2 A B i → i < w9.heap.size := fun i hi => (hX i hi).2
      have HX3 : Hid (∀ i, NI.tX l2 A B i → i ≠ g3) := Lib.hid fun i hi e => by
        have h1 := (hX i hi).1
        have h2 := HA0.out.2.lt
        have h3 := h8.out.1.size
        omega
      have HWW : Hid (Turn No w w9) := Lib.hid (HW1.out.1.trans h9.out.2.2)
      have HBX : Hid ((w9.cell? ⟨g3, 0, none⟩ = some (.int .i64 0) ∧ w9.frozen? ⟨g3, 0, none⟩ = false) ∧ w9.cell? ⟨g1, 0, none⟩ = some (.pointer (some ⟨rb, 0, none⟩)) ∧ w9.cell? ⟨g1 + 1, 0, none⟩ = some (.bool false) ∧ w9.frozen? ⟨g1 + 1, 0, none⟩ = false) := Lib.hid (by
        have a3 := HA0.out.2.no (h8.out.1.trans h9.out.2.1)
        have ar := HW1.out.2.2.no h9.out.2.2
        exact ⟨NI.at1 a3, (hS.out _ h9.out.2.2).1, NI.at1 ar⟩)
      refine (wpIn_wide (n := 5)).1 ?_
      rw [← hF]
      have hro : F.round = none := by rw [hF]; rfl
      have hfn : ∀ f, F.fn f := fun f => by rw [hF]; trivial
      have CI : Hid (∀ (l n : Nat) {f : FuncId} {args : Array Value} {w : World} {R : Ending → World → Prop}, Calls Try.prog f args w R → CallsIn (F.inRound l) n Try.prog f args w R) := Lib.hid fun l n f args w R h => by rw [hF]; exact (callsIn_wide.2 h : CallsIn Fence.wide n Try.prog f args w R)
      have g16 := hfn 16
      clear hF
      refine wpIn_rangeFunc_ownG hro (by decide) (gf := 38) (lb := #[.pointer (some ⟨l2, 0, none⟩)]) rfl (hfn _) (enters_of Try.func38 (by kernel_rfl) rfl)
        (NI.allf_stops F 4 (hfn _) hro (by decide) l2 L (by have := len_byt HR.out.asc HR.out.byt; omega) A B ca cb w9 hX2 hT) NI.seqK_t (NI.seqK_b hX2) (Below.refl _ _) (fun _ => rfl)
        (fun pre W => ((∃ bi : Int, W.cell? ⟨g3, 0, none⟩ = some (.int .i64 bi) ∧ W.frozen? ⟨g3, 0, none⟩ = false ∧ (Pfx L pre → nxtC L bi.toNat = (L.drop pre.length).head?)) ∧ W.cell? ⟨g1, 0, none⟩ = some (.pointer (some ⟨rb, 0, none⟩)) ∧ W.cell? ⟨g1 + 1, 0, none⟩ = some (.bool false) ∧ W.frozen? ⟨g1 + 1, 0, none⟩ = false ∧ w9.heap.size ≤ W.heap.size) ∧ Below w.heap.size w W)
        (fun c pre W => c = .ret ∧ (Pfx L pre → False))
        (OwnFrom.and (_root_.Go.Own.from (fun s X Y row hs hg hr => by
          obtain ⟨⟨bi, q1, q2, q3⟩, q4, q5, q6, q7⟩ := hs
          exact ⟨⟨bi, cell_kept q1 hg hr, (frozen_kept q1 hg hr).trans q2, q3⟩, cell_kept q4 hg hr, cell_kept q5 hg hr, (frozen_kept q5 hg hr).trans q6, Nat.le_trans q7 hg.size⟩) _) (ownFrom_below (Nat.le_refl _) HWW.out.size))
        (fun c => fun s X Y row hs hg hr => hs)
        ⟨⟨⟨0, HBX.out.1.1, HBX.out.1.2, fun _ => nxt_first⟩, HBX.out.2.1, HBX.out.2.2.1, HBX.out.2.2.2, Nat.le_refl _⟩, HWW.out.below (Nat.le_refl _) fun _ _ h => h⟩ ?a1 ?assign ?body ?done ?stop
      case assign =>
        intro l x W K hK
        gi_wp2
        exact hK
      case stop =>
        rintro D c pre W hD ⟨q, hq, rfl⟩ ⟨rfl, hf⟩ hK
        exact (hf (Pfx.take hq)).elim
      case body =>
        rintro l pre ⟨c0, v0⟩ W ⟨⟨⟨bi, hb1, hb2, hb3⟩, hg, hres, hfr, hsz⟩, hB⟩ hlen
        have HSZ := Lib.hid hsz
        clear hsz
        have HRW := Lib.hid (HR.out.of_block (hB.block rb HR.out.at_.lt))
        have CF0 := CI.out l (5 - 1 - 1 - 1) (rfrom_any HRW.out bi)
        have HB3 := Lib.hid hb3
        have HBL := Lib.hid hB
        clear hb3 hB hlen
        obtain ⟨o, ho⟩ : ∃ o, nxtC L bi.toNat = o := ⟨_, rfl⟩
        rw [ho] at CF0
        have HO := Lib.hid ho
        clear ho
        cases o with
        | none =>
          have CF : Hid (CallsIn (F.inRound l) (5 - 1 - 1 - 1) Try.prog 16 #[.pointer (some ⟨rb, 0, none⟩), .int .i64 bi] W fun e w' => e = .returned (.tuple #[.int .u8 0, .int .i64 0, .bool false]) ∧ Turn No W w') := Lib.hid CF0
          clear CF0
          gi_wp2_with (gi_at_call 16; (with_reducible refine CF.out.mono ?_); rintro e w2 ⟨rfl, h2⟩; have hres2 := NI.cell_no h2 hres; have hb12 := NI.cell_no h2 hb1; have hfr2 := fr_no h2 hres hfr; have hb22 := fr_no h2 hb1 hb2; replace h2 := Lib.hid h2)
          exact ⟨((keeps_no h2.out).trans (KeepsOthers.setCell _ _ _)).from _, rfl, fun h => by
            have h1 := HB3.out h.snoc.1
            rw [HO.out, h.this] at h1
            cases h1⟩
        | some p =>
          obtain ⟨p1, p2⟩ := p
          have CF : Hid (CallsIn (F.inRound l) (5 - 1 - 1 - 1) Try.prog 16 #[.pointer (some ⟨rb, 0, none⟩), .int .i64 bi] W fun e w' => e = .returned (.tuple #[.int .u8 (p1 : Int), .int .i64 p2, .bool true]) ∧ Turn No W w') := Lib.hid CF0
          clear CF0
          by_cases e1 : c0 = p1
          · subst e1
            by_cases e2 : v0 = p2
            · subst e2
              have HC : Hid (c0 < 256) := Lib.hid (HR.out.byt _ (List.mem_of_find?_eq_some HO.out))
              have hw1 : IntKind.i64.wrap (c0 : Int) = (c0 : Int) := IntWalk.i64_in _ (by have := HC.out; omega)
              have hw2 : IntKind.i64.wrap ((c0 : Int) + 1) = ((c0 + 1 : Nat) : Int) := by
                rw [show (c0 : Int) + 1 = ((c0 + 1 : Nat) : Int) by omega]
                exact IntWalk.i64_in _ (by have := HC.out; omega)
              gi_wp2_with (gi_at_call 16; (with_reducible refine CF.out.mono ?_); rintro e w2 ⟨rfl, h2⟩; have hres2 := NI.cell_no h2 hres; have hb12 := NI.cell_no h2 hb1; have hfr2 := fr_no h2 hres hfr; have hb22 := fr_no h2 hb1 hb2; replace h2 := Lib.hid h2)
              exact ⟨((keeps_no h2.out).trans (KeepsOthers.setCell _ _ _)).from _, fun i hi => (Below.heap_setCell _ _ _ i (HX3.out i hi)).trans (h2.out.block i (by have := (hX i hi).2; have := HSZ.out; omega) (fun h => h)), ⟨⟨((c0 + 1 : Nat) : Int), World.cell?_setCell_same' _ _ _ (by rw [hb12]; rfl), by rw [World.frozen?_setCell]; exact hb22, fun h => Pfx.next HR.out.asc h⟩, (cell_set_ne _ (by have := HG3.out; omega) _).trans (NI.cell_no h2.out hg), (cell_set_ne _ (by have := HG3.out; omega) _).trans hres2, by rw [World.frozen?_setCell]; exact hfr2, by have h1 := HSZ.out; have h3 := h2.out.size; simp; omega⟩, (HBL.out.trans (h2.out.below HBL.out.size fun _ _ h => h)).setCell (p := ⟨g3, 0, none⟩) (by have h1 := HG3.out; have h3 := HG1.out; show w.heap.size ≤ g3; omega) _⟩
            · gi_wp2_with (gi_at_call 16; (with_reducible refine CF.out.mono ?_); rintro e w2 ⟨rfl, h2⟩; have hres2 := NI.cell_no h2 hres; have hb12 := NI.cell_no h2 hb1; have hfr2 := fr_no h2 hres hfr; have hb22 := fr_no h2 hb1 hb2; replace h2 := Lib.hid h2)
              exact ⟨((keeps_no h2.out).trans (KeepsOthers.setCell _ _ _)).from _, rfl, fun h => by
                have h1 := HB3.out h.snoc.1
                rw [HO.out, h.this] at h1
                cases h1
                exact e2 rfl⟩
          · have hne : ¬ ((c0 : Int) = (p1 : Int)) := by omega
            have HE := Lib.hid e1
            clear e1
            gi_wp2_with (gi_at_call 16; (with_reducible refine CF.out.mono ?_); rintro e w2 ⟨rfl, h2⟩; have hres2 := NI.cell_no h2 hres; have hb12 := NI.cell_no h2 hb1; have hfr2 := fr_no h2 hres hfr; have hb22 := fr_no h2 hb1 hb2; replace h2 := Lib.hid h2)
            exact ⟨((keeps_no h2.out).trans (KeepsOthers.setCell _ _ _)).from _, rfl, fun h => by
              have h1 := HB3.out h.snoc.1
              rw [HO.out, h.this] at h1
              cases h1
              exact HE.out rfl⟩
      case done =>
        rintro D xs W hD rfl ⟨⟨⟨bi, hb1, hb2, hb3⟩, hg, hres, hfr, hsz⟩, hB⟩ hK
        have HRW := Lib.hid (HR.out.of_block (hB.block rb HR.out.at_.lt))
        have hend : nxtC xs bi.toNat = none := by rw [hb3 (Pfx.all _), List.drop_length]; rfl
        have CF0 := rfrom_any HRW.out bi
        rw [hend] at CF0
        have CF : Hid (Calls Try.prog 16 #[.pointer (some ⟨rb, 0, none⟩), .int .i64 bi] W fun e w' => e = .returned (.tuple #[.int .u8 0, .int .i64 0, .bool false]) ∧ Turn No W w') := Lib.hid CF0
        have HBL := Lib.hid hB
        have HHK := Lib.hid hK
        clear CF0 hB hb3 hend hK
        go_wp2_with (go_at_call 16; (with_reducible refine CF.out.mono ?_); rintro e w2 ⟨rfl, h2⟩; have hres2 := NI.cell_no h2 hres; have hb12 := NI.cell_no h2 hb1; have hfr2 := fr_no h2 hres hfr; have hb22 := fr_no h2 hb1 hb2; replace h2 := Lib.hid h2)
        have hK1 := (h2.out.block D (Array.getElem?_eq_some_iff.1 HHK.out).1 (fun h => h)).trans HHK.out
        have hK' := (KeepsOthers.setCell w2 ⟨g1 + 1, 0, none⟩ (.bool true)).same D _ hK1 rfl
        refine ⟨by simp, .inl ⟨_, _, rfl, run_takeDeferred hK', ?_⟩⟩
        have hc5 := cell_kept (World.cell?_setCell_same' w2 ⟨g1 + 1, 0, none⟩ (.bool true) (by rw [hres2]; rfl)) (grownBy_putObj' _ D (.deferred none)) (fun r e => by cases e; exact ⟨_, hK', rfl⟩)
        refine ⟨.bool true, ?_, rfl, Turn.of_below (((HBL.out.trans (h2.out.below HBL.out.size fun _ _ h => h)).setCell (p := ⟨g1 + 1, 0, none⟩) (by have h3 := HG1.out; show w.heap.size ≤ g1 + 1; omega) _).trans (belowK_b (w := w9) HWW.out.size _ D _ _ hD hK' rfl rfl))⟩
        simp [results, Try.f17, go_sem, hc5]
end Go.Proofs.Ytijlcehjlacihaa
