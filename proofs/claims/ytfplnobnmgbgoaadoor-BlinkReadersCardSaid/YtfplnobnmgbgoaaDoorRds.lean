/-
  BlinkReaders.
-/
import Derived.Test.YtfplnobnmgbgoaaDoorJ19
import Derived.Test.YtfplnobnmgbgoaaDoorJ18
import Derived.Test.YtfplnobnmgbgoaaDoorJ20
import Derived.Deep.CutBlock
import Derived.Outline
namespace Go.Proofs.YtfplnobnmgbgoaaDoor
open Go.RowKit Go.Lib
set_option linter.unusedVariables false
set_option maxRecDepth 20000
set_option linter.unusedSimpArgs false


theorem mn_sumB (s x y : Nat) (h : s ≤ 1152921504606846976) : IntKind.i64.wrap (IntKind.i64.wrap ((s : Int) + min (x : Int) 40001) + min (y : Int) 40001) = ((s + mn x + mn y : Nat) : Int) := by
  have h1 := mn_le x
  have h2 := mn_le y
  rw [mn_int, mn_int]
  have e1 : IntKind.i64.wrap ((s : Int) + ((mn x : Nat) : Int)) = ((s + mn x : Nat) : Int) := by rw [show (s : Int) + ((mn x : Nat) : Int) = ((s + mn x : Nat) : Int) by omega]; exact IntWalk.i64_in _ ⟨by omega, by omega⟩
  rw [e1, show ((s + mn x : Nat) : Int) + ((mn y : Nat) : Int) = ((s + mn x + mn y : Nat) : Int) by omega]
  exact IntWalk.i64_in _ ⟨by omega, by omega⟩
theorem cur_len (ws : List Wx) : ∀ i, (cur [] ws i).length ≤ i
  | 0 => Nat.le_refl _
  | i + 1 => by
    have ih := cur_len ws i
    cases h : ws[i]? with
    | none =>
      have : cur [] ws (i + 1) = cur [] ws i := by unfold cur; rw [List.take_add_one, h]; simp
      rw [this]; omega
    | some x =>
      rw [cur_succ h]
      have := wrD_length (cur [] ws i) x.k x.v x.gone
      unfold stepD
      omega
theorem fold_asc : ∀ (l : List Wx) {F : List Pr}, Asc F → Asc (l.foldl stepD F)
  | [], _, h => h
  | x :: l, _, h => fold_asc l (wrD_asc h x.k x.v x.gone)
theorem cur_asc0 (ws : List Wx) (i : Nat) : Asc (cur [] ws i) := fold_asc _ List.Pairwise.nil
theorem fold_fit : ∀ (l : List Wx) {F : List Pr}, (∀ p ∈ F, Fit p.k) → (∀ x ∈ l, Fit x.k) → ∀ p ∈ l.foldl stepD F, Fit p.k
  | [], _, h, _ => h
  | x :: l, _, h, hl => fold_fit l (wrD_fit h (hl x (List.mem_cons_self ..))) fun y hy => hl y (List.mem_cons_of_mem _ hy)
theorem cur_fit0 {ws : List Wx} (h : ∀ x ∈ ws, Fit x.k ∧ Fit x.v) (i : Nat) : ∀ p ∈ cur [] ws i, Fit p.k := fold_fit _ (fun p hp => by cases hp) fun x hx => (h x (List.mem_of_mem_take hx)).1
theorem moms_last (l : List Pr) (ws : List Wx) (n : Nat) : cur l ws n ∈ moms l ws (n + 1) := by
  rw [moms_succ]
  simp
theorem cur_take (l : List Pr) (ws : List Wx) (i : Nat) : cur l (ws.take i) i = cur l ws i := by
  unfold cur
  rw [List.take_take, Nat.min_self]
theorem cur_take2 (l : List Pr) (ws : List Wx) {i j : Nat} (h : j ≤ i) : cur l (ws.take i) j = cur l ws j := by
  unfold cur
  rw [List.take_take, Nat.min_eq_left h]
theorem moms_small {l : List Pr} {ws : List Wx} {n : Nat} {m : List Pr} (h : m ∈ moms l ws n) : m.length ≤ l.length + n := by
  unfold moms at h
  obtain ⟨i, hi, rfl⟩ := List.mem_map.1 h
  have h1 := cur_length l ws i
  have := List.mem_range.1 hi
  omega
theorem xcs_take {w : World} {A : Option Addr} {ws : List Wx} (h : Row w A (xcs ws)) (i : Nat) : Row w A (xcs (ws.take i)) := fun j u hj => h j u (by
  have e : xcs ws = xcs (ws.take i) ++ xcs (ws.drop i) := by unfold xcs; rw [← List.flatMap_append, List.take_append_drop]
  rw [e, List.getElem?_append_left (List.getElem?_eq_some_iff.1 hj).1]
  exact hj)
theorem nk_iff (x key : ByteArray) (aft : Bool) : kl x (nkK key aft) ↔ kl x key ∨ (aft = true ∧ x = key) := by
  unfold nkK
  cases aft with
  | true => rw [if_pos rfl, kl_aft]; simp
  | false => rw [if_neg (by decide)]; simp
theorem moms_mem {l : List Pr} {ws : List Wx} {i j : Nat} (h : j ≤ i) : cur l ws j ∈ moms l (ws.take i) (i + 1) := by
  unfold moms
  exact List.mem_map.2 ⟨j, List.mem_range.2 (by omega), cur_take2 l ws h⟩
section
variable {F0 : List Pr} {ws : List Wx} {a b : Vs F0 ws} {key : ByteArray} {aft : Bool}
theorem least_some {p : Pr} (h : NxOk (fun a b : Vs F0 ws => a.i ≤ b.i) (fun a => a.T) a b (nkK key aft) (some p)) : LeastP (moms F0 (ws.take b.i) (b.i + 1)) (flatT b.T) key aft p.k p.v true := by
  obtain ⟨h1, h2⟩ := h
  obtain ⟨g1, g2⟩ := h1 p rfl
  rw [nk_iff] at g2
  refine ⟨fun _ => ⟨g1, fun h => g2 (.inl h), fun h => g2 (.inr h)⟩, fun q hq => ?_⟩
  cases hs : skpP key aft p.k true q.k with
  | true => exact .inl rfl
  | false =>
    right
    unfold skpP at hs
    simp at hs
    obtain ⟨⟨e1, e2⟩, e3⟩ := hs
    obtain ⟨c, _, hcb, hg⟩ := h2 q.k (fun hh => ((nk_iff _ _ _).1 hh).elim e1 fun ⟨h, h'⟩ => e2 h h') fun p' hp' => by injection hp' with hp'; rw [← hp']; exact e3
    intro hall
    have := hall (flatT c.T) (by rw [c.fl]; exact moms_mem hcb)
    have hg : getL (flatT c.T) q.k = none := hg
    rw [hg] at this
    cases this
theorem least_none (h : NxOk (fun a b : Vs F0 ws => a.i ≤ b.i) (fun a => a.T) a b (nkK key aft) none) : LeastP (moms F0 (ws.take b.i) (b.i + 1)) (flatT b.T) key aft ⟨#[]⟩ ⟨#[]⟩ false := by
  obtain ⟨h1, h2⟩ := h
  refine ⟨(fun h => by cases h), fun q hq => ?_⟩
  cases hs : skpP key aft ⟨#[]⟩ false q.k with
  | true => exact .inl rfl
  | false =>
    right
    unfold skpP at hs
    simp at hs
    obtain ⟨e1, e2⟩ := hs
    obtain ⟨c, _, hcb, hg⟩ := h2 q.k (fun hh => ((nk_iff _ _ _).1 hh).elim e1 fun ⟨h, h'⟩ => e2 h h') fun p' hp' => by cases hp'
    intro hall
    have := hall (flatT c.T) (by rw [c.fl]; exact moms_mem hcb)
    have hg : getL (flatT c.T) q.k = none := hg
    rw [hg] at this
    cases this
end
theorem moms_at (l : List Pr) (ws : List Wx) (i : Nat) : (moms l ws (i + 1))[i + 1 - 1]? = some (cur l ws i) := by
  unfold moms
  simp
theorem least_yes {M : List (List Pr)} {last : List Pr} {key : ByteArray} {aft : Bool} {k v : ByteArray} {found : Bool} {args : Array Value} {w : World} (h : LeastP M last key aft k v found) (c : Calls Tryd.prog 15 args w fun e w' => BRes (LeastP M last key aft k v found) w e w') : Calls Tryd.prog 15 args w fun e w' => e = .returned (.bool true) ∧ Turn No w w' :=
  c.mono fun e w' ⟨b, h1, h2, h3⟩ => ⟨by rw [h1, h2.2 h], h3⟩
/-- What Next tells, whose visits write: it may be told so. -/
theorem nx_least {F0 : List Pr} {ws : List Wx} {a b : Vs F0 ws} {key : ByteArray} {aft : Bool} {r : Option Pr} (h : NxOk (fun a b : Vs F0 ws => a.i ≤ b.i) (fun a => a.T) a b (nkK key aft) r) : ∃ k v f, nx4 r = .tuple #[.string k, .string v, .bool f, .bool false] ∧ LeastP (moms F0 (ws.take b.i) (b.i + 1)) (flatT b.T) key aft k v f ∧ (f = false → k = ⟨#[]⟩) := by
  cases r with
  | none => exact ⟨_, _, _, rfl, least_none h, fun _ => rfl⟩
  | some p => exact ⟨_, _, _, rfl, least_some h, fun h => by cases h⟩
/-- What the law lets by. -/
structure Smr (ws0 ws1 : List Wx) (key : ByteArray) : Prop where
  n0 : ws0.length ≤ 200
  n1 : ws1.length ≤ 200
  k : key.size ≤ 40000
  w0 : ∀ a ∈ ws0, a.k.size ≤ 40000 ∧ a.v.size ≤ 40000
  w1 : ∀ a ∈ ws1, a.k.size ≤ 40000 ∧ a.v.size ≤ 40000
set_option maxRecDepth 100000 in
set_option maxHeartbeats 16000000 in
theorem readers_law (ws0 : List Wx) (A0 : Option Addr) (k0 : Nat) (ws1 : List Wx) (A1 : Option Addr) (k1 : Nat) (S : List Nat) (A2 : Option Addr) (k2 : Nat) (key : ByteArray) (aft : Bool) (w : World)
    (hr0 : Row w A0 (xcs ws0)) (hl0 : ws0.length ≤ 9223372036854775807 ∧ ws0.length ≤ k0) (hf0 : ∀ a ∈ ws0, Fit a.k ∧ Fit a.v) (hr1 : Row w A1 (xcs ws1)) (hl1 : ws1.length ≤ 9223372036854775807 ∧ ws1.length ≤ k1) (hf1 : ∀ a ∈ ws1, Fit a.k ∧ Fit a.v) (hr2 : Row w A2 (S.map fun (x : Nat) => Value.int .u8 (x : Int))) (hl2 : S.length ≤ 9223372036854775807 ∧ S.length ≤ k2) (hf2 : ∀ x ∈ S, x < 256) (fk : Fit key) (hT : Tab w) :
    Calls Tryd.prog 3 #[.slice A0 ws0.length k0, .slice A1 ws1.length k1, .slice A2 S.length k2, .string key, .bool aft] w fun e w' => e = .returned (.bool true) ∧ Turn No w w' := by
  have CA := Lib.hid (awake_any w hT)
  have HR := Lib.hid (And.intro hr0 (And.intro hr1 (And.intro hr2 (And.intro hl2.1 (And.intro hf2 (And.intro fk hT))))))
  have HF0 := Lib.hid (And.intro hf0 hf1)
  have HK1 := Lib.hid hl1.2
  have TT : Hid (∀ W, Turn No w W → Tab W) := Lib.hid fun W t => hT.turn t (fun h => h) hT.pos
  have HSV : Hid (key.size ≤ 140737488355328) := Lib.hid fk
  have HSW : Hid (key.size ≤ 281474976710656) := Lib.hid (by have := HSV.out; omega)
  clear hr0 hl0 hf0 hr1 hl1 hf1 hr2 hl2 hf2 fk hT
  go_enter Tryd.func3, Tryd.ntmps3
  go_upto_region 3 with (go_at_call 6; (with_reducible refine CA.out.mono ?_); rintro e w1 ⟨rfl, h1⟩; have H1 := Lib.hid h1; clear h1)
  go_upto_block 0 with fail
  go_cut [11, 12] from 34 to 60 (fun n x wx => ∃ (s i : Nat), n = .int .i64 (s : Int) ∧ x = .int .i64 (i : Int) ∧ Hid (s ≤ key.size + 16080402 ∧ key.size ≤ s ∧ (ws0.length ≤ 200 → ∀ a ∈ ws0, mn a.k.size + mn a.v.size ≤ s) ∧ Turn No w wx))
  case first =>
    go_wp2_with fail
    go_loopw [11, 12] (fun n x wr => ∃ (i s : Nat), i ≤ ws0.length ∧ i ≤ 201 ∧ x = .int .i64 (i : Int) ∧ n = .int .i64 (s : Int) ∧ Hid (s ≤ key.size + i * 80002 ∧ key.size ≤ s ∧ (∀ a ∈ ws0.take i, mn a.k.size + mn a.v.size ≤ s) ∧ Turn No w wr)) (fun n x _ => 302 - (RowKit.intOf x).toNat)
    case atStart => exact ⟨0, key.size, Nat.zero_le _, Nat.zero_le _, rfl, rfl, Lib.hid ⟨by omega, Nat.le_refl _, by simp, H1.out⟩⟩
    case round =>
      obtain ⟨i, s, hi, hi3, rfl, rfl, HI⟩ := hrel
      by_cases hlt : i < ws0.length
      · have q2 : (i : Int) < (ws0.length : Int) := by omega
        by_cases h3 : i ≤ 200
        · have q3 : (i : Int) ≤ 200 := by omega
          obtain ⟨a, ha⟩ : ∃ t, ws0[i]? = some t := ⟨ws0[i], List.getElem?_eq_getElem hlt⟩
          obtain ⟨b, o, hA, hc0⟩ := HR.out.1.wx ha
          have HS0 := Lib.hid hc0
          obtain ⟨c0, c1, c2⟩ := hc0 wr HI.out.2.2.2
          have HT : Hid (∀ x ∈ ws0.take (i + 1), mn x.k.size + mn x.v.size ≤ s + mn a.k.size + mn a.v.size) := Lib.hid fun x hx => by
            rw [List.take_add_one, ha] at hx
            rcases List.mem_append.1 hx with h1 | h1
            · have := HI.out.2.2.1 x h1; omega
            · simp at h1
              subst h1
              omega
          have HZ := Lib.hid (mn_sumB s a.k.size a.v.size (by have := HI.out.1; have := HSW.out; omega))
          have HS1 : Hid (s + mn a.k.size + mn a.v.size ≤ key.size + (i + 1) * 80002 ∧ key.size ≤ s + mn a.k.size + mn a.v.size) := Lib.hid ⟨by have := mn_le a.k.size; have := mn_le a.v.size; have := HI.out.1; omega, by have := HI.out.2.1; omega⟩
          subst hA
          obtain ⟨k, v, gg⟩ := a
          simp only at c0 c1 c2 HS0 HZ HT HS1
          have q1 : (0 : Int) ≤ (i : Int) := by omega
          have HJ : Hid (i + 1 ≤ ws0.length ∧ i + 1 ≤ 201) := Lib.hid ⟨hlt, by omega⟩
          have HJm : Hid (302 - (RowKit.intOf (.int .i64 ((i + 1 : Nat) : Int))).toNat < 302 - (RowKit.intOf (.int .i64 (i : Int))).toNat) := Lib.hid (by simp [RowKit.intOf]; omega)
          have hi201 : i ≤ 201 := hi3
          clear ha c2 hlt h3 hi hi3
          go_upto_region 7 with fail
          go_region_held3 (fun W => W.cell? ⟨b, o + i * 3, none⟩ = some (.string k) ∧ W.cell? ⟨b, o + i * 3 + 1, none⟩ = some (.string v)) (exact ⟨(HS0.out _ (HI.out.2.2.2.trans (by first | exact (Turn.refl No _).drewN _ | exact (Turn.refl No _).drew | exact Turn.refl No _))).1, (HS0.out _ (HI.out.2.2.2.trans (by first | exact (Turn.refl No _).drewN _ | exact (Turn.refl No _).drew | exact Turn.refl No _))).2.1⟩) (first | fail)
          all_goals rw [HZ.out]
          all_goals go_wp2_with fail
          all_goals rw [show (i : Int) + 1 = ((i + 1 : Nat) : Int) by omega]
          all_goals exact ⟨⟨i + 1, s + mn k.size + mn v.size, HJ.out.1, HJ.out.2, rfl, rfl, Lib.hid ⟨HS1.out.1, HS1.out.2, HT.out, HI.out.2.2.2.trans (by first | exact (Turn.refl No _).drewN _ | exact (Turn.refl No _).drew | exact Turn.refl No _)⟩⟩, HJm.out⟩
        · have q3 : ¬ (i : Int) ≤ 200 := by omega
          have HE : Hid (s ≤ key.size + 16080402 ∧ key.size ≤ s ∧ (ws0.length ≤ 200 → ∀ a ∈ ws0, mn a.k.size + mn a.v.size ≤ s) ∧ Turn No w wr) := Lib.hid ⟨by have := HI.out.1; omega, HI.out.2.1, fun h => by omega, HI.out.2.2.2⟩
          go_wp2_with fail
          go_meet
          exact ⟨s, i, rfl, rfl, HE⟩
      · obtain rfl : i = ws0.length := by omega
        have q2 : ¬ (ws0.length : Int) < (ws0.length : Int) := by omega
        have HE : Hid (s ≤ key.size + 16080402 ∧ key.size ≤ s ∧ (ws0.length ≤ 200 → ∀ a ∈ ws0, mn a.k.size + mn a.v.size ≤ s) ∧ Turn No w wr) := Lib.hid ⟨by have := HI.out.1; omega, HI.out.2.1, fun _ => by have := HI.out.2.2.1; rwa [List.take_length] at this, HI.out.2.2.2⟩
        go_wp2_with fail
        go_meet
        exact ⟨s, ws0.length, rfl, rfl, HE⟩

  case rest =>
    obtain ⟨s1, i1, rfl, rfl, HQ1⟩ := hcut
    clear HSW
    have HSW : Hid (s1 ≤ 281474976710656) := Lib.hid (by have := HQ1.out.1; have := HSV.out; omega)
    go_upto_block 2 with fail
    go_cut [11, 13] from 61 to 87 (fun n x wx => ∃ (s i : Nat), n = .int .i64 (s : Int) ∧ x = .int .i64 (i : Int) ∧ Hid (s ≤ s1 + 16080402 ∧ s1 ≤ s ∧ (ws1.length ≤ 200 → ∀ a ∈ ws1, mn a.k.size + mn a.v.size ≤ s) ∧ Turn No w wx))
    case first =>
      go_wp2_with fail
      go_loopw [11, 13] (fun n x wr => ∃ (i s : Nat), i ≤ ws1.length ∧ i ≤ 201 ∧ x = .int .i64 (i : Int) ∧ n = .int .i64 (s : Int) ∧ Hid (s ≤ s1 + i * 80002 ∧ s1 ≤ s ∧ (∀ a ∈ ws1.take i, mn a.k.size + mn a.v.size ≤ s) ∧ Turn No w wr)) (fun n x _ => 302 - (RowKit.intOf x).toNat)
      case atStart => exact ⟨0, s1, Nat.zero_le _, Nat.zero_le _, rfl, rfl, Lib.hid ⟨by omega, Nat.le_refl _, by simp, HQ1.out.2.2.2⟩⟩
      case round =>
        obtain ⟨i, s, hi, hi3, rfl, rfl, HI⟩ := hrel
        by_cases hlt : i < ws1.length
        · have q2 : (i : Int) < (ws1.length : Int) := by omega
          by_cases h3 : i ≤ 200
          · have q3 : (i : Int) ≤ 200 := by omega
            obtain ⟨a, ha⟩ : ∃ t, ws1[i]? = some t := ⟨ws1[i], List.getElem?_eq_getElem hlt⟩
            obtain ⟨b, o, hA, hc0⟩ := HR.out.2.1.wx ha
            have HS0 := Lib.hid hc0
            obtain ⟨c0, c1, c2⟩ := hc0 wr HI.out.2.2.2
            have HT : Hid (∀ x ∈ ws1.take (i + 1), mn x.k.size + mn x.v.size ≤ s + mn a.k.size + mn a.v.size) := Lib.hid fun x hx => by
              rw [List.take_add_one, ha] at hx
              rcases List.mem_append.1 hx with h1 | h1
              · have := HI.out.2.2.1 x h1; omega
              · simp at h1
                subst h1
                omega
            have HZ := Lib.hid (mn_sumB s a.k.size a.v.size (by have := HI.out.1; have := HSW.out; omega))
            have HS1 : Hid (s + mn a.k.size + mn a.v.size ≤ s1 + (i + 1) * 80002 ∧ s1 ≤ s + mn a.k.size + mn a.v.size) := Lib.hid ⟨by have := mn_le a.k.size; have := mn_le a.v.size; have := HI.out.1; omega, by have := HI.out.2.1; omega⟩
            subst hA
            obtain ⟨k, v, gg⟩ := a
            simp only at c0 c1 c2 HS0 HZ HT HS1
            have q1 : (0 : Int) ≤ (i : Int) := by omega
            have HJ : Hid (i + 1 ≤ ws1.length ∧ i + 1 ≤ 201) := Lib.hid ⟨hlt, by omega⟩
            have HJm : Hid (302 - (RowKit.intOf (.int .i64 ((i + 1 : Nat) : Int))).toNat < 302 - (RowKit.intOf (.int .i64 (i : Int))).toNat) := Lib.hid (by simp [RowKit.intOf]; omega)
            have hi201 : i ≤ 201 := hi3
            clear ha c2 hlt h3 hi hi3
            go_upto_region 11 with fail
            go_region_held3 (fun W => W.cell? ⟨b, o + i * 3, none⟩ = some (.string k) ∧ W.cell? ⟨b, o + i * 3 + 1, none⟩ = some (.string v)) (exact ⟨(HS0.out _ (HI.out.2.2.2.trans (by first | exact (Turn.refl No _).drewN _ | exact (Turn.refl No _).drew | exact Turn.refl No _))).1, (HS0.out _ (HI.out.2.2.2.trans (by first | exact (Turn.refl No _).drewN _ | exact (Turn.refl No _).drew | exact Turn.refl No _))).2.1⟩) (first | fail)
            all_goals rw [HZ.out]
            all_goals go_wp2_with fail
            all_goals rw [show (i : Int) + 1 = ((i + 1 : Nat) : Int) by omega]
            all_goals exact ⟨⟨i + 1, s + mn k.size + mn v.size, HJ.out.1, HJ.out.2, rfl, rfl, Lib.hid ⟨HS1.out.1, HS1.out.2, HT.out, HI.out.2.2.2.trans (by first | exact (Turn.refl No _).drewN _ | exact (Turn.refl No _).drew | exact Turn.refl No _)⟩⟩, HJm.out⟩
          · have q3 : ¬ (i : Int) ≤ 200 := by omega
            have HE : Hid (s ≤ s1 + 16080402 ∧ s1 ≤ s ∧ (ws1.length ≤ 200 → ∀ a ∈ ws1, mn a.k.size + mn a.v.size ≤ s) ∧ Turn No w wr) := Lib.hid ⟨by have := HI.out.1; omega, HI.out.2.1, fun h => by omega, HI.out.2.2.2⟩
            go_wp2_with fail
            go_meet
            exact ⟨s, i, rfl, rfl, HE⟩
        · obtain rfl : i = ws1.length := by omega
          have q2 : ¬ (ws1.length : Int) < (ws1.length : Int) := by omega
          have HE : Hid (s ≤ s1 + 16080402 ∧ s1 ≤ s ∧ (ws1.length ≤ 200 → ∀ a ∈ ws1, mn a.k.size + mn a.v.size ≤ s) ∧ Turn No w wr) := Lib.hid ⟨by have := HI.out.1; omega, HI.out.2.1, fun _ => by have := HI.out.2.2.1; rwa [List.take_length] at this, HI.out.2.2.2⟩
          go_wp2_with fail
          go_meet
          exact ⟨s, ws1.length, rfl, rfl, HE⟩

    case rest =>
      obtain ⟨s2, i2, rfl, rfl, HQ2⟩ := hcut
      by_cases hb : ¬ 200 < ws0.length ∧ ¬ 200 < ws1.length ∧ ¬ 40000 < s2
      · have q1 : ¬ (200 : Int) < (ws0.length : Int) := by omega
        have q2 : ¬ (200 : Int) < (ws1.length : Int) := by omega
        have q3 : ¬ (40000 : Int) < (s2 : Int) := by omega
        have HSM : Hid (Smr ws0 ws1 key) := Lib.hid (by
          have e0 := HQ1.out.2.2.1 (by omega)
          have e1 := HQ2.out.2.2.1 (by omega)
          have e2 := HQ1.out.2.1
          have e3 := HQ2.out.2.1
          refine ⟨by omega, by omega, by omega, fun a ha => ?_, fun a ha => ?_⟩
          · have := e0 a ha; unfold mn at this; omega
          · have := e1 a ha; unfold mn at this; omega)
        have HW5 : Hid (Turn No w wc) := Lib.hid HQ2.out.2.2.2
        clear hb HQ1 HQ2 HSW HSV
        go_wp2_with fail
        go_loopw [14] (fun x wr => ∃ (hw : Nat), hw ≤ 2 ∧ x = .int .i64 (hw : Int) ∧ Hid (Turn No w wr)) (fun x _ => 2 - (RowKit.intOf x).toNat)
        case atStart => exact ⟨0, by omega, rfl, HW5⟩
        case round =>
          obtain ⟨hw, hhw, rfl, HI⟩ := hrel
          rename World => wi
          by_cases hlt : hw < 2
          · have q4 : (hw : Int) < 2 := by omega
            have NP := Lib.hid (newPool_any 4096 wi (by omega) (by omega))
            have HLT := Lib.hid hlt
            clear hhw hlt
            go_upto_block 6 with (first
              | (go_at_call 7; refine NP.out.mono ?_; rintro e w3 ⟨pb, gb, fb, rfl, hP, ht, l1, l2, l3⟩; have CN := Lib.hid (tq_new (n := 4096) (by decide) hP (TT.out _ (HI.out.trans ht)) ht l1 l2 l3); clear hP ht l1 l2 l3)
              | (go_at_call 8; (with_reducible refine CN.out.mono ?_); rintro e w4 ⟨I, T0, rfl, rfl, h2, h3, h4, h5, h6⟩; have H4 := Lib.hid (And.intro h2 (And.intro h3 (And.intro h4 (And.intro h5 h6)))); clear h2 h3 h4 h5 h6))
            have lw4 := H4.out.2.2.2.2.size
            have HC0 : Hid (Vc wi I (w4.heap.size + 1) ws0 A0 [7] (some ⟨w4.heap.size, 0, none⟩) 1 4096 ∧ 0 < wi.heap.size) := Lib.hid ⟨⟨H4.out.1, by omega, HR.out.1.no HI.out, by decide, HF0.out.1, HSM.out.n0, by decide, by have := HSM.out.n0; omega⟩, (TT.out _ HI.out).pos⟩
            have HM0 : Hid (∃ N0 root0, Vm wi I (w4.heap.size + 1) [] ws0 A0 k0 [7] (some ⟨w4.heap.size, 0, none⟩) 1 1 4096 0 0 T0 N0 root0 ((w4.alloc (.cells #[.int .u8 7] 5)).alloc (.cells #[.pointer (some ⟨I.tb, 0, none⟩), .slice A0 ws0.length k0, .int .i64 0, .slice (some ⟨w4.heap.size, 0, none⟩) 1 1, .int .i64 0, .bool false] 36))) := Lib.hid (by
              obtain ⟨N0, root0, G0, fr0, p1, p2, p3, p4⟩ := H4.out.2.1
              have t1 : Turn No w4 (w4.alloc (.cells #[.int .u8 7] 5)) := (Turn.refl _ _).alloc _
              have t2 : Turn No w4 ((w4.alloc (.cells #[.int .u8 7] 5)).alloc (.cells #[.pointer (some ⟨I.tb, 0, none⟩), .slice A0 ws0.length k0, .int .i64 0, .slice (some ⟨w4.heap.size, 0, none⟩) 1 1, .int .i64 0, .bool false] 36)) := t1.alloc _
              refine ⟨N0, root0, ⟨⟨G0, fr0, p1.no t2, p2, p3, p4⟩, by rw [H4.out.2.2.2.1]; omega, by rw [H4.out.2.2.1]; rfl, Nat.zero_le _, At.new2 w4 _ _, H4.out.2.2.2.2.trans t2, fun j u hj => ?_⟩⟩
              have hat := (At.new w4 (.cells #[.int .u8 7] 5)).no ((Turn.refl No _).alloc (.cells #[.pointer (some ⟨I.tb, 0, none⟩), .slice A0 ws0.length k0, .int .i64 0, .slice (some ⟨w4.heap.size, 0, none⟩) 1 1, .int .i64 0, .bool false] 36))
              refine ⟨w4.heap.size, 0, rfl, hat.lt, ?_, .inr ⟨_, hat⟩⟩
              rw [Nat.zero_add, hat.cell]
              simpa using hj)
            obtain ⟨xb, hxb⟩ : ∃ x, w4.heap.size + 1 = x := ⟨_, rfl⟩
            obtain ⟨SA0, hSA⟩ : ∃ x, (some ⟨w4.heap.size, 0, none⟩ : Option Addr) = x := ⟨_, rfl⟩
            rw [hxb] at HC0 HM0 ⊢
            rw [hSA] at HC0 HM0 ⊢
            generalize ((w4.alloc (.cells #[.int .u8 7] 5)).alloc (.cells #[.pointer (some ⟨I.tb, 0, none⟩), .slice A0 ws0.length k0, .int .i64 0, .slice SA0 1 1, .int .i64 0, .bool false] 36)) = w6 at HM0 ⊢
            clear lw4 hxb hSA
            go_wp2_with fail
            obtain ⟨N0, root0, hm0⟩ := HM0.out
            have HM0 := Lib.hid hm0
            clear hm0
            go_loopg [] (ws0.length) (fun kk wr => ∃ (i n : Nat) (T : List Lvl) (N : Nat → Option Ent) (root : Hn), kk + i = ws0.length ∧ Hid (Vm wi I xb [] ws0 A0 k0 [7] SA0 1 1 4096 i n T N root wr))
            case atStart => exact ⟨0, 0, T0, N0, root0, rfl, HM0⟩
            case round =>
              obtain ⟨i, n, T, N, root, hki, HX⟩ := hrel
              have hy := HX.out.y
              have y2 := hy.cell 2
              have y4 := hy.cell 4
              have f4 := hy.thawed 4
              simp [ycs] at y2 y4
              have ly := hy.lt
              by_cases hlt : i < ws0.length
              · have q5 : (i : Int) < (ws0.length : Int) := by omega
                obtain ⟨v1, v2⟩ := Vm.tick HC0.out.1 HC0.out.2 HX.out 0
                have CV := Lib.hid (visit_any HC0.out.1 HC0.out.2 v1 (by omega))
                have HKI := Lib.hid (And.intro hki hlt)
                have e0 : ((0 : Nat) : Int) = 0 := rfl
                rw [e0] at CV
                clear v1 v2 hy hki hlt
                go_wp2_with (go_at_call 9; (with_reducible refine CV.out.mono ?_); rintro e w8 ⟨rfl, i', T', N', root', v3, v4, v5⟩; have HV := Lib.hid (And.intro v3 (v5 7 rfl (by decide) HKI.out.2)); clear v3 v4 v5)
                go_roundg (ws0.length - i')
                case measure => have := HV.out.2; have := HKI.out; omega
                case rel => exact ⟨i', 0 + 1, T', N', root', by have := HV.out.1.le; omega, Lib.hid HV.out.1⟩
              · obtain rfl : i = ws0.length := by have := HX.out.le; omega
                have q5 : ¬ (ws0.length : Int) < (ws0.length : Int) := by omega
                clear hy hki hlt
                go_wp2_with fail
                rename World => w7
                have HX7 := HX
                go_loopw [20, 21] (fun pr x wr => ∃ (i : Nat) (B : Option Addr) (c : Nat), i ≤ ws0.length ∧ pr = .slice B (cur [] ws0 i).length c ∧ x = .int .i64 (i : Int) ∧ Hid (Row wr B (pcs (cur [] ws0 i)) ∧ (∀ g, ablk B = some g → ∃ cc, At wr g (.cells cc 95 (0, 0))) ∧ Turn No w7 wr)) (fun pr x _ => ws0.length - (RowKit.intOf x).toNat)
                case atStart => exact ⟨0, none, 0, Nat.zero_le _, rfl, rfl, Lib.hid ⟨Row.nil _ _, (fun g h => by cases h), Turn.refl _ _⟩⟩
                case round =>
                  obtain ⟨i, B, c, hi, rfl, rfl, HI5⟩ := hrel
                  have hn200 : ws0.length ≤ 200 := HSM.out.n0
                  by_cases hlt : i < ws0.length
                  · have q6 : (i : Int) < (ws0.length : Int) := by omega
                    have q7 : (0 : Int) ≤ (i : Int) := by omega
                    obtain ⟨x, hx⟩ : ∃ t, ws0[i]? = some t := ⟨ws0[i], List.getElem?_eq_getElem hlt⟩
                    obtain ⟨b, o, hA, hxc⟩ := HR.out.1.wx hx
                    obtain ⟨x0, x1, x2⟩ := hxc wr ((HI.out.trans HX7.out.tu).trans HI5.out.2.2)
                    have hcl := cur_len ws0 i
                    have CD := Lib.hid (rdone_any (cur [] ws0 i) x.k x.v x.gone B c wr (cur_asc0 ws0 i) HI5.out.1 (cur_fit0 HF0.out.1 i) (HF0.out.1 x (List.mem_of_getElem? hx)).1 (by omega))
                    have HCS : Hid (wrD (cur [] ws0 i) x.k x.v x.gone = cur [] ws0 (i + 1)) := Lib.hid (cur_succ hx).symm
                    have HJw : Hid (Value.int .i64 (wrap64 ((i : Int) + 1)) = Value.int .i64 ((i + 1 : Nat) : Int)) := Lib.hid (by rw [show wrap64 ((i : Int) + 1) = ((i + 1 : Nat) : Int) by simp only [wrap64]; omega])
                    have HJm : Hid (ws0.length - (RowKit.intOf (.int .i64 ((i + 1 : Nat) : Int))).toNat < ws0.length - (RowKit.intOf (.int .i64 (i : Int))).toNat) := Lib.hid (by simp [RowKit.intOf]; omega)
                    have HJ : Hid (i + 1 ≤ ws0.length) := Lib.hid hlt
                    rw [HCS.out] at CD
                    subst hA
                    obtain ⟨xk, xv, xg⟩ := x
                    simp only at x0 x1 x2 CD
                    clear hlt hx hxc hcl HCS hi hn200
                    go_wp2_with (go_at_call 10; (with_reducible refine CD.out.mono ?_); rintro e w8 ⟨B', c', rfl, h8⟩; have H8 := Lib.hid h8; clear h8)
                    first | rw [HJw.out] | rw [show (i : Int) + 1 = ((i + 1 : Nat) : Int) by omega]
                    exact ⟨⟨i + 1, B', c', HJ.out, rfl, rfl, Lib.hid ⟨row_of_own H8.out.row, (fun g hg => (own_at H8.out.row hg).2), HI5.out.2.2.trans H8.out.tu⟩⟩, HJm.out⟩
                  · obtain rfl : i = ws0.length := by omega
                    have q6 : ¬ (ws0.length : Int) < (ws0.length : Int) := by omega
                    clear hlt hi hn200
                    obtain ⟨P, hP⟩ : ∃ x, cur [] ws0 ws0.length = x := ⟨_, rfl⟩
                    have HP : Hid (cur [] ws0 ws0.length = P ∧ Asc P ∧ (∀ p ∈ P, Fit p.k) ∧ P.length ≤ 200) := Lib.hid ⟨hP, by rw [← hP]; exact cur_asc0 _ _, by rw [← hP]; exact cur_fit0 HF0.out.1 _, by rw [← hP]; exact Nat.le_trans (cur_len _ _) HSM.out.n0⟩
                    rw [hP] at HI5 ⊢
                    go_upto_region 30 with fail
                    rename World => w8
                    obtain ⟨yb, hyb⟩ : ∃ x, w8.heap.size = x := ⟨_, rfl⟩
                    have HW9 : Hid (∃ W1, w8.alloc (.cells (ycs I ws1 A1 k1 0 S A2 k2 0) 36) = W1 ∧ Vc wi I yb ws1 A1 S A2 (1 + ws0.length) 4096 ∧ Vm wi I yb P ws1 A1 k1 S A2 k2 (1 + ws0.length) 4096 0 0 T N root W1 ∧ Turn No w8 W1 ∧ xb ≠ yb ∧ At W1 xb (.cells (ycs I ws0 A0 k0 ws0.length [7] SA0 1 n) 36 (0, 0))) := Lib.hid (by
                      have t1 : Turn No w8 (w8.alloc (.cells (ycs I ws1 A1 k1 0 S A2 k2 0) 36)) := (Turn.refl _ _).alloc _
                      have t2 := HI5.out.2.2.trans t1
                      have tw : Turn No wi (w8.alloc (.cells (ycs I ws1 A1 k1 0 S A2 k2 0) 36)) := HX7.out.tu.trans t2
                      obtain ⟨G0, fr0, p1, p2, p3, p4⟩ := HX7.out.tq
                      have hxl := (HX7.out.y.no HI5.out.2.2).lt
                      refine ⟨_, rfl, ⟨H4.out.1, ?_, HR.out.2.1.no HI.out, HR.out.2.2.2.2.1, HF0.out.2, HSM.out.n1, HR.out.2.2.2.1, ?_⟩, ⟨⟨G0, fr0, p1.no t2, p2, p3, p4⟩, HX7.out.lv, ?_, Nat.zero_le _, ?_, tw, fun j u hj => ?_⟩, t1, by omega, HX7.out.y.no t2⟩
                      · have := (HX7.out.tu.trans HI5.out.2.2).size
                        omega
                      · have := HSM.out.n0
                        have := HSM.out.n1
                        omega
                      · rw [HX7.out.fl, HP.out.1]
                        unfold cur
                        simp
                      · rw [← hyb]
                        exact At.new w8 _
                      · obtain ⟨b, o, hA, hb, hc⟩ := HR.out.2.2.1 j u hj
                        have t3 := HI.out.trans tw
                        exact ⟨b, o, hA, Nat.lt_of_lt_of_le hb t3.size, (World.cell?_of_block (w := w) (t3.block b hb (fun h => h))).trans hc, .inl (Nat.lt_of_lt_of_le hb HI.out.size)⟩)
                    obtain ⟨W1, hW1, hvc, hvm, ht81, hxy, hxat⟩ := HW9.out
                    have HY := Lib.hid (And.intro hvc (And.intro hvm (And.intro ht81 (And.intro hxy hxat))))
                    have HZ0 : Hid (0 < wi.heap.size) := Lib.hid (TT.out _ HI.out).pos
                    have HFL : Hid (flatT T = cur P ws1 0) := Lib.hid hvm.fl
                    unfold ycs at hW1
                    have e0 : ((0 : Nat) : Int) = 0 := rfl
                    rw [e0] at hW1
                    clear hvc hvm ht81 hxy hxat HW9 hP e0
                    go_upto_region 31 with fail
                    (try rw [hW1])
                    (try rw [hyb])
                    clear hW1 hyb
                    have HK : Hid (key.size ≤ 40000) := Lib.hid HSM.out.k
                    have KR : Hid (∀ W, Ty I yb W1 W → Row W B (pcs P) ∧ At W xb (.cells (ycs I ws0 A0 k0 ws0.length [7] SA0 1 n) 36 (0, 0))) := Lib.hid fun W t => by
                      obtain ⟨G0, fr0, p1, _⟩ := HY.out.2.1.tq
                      refine ⟨(HI5.out.1.no HY.out.2.2.1).turn t fun b o hb => ?_, HY.out.2.2.2.2.turn t (not_ty p1 HY.out.2.2.2.2 (by decide) (by decide) (by decide) HY.out.2.2.2.1)⟩
                      obtain ⟨cc, hcc⟩ := HI5.out.2.1 b (by rw [hb]; rfl)
                      have hcc := hcc.no HY.out.2.2.1
                      refine not_ty p1 hcc (by decide) (by decide) (by decide) fun e => ?_
                      rw [e] at hcc
                      have := hcc.eq HY.out.2.1.y
                      injection this with _ h5
                      exact absurd h5 (by decide)
                    by_cases hh : hw = 0
                    · subst hh
                      have CG := Lib.hid (bget_any (lookc_vis HY.out.1 HZ0.out W1) (a := ⟨T, N, root, 0, 0, Nat.zero_le _, HFL.out⟩) ⟨HY.out.2.1, Ty.no (Turn.refl _ _)⟩ (by show (ws1.length - 0) * 20000 + 10001 ≤ 1000000000 - 0; have := HSM.out.n1; omega) key (fit_of HK.out))
                      go_upto_region 33 with (go_at_call 11; (with_reducible refine CG.out.mono ?_); rintro e w10 ⟨b, h1, ⟨h2, h3⟩, rfl⟩; have HB := Lib.hid (And.intro h1 (And.intro h2 h3)); clear h1 h2 h3)
                      obtain ⟨kr1, kr2⟩ := KR.out w10 HB.out.2.2
                      have KRow := Lib.hid kr1
                      have KXb := Lib.hid kr2
                      obtain ⟨bi, hbi⟩ : ∃ x, b.i = x := ⟨_, rfl⟩
                      have hy := HB.out.2.1.y
                      rw [hbi] at hy
                      have HYB := Lib.hid hy
                      have y2 := hy.cell 2
                      simp [ycs] at y2
                      have ly := hy.lt
                      have HBI : Hid (bi ≤ ws1.length ∧ bi ≤ 200 ∧ bi ≤ k1 ∧ flatT b.T = cur P ws1 bi) := Lib.hid ⟨by rw [← hbi]; exact b.le, by have := b.le; have := HSM.out.n1; omega, by have := b.le; have := HK1.out; omega, by rw [← hbi]; exact b.fl⟩
                      obtain ⟨gv, hgv⟩ : ∃ x, (getL (flatT b.T) key).getD ⟨#[]⟩ = x := ⟨_, rfl⟩
                      obtain ⟨gs, hgs⟩ : ∃ x, (getL (flatT b.T) key).isSome = x := ⟨_, rfl⟩
                      rw [hgv, hgs]
                      have HFB : Hid (foundB (moms P (ws1.take bi) (bi + 1)) key gv gs = true) := Lib.hid (decide_eq_true ⟨cur P (ws1.take bi) bi, moms_last _ _ _, by unfold fndP; rw [cur_take, ← HBI.out.2.2.2, hgv, hgs]; exact ⟨rfl, rfl⟩⟩)
                      have hlt2 : (ws1.take bi).length = bi := by rw [List.length_take]; have := HBI.out.1; omega
                      have CM := Lib.hid (moments_any P (ws1.take bi) B c A1 k1 w10 HP.out.2.1 KRow.out HP.out.2.2.1 (fun x hx => (HF0.out.2 x (List.mem_of_mem_take hx)).1) (xcs_take (HR.out.2.1.no (HI.out.trans HB.out.2.1.tu)) bi) (by have := HP.out.2.2.2; omega) (by rw [hlt2]; have := HBI.out.2.1; omega))
                      rw [hlt2] at CM
                      have HLM : Hid ((moms P (ws1.take bi) (bi + 1)).length = bi + 1 ∧ ∀ m ∈ moms P (ws1.take bi) (bi + 1), m.length ≤ 100000) := Lib.hid ⟨moms_length _ _ _, fun m hm => by have := moms_small hm; have := HP.out.2.2.2; have := HBI.out.2.1; omega⟩
                      have q8 : (0 : Int) ≤ (bi : Int) := by omega
                      have q9 : (bi : Int) ≤ (k1 : Int) := by have := HBI.out.2.2.1; omega
                      have hwb : IntKind.i64.wrap (bi : Int) = (bi : Int) := IntWalk.i64_in _ (by have := HBI.out.2.1; omega)
                      clear hbi hy hgv hgs hlt2 kr1 kr2 CG
                      have KQ : Hid (Tq w10 I b.T 4096) := Lib.hid ⟨b.N, b.root, HB.out.2.1.tq⟩
                      by_cases hk1 : k1 = 0
                      · subst hk1
                        have hb0 : bi = 0 := by have := HBI.out.2.2.1; omega
                        subst hb0
                        go_upto_region 38 with (first
                          | (go_at_call 13; (with_reducible refine CM.out.mono ?_); rintro e w11 ⟨B2, c2, rfl, h11⟩; have H11 := Lib.hid h11; have CF := Lib.hid (found_any (moms P (ws1.take 0) (0 + 1)) key gv gs B2 c2 w11 h11.rws (by rw [HLM.out.1]; decide) HLM.out.2); rw [HLM.out.1, HFB.out] at CF; clear h11)
                          | (go_at_call 12; (with_reducible refine CF.out.mono ?_); rintro e w12 ⟨rfl, h12⟩; have H12 := Lib.hid (H11.out.tu.trans h12); clear h12))
                        have hx5 := (KXb.out.no H12.out).cell 5
                        have lx5 := (KXb.out.no H12.out).lt
                        have hy5 := (HYB.out.no H12.out).cell 5
                        have ly5 := (HYB.out.no H12.out).lt
                        simp [ycs] at hx5 hy5
                        have CK := Lib.hid fun W (t : Turn No w12 W) => tq_check (KQ.out.no (H12.out.trans t))
                        go_wp2_with (go_at_call 16; (with_reducible refine (CK.out _ (Turn.refl _ _)).mono ?_); rintro e w13 ⟨rfl, h13⟩; have H13 := Lib.hid (H12.out.trans h13); clear h13)
                        exact ⟨⟨1, by omega, rfl, Lib.hid ((HI.out.trans HB.out.2.1.tu).trans H13.out)⟩, by simp [RowKit.intOf]⟩
                      · go_upto_region 38 with (first
                            | (go_at_call 13; (with_reducible refine CM.out.mono ?_); rintro e w11 ⟨B2, c2, rfl, h11⟩; have H11 := Lib.hid h11; have CF := Lib.hid (found_any (moms P (ws1.take bi) (bi + 1)) key gv gs B2 c2 w11 h11.rws (by rw [HLM.out.1]; have := HBI.out.2.1; omega) HLM.out.2); rw [HLM.out.1, HFB.out] at CF; clear h11)
                            | (go_at_call 12; (with_reducible refine CF.out.mono ?_); rintro e w12 ⟨rfl, h12⟩; have H12 := Lib.hid (H11.out.tu.trans h12); clear h12))
                        have hx5 := (KXb.out.no H12.out).cell 5
                        have lx5 := (KXb.out.no H12.out).lt
                        have hy5 := (HYB.out.no H12.out).cell 5
                        have ly5 := (HYB.out.no H12.out).lt
                        simp [ycs] at hx5 hy5
                        have CK := Lib.hid fun W (t : Turn No w12 W) => tq_check (KQ.out.no (H12.out.trans t))
                        go_wp2_with (go_at_call 16; (with_reducible refine (CK.out _ (Turn.refl _ _)).mono ?_); rintro e w13 ⟨rfl, h13⟩; have H13 := Lib.hid (H12.out.trans h13); clear h13)
                        exact ⟨⟨1, by omega, rfl, Lib.hid ((HI.out.trans HB.out.2.1.tu).trans H13.out)⟩, by simp [RowKit.intOf]⟩
                    · have hh1 : hw = 1 := by have := HLT.out; omega
                      subst hh1
                      have CG := Lib.hid (bnext_any (lookc_vis HY.out.1 HZ0.out W1) (a := ⟨T, N, root, 0, 0, Nat.zero_le _, HFL.out⟩) ⟨HY.out.2.1, Ty.no (Turn.refl _ _)⟩ (by show (ws1.length - 0) * 20000 + 10001 ≤ 1000000000 - 0; have := HSM.out.n1; omega) key aft (by have := HK.out; omega))
                      go_upto_region 36 with (go_at_call 14; (with_reducible refine CG.out.mono ?_); rintro e w10 ⟨b, r, h1, ⟨h2, h3⟩, hnx, rfl⟩; have HB := Lib.hid (And.intro h1 (And.intro h2 h3)); have HNX := Lib.hid hnx; clear h1 h2 h3 hnx; obtain ⟨rk, rv, rf, hr4, hlp, hlf⟩ := nx_least HNX.out; rw [hr4]; have HLP0 := Lib.hid hlp; have HLF := Lib.hid hlf; clear hr4 hlp hlf)
                      obtain ⟨kr1, kr2⟩ := KR.out w10 HB.out.2.2
                      have KRow := Lib.hid kr1
                      have KXb := Lib.hid kr2
                      obtain ⟨bi, hbi⟩ : ∃ x, b.i = x := ⟨_, rfl⟩
                      have hy := HB.out.2.1.y
                      rw [hbi] at hy
                      have HYB := Lib.hid hy
                      have y2 := hy.cell 2
                      simp [ycs] at y2
                      have ly := hy.lt
                      have HBI : Hid (bi ≤ ws1.length ∧ bi ≤ 200 ∧ bi ≤ k1 ∧ flatT b.T = cur P ws1 bi) := Lib.hid ⟨by rw [← hbi]; exact b.le, by have := b.le; have := HSM.out.n1; omega, by have := b.le; have := HK1.out; omega, by rw [← hbi]; exact b.fl⟩
                      have hlt2 : (ws1.take bi).length = bi := by rw [List.length_take]; have := HBI.out.1; omega
                      have CM := Lib.hid (moments_any P (ws1.take bi) B c A1 k1 w10 HP.out.2.1 KRow.out HP.out.2.2.1 (fun x hx => (HF0.out.2 x (List.mem_of_mem_take hx)).1) (xcs_take (HR.out.2.1.no (HI.out.trans HB.out.2.1.tu)) bi) (by have := HP.out.2.2.2; omega) (by rw [hlt2]; have := HBI.out.2.1; omega))
                      rw [hlt2] at CM
                      have HLM : Hid ((moms P (ws1.take bi) (bi + 1)).length = bi + 1 ∧ ∀ m ∈ moms P (ws1.take bi) (bi + 1), m.length ≤ 100000) := Lib.hid ⟨moms_length _ _ _, fun m hm => by have := moms_small hm; have := HP.out.2.2.2; have := HBI.out.2.1; omega⟩
                      have q8 : (0 : Int) ≤ (bi : Int) := by omega
                      have q9 : (bi : Int) ≤ (k1 : Int) := by have := HBI.out.2.2.1; omega
                      have hwb : IntKind.i64.wrap (bi : Int) = (bi : Int) := IntWalk.i64_in _ (by have := HBI.out.2.1; omega)
                      have HLP : Hid (LeastP (moms P (ws1.take bi) (bi + 1)) (cur P (ws1.take bi) bi) key aft rk rv rf ∧ Fit rk) := Lib.hid (by
                        have := HLP0.out
                        rw [b.fl, hbi] at this
                        rw [cur_take]
                        refine ⟨this, ?_⟩
                        rcases this.1 with h
                        cases rf with
                        | true =>
                          have hm := get_mem (h rfl).1
                          exact cur_fit HP.out.2.2.1 (fun x hx => (HF0.out.2 x hx).1) bi _ hm
                        | false => rw [HLF.out rfl]; unfold Fit; decide)
                      clear hbi hy hlt2 kr1 kr2 CG
                      have KQ : Hid (Tq w10 I b.T 4096) := Lib.hid ⟨b.N, b.root, HB.out.2.1.tq⟩
                      by_cases hk1 : k1 = 0
                      · subst hk1
                        have hb0 : bi = 0 := by have := HBI.out.2.2.1; omega
                        subst hb0
                        go_upto_region 38 with (first
                          | (go_at_call 13; (with_reducible refine CM.out.mono ?_); rintro e w11 ⟨B2, c2, rfl, h11⟩; have H11 := Lib.hid h11; have CF := Lib.hid (least_yes HLP.out.1 (least_any (moms P (ws1.take 0) (0 + 1)) (cur P (ws1.take 0) 0) key aft rk rv rf B2 c2 w11 h11.rws (by rw [HLM.out.1]; exact moms_at _ _ _) (by rw [HLM.out.1]; decide) HLM.out.2 (cur_fit HP.out.2.2.1 (fun x hx => (HF0.out.2 x (List.mem_of_mem_take hx)).1) 0) (fit_of HK.out) HLP.out.2)); rw [HLM.out.1] at CF; clear h11)
                          | (go_at_call 15; (with_reducible refine CF.out.mono ?_); rintro e w12 ⟨rfl, h12⟩; have H12 := Lib.hid (H11.out.tu.trans h12); clear h12))
                        have hx5 := (KXb.out.no H12.out).cell 5
                        have lx5 := (KXb.out.no H12.out).lt
                        have hy5 := (HYB.out.no H12.out).cell 5
                        have ly5 := (HYB.out.no H12.out).lt
                        simp [ycs] at hx5 hy5
                        have CK := Lib.hid fun W (t : Turn No w12 W) => tq_check (KQ.out.no (H12.out.trans t))
                        go_wp2_with (go_at_call 16; (with_reducible refine (CK.out _ (Turn.refl _ _)).mono ?_); rintro e w13 ⟨rfl, h13⟩; have H13 := Lib.hid (H12.out.trans h13); clear h13)
                        exact ⟨⟨2, by omega, rfl, Lib.hid ((HI.out.trans HB.out.2.1.tu).trans H13.out)⟩, by simp [RowKit.intOf]⟩
                      · go_upto_region 38 with (first
                            | (go_at_call 13; (with_reducible refine CM.out.mono ?_); rintro e w11 ⟨B2, c2, rfl, h11⟩; have H11 := Lib.hid h11; have CF := Lib.hid (least_yes HLP.out.1 (least_any (moms P (ws1.take bi) (bi + 1)) (cur P (ws1.take bi) bi) key aft rk rv rf B2 c2 w11 h11.rws (by rw [HLM.out.1]; exact moms_at _ _ _) (by rw [HLM.out.1]; have := HBI.out.2.1; omega) HLM.out.2 (cur_fit HP.out.2.2.1 (fun x hx => (HF0.out.2 x (List.mem_of_mem_take hx)).1) bi) (fit_of HK.out) HLP.out.2)); rw [HLM.out.1] at CF; clear h11)
                            | (go_at_call 15; (with_reducible refine CF.out.mono ?_); rintro e w12 ⟨rfl, h12⟩; have H12 := Lib.hid (H11.out.tu.trans h12); clear h12))
                        have hx5 := (KXb.out.no H12.out).cell 5
                        have lx5 := (KXb.out.no H12.out).lt
                        have hy5 := (HYB.out.no H12.out).cell 5
                        have ly5 := (HYB.out.no H12.out).lt
                        simp [ycs] at hx5 hy5
                        have CK := Lib.hid fun W (t : Turn No w12 W) => tq_check (KQ.out.no (H12.out.trans t))
                        go_wp2_with (go_at_call 16; (with_reducible refine (CK.out _ (Turn.refl _ _)).mono ?_); rintro e w13 ⟨rfl, h13⟩; have H13 := Lib.hid (H12.out.trans h13); clear h13)
                        exact ⟨⟨2, by omega, rfl, Lib.hid ((HI.out.trans HB.out.2.1.tu).trans H13.out)⟩, by simp [RowKit.intOf]⟩
          · obtain rfl : hw = 2 := by omega
            have q4 : ¬ (2 : Int) < 2 := by omega
            go_wp2_with fail
            go_ret
            exact ⟨rfl, HI.out⟩
      · by_cases h1 : (200 : Int) < (ws0.length : Int)
        · go_wp2_with fail
          go_ret
          exact ⟨rfl, HQ2.out.2.2.2⟩
        · by_cases h2 : (200 : Int) < (ws1.length : Int)
          · go_wp2_with fail
            go_ret
            exact ⟨rfl, HQ2.out.2.2.2⟩
          · have h3 : (40000 : Int) < (s2 : Int) := by omega
            go_wp2_with fail
            go_ret
            exact ⟨rfl, HQ2.out.2.2.2⟩
end Go.Proofs.YtfplnobnmgbgoaaDoor
