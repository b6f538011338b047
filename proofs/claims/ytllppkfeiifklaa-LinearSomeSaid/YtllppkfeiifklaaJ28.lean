/-
  SameOp and Same, of what is the same; sameInts.
  Marks, Ahead, Check: the document's own text; sameInts.
-/
import Derived.Test.YtllppkfeiifklaaJ21
import Derived.Test.YtllppkfeiifklaaJ27
namespace Go.Proofs.Ytllppkfeiifklaa
open Go.RowKit Go.Lib
set_option linter.unusedVariables false
set_option maxRecDepth 20000
set_option linter.unusedSimpArgs false

theorem neq_ans_self (c : Int) (f : Bool) (k v : ByteArray) (w : World) : (binOp .neq 38 (.agg #[.int .i64 c, .bool f, .string k, .string v]) (.agg #[.int .i64 c, .bool f, .string k, .string v])).run Try.prog w = .ok (.bool false) w := by
  rw [neq_ansH]; simp

set_option maxHeartbeats 4000000 in
theorem sameop_any (ok : Int) (k v o : ByteArray) (had aft : Bool) (A1 A2 : Option Addr) (len c1 c2 : Nat) (ws : List Wr) (hw : ws.length = len) (hl : len ≤ 100000) (w : World) (hR1 : Row w A1 (wcs ws)) (hR2 : Row w A2 (wcs ws)) :
    Calls Try.prog 15 #[.agg #[.int .u8 ok, .string k, .string v, .string o, .bool had, .bool aft, .slice A1 len c1], .agg #[.int .u8 ok, .string k, .string v, .string o, .bool had, .bool aft, .slice A2 len c2]] w fun r w' => r = .returned (.bool true) ∧ Turn No w w' := by
  have tn : Turn No w ((w.alloc (.cells #[.int .u8 ok, .string k, .string v, .string o, .bool had, .bool aft, .slice A1 len c1] 34)).alloc (.cells #[.int .u8 ok, .string k, .string v, .string o, .bool had, .bool aft, .slice A2 len c2] 34)) := ((Turn.refl _ _).alloc _).alloc _
  have HB : Hid (Turn No w ((w.alloc (.cells #[.int .u8 ok, .string k, .string v, .string o, .bool had, .bool aft, .slice A1 len c1] 34)).alloc (.cells #[.int .u8 ok, .string k, .string v, .string o, .bool had, .bool aft, .slice A2 len c2] 34)) ∧ At ((w.alloc (.cells #[.int .u8 ok, .string k, .string v, .string o, .bool had, .bool aft, .slice A1 len c1] 34)).alloc (.cells #[.int .u8 ok, .string k, .string v, .string o, .bool had, .bool aft, .slice A2 len c2] 34)) w.heap.size (.cells #[.int .u8 ok, .string k, .string v, .string o, .bool had, .bool aft, .slice A1 len c1] 34 (0, 0)) ∧ At ((w.alloc (.cells #[.int .u8 ok, .string k, .string v, .string o, .bool had, .bool aft, .slice A1 len c1] 34)).alloc (.cells #[.int .u8 ok, .string k, .string v, .string o, .bool had, .bool aft, .slice A2 len c2] 34)) (w.heap.size + 1) (.cells #[.int .u8 ok, .string k, .string v, .string o, .bool had, .bool aft, .slice A2 len c2] 34 (0, 0)) ∧ Row ((w.alloc (.cells #[.int .u8 ok, .string k, .string v, .string o, .bool had, .bool aft, .slice A1 len c1] 34)).alloc (.cells #[.int .u8 ok, .string k, .string v, .string o, .bool had, .bool aft, .slice A2 len c2] 34)) A1 (wcs ws) ∧ Row ((w.alloc (.cells #[.int .u8 ok, .string k, .string v, .string o, .bool had, .bool aft, .slice A1 len c1] 34)).alloc (.cells #[.int .u8 ok, .string k, .string v, .string o, .bool had, .bool aft, .slice A2 len c2] 34)) A2 (wcs ws)) :=
    Lib.hid ⟨tn, (At.new _ _).no ((Turn.refl _ _).alloc _), by simpa using At.new (w.alloc (.cells #[.int .u8 ok, .string k, .string v, .string o, .bool had, .bool aft, .slice A1 len c1] 34)) (.cells #[.int .u8 ok, .string k, .string v, .string o, .bool had, .bool aft, .slice A2 len c2] 34), hR1.turn tn fun _ _ _ h => h, hR2.turn tn fun _ _ _ h => h⟩
  clear hR1 hR2 tn
  go_enter Try.func15, Try.ntmps15
  go_upto_region 1 with fail
  generalize (w.alloc (.cells #[.int .u8 ok, .string k, .string v, .string o, .bool had, .bool aft, .slice A1 len c1] 34)).alloc (.cells #[.int .u8 ok, .string k, .string v, .string o, .bool had, .bool aft, .slice A2 len c2] 34) = w1 at HB ⊢
  generalize w.heap.size = g1 at HB ⊢
  obtain ⟨g2, hg2⟩ : ∃ g2, g1 + 1 = g2 := ⟨_, rfl⟩
  rw [hg2] at HB ⊢
  clear hg2
  have x0 : w1.cell? ⟨g1, 0, none⟩ = some (.int .u8 ok) := HB.out.2.1.cell 0
  have x1 : w1.cell? ⟨g1, 1, none⟩ = some (.string k) := HB.out.2.1.cell 1
  have x2 : w1.cell? ⟨g1, 2, none⟩ = some (.string v) := HB.out.2.1.cell 2
  have x3 : w1.cell? ⟨g1, 3, none⟩ = some (.string o) := HB.out.2.1.cell 3
  have x4 : w1.cell? ⟨g1, 4, none⟩ = some (.bool had) := HB.out.2.1.cell 4
  have x5 : w1.cell? ⟨g1, 5, none⟩ = some (.bool aft) := HB.out.2.1.cell 5
  have x6 : w1.cell? ⟨g1, 6, none⟩ = some (.slice A1 len c1) := HB.out.2.1.cell 6
  have y0 : w1.cell? ⟨g2, 0, none⟩ = some (.int .u8 ok) := HB.out.2.2.1.cell 0
  have y1 : w1.cell? ⟨g2, 1, none⟩ = some (.string k) := HB.out.2.2.1.cell 1
  have y2 : w1.cell? ⟨g2, 2, none⟩ = some (.string v) := HB.out.2.2.1.cell 2
  have y3 : w1.cell? ⟨g2, 3, none⟩ = some (.string o) := HB.out.2.2.1.cell 3
  have y4 : w1.cell? ⟨g2, 4, none⟩ = some (.bool had) := HB.out.2.2.1.cell 4
  have y5 : w1.cell? ⟨g2, 5, none⟩ = some (.bool aft) := HB.out.2.2.1.cell 5
  have y6 : w1.cell? ⟨g2, 6, none⟩ = some (.slice A2 len c2) := HB.out.2.2.1.cell 6
  go_wp2_with fail
  clear x0 x1 x2 x3 x4 x5 y0 y1 y2 y3 y4 y5
  go_loopw [5] (fun i wr => ∃ kk : Nat, kk ≤ len ∧ i = .int .i64 (kk : Int) ∧ Hid (Turn No w1 wr)) (fun i _ => len - (RowKit.intOf i).toNat)
  case atStart => exact ⟨0, Nat.zero_le _, rfl, Lib.hid (Turn.refl _ _)⟩
  case round =>
    obtain ⟨kk, hk, rfl, HP⟩ := hrel
    have x6 : wr.cell? ⟨g1, 6, none⟩ = some (.slice A1 len c1) := (HB.out.2.1.no HP.out).cell 6
    have y6 : wr.cell? ⟨g2, 6, none⟩ = some (.slice A2 len c2) := (HB.out.2.2.1.no HP.out).cell 6
    by_cases hlt : kk < len
    · obtain ⟨x, hx⟩ : ∃ x, ws[kk]? = some x := ⟨ws[kk], List.getElem?_eq_getElem (by omega)⟩
      obtain ⟨b1, off1, hA1, _, h1⟩ := (HB.out.2.2.2.1.turn HP.out fun _ _ _ h => h).wrH hx
      obtain ⟨b2, off2, hA2, _, h2⟩ := (HB.out.2.2.2.2.turn HP.out fun _ _ _ h => h).wrH hx
      subst hA1 hA2
      have hS0 : wr.drew.cell? ⟨g1, 6, none⟩ = some (.slice (some ⟨b1, off1, none⟩) len c1) ∧ wr.drew.cell? ⟨g2, 6, none⟩ = some (.slice (some ⟨b2, off2, none⟩) len c2) ∧ wr.drew.cell? ⟨b1, off1 + kk * 3, none⟩ = some (.string x.k) ∧ wr.drew.cell? ⟨b1, off1 + kk * 3 + 1, none⟩ = some (.string x.v) ∧ wr.drew.cell? ⟨b1, off1 + kk * 3 + 2, none⟩ = some (.bool x.gone) ∧ wr.drew.cell? ⟨b2, off2 + kk * 3, none⟩ = some (.string x.k) ∧ wr.drew.cell? ⟨b2, off2 + kk * 3 + 1, none⟩ = some (.string x.v) ∧ wr.drew.cell? ⟨b2, off2 + kk * 3 + 2, none⟩ = some (.bool x.gone) := ⟨x6, y6, h1 0 _ rfl, h1 1 _ rfl, h1 2 _ rfl, h2 0 _ rfl, h2 1 _ rfl, h2 2 _ rfl⟩
      have qe := neq_wr x.k x.v x.gone
      clear h1 h2 hx
      go_upto_region 6 with fail
      clear x6 y6
      go_region_held3 (fun W => W.cell? ⟨g1, 6, none⟩ = some (.slice (some ⟨b1, off1, none⟩) len c1) ∧ W.cell? ⟨g2, 6, none⟩ = some (.slice (some ⟨b2, off2, none⟩) len c2) ∧ W.cell? ⟨b1, off1 + kk * 3, none⟩ = some (.string x.k) ∧ W.cell? ⟨b1, off1 + kk * 3 + 1, none⟩ = some (.string x.v) ∧ W.cell? ⟨b1, off1 + kk * 3 + 2, none⟩ = some (.bool x.gone) ∧ W.cell? ⟨b2, off2 + kk * 3, none⟩ = some (.string x.k) ∧ W.cell? ⟨b2, off2 + kk * 3 + 1, none⟩ = some (.string x.v) ∧ W.cell? ⟨b2, off2 + kk * 3 + 2, none⟩ = some (.bool x.gone)) (first | (with_reducible exact hS0)) (fail)
      go_wp2_with fail
      exact ⟨⟨kk + 1, by omega, by go_num, Lib.hid HP.out.drew⟩, by simp [RowKit.intOf]; omega⟩
    · obtain rfl : kk = len := by omega
      go_wp2_with fail
      go_ret
      exact ⟨rfl, HB.out.1.trans HP.out⟩
/-- The same events. -/
theorem on_of_pure {e1 e2 : Ev} (h : e1.pure = e2.pure) : e2 = e1.on e2.op.A e2.op.cap := by
  obtain ⟨kind, id, ⟨ok, k, v, o, had, aft, A, len, cap⟩, an⟩ := e1
  obtain ⟨kind2, id2, ⟨ok2, k2, v2, o2, had2, aft2, A2, len2, cap2⟩, an2⟩ := e2
  simp only [Ev.pure, Ev.on, Ev.mk.injEq, Opx.mk.injEq] at h ⊢
  simp [h]

theorem pl_cells2 {l L : List Ev} (h : pl l = L) {j : Nat} {e : Ev} (he : L[j]? = some e.pure) : ∃ A c, l[j]? = some (e.on A c) := by
  subst h
  simp only [pl, List.getElem?_map, Option.map_eq_some_iff] at he
  obtain ⟨e', he', hp⟩ := he
  exact ⟨e'.op.A, e'.op.cap, by rw [he']; exact congrArg some (on_of_pure hp.symm)⟩
end Go.Proofs.Ytllppkfeiifklaa
namespace Go.Proofs.Ytllppkfeiifklaa
open Go.RowKit Go.Lib
set_option linter.unusedVariables false
set_option maxRecDepth 20000
set_option linter.unusedSimpArgs false

set_option maxHeartbeats 4000000 in
theorem refmarks_any (l : List Ev) (A : Option Addr) (cap : Nat) (w : World) (hR : Row w A (ecs l)) (hl : l.length ≤ 100000) :
    Calls Try.prog 38 #[.slice A l.length cap] w fun r w' => ∃ B c, r = .returned (.slice B (marks l).length c) ∧ Ints w w' (marks l) B c := by
  have HL := Lib.hid hR
  clear hR
  go_enter Try.func38, Try.ntmps38
  go_wp2_with fail
  go_loopw [3, 4] (fun s i wr => ∃ (kk : Nat) (B : Option Addr) (c : Nat), kk ≤ l.length ∧ i = .int .i64 (kk : Int) ∧ s = .slice B (marks (l.take kk)).length c ∧ Hid (Ints w wr (marks (l.take kk)) B c)) (fun _ i _ => l.length - (RowKit.intOf i).toNat)
  case atStart => exact ⟨0, none, 0, Nat.zero_le _, rfl, rfl, Lib.hid ⟨Turn.refl _ _, World.ownsRow_nil _ _ _ _⟩⟩
  case round =>
    obtain ⟨kk, B, c, hm, rfl, rfl, HP⟩ := hrel
    by_cases hlt : kk < l.length
    · obtain ⟨e, he⟩ : ∃ e, l[kk]? = some e := ⟨l[kk], List.getElem?_eq_getElem hlt⟩
      obtain ⟨b, off, hA, hb, hx⟩ := (HL.out.turn HP.out.tu fun _ _ _ h => h).ev he
      have HE := Lib.hid he
      have hml : (marks (l.take kk)).length ≤ kk := Nat.le_trans (marks_length _) (by rw [List.length_take]; omega)
      have x0 : wr.cell? ⟨b, off + kk * 13, none⟩ = some (.int .u8 e.kind) := hx 0 _ rfl
      have x1 : wr.cell? ⟨b, off + kk * 13 + 1, none⟩ = some (.int .i64 e.id) := hx 1 _ rfl
      subst hA
      clear hx hb he
      by_cases hk : e.kind = 2
      · have hk2 : (e.kind == 2) = true := by simpa using hk
        have hy := marks_yes HE.out hk
        obtain ⟨B2, c2, w8, q, hI⟩ := HP.out.append (by omega) e.id
        have HI := Lib.hid hI
        have HY := Lib.hid hy
        clear hI hy hk
        go_wp2_with (at_builtin; refine wpList_append_run rfl _ _ 65 rfl _ _ _ rfl rfl q ?_)
        refine ⟨⟨kk + 1, B2, c2, by omega, by go_num, ?_, ?_⟩, by simp [RowKit.intOf]; omega⟩
        · rw [HY.out, List.length_append]; rfl
        · rw [HY.out]; exact HI
      · have hk2 : (e.kind == 2) = false := by simpa using hk
        have hy := marks_no HE.out hk
        have HY := Lib.hid hy
        clear hy hk
        go_wp2_with fail
        refine ⟨⟨kk + 1, B, c, by omega, by go_num, ?_, ?_⟩, by simp [RowKit.intOf]; omega⟩
        · rw [HY.out]
        · rw [HY.out]; exact HP
    · obtain rfl : kk = l.length := by omega
      go_wp2_with fail
      go_ret
      rw [List.take_length] at HP
      refine ⟨B, c, ?_, HP.out⟩
      rw [List.take_length]
      rfl
theorem ics_at {m : List Int} {i : Nat} {a : Int} (h : m[i]? = some a) : (ics m)[i]? = some (.int .i64 a) := by simp [ics, h]
theorem ahead_of {l : List Ev} {a b : Int} {i k : Nat} {x y : Ev} (hik : i < k) (hx : l[i]? = some x) (hy : l[k]? = some y) (h3 : isAt 3 a x = true) (h1 : isAt 1 b y = true) : ahead l a b = true := by
  obtain ⟨k3, i3⟩ := isAt_iff.1 h3
  obtain ⟨k1, i1⟩ := isAt_iff.1 h1
  obtain ⟨n, hn⟩ := firstAt_isSome (kind := 3) (id := a) hx k3 i3
  obtain ⟨_, _, _, _, hb⟩ := firstAt_get hn
  have hni : n ≤ i := by
    rcases Nat.lt_or_ge i n with h | h
    · have := hb x (List.mem_of_getElem? (i := i) (by rw [List.getElem?_take, if_pos h]; exact hx))
      rw [h3] at this; cases this
    · exact h
  have hd : (l.drop n)[k - n]? = some y := by rw [List.getElem?_drop, show n + (k - n) = k by omega]; exact hy
  obtain ⟨j, hj⟩ := firstAt_isSome (kind := 1) (id := b) hd k1 i1
  unfold ahead
  rw [hn]
  show (firstAt 1 b (l.drop n)).isSome = true
  rw [hj]; rfl
theorem ahead_none {l : List Ev} {a b : Int} (h : ∀ (i k : Nat) (x y : Ev), i < k → l[i]? = some x → l[k]? = some y → isAt 3 a x = true → isAt 1 b y = true → False) : ahead l a b = false := by
  unfold ahead
  cases hf : firstAt 3 a l with
  | none => rfl
  | some n =>
    obtain ⟨_, x, hx, h3, _⟩ := firstAt_get hf
    show (firstAt 1 b (l.drop n)).isSome = false
    cases hg : firstAt 1 b (l.drop n) with
    | none => rfl
    | some j =>
      obtain ⟨_, y, hy, h1, _⟩ := firstAt_get hg
      rw [List.getElem?_drop] at hy
      exfalso
      rcases Nat.eq_zero_or_pos j with h0 | h0
      · subst h0
        rw [Nat.add_zero, hx] at hy
        injection hy with hy
        subst hy
        have := (isAt_iff.1 h3).1; have := (isAt_iff.1 h1).1; omega
      · exact h n (n + j) x y (by omega) hx hy h3 h1
set_option maxHeartbeats 4000000 in
theorem refahead_any (a b : Int) (l : List Ev) (A : Option Addr) (cap : Nat) (w : World) (hR : Row w A (ecs l)) (hl : l.length ≤ 100000) :
    Calls Try.prog 86 #[.slice A l.length cap, .int .i64 a, .int .i64 b] w fun r w' => r = .returned (.bool (ahead l a b)) ∧ w' = w := by
  have HL := Lib.hid hR
  clear hR
  go_enter Try.func86, Try.ntmps86
  go_wp2_with fail
  go_loopw [7] (fun i wr => ∃ kk : Nat, kk ≤ l.length ∧ i = .int .i64 (kk : Int) ∧ wr = w ∧ Hid (∀ (i k : Nat) (x y : Ev), i < kk → i < k → l[i]? = some x → l[k]? = some y → isAt 3 a x = true → isAt 1 b y = true → False)) (fun i _ => l.length - (RowKit.intOf i).toNat)
  case atStart => exact ⟨0, Nat.zero_le _, rfl, rfl, Lib.hid (fun i k x y h => by omega)⟩
  case round =>
    obtain ⟨kk, hk, rfl, hw, HP⟩ := hrel
    replace hw := hw.symm
    subst hw
    by_cases hlt : kk < l.length
    · obtain ⟨e, he⟩ : ∃ e, l[kk]? = some e := ⟨l[kk], List.getElem?_eq_getElem hlt⟩
      obtain ⟨b0, off, hA, hb0, hx⟩ := HL.out.ev he
      have x0 : w.cell? ⟨b0, off + kk * 13, none⟩ = some (.int .u8 e.kind) := hx 0 _ rfl
      have x1 : w.cell? ⟨b0, off + kk * 13 + 1, none⟩ = some (.int .i64 e.id) := hx 1 _ rfl
      have HE := Lib.hid he
      subst hA
      clear hx hb0 he
      have hno : isAt 3 a e = false → Hid (∀ (i k : Nat) (x y : Ev), i < kk + 1 → i < k → l[i]? = some x → l[k]? = some y → isAt 3 a x = true → isAt 1 b y = true → False) := fun hf => Lib.hid (fun i k x y hi hik hx hy h3 h1 => by
        by_cases hq : i < kk
        · exact HP.out i k x y hq hik hx hy h3 h1
        · obtain rfl : i = kk := by omega
          rw [HE.out] at hx
          injection hx with hx
          subst hx
          rw [hf] at h3; cases h3)
      by_cases h1 : e.kind = 3
      · have q1 : (e.kind != 3) = false := by simpa using h1
        by_cases h2 : e.id = a
        · have q2 : (e.id != a) = false := by simpa using h2
          have hE3 := Lib.hid (isAt_iff.2 ⟨h1, h2⟩ : isAt 3 a e = true)
          clear h1 h2 hno
          go_upto_region 6 with fail
          go_loopw [8] (fun i wr => ∃ k2 : Nat, kk + 1 ≤ k2 ∧ k2 ≤ l.length ∧ i = .int .i64 (k2 : Int) ∧ wr = w ∧ Hid (∀ (j : Nat) (y : Ev), kk < j → j < k2 → l[j]? = some y → isAt 1 b y = false)) (fun i _ => l.length - (RowKit.intOf i).toNat)
          case atStart => exact ⟨kk + 1, Nat.le_refl _, by omega, by go_num, rfl, Lib.hid (fun j y h1 h2 => by omega)⟩
          case round =>
            obtain ⟨k2, hk1, hk2, rfl, hw, HQ⟩ := hrel
            replace hw := hw.symm
            subst hw
            by_cases hlt2 : k2 < l.length
            · obtain ⟨e2, he2⟩ : ∃ e, l[k2]? = some e := ⟨l[k2], List.getElem?_eq_getElem hlt2⟩
              obtain ⟨b2, off2, hA2, _, hx2⟩ := HL.out.ev he2
              injection hA2 with hA2; injection hA2 with e3 e4
              subst e3 e4
              have y0 : w.cell? ⟨b0, off + k2 * 13, none⟩ = some (.int .u8 e2.kind) := hx2 0 _ rfl
              have y1 : w.cell? ⟨b0, off + k2 * 13 + 1, none⟩ = some (.int .i64 e2.id) := hx2 1 _ rfl
              have HE2 := Lib.hid he2
              clear hx2 he2
              have hno2 : isAt 1 b e2 = false → Hid (∀ (j : Nat) (y : Ev), kk < j → j < k2 + 1 → l[j]? = some y → isAt 1 b y = false) := fun hf => Lib.hid (fun j y h1 h2 hy => by
                by_cases hq : j < k2
                · exact HQ.out j y h1 hq hy
                · obtain rfl : j = k2 := by omega
                  rw [HE2.out] at hy
                  injection hy with hy
                  subst hy
                  exact hf)
              by_cases g1 : e2.kind = 1
              · have r1 : (e2.kind == 1) = true := by simpa using g1
                by_cases g2 : e2.id = b
                · have r2 : (e2.id == b) = true := by simpa using g2
                  have hah := ahead_of (by omega : kk < k2) HE.out HE2.out hE3.out (isAt_iff.2 ⟨g1, g2⟩)
                  have HAH := Lib.hid hah
                  clear g1 g2 hno2 hah
                  go_wp2_with fail
                  go_ret
                  rw [HAH.out]
                  exact ⟨rfl, rfl⟩
                · have r2 : (e2.id == b) = false := by simpa using g2
                  have HQ2 := hno2 (by unfold isAt; rw [r1, r2]; rfl)
                  clear g1 g2 hno2
                  go_wp2_with fail
                  exact ⟨⟨k2 + 1, by omega, by omega, by go_num, (by first | rfl | trivial), HQ2⟩, by simp [RowKit.intOf]; omega⟩
              · have r1 : (e2.kind == 1) = false := by simpa using g1
                have HQ2 := hno2 (by unfold isAt; rw [r1]; rfl)
                clear g1 hno2
                go_wp2_with fail
                exact ⟨⟨k2 + 1, by omega, by omega, by go_num, (by first | rfl | trivial), HQ2⟩, by simp [RowKit.intOf]; omega⟩
            · obtain rfl : k2 = l.length := by omega
              have HN : Hid (∀ (i k : Nat) (x y : Ev), i < kk + 1 → i < k → l[i]? = some x → l[k]? = some y → isAt 3 a x = true → isAt 1 b y = true → False) := Lib.hid (fun i k x y hi hik hx hy h3 h1 => by
                by_cases hq : i < kk
                · exact HP.out i k x y hq hik hx hy h3 h1
                · obtain rfl : i = kk := by omega
                  have := HQ.out k y hik (List.getElem?_eq_some_iff.1 hy).1 hy
                  rw [h1] at this; cases this)
              go_wp2_with fail
              exact ⟨⟨kk + 1, by omega, by go_num, (by first | rfl | trivial), HN⟩, by simp [RowKit.intOf]; omega⟩
        · have q2 : (e.id != a) = true := by simpa using h2
          have HN := hno (by unfold isAt; have : (e.id == a) = false := by simpa using h2
                             rw [this]; simp)
          clear h1 h2 hno
          go_wp2_with fail
          exact ⟨⟨kk + 1, by omega, by go_num, (by first | rfl | trivial), HN⟩, by simp [RowKit.intOf]; omega⟩
      · have q1 : (e.kind != 3) = true := by simpa using h1
        have HN := hno (by unfold isAt; have : (e.kind == 3) = false := by simpa using h1
                           rw [this]; simp)
        clear h1 hno
        go_wp2_with fail
        exact ⟨⟨kk + 1, by omega, by go_num, (by first | rfl | trivial), HN⟩, by simp [RowKit.intOf]; omega⟩
    · obtain rfl : kk = l.length := by omega
      go_wp2_with fail
      go_ret
      rw [ahead_none fun i k x y hik hx hy h3 h1 => HP.out i k x y (List.getElem?_eq_some_iff.1 hx).1 hik hx hy h3 h1]
      exact ⟨rfl, rfl⟩

set_option maxHeartbeats 4000000 in
theorem refcheck_any (l : List Ev) (A : Option Addr) (cap : Nat) (w : World) (hR : Row w A (ecs l)) (hl : l.length ≤ 100000) (hcap : l.length ≤ cap) :
    Calls Try.prog 32 #[.slice A l.length cap] w fun r w' => ∃ at_ code, r = .returned (.tuple #[.int .i64 at_, .int .i64 code]) ∧ Checked l at_ code ∧ Turn No w w' := by
  have HL := Lib.hid hR
  clear hR
  go_enter Try.func32, Try.ntmps32
  go_wp2_with fail
  go_loopw [4] (fun i wr => ∃ kk : Nat, kk ≤ l.length ∧ i = .int .i64 (kk : Int) ∧ Hid (Turn No w wr ∧ Right (l.take kk))) (fun i _ => l.length - (RowKit.intOf i).toNat)
  case atStart => exact ⟨0, Nat.zero_le _, rfl, Lib.hid ⟨Turn.refl _ _, by simpa using Right.nil⟩⟩
  case round =>
    obtain ⟨kk, hk, rfl, HP⟩ := hrel
    by_cases hlt : kk < l.length
    · obtain ⟨e, he⟩ : ∃ e, l[kk]? = some e := ⟨l[kk], List.getElem?_eq_getElem hlt⟩
      obtain ⟨b, off, hA, hb, h1⟩ := (HL.out.turn HP.out.1 fun _ _ _ h => h).ev he
      have HE := Lib.hid he
      obtain ⟨kind, id, ⟨ok, k, v, o, had, aft, A0, len, cap0⟩, ⟨code, found, ak, av⟩⟩ := e
      subst hA
      have hS0 : wr.drew.cell? ⟨b, off + kk * 13, none⟩ = some (.int .u8 kind) ∧ wr.drew.cell? ⟨b, off + kk * 13 + 1, none⟩ = some (.int .i64 id) ∧ wr.drew.cell? ⟨b, off + kk * 13 + 2, none⟩ = some (.int .u8 ok) ∧ wr.drew.cell? ⟨b, off + kk * 13 + 3, none⟩ = some (.string k) ∧ wr.drew.cell? ⟨b, off + kk * 13 + 4, none⟩ = some (.string v) ∧ wr.drew.cell? ⟨b, off + kk * 13 + 5, none⟩ = some (.string o) ∧ wr.drew.cell? ⟨b, off + kk * 13 + 6, none⟩ = some (.bool had) ∧ wr.drew.cell? ⟨b, off + kk * 13 + 7, none⟩ = some (.bool aft) ∧ wr.drew.cell? ⟨b, off + kk * 13 + 8, none⟩ = some (.slice A0 len cap0) ∧ wr.drew.cell? ⟨b, off + kk * 13 + 9, none⟩ = some (.int .i64 code) ∧ wr.drew.cell? ⟨b, off + kk * 13 + 10, none⟩ = some (.bool found) ∧ wr.drew.cell? ⟨b, off + kk * 13 + 11, none⟩ = some (.string ak) ∧ wr.drew.cell? ⟨b, off + kk * 13 + 12, none⟩ = some (.string av) := ⟨h1 0 _ rfl, h1 1 _ rfl, h1 2 _ rfl, h1 3 _ rfl, h1 4 _ rfl, h1 5 _ rfl, h1 6 _ rfl, h1 7 _ rfl, h1 8 _ rfl, h1 9 _ rfl, h1 10 _ rfl, h1 11 _ rfl, h1 12 _ rfl⟩
      have hS1 : Hid (∀ w2, Turn No wr w2 → w2.cell? ⟨b, off + kk * 13, none⟩ = some (.int .u8 kind) ∧ w2.cell? ⟨b, off + kk * 13 + 1, none⟩ = some (.int .i64 id) ∧ w2.cell? ⟨b, off + kk * 13 + 2, none⟩ = some (.int .u8 ok) ∧ w2.cell? ⟨b, off + kk * 13 + 3, none⟩ = some (.string k) ∧ w2.cell? ⟨b, off + kk * 13 + 4, none⟩ = some (.string v) ∧ w2.cell? ⟨b, off + kk * 13 + 5, none⟩ = some (.string o) ∧ w2.cell? ⟨b, off + kk * 13 + 6, none⟩ = some (.bool had) ∧ w2.cell? ⟨b, off + kk * 13 + 7, none⟩ = some (.bool aft) ∧ w2.cell? ⟨b, off + kk * 13 + 8, none⟩ = some (.slice A0 len cap0) ∧ w2.cell? ⟨b, off + kk * 13 + 9, none⟩ = some (.int .i64 code) ∧ w2.cell? ⟨b, off + kk * 13 + 10, none⟩ = some (.bool found) ∧ w2.cell? ⟨b, off + kk * 13 + 11, none⟩ = some (.string ak) ∧ w2.cell? ⟨b, off + kk * 13 + 12, none⟩ = some (.string av)) := Lib.hid fun w2 t => by
        obtain ⟨b', off', e1, _, h1⟩ := (HL.out.turn (HP.out.1.trans t) fun _ _ _ h => h).ev he
        injection e1 with e1; injection e1 with e3 e4
        subst e3 e4
        exact ⟨h1 0 _ rfl, h1 1 _ rfl, h1 2 _ rfl, h1 3 _ rfl, h1 4 _ rfl, h1 5 _ rfl, h1 6 _ rfl, h1 7 _ rfl, h1 8 _ rfl, h1 9 _ rfl, h1 10 _ rfl, h1 11 _ rfl, h1 12 _ rfl⟩
      obtain ⟨f, hf⟩ : ∃ f, fits (l.take kk) ⟨kind, id, ⟨ok, k, v, o, had, aft, A0, len, cap0⟩, ⟨code, found, ak, av⟩⟩ = f := ⟨_, rfl⟩
      have CF : Hid (Calls Try.prog 71 #[.slice (some ⟨b, off, none⟩) kk cap, .agg #[.int .u8 kind, .int .i64 id, .int .u8 ok, .string k, .string v, .string o, .bool had, .bool aft, .slice A0 len cap0, .int .i64 code, .bool found, .string ak, .string av]] wr.drew fun r w' => r = .returned (.bool f) ∧ Turn No wr.drew w') := Lib.hid (by
        have h15 := reffits_any (l.take kk) HP.out.2 (some ⟨b, off, none⟩) cap ⟨kind, id, ⟨ok, k, v, o, had, aft, A0, len, cap0⟩, ⟨code, found, ak, av⟩⟩ (by rw [List.length_take]; omega) wr.drew ((HL.out.take kk).turn HP.out.1.drew fun _ _ _ h => h)
        rw [hf, List.length_take, Nat.min_eq_left (Nat.le_of_lt hlt)] at h15
        exact h15)
      have HF := Lib.hid hf
      clear h1 hb he hf
      have hkc : kk ≤ cap := by omega
      go_upto_region 4 with fail
      go_region_held3 (fun W => W.cell? ⟨b, off + kk * 13, none⟩ = some (.int .u8 kind) ∧ W.cell? ⟨b, off + kk * 13 + 1, none⟩ = some (.int .i64 id) ∧ W.cell? ⟨b, off + kk * 13 + 2, none⟩ = some (.int .u8 ok) ∧ W.cell? ⟨b, off + kk * 13 + 3, none⟩ = some (.string k) ∧ W.cell? ⟨b, off + kk * 13 + 4, none⟩ = some (.string v) ∧ W.cell? ⟨b, off + kk * 13 + 5, none⟩ = some (.string o) ∧ W.cell? ⟨b, off + kk * 13 + 6, none⟩ = some (.bool had) ∧ W.cell? ⟨b, off + kk * 13 + 7, none⟩ = some (.bool aft) ∧ W.cell? ⟨b, off + kk * 13 + 8, none⟩ = some (.slice A0 len cap0) ∧ W.cell? ⟨b, off + kk * 13 + 9, none⟩ = some (.int .i64 code) ∧ W.cell? ⟨b, off + kk * 13 + 10, none⟩ = some (.bool found) ∧ W.cell? ⟨b, off + kk * 13 + 11, none⟩ = some (.string ak) ∧ W.cell? ⟨b, off + kk * 13 + 12, none⟩ = some (.string av)) (first | (with_reducible exact hS0) | (with_reducible exact hS1.out _ hy.out)) (first | (go_at_call 71; (refine CF.out.mono ?_); rintro e wy ⟨rfl, hy0⟩; have hy := Lib.hid ((Turn.refl No wr).drew.trans hy0); clear hy0))
      clear hS0 hS1 CF
      cases f with
      | true =>
        have HQ : Hid (Turn No w wy ∧ Right (l.take (kk + 1))) := Lib.hid ⟨HP.out.1.trans hy.out, by rw [take_succ HE.out]; exact .snoc HP.out.2 HF.out⟩
        go_wp2_with fail
        exact ⟨⟨kk + 1, by omega, by go_num, HQ⟩, by simp [RowKit.intOf]; omega⟩
      | false =>
        go_wp2_with fail
        go_ret2
        exact ⟨_, _, rfl, .inr ⟨kk, ⟨HP.out.2, _, HE.out, HF.out⟩, rfl, rfl⟩, HP.out.1.trans hy.out⟩
    · obtain rfl : kk = l.length := by omega
      go_wp2_with fail
      go_ret2
      have hr := HP.out.2
      rw [List.take_length] at hr
      exact ⟨_, _, rfl, .inl ⟨hr, rfl, rfl⟩, HP.out.1⟩
end Go.Proofs.Ytllppkfeiifklaa
