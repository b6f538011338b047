/-
  SameOp and Same, of what is the same; sameInts.
-/
import Derived.Test.YthopiamiipmobaaStB
namespace Go.Proofs.Ythopiamiipmobaa
open Go.RowKit Go.Lib
set_option linter.unusedVariables false
set_option linter.unusedSimpArgs false

theorem neq_ans_self (c : Int) (f : Bool) (k v : ByteArray) (w : World) : (binOp .neq 32 (.agg #[.int .i64 c, .bool f, .string k, .string v]) (.agg #[.int .i64 c, .bool f, .string k, .string v])).run Try.prog w = .ok (.bool false) w := by
  rw [neq_ans]; simp

set_option maxHeartbeats 4000000 in
theorem sameop_any (ok : Int) (k v o : ByteArray) (had aft : Bool) (A1 A2 : Option Addr) (len c1 c2 : Nat) (ws : List Wr) (hw : ws.length = len) (hl : len ≤ 100000) (w : World) (hR1 : Row w A1 (wcs ws)) (hR2 : Row w A2 (wcs ws)) :
    Calls Try.prog 25 #[.agg #[.int .u8 ok, .string k, .string v, .string o, .bool had, .bool aft, .slice A1 len c1], .agg #[.int .u8 ok, .string k, .string v, .string o, .bool had, .bool aft, .slice A2 len c2]] w fun r w' => r = .returned (.bool true) ∧ Turn No w w' := by
  have tn : Turn No w ((w.alloc (.cells #[.int .u8 ok, .string k, .string v, .string o, .bool had, .bool aft, .slice A1 len c1] 29)).alloc (.cells #[.int .u8 ok, .string k, .string v, .string o, .bool had, .bool aft, .slice A2 len c2] 29)) := ((Turn.refl _ _).alloc _).alloc _
  have HB : Hid (Turn No w ((w.alloc (.cells #[.int .u8 ok, .string k, .string v, .string o, .bool had, .bool aft, .slice A1 len c1] 29)).alloc (.cells #[.int .u8 ok, .string k, .string v, .string o, .bool had, .bool aft, .slice A2 len c2] 29)) ∧ At ((w.alloc (.cells #[.int .u8 ok, .string k, .string v, .string o, .bool had, .bool aft, .slice A1 len c1] 29)).alloc (.cells #[.int .u8 ok, .string k, .string v, .string o, .bool had, .bool aft, .slice A2 len c2] 29)) w.heap.size (.cells #[.int .u8 ok, .string k, .string v, .string o, .bool had, .bool aft, .slice A1 len c1] 29 (0, 0)) ∧ At ((w.alloc (.cells #[.int .u8 ok, .string k, .string v, .string o, .bool had, .bool aft, .slice A1 len c1] 29)).alloc (.cells #[.int .u8 ok, .string k, .string v, .string o, .bool had, .bool aft, .slice A2 len c2] 29)) (w.heap.size + 1) (.cells #[.int .u8 ok, .string k, .string v, .string o, .bool had, .bool aft, .slice A2 len c2] 29 (0, 0)) ∧ Row ((w.alloc (.cells #[.int .u8 ok, .string k, .string v, .string o, .bool had, .bool aft, .slice A1 len c1] 29)).alloc (.cells #[.int .u8 ok, .string k, .string v, .string o, .bool had, .bool aft, .slice A2 len c2] 29)) A1 (wcs ws) ∧ Row ((w.alloc (.cells #[.int .u8 ok, .string k, .string v, .string o, .bool had, .bool aft, .slice A1 len c1] 29)).alloc (.cells #[.int .u8 ok, .string k, .string v, .string o, .bool had, .bool aft, .slice A2 len c2] 29)) A2 (wcs ws)) :=
    Lib.hid ⟨tn, (At.new _ _).no ((Turn.refl _ _).alloc _), by simpa using At.new (w.alloc (.cells #[.int .u8 ok, .string k, .string v, .string o, .bool had, .bool aft, .slice A1 len c1] 29)) (.cells #[.int .u8 ok, .string k, .string v, .string o, .bool had, .bool aft, .slice A2 len c2] 29), hR1.turn tn fun _ _ _ h => h, hR2.turn tn fun _ _ _ h => h⟩
  clear hR1 hR2 tn
  go_enter Try.func25, Try.ntmps25
  go_upto_region 1 with fail
  generalize (w.alloc (.cells #[.int .u8 ok, .string k, .string v, .string o, .bool had, .bool aft, .slice A1 len c1] 29)).alloc (.cells #[.int .u8 ok, .string k, .string v, .string o, .bool had, .bool aft, .slice A2 len c2] 29) = w1 at HB ⊢
  generalize w.heap.size = g1 at HB ⊢
  obtain ⟨g2, hg2⟩ : ∃ g2, g1 + 1 = g2 := ⟨_, rfl⟩
  rw [hg2] at HB ⊢
  clear hg2
  have x0 : w1.cell? ⟨g1, 0, none⟩ = some (.int .u8 ok) := HB.out.2.1.cell 0
  have x1 : w1.cell? ⟨g1, 1, none⟩ = some (.string k) := HB.out.2.1.cell 1
  have x2 : w1.cell? ⟨g1, 2, none⟩ = some (.string v) := HB.out.2.1.cell 2
  have x3 : w1.cell? ⟨g1, 3, none⟩ = some (.string o) := HB.out.2.1.cell 3
  have x4 : w1.cell? ⟨g1, 4, none⟩ = some (.bool had) := HB.out.2.1.cell 4
  have x5 : w1.cell? ⟨g1, 5, none⟩ = some (.bool aft) := HB.out.2.1.cell 5
  have x6 : w1.cell? ⟨g1, 6, none⟩ = some (.slice A1 len c1) := HB.out.2.1.cell 6
  have y0 : w1.cell? ⟨g2, 0, none⟩ = some (.int .u8 ok) := HB.out.2.2.1.cell 0
  have y1 : w1.cell? ⟨g2, 1, none⟩ = some (.string k) := HB.out.2.2.1.cell 1
  have y2 : w1.cell? ⟨g2, 2, none⟩ = some (.string v) := HB.out.2.2.1.cell 2
  have y3 : w1.cell? ⟨g2, 3, none⟩ = some (.string o) := HB.out.2.2.1.cell 3
  have y4 : w1.cell? ⟨g2, 4, none⟩ = some (.bool had) := HB.out.2.2.1.cell 4
  have y5 : w1.cell? ⟨g2, 5, none⟩ = some (.bool aft) := HB.out.2.2.1.cell 5
  have y6 : w1.cell? ⟨g2, 6, none⟩ = some (.slice A2 len c2) := HB.out.2.2.1.cell 6
  go_wp2_with fail
  clear x0 x1 x2 x3 x4 x5 y0 y1 y2 y3 y4 y5
  go_loopw [5] (fun i wr => ∃ kk : Nat, kk ≤ len ∧ i = .int .i64 (kk : Int) ∧ Hid (Turn No w1 wr)) (fun i _ => len - (RowKit.intOf i).toNat)
  case atStart => exact ⟨0, Nat.zero_le _, rfl, Lib.hid (Turn.refl _ _)⟩
  case round =>
    obtain ⟨kk, hk, rfl, HP⟩ := hrel
    have x6 : wr.cell? ⟨g1, 6, none⟩ = some (.slice A1 len c1) := (HB.out.2.1.no HP.out).cell 6
    have y6 : wr.cell? ⟨g2, 6, none⟩ = some (.slice A2 len c2) := (HB.out.2.2.1.no HP.out).cell 6
    by_cases hlt : kk < len
    · obtain ⟨x, hx⟩ : ∃ x, ws[kk]? = some x := ⟨ws[kk], List.getElem?_eq_getElem (by omega)⟩
      obtain ⟨b1, off1, hA1, _, h1⟩ := (HB.out.2.2.2.1.turn HP.out fun _ _ _ h => h).wr hx
      obtain ⟨b2, off2, hA2, _, h2⟩ := (HB.out.2.2.2.2.turn HP.out fun _ _ _ h => h).wr hx
      subst hA1 hA2
      have hS0 : wr.drew.cell? ⟨g1, 6, none⟩ = some (.slice (some ⟨b1, off1, none⟩) len c1) ∧ wr.drew.cell? ⟨g2, 6, none⟩ = some (.slice (some ⟨b2, off2, none⟩) len c2) ∧ wr.drew.cell? ⟨b1, off1 + kk * 3, none⟩ = some (.string x.k) ∧ wr.drew.cell? ⟨b1, off1 + kk * 3 + 1, none⟩ = some (.string x.v) ∧ wr.drew.cell? ⟨b1, off1 + kk * 3 + 2, none⟩ = some (.bool x.gone) ∧ wr.drew.cell? ⟨b2, off2 + kk * 3, none⟩ = some (.string x.k) ∧ wr.drew.cell? ⟨b2, off2 + kk * 3 + 1, none⟩ = some (.string x.v) ∧ wr.drew.cell? ⟨b2, off2 + kk * 3 + 2, none⟩ = some (.bool x.gone) := ⟨x6, y6, h1 0 _ rfl, h1 1 _ rfl, h1 2 _ rfl, h2 0 _ rfl, h2 1 _ rfl, h2 2 _ rfl⟩
      have qe := neq_wr x.k x.v x.gone
      clear h1 h2 hx
      go_upto_region 6 with fail
      clear x6 y6
      go_region_held3 (fun W => W.cell? ⟨g1, 6, none⟩ = some (.slice (some ⟨b1, off1, none⟩) len c1) ∧ W.cell? ⟨g2, 6, none⟩ = some (.slice (some ⟨b2, off2, none⟩) len c2) ∧ W.cell? ⟨b1, off1 + kk * 3, none⟩ = some (.string x.k) ∧ W.cell? ⟨b1, off1 + kk * 3 + 1, none⟩ = some (.string x.v) ∧ W.cell? ⟨b1, off1 + kk * 3 + 2, none⟩ = some (.bool x.gone) ∧ W.cell? ⟨b2, off2 + kk * 3, none⟩ = some (.string x.k) ∧ W.cell? ⟨b2, off2 + kk * 3 + 1, none⟩ = some (.string x.v) ∧ W.cell? ⟨b2, off2 + kk * 3 + 2, none⟩ = some (.bool x.gone)) (first | (with_reducible exact hS0)) (fail)
      go_wp2_with fail
      exact ⟨⟨kk + 1, by omega, by go_num, Lib.hid HP.out.drew⟩, by simp [RowKit.intOf]; omega⟩
    · obtain rfl : kk = len := by omega
      go_wp2_with fail
      go_ret
      exact ⟨rfl, HB.out.1.trans HP.out⟩
/-- The same events. -/
theorem on_of_pure {e1 e2 : Ev} (h : e1.pure = e2.pure) : e2 = e1.on e2.op.A e2.op.cap := by
  obtain ⟨kind, id, ⟨ok, k, v, o, had, aft, A, len, cap⟩, an⟩ := e1
  obtain ⟨kind2, id2, ⟨ok2, k2, v2, o2, had2, aft2, A2, len2, cap2⟩, an2⟩ := e2
  simp only [Ev.pure, Ev.on, Ev.mk.injEq, Opx.mk.injEq] at h ⊢
  simp [h]

theorem pl_cells2 {l L : List Ev} (h : pl l = L) {j : Nat} {e : Ev} (he : L[j]? = some e.pure) : ∃ A c, l[j]? = some (e.on A c) := by
  subst h
  simp only [pl, List.getElem?_map, Option.map_eq_some_iff] at he
  obtain ⟨e', he', hp⟩ := he
  exact ⟨e'.op.A, e'.op.cap, by rw [he']; exact congrArg some (on_of_pure hp.symm)⟩
set_option maxHeartbeats 4000000 in
theorem same_any (l1 l2 : List Ev) (ps : List (List Wr)) (B1 B2 : Option Addr) (d1 d2 : Nat) (w : World) (hp : pl l1 = pl l2) (hl : l1.length ≤ 100000) (hR1 : Row w B1 (ecs l1)) (hR2 : Row w B2 (ecs l2)) (hW1 : Rws w l1 ps) (hW2 : Rws w l2 ps) :
    Calls Try.prog 16 #[.slice B1 l1.length d1, .slice B2 l1.length d2] w fun r w' => r = .returned (.bool true) ∧ Turn No w w' := by
  have HL := Lib.hid (And.intro hp (And.intro hR1 (And.intro hR2 (And.intro hW1 hW2))))
  clear hp hR1 hR2 hW1 hW2
  go_enter Try.func16, Try.ntmps16
  go_wp2_with fail
  go_loopw [5] (fun i wr => ∃ kk : Nat, kk ≤ l1.length ∧ i = .int .i64 (kk : Int) ∧ Hid (Turn No w wr)) (fun i _ => l1.length - (RowKit.intOf i).toNat)
  case atStart => exact ⟨0, Nat.zero_le _, rfl, Lib.hid (Turn.refl _ _)⟩
  case round =>
    obtain ⟨kk, hk, rfl, HP⟩ := hrel
    by_cases hlt : kk < l1.length
    · obtain ⟨e, he⟩ : ∃ e, l1[kk]? = some e := ⟨l1[kk], List.getElem?_eq_getElem (by omega)⟩
      have he2 : ∃ A c, l2[kk]? = some (e.on A c) := by
        have h1 : (pl l2)[kk]? = some e.pure := by rw [← HL.out.1]; simp [pl, he]
        exact pl_cells2 rfl h1
      obtain ⟨A2, c2, he2⟩ := he2
      obtain ⟨b1, off1, hA1, _, h1⟩ := (HL.out.2.1.turn HP.out fun _ _ _ h => h).ev he
      obtain ⟨b2, off2, hA2, _, h2⟩ := (HL.out.2.2.1.turn HP.out fun _ _ _ h => h).ev he2
      obtain ⟨ws, hws, hr1, hf⟩ := HL.out.2.2.2.1.at_ he
      have hr2 := (HL.out.2.2.2.2.get kk _ ws he2 hws).1
      obtain ⟨kind, id, ⟨ok, k, v, o, had, aft, A1, len, c1⟩, ⟨code, found, ak, av⟩⟩ := e
      subst hA1 hA2
      have hS0 : wr.drew.cell? ⟨b1, off1 + kk * 13, none⟩ = some (.int .u8 kind) ∧ wr.drew.cell? ⟨b1, off1 + kk * 13 + 1, none⟩ = some (.int .i64 id) ∧ wr.drew.cell? ⟨b1, off1 + kk * 13 + 2, none⟩ = some (.int .u8 ok) ∧ wr.drew.cell? ⟨b1, off1 + kk * 13 + 3, none⟩ = some (.string k) ∧ wr.drew.cell? ⟨b1, off1 + kk * 13 + 4, none⟩ = some (.string v) ∧ wr.drew.cell? ⟨b1, off1 + kk * 13 + 5, none⟩ = some (.string o) ∧ wr.drew.cell? ⟨b1, off1 + kk * 13 + 6, none⟩ = some (.bool had) ∧ wr.drew.cell? ⟨b1, off1 + kk * 13 + 7, none⟩ = some (.bool aft) ∧ wr.drew.cell? ⟨b1, off1 + kk * 13 + 8, none⟩ = some (.slice A1 len c1) ∧ wr.drew.cell? ⟨b1, off1 + kk * 13 + 9, none⟩ = some (.int .i64 code) ∧ wr.drew.cell? ⟨b1, off1 + kk * 13 + 10, none⟩ = some (.bool found) ∧ wr.drew.cell? ⟨b1, off1 + kk * 13 + 11, none⟩ = some (.string ak) ∧ wr.drew.cell? ⟨b1, off1 + kk * 13 + 12, none⟩ = some (.string av) ∧ wr.drew.cell? ⟨b2, off2 + kk * 13, none⟩ = some (.int .u8 kind) ∧ wr.drew.cell? ⟨b2, off2 + kk * 13 + 1, none⟩ = some (.int .i64 id) ∧ wr.drew.cell? ⟨b2, off2 + kk * 13 + 2, none⟩ = some (.int .u8 ok) ∧ wr.drew.cell? ⟨b2, off2 + kk * 13 + 3, none⟩ = some (.string k) ∧ wr.drew.cell? ⟨b2, off2 + kk * 13 + 4, none⟩ = some (.string v) ∧ wr.drew.cell? ⟨b2, off2 + kk * 13 + 5, none⟩ = some (.string o) ∧ wr.drew.cell? ⟨b2, off2 + kk * 13 + 6, none⟩ = some (.bool had) ∧ wr.drew.cell? ⟨b2, off2 + kk * 13 + 7, none⟩ = some (.bool aft) ∧ wr.drew.cell? ⟨b2, off2 + kk * 13 + 8, none⟩ = some (.slice A2 len c2) ∧ wr.drew.cell? ⟨b2, off2 + kk * 13 + 9, none⟩ = some (.int .i64 code) ∧ wr.drew.cell? ⟨b2, off2 + kk * 13 + 10, none⟩ = some (.bool found) ∧ wr.drew.cell? ⟨b2, off2 + kk * 13 + 11, none⟩ = some (.string ak) ∧ wr.drew.cell? ⟨b2, off2 + kk * 13 + 12, none⟩ = some (.string av) := ⟨h1 0 _ rfl, h1 1 _ rfl, h1 2 _ rfl, h1 3 _ rfl, h1 4 _ rfl, h1 5 _ rfl, h1 6 _ rfl, h1 7 _ rfl, h1 8 _ rfl, h1 9 _ rfl, h1 10 _ rfl, h1 11 _ rfl, h1 12 _ rfl, h2 0 _ rfl, h2 1 _ rfl, h2 2 _ rfl, h2 3 _ rfl, h2 4 _ rfl, h2 5 _ rfl, h2 6 _ rfl, h2 7 _ rfl, h2 8 _ rfl, h2 9 _ rfl, h2 10 _ rfl, h2 11 _ rfl, h2 12 _ rfl⟩
      have hS1 : Hid (∀ w2, Turn No wr w2 → w2.cell? ⟨b1, off1 + kk * 13, none⟩ = some (.int .u8 kind) ∧ w2.cell? ⟨b1, off1 + kk * 13 + 1, none⟩ = some (.int .i64 id) ∧ w2.cell? ⟨b1, off1 + kk * 13 + 2, none⟩ = some (.int .u8 ok) ∧ w2.cell? ⟨b1, off1 + kk * 13 + 3, none⟩ = some (.string k) ∧ w2.cell? ⟨b1, off1 + kk * 13 + 4, none⟩ = some (.string v) ∧ w2.cell? ⟨b1, off1 + kk * 13 + 5, none⟩ = some (.string o) ∧ w2.cell? ⟨b1, off1 + kk * 13 + 6, none⟩ = some (.bool had) ∧ w2.cell? ⟨b1, off1 + kk * 13 + 7, none⟩ = some (.bool aft) ∧ w2.cell? ⟨b1, off1 + kk * 13 + 8, none⟩ = some (.slice A1 len c1) ∧ w2.cell? ⟨b1, off1 + kk * 13 + 9, none⟩ = some (.int .i64 code) ∧ w2.cell? ⟨b1, off1 + kk * 13 + 10, none⟩ = some (.bool found) ∧ w2.cell? ⟨b1, off1 + kk * 13 + 11, none⟩ = some (.string ak) ∧ w2.cell? ⟨b1, off1 + kk * 13 + 12, none⟩ = some (.string av) ∧ w2.cell? ⟨b2, off2 + kk * 13, none⟩ = some (.int .u8 kind) ∧ w2.cell? ⟨b2, off2 + kk * 13 + 1, none⟩ = some (.int .i64 id) ∧ w2.cell? ⟨b2, off2 + kk * 13 + 2, none⟩ = some (.int .u8 ok) ∧ w2.cell? ⟨b2, off2 + kk * 13 + 3, none⟩ = some (.string k) ∧ w2.cell? ⟨b2, off2 + kk * 13 + 4, none⟩ = some (.string v) ∧ w2.cell? ⟨b2, off2 + kk * 13 + 5, none⟩ = some (.string o) ∧ w2.cell? ⟨b2, off2 + kk * 13 + 6, none⟩ = some (.bool had) ∧ w2.cell? ⟨b2, off2 + kk * 13 + 7, none⟩ = some (.bool aft) ∧ w2.cell? ⟨b2, off2 + kk * 13 + 8, none⟩ = some (.slice A2 len c2) ∧ w2.cell? ⟨b2, off2 + kk * 13 + 9, none⟩ = some (.int .i64 code) ∧ w2.cell? ⟨b2, off2 + kk * 13 + 10, none⟩ = some (.bool found) ∧ w2.cell? ⟨b2, off2 + kk * 13 + 11, none⟩ = some (.string ak) ∧ w2.cell? ⟨b2, off2 + kk * 13 + 12, none⟩ = some (.string av)) := Lib.hid fun w2 t => by
        obtain ⟨b1', off1', e1, _, h1⟩ := (HL.out.2.1.turn (HP.out.trans t) fun _ _ _ h => h).ev he
        obtain ⟨b2', off2', e2, _, h2⟩ := (HL.out.2.2.1.turn (HP.out.trans t) fun _ _ _ h => h).ev he2
        injection e1 with e1; injection e1 with e3 e4
        injection e2 with e2; injection e2 with e5 e6
        subst e3 e4 e5 e6
        exact ⟨h1 0 _ rfl, h1 1 _ rfl, h1 2 _ rfl, h1 3 _ rfl, h1 4 _ rfl, h1 5 _ rfl, h1 6 _ rfl, h1 7 _ rfl, h1 8 _ rfl, h1 9 _ rfl, h1 10 _ rfl, h1 11 _ rfl, h1 12 _ rfl, h2 0 _ rfl, h2 1 _ rfl, h2 2 _ rfl, h2 3 _ rfl, h2 4 _ rfl, h2 5 _ rfl, h2 6 _ rfl, h2 7 _ rfl, h2 8 _ rfl, h2 9 _ rfl, h2 10 _ rfl, h2 11 _ rfl, h2 12 _ rfl⟩
      have CS : Hid (∀ W, Turn No w W → Calls Try.prog 25 #[.agg #[.int .u8 ok, .string k, .string v, .string o, .bool had, .bool aft, .slice A1 len c1], .agg #[.int .u8 ok, .string k, .string v, .string o, .bool had, .bool aft, .slice A2 len c2]] W fun r w' => r = .returned (.bool true) ∧ Turn No W w') := Lib.hid fun W t => sameop_any ok k v o had aft A1 A2 len c1 c2 ws hf.n hf.few W (hr1.turn t fun _ _ _ h => h) (hr2.turn t fun _ _ _ h => h)
      have qe := neq_ans_self code found ak av
      clear h1 h2 he he2 hws hr1 hr2 hf
      go_upto_region 6 with fail
      go_region_held3 (fun W => W.cell? ⟨b1, off1 + kk * 13, none⟩ = some (.int .u8 kind) ∧ W.cell? ⟨b1, off1 + kk * 13 + 1, none⟩ = some (.int .i64 id) ∧ W.cell? ⟨b1, off1 + kk * 13 + 2, none⟩ = some (.int .u8 ok) ∧ W.cell? ⟨b1, off1 + kk * 13 + 3, none⟩ = some (.string k) ∧ W.cell? ⟨b1, off1 + kk * 13 + 4, none⟩ = some (.string v) ∧ W.cell? ⟨b1, off1 + kk * 13 + 5, none⟩ = some (.string o) ∧ W.cell? ⟨b1, off1 + kk * 13 + 6, none⟩ = some (.bool had) ∧ W.cell? ⟨b1, off1 + kk * 13 + 7, none⟩ = some (.bool aft) ∧ W.cell? ⟨b1, off1 + kk * 13 + 8, none⟩ = some (.slice A1 len c1) ∧ W.cell? ⟨b1, off1 + kk * 13 + 9, none⟩ = some (.int .i64 code) ∧ W.cell? ⟨b1, off1 + kk * 13 + 10, none⟩ = some (.bool found) ∧ W.cell? ⟨b1, off1 + kk * 13 + 11, none⟩ = some (.string ak) ∧ W.cell? ⟨b1, off1 + kk * 13 + 12, none⟩ = some (.string av) ∧ W.cell? ⟨b2, off2 + kk * 13, none⟩ = some (.int .u8 kind) ∧ W.cell? ⟨b2, off2 + kk * 13 + 1, none⟩ = some (.int .i64 id) ∧ W.cell? ⟨b2, off2 + kk * 13 + 2, none⟩ = some (.int .u8 ok) ∧ W.cell? ⟨b2, off2 + kk * 13 + 3, none⟩ = some (.string k) ∧ W.cell? ⟨b2, off2 + kk * 13 + 4, none⟩ = some (.string v) ∧ W.cell? ⟨b2, off2 + kk * 13 + 5, none⟩ = some (.string o) ∧ W.cell? ⟨b2, off2 + kk * 13 + 6, none⟩ = some (.bool had) ∧ W.cell? ⟨b2, off2 + kk * 13 + 7, none⟩ = some (.bool aft) ∧ W.cell? ⟨b2, off2 + kk * 13 + 8, none⟩ = some (.slice A2 len c2) ∧ W.cell? ⟨b2, off2 + kk * 13 + 9, none⟩ = some (.int .i64 code) ∧ W.cell? ⟨b2, off2 + kk * 13 + 10, none⟩ = some (.bool found) ∧ W.cell? ⟨b2, off2 + kk * 13 + 11, none⟩ = some (.string ak) ∧ W.cell? ⟨b2, off2 + kk * 13 + 12, none⟩ = some (.string av)) (first | (with_reducible exact hS0) | (with_reducible exact hS1.out _ hy.out)) (first | (go_at_call 25; (with_reducible refine (CS.out _ HP.out.drew).mono ?_); rintro e wy ⟨rfl, hy0⟩; have hy := Lib.hid ((Turn.refl No wr).drew.trans hy0); clear hy0))
      go_wp2_with fail
      exact ⟨⟨kk + 1, by omega, by go_num, Lib.hid (HP.out.trans hy.out)⟩, by simp [RowKit.intOf]; omega⟩
    · obtain rfl : kk = l1.length := by omega
      go_wp2_with fail
      go_ret
      exact ⟨rfl, HP.out⟩
end Go.Proofs.Ythopiamiipmobaa
