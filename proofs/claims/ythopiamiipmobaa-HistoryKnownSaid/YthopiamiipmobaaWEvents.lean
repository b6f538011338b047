/-
  Events: the history's events, cloned into a row of its own.
-/
import Derived.Test.YthopiamiipmobaaEvr
import Derived.Deep.MidRow
namespace Go.Proofs.Ythopiamiipmobaa
open Go.RowKit Go.Lib
set_option linter.unusedVariables false
set_option linter.unusedSimpArgs false

theorem events_nil (w : World) : Calls Try.prog 17 #[.pointer none] w fun r w' => r = .returned (.slice none 0 0) ∧ Turn No w w' := by
  go_enter Try.func17, Try.ntmps17
  go_wp2_with fail
  go_ret
  exact ⟨rfl, Turn.refl _ _⟩

/-- One round's store. -/
theorem Lv.store {w w7 : World} {ps : List (List Wr)} {L : List Ev} {lb k : Nat} {l' : List Ev} (h : Lv w w7 ps L lb k l') (hk : k < L.length) :
    ∀ i, i < 13 → ∃ u, w7.cell? ⟨lb, k * 13 + i, none⟩ = some u := by
  obtain ⟨cur, h1, h2, h3⟩ := h.cur
  intro i hi
  refine ⟨cur[k * 13 + i]'(by omega), ?_⟩
  rw [h1.cell, Array.getElem?_eq_getElem]
theorem Lv.thawed {w w7 : World} {ps : List (List Wr)} {L : List Ev} {lb k : Nat} {l' : List Ev} (h : Lv w w7 ps L lb k l') (i : Nat) : w7.frozen? ⟨lb, i, none⟩ = false := by
  obtain ⟨cur, h1, _⟩ := h.cur
  exact h1.thawed i

theorem setCells_puts (g : Nat) : ∀ (vs : List Value) (i : Nat) (w : World), w.setCells g i vs = puts w g i vs
  | [], _, _ => rfl
  | v :: vs, i, w => by rw [World.setCells, puts, setCells_puts g vs]
theorem Lv.put {w w7 : World} {ps : List (List Wr)} {L : List Ev} {lb k : Nat} {l' : List Ev} (h : Lv w w7 ps L lb k l') (hk : k < L.length) (vs : List Value) (hv : vs.length = 13) (h1 : ∀ u ∈ vs, u.oneCell' = true) :
    w7.there lb (k * 13) vs.toArray.size ∧ (Try.prog.info? 34).map (·.size) = some vs.toArray.size ∧ vs.toArray.all (·.oneCell') = true := by
  refine ⟨?_, ?_, by simpa using h1⟩
  · intro j hj
    have hj' : j < 13 := by simpa [hv] using hj
    obtain ⟨u, hu⟩ := h.store hk j hj'
    exact ⟨by rw [hu]; rfl, h.thawed _⟩
  · obtain ⟨i, hi, _, hs, _⟩ := info_parts info34
    rw [hi]
    simp [hs, hv]

set_option maxHeartbeats 4000000 in
theorem events_any {w : World} {Z hb : Nat} {L : List Ev} {ps : List (List Wr)} {X : Nat → Prop} (h : Hs w Z hb L ps X) (hl : L.length ≤ 65536) :
    Calls Try.prog 17 #[.pointer (some ⟨hb, 0, none⟩)] w fun r w' => ∃ l' A c, r = .returned (.slice A L.length c) ∧ Turn No w w' ∧ pl l' = L ∧ Evs w' w.heap.size l' ps A c := by
  obtain ⟨l, A, cap, m, rfl, ht, hx⟩ := h
  rw [pl_length] at hl ⊢
  obtain ⟨i0, hi0, hz0, hz1, hz2⟩ := info_parts info34
  have qm : ∀ W : World, (Instr.makeSlice 22 (.int .i64 (l.length : Int)) (.int .i64 (l.length : Int))).run Try.prog W = .ok (.slice (some ⟨W.heap.size, 0, none⟩) l.length l.length) (W.alloc (.cells (madeCells #[.int .u8 0, .int .i64 0, .int .u8 0, .string ⟨#[]⟩, .string ⟨#[]⟩, .string ⟨#[]⟩, .bool false, .bool false, .slice none 0 0, .int .i64 0, .bool false, .string ⟨#[]⟩, .string ⟨#[]⟩] (l.length * 13)) 34)) := fun W => by
    have := run_make (P := Try.prog) W 22 34 i0 _ Try.underlying22 hi0 hz0 .i64 .i64 (l.length : Int) (l.length : Int) (by omega) (by omega) (by rw [hz2]; omega) (by omega)
    simpa [hz1, Value.cells] using this
  have hL0 : Hid (Lv w (w.alloc (.cells (madeCells #[.int .u8 0, .int .i64 0, .int .u8 0, .string ⟨#[]⟩, .string ⟨#[]⟩, .string ⟨#[]⟩, .bool false, .bool false, .slice none 0 0, .int .i64 0, .bool false, .string ⟨#[]⟩, .string ⟨#[]⟩] (l.length * 13)) 34)) ps (pl l) w.heap.size 0 []) :=
    Lib.hid ⟨(Turn.refl _ _).alloc _, Nat.le_refl _, ⟨_, At.new _ _, by rw [size_madeCells, pl_length], by intro j u hj; simp [ecs] at hj⟩, rfl, by simp [pl], by simpa using Wss.nil _ _⟩
  have HT := Lib.hid ht
  have c0 := ht.at_.cell 0
  have c0' := (ht.at_.no ((Turn.refl No w).alloc (.cells (madeCells #[.int .u8 0, .int .i64 0, .int .u8 0, .string ⟨#[]⟩, .string ⟨#[]⟩, .string ⟨#[]⟩, .bool false, .bool false, .slice none 0 0, .int .i64 0, .bool false, .string ⟨#[]⟩, .string ⟨#[]⟩] (l.length * 13)) 34))).cell 0
  simp only [List.getElem?_toArray, List.getElem?_cons_zero, List.getElem?_cons_succ] at c0 c0'
  have HL := Lib.hid hl
  clear ht hx hl hz0 hz1 hz2 hi0
  go_enter Try.func17, Try.ntmps17
  go_upto_region 4 with (fail)
  generalize (w.alloc (.cells (madeCells #[.int .u8 0, .int .i64 0, .int .u8 0, .string ⟨#[]⟩, .string ⟨#[]⟩, .string ⟨#[]⟩, .bool false, .bool false, .slice none 0 0, .int .i64 0, .bool false, .string ⟨#[]⟩, .string ⟨#[]⟩] (l.length * 13)) 34)) = w1 at hL0 c0' ⊢
  obtain ⟨lb, hlb⟩ : ∃ lb, w.heap.size = lb := ⟨_, rfl⟩
  have HLB := Lib.hid hlb
  rw [hlb] at hL0 ⊢
  clear hlb qm c0
  go_wp2_with fail
  clear c0'
  go_loopw [19] (fun i wr => ∃ (kk : Nat) (l' : List Ev), kk ≤ l.length ∧ i = .int .i64 (kk : Int) ∧ Hid (Lv w wr ps (pl l) lb kk l')) (fun i _ => l.length - (RowKit.intOf i).toNat)
  case atStart => exact ⟨0, [], Nat.zero_le _, rfl, hL0⟩
  case round =>
    obtain ⟨kk, l', hm, rfl, HP⟩ := hrel
    clear hL0
    by_cases hlt : kk < l.length
    · obtain ⟨e, he⟩ : ∃ e, l[kk]? = some e := ⟨l[kk], List.getElem?_eq_getElem hlt⟩
      have hwr := HT.out.no HP.out.tu
      obtain ⟨ws, hws, hwo, hfit⟩ := hwr.wss.get he
      obtain ⟨b, off, hA, hb, hx⟩ := (row_of_own hwr.row).ev he
      have tn : Turn No wr (wr.alloc (.cells e.cs.toArray 34)) := (Turn.refl _ _).alloc _
      obtain ⟨kind, id, ⟨ok, k, v, o, had, aft, A0, len, cap0⟩, ⟨code, found, ak, av⟩⟩ := e
      have CC : Hid (∀ W, Turn No wr W → Calls Try.prog 32 #[.agg #[.int .u8 kind, .int .i64 id, .int .u8 ok, .string k, .string v, .string o, .bool had, .bool aft, .slice A0 len cap0, .int .i64 code, .bool found, .string ak, .string av]] W fun r w' => ∃ B c, r = .returned (.agg #[.int .u8 kind, .int .i64 id, .int .u8 ok, .string k, .string v, .string o, .bool had, .bool aft, .slice B len c, .int .i64 code, .bool found, .string ak, .string av]) ∧ Turn No W w' ∧ w'.ownsRow W.heap.size 53 3 (.slice B len c) len (wcs ws)) :=
        Lib.hid fun W t => clev_any kind id ok k v o had aft A0 len cap0 code found ak av ws hfit.k hfit.v hfit.o hfit.ak hfit.av hfit.wf hfit.n hfit.few W ((row_of_own hwo).turn t fun _ _ _ h => h)
      have HF : Hid ((pl l)[kk]? = some (Ev.pure ⟨kind, id, ⟨ok, k, v, o, had, aft, A0, len, cap0⟩, ⟨code, found, ak, av⟩⟩) ∧ ps[kk]? = some ws ∧ Ev.fit ⟨kind, id, ⟨ok, k, v, o, had, aft, A0, len, cap0⟩, ⟨code, found, ak, av⟩⟩ ws) := Lib.hid ⟨by simp [pl, he], hws, hfit⟩
      have HN : Hid (Lv w (wr.alloc (.cells #[.int .u8 kind, .int .i64 id, .int .u8 ok, .string k, .string v, .string o, .bool had, .bool aft, .slice A0 len cap0, .int .i64 code, .bool found, .string ak, .string av] 34)) ps (pl l) lb kk l' ∧ At (wr.alloc (.cells #[.int .u8 kind, .int .i64 id, .int .u8 ok, .string k, .string v, .string o, .bool had, .bool aft, .slice A0 len cap0, .int .i64 code, .bool found, .string ak, .string av] 34)) wr.heap.size (.cells #[.int .u8 kind, .int .i64 id, .int .u8 ok, .string k, .string v, .string o, .bool had, .bool aft, .slice A0 len cap0, .int .i64 code, .bool found, .string ak, .string av] 34 (0, 0)) ∧ Turn No wr (wr.alloc (.cells #[.int .u8 kind, .int .i64 id, .int .u8 ok, .string k, .string v, .string o, .bool had, .bool aft, .slice A0 len cap0, .int .i64 code, .bool found, .string ak, .string av] 34))) := Lib.hid ⟨HP.out.no tn, At.new _ _, tn⟩
      subst hA
      clear hwr hwo hws hfit he tn HP HT hb
      have x0 : wr.cell? ⟨b, off + kk * 13, none⟩ = some (.int .u8 kind) := hx 0 _ rfl
      have x1 : wr.cell? ⟨b, off + kk * 13 + 1, none⟩ = some (.int .i64 id) := hx 1 _ rfl
      have x2 : wr.cell? ⟨b, off + kk * 13 + 2, none⟩ = some (.int .u8 ok) := hx 2 _ rfl
      have x3 : wr.cell? ⟨b, off + kk * 13 + 3, none⟩ = some (.string k) := hx 3 _ rfl
      have x4 : wr.cell? ⟨b, off + kk * 13 + 4, none⟩ = some (.string v) := hx 4 _ rfl
      have x5 : wr.cell? ⟨b, off + kk * 13 + 5, none⟩ = some (.string o) := hx 5 _ rfl
      have x6 : wr.cell? ⟨b, off + kk * 13 + 6, none⟩ = some (.bool had) := hx 6 _ rfl
      have x7 : wr.cell? ⟨b, off + kk * 13 + 7, none⟩ = some (.bool aft) := hx 7 _ rfl
      have x8 : wr.cell? ⟨b, off + kk * 13 + 8, none⟩ = some (.slice A0 len cap0) := hx 8 _ rfl
      have x9 : wr.cell? ⟨b, off + kk * 13 + 9, none⟩ = some (.int .i64 code) := hx 9 _ rfl
      have x10 : wr.cell? ⟨b, off + kk * 13 + 10, none⟩ = some (.bool found) := hx 10 _ rfl
      have x11 : wr.cell? ⟨b, off + kk * 13 + 11, none⟩ = some (.string ak) := hx 11 _ rfl
      have x12 : wr.cell? ⟨b, off + kk * 13 + 12, none⟩ = some (.string av) := hx 12 _ rfl
      clear hx
      go_upto_region 7 with (fail)
      clear x0 x1 x2 x3 x4 x5 x6 x7 x8 x9 x10 x11 x12
      generalize wr.alloc (.cells #[.int .u8 kind, .int .i64 id, .int .u8 ok, .string k, .string v, .string o, .bool had, .bool aft, .slice A0 len cap0, .int .i64 code, .bool found, .string ak, .string av] 34) = w6 at HN ⊢
      generalize wr.heap.size = g at HN ⊢
      have b0 := HN.out.2.1.cell
      have b1 : w6.cell? ⟨g, 0, none⟩ = some (.int .u8 kind) := b0 0
      have b2 : w6.cell? ⟨g, 1, none⟩ = some (.int .i64 id) := b0 1
      have b3 : w6.cell? ⟨g, 2, none⟩ = some (.int .u8 ok) := b0 2
      have b4 : w6.cell? ⟨g, 3, none⟩ = some (.string k) := b0 3
      have b5 : w6.cell? ⟨g, 4, none⟩ = some (.string v) := b0 4
      have b6 : w6.cell? ⟨g, 5, none⟩ = some (.string o) := b0 5
      have b7 : w6.cell? ⟨g, 6, none⟩ = some (.bool had) := b0 6
      have b8 : w6.cell? ⟨g, 7, none⟩ = some (.bool aft) := b0 7
      have b9 : w6.cell? ⟨g, 8, none⟩ = some (.slice A0 len cap0) := b0 8
      have b10 : w6.cell? ⟨g, 9, none⟩ = some (.int .i64 code) := b0 9
      have b11 : w6.cell? ⟨g, 10, none⟩ = some (.bool found) := b0 10
      have b12 : w6.cell? ⟨g, 11, none⟩ = some (.string ak) := b0 11
      have b13 : w6.cell? ⟨g, 12, none⟩ = some (.string av) := b0 12
      clear b0
      go_upto_region 8 with (first | (refine wpList_store_mid rfl 34 _ _ rfl lb (kk * 13) #[.int .u8 kind, .int .i64 id, .int .u8 ok, .string k, .string v, .string o, .bool had, .bool aft, .slice B len c, .int .i64 code, .bool found, .string ak, .string av] rfl rfl hst.1 hst.2.1 hst.2.2 ?_) | (go_at_call 32; refine (CC.out _ HN.out.2.2).mono ?_; rintro e w7 ⟨B, c, rfl, ht7, ho7⟩; have HT7 := Lib.hid (And.intro ht7 ho7); have hst := (HN.out.1.no ht7).put (by rw [pl_length]; exact hlt) [.int .u8 kind, .int .i64 id, .int .u8 ok, .string k, .string v, .string o, .bool had, .bool aft, .slice B len c, .int .i64 code, .bool found, .string ak, .string av] rfl (one_ev ⟨kind, id, ⟨ok, k, v, o, had, aft, B, len, c⟩, ⟨code, found, ak, av⟩⟩); clear ht7 ho7))
      have HQ : Hid (Lv w (w7.setCells lb (kk * 13) [.int .u8 kind, .int .i64 id, .int .u8 ok, .string k, .string v, .string o, .bool had, .bool aft, .slice B len c, .int .i64 code, .bool found, .string ak, .string av]) ps (pl l) lb (kk + 1) (l' ++ [⟨kind, id, ⟨ok, k, v, o, had, aft, B, len, c⟩, ⟨code, found, ak, av⟩⟩])) := Lib.hid (by
        rw [setCells_puts]
        exact (HN.out.1.no HT7.out.1).step HF.out.1 HF.out.2.1 (own_from HT7.out.2 HN.out.1.tu.size) HF.out.2.2)
      generalize w7.setCells lb (kk * 13) [.int .u8 kind, .int .i64 id, .int .u8 ok, .string k, .string v, .string o, .bool had, .bool aft, .slice B len c, .int .i64 code, .bool found, .string ak, .string av] = w8 at HQ ⊢
      clear HN HT7 HF CC hst b1 b2 b3 b4 b5 b6 b7 b8 b9 b10 b11 b12 b13
      have hlim := HL.out
      go_wp2_with fail
      exact ⟨⟨kk + 1, _, by omega, by go_num, HQ⟩, by simp [RowKit.intOf]; omega⟩
    · obtain rfl : kk = l.length := by omega
      go_wp2_with fail
      go_ret
      have hd := Lv.done (L := pl l) (by rw [pl_length]; exact HP.out) (by rw [pl_length]; exact HT.out.wss.len) (by rw [pl_length]; exact HL.out)
      rw [pl_length] at hd
      exact ⟨l', _, _, rfl, HP.out.tu, hd.2, hd.1⟩
end Go.Proofs.Ythopiamiipmobaa
