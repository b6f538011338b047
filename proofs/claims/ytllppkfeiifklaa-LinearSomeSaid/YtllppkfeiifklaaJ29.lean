/-
  State: the document's own text.
-/
import Derived.Test.YtllppkfeiifklaaJ28
namespace Go.Proofs.Ytllppkfeiifklaa
open Go.RowKit Go.Lib
set_option linter.unusedVariables false
set_option maxRecDepth 20000
set_option linter.unusedSimpArgs false

theorem cnt_pos {kind id : Int} {l : List Ev} : (0 < cnt kind id l) ↔ (firstAt kind id l).isSome = true := by
  unfold cnt firstAt
  rw [List.length_pos_iff, List.findIdx?_isSome]
  constructor
  · intro h
    obtain ⟨x, hx⟩ := List.exists_mem_of_ne_nil _ h
    obtain ⟨h1, h2⟩ := List.mem_filter.1 hx
    exact List.any_eq_true.2 ⟨x, h1, h2⟩
  · intro h
    obtain ⟨x, h1, h2⟩ := List.any_eq_true.1 h
    exact List.ne_nil_of_mem (List.mem_filter.2 ⟨h1, h2⟩)
theorem drop_consH {l : List Ev} {k : Nat} {e : Ev} (he : l[k]? = some e) : l.drop k = e :: l.drop (k + 1) := by
  obtain ⟨h, rfl⟩ := List.getElem?_eq_some_iff.1 he
  exact List.drop_eq_getElem_cons h
/-- What the loop has found among the events from kk on. -/
def Dn (l : List Ev) (id : Int) (kk : Nat) (o : Opx) : Prop := match firstAt 1 id (l.drop kk) with
  | none => o = op00
  | some n => ∃ e, l[kk + n]? = some e ∧ o = e.op
theorem Dn.yes {l : List Ev} {id : Int} {k : Nat} {e : Ev} (he : l[k]? = some e) (h : isAt 1 id e = true) : Dn l id k e.op := by
  have : firstAt 1 id (l.drop k) = some 0 := by rw [drop_consH he]; unfold firstAt; rw [List.findIdx?_cons, h]; rfl
  unfold Dn
  rw [this]
  exact ⟨e, he, rfl⟩
theorem Dn.not {l : List Ev} {id : Int} {k : Nat} {e : Ev} {o : Opx} (he : l[k]? = some e) (h : isAt 1 id e = false) (hd : Dn l id (k + 1) o) : Dn l id k o := by
  have h1 : firstAt 1 id (l.drop k) = (firstAt 1 id (l.drop (k + 1))).map (· + 1) := by rw [drop_consH he]; unfold firstAt; rw [List.findIdx?_cons, h]; rfl
  unfold Dn at hd ⊢
  rw [h1]
  cases hf : firstAt 1 id (l.drop (k + 1)) with
  | none => rw [hf] at hd; exact hd
  | some n =>
    rw [hf] at hd
    obtain ⟨e', he', ho⟩ := hd
    exact ⟨e', by rw [← he']; show l[k + (n + 1)]? = l[k + 1 + n]?; congr 1; omega, ho⟩

structure Rs (w wr : World) (g4 g5 g7 : Nat) (o : Opx) : Prop where
  tu : Turn No w wr
  o4 : w.heap.size ≤ g4
  o5 : w.heap.size ≤ g5
  o7 : w.heap.size ≤ g7
  b4 : At wr g4 (.cells #[.int .u8 0, .string ⟨#[]⟩, .string ⟨#[]⟩, .string ⟨#[]⟩, .bool false, .bool false, .slice none 0 0] 34 (0, 0))
  b5 : At wr g5 (.cells #[.int .i64 0, .bool false, .string ⟨#[]⟩, .string ⟨#[]⟩] 38 (0, 0))
  b7 : At wr g7 (.cells o.cs.toArray 34 (0, 0))
  n47 : g4 ≠ g7
theorem Rs.no {w wr w2 : World} {g4 g5 g7 : Nat} {o : Opx} (h : Rs w wr g4 g5 g7 o) (t : Turn No wr w2) : Rs w w2 g4 g5 g7 o := ⟨h.tu.trans t, h.o4, h.o5, h.o7, h.b4.no t, h.b5.no t, h.b7.no t, h.n47⟩
theorem Rs.put {w wr : World} {g4 g5 g7 : Nat} {o : Opx} (h : Rs w wr g4 g5 g7 o) (o2 : Opx) : Rs w (wr.setCells g7 0 o2.cs) g4 g5 g7 o2 := by
  rw [setCells_puts]
  have t := turn_puts g7 o2.cs 0 wr
  refine ⟨h.tu.then t fun i hi e => by have := h.o7; omega, h.o4, h.o5, h.o7, h.b4.turn t h.n47, h.b5.turn t (h.b5.ne h.b7 (cells_ne (by decide))), ?_, h.n47⟩
  have := At.puts o2.cs 0 h.b7
  rwa [show cputs o.cs.toArray 0 o2.cs = o2.cs.toArray from cputs7] at this
theorem Rs.there7 {w wr : World} {g4 g5 g7 : Nat} {o : Opx} (h : Rs w wr g4 g5 g7 o) : wr.there g7 0 7 := fun j hj => by
  rw [Nat.zero_add, h.b7.cell]
  exact ⟨by rw [Array.getElem?_eq_getElem (by simpa [Opx.cs] using hj)]; rfl, h.b7.thawed j⟩
/-- The two results are written. -/
theorem Rs.fin {w wr : World} {g4 g5 g7 : Nat} {o : Opx} (h : Rs w wr g4 g5 g7 o) (a : Ans) : Turn No w (puts (puts wr g4 0 o.cs) g5 0 a.cs) ∧ At (puts (puts wr g4 0 o.cs) g5 0 a.cs) g4 (.cells o.cs.toArray 34 (0, 0)) ∧ At (puts (puts wr g4 0 o.cs) g5 0 a.cs) g5 (.cells a.cs.toArray 38 (0, 0)) := by
  have t1 := turn_puts g4 o.cs 0 wr
  have t2 := turn_puts g5 a.cs 0 (puts wr g4 0 o.cs)
  have n1 : g5 ≠ g4 := h.b5.ne h.b4 (cells_ne (by decide))
  refine ⟨(h.tu.then t1 fun i hi e => by have := h.o4; omega).then t2 fun i hi e => by have := h.o5; omega, ?_, ?_⟩
  · have := (At.puts o.cs 0 h.b4).turn t2 n1.symm
    rwa [show cputs #[.int .u8 0, .string ⟨#[]⟩, .string ⟨#[]⟩, .string ⟨#[]⟩, .bool false, .bool false, .slice none 0 0] 0 o.cs = o.cs.toArray from cputs7] at this
  · have := At.puts a.cs 0 (h.b5.turn t1 n1)
    rwa [show cputs #[.int .i64 0, .bool false, .string ⟨#[]⟩, .string ⟨#[]⟩] 0 a.cs = a.cs.toArray from cputs4] at this

theorem drew_or {a b : World} (t : Turn No a.drew b) : Turn No a b := (Turn.refl No a).drew.trans t
set_option maxHeartbeats 8000000 in
set_option maxRecDepth 100000 in
theorem refstate_any (id0 : Int) (l : List Ev) (ps : List (List Wr)) (A : Option Addr) (cap : Nat) (w : World) (hR : Row w A (ecs l)) (hW : Rws w l ps) (hl : l.length ≤ 100000) :
    Calls Try.prog 35 #[.slice A l.length cap, .int .i64 id0] w fun r w' => ∃ o : Opx, r = .returned (.tuple #[o.valH, (stA l id0).valH, .int .i64 (stN l id0)]) ∧ Turn No w w' ∧ o.pure = stO l id0 ∧ Row w' o.A (wcs (stW l ps id0)) := by
  have H0 : Hid (Rs w (((w.alloc (.cells #[.int .u8 0, .string ⟨#[]⟩, .string ⟨#[]⟩, .string ⟨#[]⟩, .bool false, .bool false, .slice none 0 0] 34)).alloc (.cells #[.int .i64 0, .bool false, .string ⟨#[]⟩, .string ⟨#[]⟩] 38)).alloc (.cells #[.int .u8 0, .string ⟨#[]⟩, .string ⟨#[]⟩, .string ⟨#[]⟩, .bool false, .bool false, .slice none 0 0] 34)) w.heap.size (w.heap.size + 1) (w.heap.size + 1 + 1) op00) := Lib.hid
    ⟨(((Turn.refl _ _).alloc _).alloc _).alloc _, Nat.le_refl _, by omega, by omega, (At.new _ _).no (((Turn.refl _ _).alloc _).alloc _), (by simpa using At.new (w.alloc (.cells #[.int .u8 0, .string ⟨#[]⟩, .string ⟨#[]⟩, .string ⟨#[]⟩, .bool false, .bool false, .slice none 0 0] 34)) (.cells #[.int .i64 0, .bool false, .string ⟨#[]⟩, .string ⟨#[]⟩] 38) : At ((w.alloc (.cells #[.int .u8 0, .string ⟨#[]⟩, .string ⟨#[]⟩, .string ⟨#[]⟩, .bool false, .bool false, .slice none 0 0] 34)).alloc (.cells #[.int .i64 0, .bool false, .string ⟨#[]⟩, .string ⟨#[]⟩] 38)) (w.heap.size + 1) _).no ((Turn.refl _ _).alloc _), by simpa [Opx.cs, op00] using At.new ((w.alloc (.cells #[.int .u8 0, .string ⟨#[]⟩, .string ⟨#[]⟩, .string ⟨#[]⟩, .bool false, .bool false, .slice none 0 0] 34)).alloc (.cells #[.int .i64 0, .bool false, .string ⟨#[]⟩, .string ⟨#[]⟩] 38)) (.cells #[.int .u8 0, .string ⟨#[]⟩, .string ⟨#[]⟩, .string ⟨#[]⟩, .bool false, .bool false, .slice none 0 0] 34), by omega⟩
  have HR := Lib.hid (And.intro hR hW)
  clear hR hW
  go_enter Try.func35, Try.ntmps35
  go_upto_region 2 with fail
  generalize ((w.alloc (.cells #[.int .u8 0, .string ⟨#[]⟩, .string ⟨#[]⟩, .string ⟨#[]⟩, .bool false, .bool false, .slice none 0 0] 34)).alloc (.cells #[.int .i64 0, .bool false, .string ⟨#[]⟩, .string ⟨#[]⟩] 38)).alloc (.cells #[.int .u8 0, .string ⟨#[]⟩, .string ⟨#[]⟩, .string ⟨#[]⟩, .bool false, .bool false, .slice none 0 0] 34) = w1 at H0 ⊢
  obtain ⟨g4, hg4⟩ : ∃ g4, w.heap.size = g4 := ⟨_, rfl⟩
  obtain ⟨g5, hg5⟩ : ∃ g5, g4 + 1 = g5 := ⟨_, rfl⟩
  obtain ⟨g7, hg7⟩ : ∃ g7, g5 + 1 = g7 := ⟨_, rfl⟩
  have HG := Lib.hid hg4
  rw [hg4, hg5, hg7] at H0
  rw [hg4, hg5, hg7]
  clear hg4 hg5 hg7
  go_wp2_with fail
  go_loopw [8] (fun i wr => ∃ (kk : Nat) (o : Opx), kk ≤ l.length ∧ i = .int .i64 ((kk : Int) - 1) ∧ Hid (Rs w wr g4 g5 g7 o ∧ Dn l id0 kk o)) (fun i _ => (RowKit.intOf i + 1).toNat)
  case atStart => exact ⟨l.length, op00, Nat.le_refl _, by go_num, Lib.hid ⟨H0.out, by unfold Dn; rw [List.drop_length]; rfl⟩⟩
  case round =>
    obtain ⟨kk, o1, hk, rfl, HP⟩ := hrel
    clear H0
    by_cases hlt : 0 < kk
    · obtain ⟨k1, rfl⟩ : ∃ k1, kk = k1 + 1 := ⟨kk - 1, by omega⟩
      have ei : (((k1 + 1 : Nat) : Int) - 1) = (k1 : Int) := by omega
      rw [ei]
      obtain ⟨e, he⟩ : ∃ e, l[k1]? = some e := ⟨l[k1]'(by omega), List.getElem?_eq_getElem _⟩
      obtain ⟨b, off, hA, hb, hx⟩ := (HR.out.1.turn HP.out.1.tu fun _ _ _ h => h).ev he
      obtain ⟨kind, id, ⟨ok, k, v, o, had, aft, A0, len, cap0⟩, an⟩ := e
      have x0 : wr.cell? ⟨b, off + k1 * 13, none⟩ = some (.int .u8 kind) := hx 0 _ rfl
      have x1 : wr.cell? ⟨b, off + k1 * 13 + 1, none⟩ = some (.int .i64 id) := hx 1 _ rfl
      have hro : wr.rangeAt b (off + k1 * 13 + 2) [.int .u8 ok, .string k, .string v, .string o, .bool had, .bool aft, .slice A0 len cap0] := range_op (e := ⟨kind, id, ⟨ok, k, v, o, had, aft, A0, len, cap0⟩, an⟩) hx
      have HE := Lib.hid he
      have hlk : k1 < l.length := by omega
      subst hA
      clear hx hb he hlt
      by_cases h1 : kind = 1
      · have q1 : (kind == 1) = true := by simpa using h1
        by_cases h2 : id = id0
        · have q2 : (id == id0) = true := by simpa using h2
          have hd := Lib.hid (Dn.yes HE.out (isAt_iff.2 ⟨h1, h2⟩ : isAt 1 id0 ⟨kind, id, ⟨ok, k, v, o, had, aft, A0, len, cap0⟩, an⟩ = true))
          have hth := HP.out.1.there7
          have hone := all_one (vs := [.int .u8 ok, .string k, .string v, .string o, .bool had, .bool aft, .slice A0 len cap0]) (one_op ⟨ok, k, v, o, had, aft, A0, len, cap0⟩)
          have HQ : Hid (Rs w (wr.setCells g7 0 [.int .u8 ok, .string k, .string v, .string o, .bool had, .bool aft, .slice A0 len cap0]) g4 g5 g7 ⟨ok, k, v, o, had, aft, A0, len, cap0⟩) := Lib.hid (HP.out.1.put ⟨ok, k, v, o, had, aft, A0, len, cap0⟩)
          clear h1 h2
          go_upto_region 4 with (first | (refine wpList_load_mid rfl 34 _ rfl b (off + k1 * 13 + 2) rfl [.int .u8 ok, .string k, .string v, .string o, .bool had, .bool aft, .slice A0 len cap0] _ hro Try.underlying34 rfl inf29 ?_) | (refine wpList_store_mid rfl 34 _ _ rfl g7 0 #[.int .u8 ok, .string k, .string v, .string o, .bool had, .bool aft, .slice A0 len cap0] rfl rfl hth inf29 hone ?_))
          generalize wr.setCells g7 0 [.int .u8 ok, .string k, .string v, .string o, .bool had, .bool aft, .slice A0 len cap0] = w6 at HQ ⊢
          clear hth hone hro x0 x1
          go_wp2_with fail
          exact ⟨⟨k1, _, by omega, by go_num, Lib.hid ⟨HQ.out, hd.out⟩⟩, by first | (simp [RowKit.intOf]; done) | (simp [RowKit.intOf]; omega)⟩
        · have q2 : (id == id0) = false := by simpa using h2
          have hd := Lib.hid (Dn.not HE.out (by unfold isAt; rw [show (Ev.kind ⟨kind, id, ⟨ok, k, v, o, had, aft, A0, len, cap0⟩, an⟩ == 1) = true from q1, show (Ev.id ⟨kind, id, ⟨ok, k, v, o, had, aft, A0, len, cap0⟩, an⟩ == id0) = false from q2]; rfl) HP.out.2)
          clear h1 h2 hro
          go_wp2_with fail
          exact ⟨⟨k1, _, by omega, by go_num, Lib.hid ⟨HP.out.1, hd.out⟩⟩, by first | (simp [RowKit.intOf]; done) | (simp [RowKit.intOf]; omega)⟩
      · have q1 : (kind == 1) = false := by simpa using h1
        have hd := Lib.hid (Dn.not HE.out (by unfold isAt; rw [show (Ev.kind ⟨kind, id, ⟨ok, k, v, o, had, aft, A0, len, cap0⟩, an⟩ == 1) = false from q1]; rfl) HP.out.2)
        clear h1 hro
        go_wp2_with fail
        exact ⟨⟨k1, _, by omega, by go_num, Lib.hid ⟨HP.out.1, hd.out⟩⟩, by first | (simp [RowKit.intOf]; done) | (simp [RowKit.intOf]; omega)⟩
    · obtain rfl : kk = 0 := by omega
      have hd := HP.out.2
      unfold Dn at hd
      rw [List.drop_zero] at hd
      have hO : o1.pure = stO l id0 ∧ Row w o1.A (wcs (stW l ps id0)) := by
        cases hf : firstAt 1 id0 l with
        | none =>
          rw [hf] at hd
          obtain ⟨a1, a2⟩ := state_no (ps := ps) hf
          subst hd
          exact ⟨by rw [a1]; rfl, by rw [a2]; exact Row.nil _ _⟩
        | some n =>
          rw [hf] at hd
          obtain ⟨e, he, rfl⟩ := hd
          rw [Nat.zero_add] at he
          obtain ⟨ws, hws, hr, _⟩ := HR.out.2.at_ he
          obtain ⟨a1, a2⟩ := state_of hf he hws
          exact ⟨by rw [a1], by rw [a2]; exact hr⟩
      have HO := Lib.hid hO
      have CC : ∀ W kind, Turn No w W → Calls Try.prog 73 #[.slice A l.length cap, .int .u8 kind, .int .i64 id0] W fun r w' => r = .returned (.int .i64 (cnt kind id0 l : Int)) ∧ w' = W := fun W kind t => count_any kind id0 l A cap W (HR.out.1.turn t fun _ _ _ h => h) hl
      have C1 := Lib.hid (CC wr 1 HP.out.1.tu)
      have C2 := Lib.hid (CC wr 2 HP.out.1.tu)
      have C3 := Lib.hid (CC wr 3 HP.out.1.tu)
      have CA : Hid (∀ W, Turn No w W → Calls Try.prog 74 #[.slice A l.length cap, .int .i64 id0] W fun r w' => r = .returned (stA l id0).valH ∧ Turn No W w') := Lib.hid fun W t => refans_any id0 l A cap W (HR.out.1.turn t fun _ _ _ h => h) hl
      have hs1 := @cnt_pos 1 id0 l
      have hs2 := @cnt_pos 2 id0 l
      have hs3 := @cnt_pos 3 id0 l
      have hN : stN l id0 = if cnt 1 id0 l = 0 then 0 else if cnt 2 id0 l = 0 then 1 else if cnt 3 id0 l = 0 then 2 else 3 := by
        unfold stN
        cases h1 : firstAt 1 id0 l <;> cases h2 : firstAt 2 id0 l <;> cases h3 : firstAt 3 id0 l <;> simp [h1, h2, h3] at hs1 hs2 hs3 <;> (simp only [hs1, hs2, hs3, if_true]; try (repeat (first | rfl | rw [if_neg (by omega)] | rw [if_pos (by omega)])))
      have HN := Lib.hid hN
      clear hs1 hs2 hs3 hN hd hO CC
      obtain ⟨⟨code, found, ak, av⟩, ha⟩ : ∃ a, stA l id0 = a := ⟨_, rfl⟩
      have CA : Hid (∀ W, Turn No w W → Calls Try.prog 74 #[.slice A l.length cap, .int .i64 id0] W fun r w' => r = .returned (.agg #[.int .i64 code, .bool found, .string ak, .string av]) ∧ Turn No W w') := Lib.hid fun W t => by have := CA.out W t; rwa [ha] at this
      have HAA := Lib.hid ha
      clear ha
      obtain ⟨ok, k, v, o, had, aft, A0, len, cap0⟩ := o1
      obtain ⟨n1, hn1⟩ : ∃ n, cnt 1 id0 l = n := ⟨_, rfl⟩
      obtain ⟨n2, hn2⟩ : ∃ n, cnt 2 id0 l = n := ⟨_, rfl⟩
      obtain ⟨n3, hn3⟩ : ∃ n, cnt 3 id0 l = n := ⟨_, rfl⟩
      rw [hn1] at C1
      rw [hn2] at C2
      rw [hn3] at C3
      rw [hn1, hn2, hn3] at HN
      clear hn1 hn2 hn3
      by_cases hc0 : n1 = 0
      · have he0 : decide ((0 : Int) < (n1 : Int)) = false := decide_eq_false (by omega)
        go_upto_region 14 with (first | (go_at_call 73; (with_reducible refine C1.out.mono ?_); rintro e w20 ⟨rfl, hw⟩; replace hw := hw.symm; subst hw) | (go_at_call 73; (with_reducible refine C2.out.mono ?_); rintro e w20 ⟨rfl, hw⟩; replace hw := hw.symm; subst hw) | (go_at_call 73; (with_reducible refine C3.out.mono ?_); rintro e w20 ⟨rfl, hw⟩; replace hw := hw.symm; subst hw))
        clear C1 C2 C3
        have y0 : wr.cell? ⟨g7, 0, none⟩ = some (.int .u8 ok) := HP.out.1.b7.cell 0
        have y1 : wr.cell? ⟨g7, 1, none⟩ = some (.string k) := HP.out.1.b7.cell 1
        have y2 : wr.cell? ⟨g7, 2, none⟩ = some (.string v) := HP.out.1.b7.cell 2
        have y3 : wr.cell? ⟨g7, 3, none⟩ = some (.string o) := HP.out.1.b7.cell 3
        have y4 : wr.cell? ⟨g7, 4, none⟩ = some (.bool had) := HP.out.1.b7.cell 4
        have y5 : wr.cell? ⟨g7, 5, none⟩ = some (.bool aft) := HP.out.1.b7.cell 5
        have y6 : wr.cell? ⟨g7, 6, none⟩ = some (.slice A0 len cap0) := HP.out.1.b7.cell 6
        have n1 := HP.out.1.b5.ne HP.out.1.b4 (cells_ne (by decide))
        have n2 := n1.symm
        have CA1 := Lib.hid (CA.out wr.drew HP.out.1.tu.drew)
        have CA1 := Lib.hid (CA.out wr.drew HP.out.1.tu.drew)
        go_region_with (go_at_call 74; (refine CA1.out.mono ?_); rintro e w9 ⟨rfl, ht⟩; have H9 := Lib.hid (HP.out.1.no (drew_or ht)); have z0 : w9.cell? ⟨g7, 0, none⟩ = some (.int .u8 ok) := H9.out.b7.cell 0; have z1 : w9.cell? ⟨g7, 1, none⟩ = some (.string k) := H9.out.b7.cell 1; have z2 : w9.cell? ⟨g7, 2, none⟩ = some (.string v) := H9.out.b7.cell 2; have z3 : w9.cell? ⟨g7, 3, none⟩ = some (.string o) := H9.out.b7.cell 3; have z4 : w9.cell? ⟨g7, 4, none⟩ = some (.bool had) := H9.out.b7.cell 4; have z5 : w9.cell? ⟨g7, 5, none⟩ = some (.bool aft) := H9.out.b7.cell 5; have z6 : w9.cell? ⟨g7, 6, none⟩ = some (.slice A0 len cap0) := H9.out.b7.cell 6; have p0 : w9.cell? ⟨g4, 0, none⟩ = some (.int .u8 0) := H9.out.b4.cell 0; have p1 : w9.cell? ⟨g4, 1, none⟩ = some (.string ⟨#[]⟩) := H9.out.b4.cell 1; have p2 : w9.cell? ⟨g4, 2, none⟩ = some (.string ⟨#[]⟩) := H9.out.b4.cell 2; have p3 : w9.cell? ⟨g4, 3, none⟩ = some (.string ⟨#[]⟩) := H9.out.b4.cell 3; have p4 : w9.cell? ⟨g4, 4, none⟩ = some (.bool false) := H9.out.b4.cell 4; have p5 : w9.cell? ⟨g4, 5, none⟩ = some (.bool false) := H9.out.b4.cell 5; have p6 : w9.cell? ⟨g4, 6, none⟩ = some (.slice none 0 0) := H9.out.b4.cell 6; have r0 : w9.cell? ⟨g5, 0, none⟩ = some (.int .i64 0) := H9.out.b5.cell 0; have r1 : w9.cell? ⟨g5, 1, none⟩ = some (.bool false) := H9.out.b5.cell 1; have r2 : w9.cell? ⟨g5, 2, none⟩ = some (.string ⟨#[]⟩) := H9.out.b5.cell 2; have r3 : w9.cell? ⟨g5, 3, none⟩ = some (.string ⟨#[]⟩) := H9.out.b5.cell 3; have f4 := H9.out.b4.thawed; have f5 := H9.out.b5.thawed; clear ht)
        all_goals go_wp2_with fail
        all_goals (try simp only [Exit.inBlock, Exit.then])
        all_goals have hz := H9.out.fin ⟨code, found, ak, av⟩
        all_goals simp only [puts, Opx.cs, Ans.cs] at hz
        all_goals refine bodyPost_ret (results_cct rfl _ _ g4 g5 34 38 #[.int .u8 ok, .string k, .string v, .string o, .bool had, .bool aft, .slice A0 len cap0] #[.int .i64 code, .bool found, .string ak, .string av] (0, 0) (0, 0) _ _ (by rfl) (by first | exact hz.2.1 | exact hz.2.1.no (Turn.refl No _).drew) Try.underlying34 rfl inf29 (by rfl) (by first | exact hz.2.2 | exact hz.2.2.no (Turn.refl No _).drew) Try.underlying38 rfl inf32) rfl ?_
        all_goals refine ⟨⟨ok, k, v, o, had, aft, A0, len, cap0⟩, ?_, (by first | exact hz.1 | exact hz.1.drew), HO.out.1, HO.out.2.turn (by first | exact hz.1 | exact hz.1.drew) fun _ _ _ h => h⟩
        all_goals rw [HAA.out, HN.out, if_pos hc0]
        all_goals rfl
      · have he0 : decide ((0 : Int) < (n1 : Int)) = true := decide_eq_true (by omega)
        have hg0 : (0 : Int) < (n1 : Int) := by omega
        by_cases hc1 : n2 = 0
        · have he1 : decide ((0 : Int) < (n2 : Int)) = false := decide_eq_false (by omega)
          go_upto_region 14 with (first | (go_at_call 73; (with_reducible refine C1.out.mono ?_); rintro e w20 ⟨rfl, hw⟩; replace hw := hw.symm; subst hw) | (go_at_call 73; (with_reducible refine C2.out.mono ?_); rintro e w20 ⟨rfl, hw⟩; replace hw := hw.symm; subst hw) | (go_at_call 73; (with_reducible refine C3.out.mono ?_); rintro e w20 ⟨rfl, hw⟩; replace hw := hw.symm; subst hw))
          clear C1 C2 C3
          have y0 : wr.cell? ⟨g7, 0, none⟩ = some (.int .u8 ok) := HP.out.1.b7.cell 0
          have y1 : wr.cell? ⟨g7, 1, none⟩ = some (.string k) := HP.out.1.b7.cell 1
          have y2 : wr.cell? ⟨g7, 2, none⟩ = some (.string v) := HP.out.1.b7.cell 2
          have y3 : wr.cell? ⟨g7, 3, none⟩ = some (.string o) := HP.out.1.b7.cell 3
          have y4 : wr.cell? ⟨g7, 4, none⟩ = some (.bool had) := HP.out.1.b7.cell 4
          have y5 : wr.cell? ⟨g7, 5, none⟩ = some (.bool aft) := HP.out.1.b7.cell 5
          have y6 : wr.cell? ⟨g7, 6, none⟩ = some (.slice A0 len cap0) := HP.out.1.b7.cell 6
          have n1 := HP.out.1.b5.ne HP.out.1.b4 (cells_ne (by decide))
          have n2 := n1.symm
          have CA1 := Lib.hid (CA.out wr.drew HP.out.1.tu.drew)
          have CA1 := Lib.hid (CA.out wr.drew HP.out.1.tu.drew)
          go_region_with (go_at_call 74; (refine CA1.out.mono ?_); rintro e w9 ⟨rfl, ht⟩; have H9 := Lib.hid (HP.out.1.no (drew_or ht)); have z0 : w9.cell? ⟨g7, 0, none⟩ = some (.int .u8 ok) := H9.out.b7.cell 0; have z1 : w9.cell? ⟨g7, 1, none⟩ = some (.string k) := H9.out.b7.cell 1; have z2 : w9.cell? ⟨g7, 2, none⟩ = some (.string v) := H9.out.b7.cell 2; have z3 : w9.cell? ⟨g7, 3, none⟩ = some (.string o) := H9.out.b7.cell 3; have z4 : w9.cell? ⟨g7, 4, none⟩ = some (.bool had) := H9.out.b7.cell 4; have z5 : w9.cell? ⟨g7, 5, none⟩ = some (.bool aft) := H9.out.b7.cell 5; have z6 : w9.cell? ⟨g7, 6, none⟩ = some (.slice A0 len cap0) := H9.out.b7.cell 6; have p0 : w9.cell? ⟨g4, 0, none⟩ = some (.int .u8 0) := H9.out.b4.cell 0; have p1 : w9.cell? ⟨g4, 1, none⟩ = some (.string ⟨#[]⟩) := H9.out.b4.cell 1; have p2 : w9.cell? ⟨g4, 2, none⟩ = some (.string ⟨#[]⟩) := H9.out.b4.cell 2; have p3 : w9.cell? ⟨g4, 3, none⟩ = some (.string ⟨#[]⟩) := H9.out.b4.cell 3; have p4 : w9.cell? ⟨g4, 4, none⟩ = some (.bool false) := H9.out.b4.cell 4; have p5 : w9.cell? ⟨g4, 5, none⟩ = some (.bool false) := H9.out.b4.cell 5; have p6 : w9.cell? ⟨g4, 6, none⟩ = some (.slice none 0 0) := H9.out.b4.cell 6; have r0 : w9.cell? ⟨g5, 0, none⟩ = some (.int .i64 0) := H9.out.b5.cell 0; have r1 : w9.cell? ⟨g5, 1, none⟩ = some (.bool false) := H9.out.b5.cell 1; have r2 : w9.cell? ⟨g5, 2, none⟩ = some (.string ⟨#[]⟩) := H9.out.b5.cell 2; have r3 : w9.cell? ⟨g5, 3, none⟩ = some (.string ⟨#[]⟩) := H9.out.b5.cell 3; have f4 := H9.out.b4.thawed; have f5 := H9.out.b5.thawed; clear ht)
          all_goals go_wp2_with fail
          all_goals (try simp only [Exit.inBlock, Exit.then])
          all_goals have hz := H9.out.fin ⟨code, found, ak, av⟩
          all_goals simp only [puts, Opx.cs, Ans.cs] at hz
          all_goals refine bodyPost_ret (results_cct rfl _ _ g4 g5 34 38 #[.int .u8 ok, .string k, .string v, .string o, .bool had, .bool aft, .slice A0 len cap0] #[.int .i64 code, .bool found, .string ak, .string av] (0, 0) (0, 0) _ _ (by rfl) (by first | exact hz.2.1 | exact hz.2.1.no (Turn.refl No _).drew) Try.underlying34 rfl inf29 (by rfl) (by first | exact hz.2.2 | exact hz.2.2.no (Turn.refl No _).drew) Try.underlying38 rfl inf32) rfl ?_
          all_goals refine ⟨⟨ok, k, v, o, had, aft, A0, len, cap0⟩, ?_, (by first | exact hz.1 | exact hz.1.drew), HO.out.1, HO.out.2.turn (by first | exact hz.1 | exact hz.1.drew) fun _ _ _ h => h⟩
          all_goals rw [HAA.out, HN.out, if_neg hc0, if_pos hc1]
          all_goals rfl
        · have he1 : decide ((0 : Int) < (n2 : Int)) = true := decide_eq_true (by omega)
          have hg1 : (0 : Int) < (n2 : Int) := by omega
          by_cases hc2 : n3 = 0
          · have he2 : decide ((0 : Int) < (n3 : Int)) = false := decide_eq_false (by omega)
            go_upto_region 14 with (first | (go_at_call 73; (with_reducible refine C1.out.mono ?_); rintro e w20 ⟨rfl, hw⟩; replace hw := hw.symm; subst hw) | (go_at_call 73; (with_reducible refine C2.out.mono ?_); rintro e w20 ⟨rfl, hw⟩; replace hw := hw.symm; subst hw) | (go_at_call 73; (with_reducible refine C3.out.mono ?_); rintro e w20 ⟨rfl, hw⟩; replace hw := hw.symm; subst hw))
            clear C1 C2 C3
            have y0 : wr.cell? ⟨g7, 0, none⟩ = some (.int .u8 ok) := HP.out.1.b7.cell 0
            have y1 : wr.cell? ⟨g7, 1, none⟩ = some (.string k) := HP.out.1.b7.cell 1
            have y2 : wr.cell? ⟨g7, 2, none⟩ = some (.string v) := HP.out.1.b7.cell 2
            have y3 : wr.cell? ⟨g7, 3, none⟩ = some (.string o) := HP.out.1.b7.cell 3
            have y4 : wr.cell? ⟨g7, 4, none⟩ = some (.bool had) := HP.out.1.b7.cell 4
            have y5 : wr.cell? ⟨g7, 5, none⟩ = some (.bool aft) := HP.out.1.b7.cell 5
            have y6 : wr.cell? ⟨g7, 6, none⟩ = some (.slice A0 len cap0) := HP.out.1.b7.cell 6
            have n1 := HP.out.1.b5.ne HP.out.1.b4 (cells_ne (by decide))
            have n2 := n1.symm
            have CA1 := Lib.hid (CA.out wr.drew HP.out.1.tu.drew)
            have CA1 := Lib.hid (CA.out wr.drew HP.out.1.tu.drew)
            go_region_with (go_at_call 74; (refine CA1.out.mono ?_); rintro e w9 ⟨rfl, ht⟩; have H9 := Lib.hid (HP.out.1.no (drew_or ht)); have z0 : w9.cell? ⟨g7, 0, none⟩ = some (.int .u8 ok) := H9.out.b7.cell 0; have z1 : w9.cell? ⟨g7, 1, none⟩ = some (.string k) := H9.out.b7.cell 1; have z2 : w9.cell? ⟨g7, 2, none⟩ = some (.string v) := H9.out.b7.cell 2; have z3 : w9.cell? ⟨g7, 3, none⟩ = some (.string o) := H9.out.b7.cell 3; have z4 : w9.cell? ⟨g7, 4, none⟩ = some (.bool had) := H9.out.b7.cell 4; have z5 : w9.cell? ⟨g7, 5, none⟩ = some (.bool aft) := H9.out.b7.cell 5; have z6 : w9.cell? ⟨g7, 6, none⟩ = some (.slice A0 len cap0) := H9.out.b7.cell 6; have p0 : w9.cell? ⟨g4, 0, none⟩ = some (.int .u8 0) := H9.out.b4.cell 0; have p1 : w9.cell? ⟨g4, 1, none⟩ = some (.string ⟨#[]⟩) := H9.out.b4.cell 1; have p2 : w9.cell? ⟨g4, 2, none⟩ = some (.string ⟨#[]⟩) := H9.out.b4.cell 2; have p3 : w9.cell? ⟨g4, 3, none⟩ = some (.string ⟨#[]⟩) := H9.out.b4.cell 3; have p4 : w9.cell? ⟨g4, 4, none⟩ = some (.bool false) := H9.out.b4.cell 4; have p5 : w9.cell? ⟨g4, 5, none⟩ = some (.bool false) := H9.out.b4.cell 5; have p6 : w9.cell? ⟨g4, 6, none⟩ = some (.slice none 0 0) := H9.out.b4.cell 6; have r0 : w9.cell? ⟨g5, 0, none⟩ = some (.int .i64 0) := H9.out.b5.cell 0; have r1 : w9.cell? ⟨g5, 1, none⟩ = some (.bool false) := H9.out.b5.cell 1; have r2 : w9.cell? ⟨g5, 2, none⟩ = some (.string ⟨#[]⟩) := H9.out.b5.cell 2; have r3 : w9.cell? ⟨g5, 3, none⟩ = some (.string ⟨#[]⟩) := H9.out.b5.cell 3; have f4 := H9.out.b4.thawed; have f5 := H9.out.b5.thawed; clear ht)
            all_goals go_wp2_with fail
            all_goals (try simp only [Exit.inBlock, Exit.then])
            all_goals have hz := H9.out.fin ⟨code, found, ak, av⟩
            all_goals simp only [puts, Opx.cs, Ans.cs] at hz
            all_goals refine bodyPost_ret (results_cct rfl _ _ g4 g5 34 38 #[.int .u8 ok, .string k, .string v, .string o, .bool had, .bool aft, .slice A0 len cap0] #[.int .i64 code, .bool found, .string ak, .string av] (0, 0) (0, 0) _ _ (by rfl) (by first | exact hz.2.1 | exact hz.2.1.no (Turn.refl No _).drew) Try.underlying34 rfl inf29 (by rfl) (by first | exact hz.2.2 | exact hz.2.2.no (Turn.refl No _).drew) Try.underlying38 rfl inf32) rfl ?_
            all_goals refine ⟨⟨ok, k, v, o, had, aft, A0, len, cap0⟩, ?_, (by first | exact hz.1 | exact hz.1.drew), HO.out.1, HO.out.2.turn (by first | exact hz.1 | exact hz.1.drew) fun _ _ _ h => h⟩
            all_goals rw [HAA.out, HN.out, if_neg hc0, if_neg hc1, if_pos hc2]
            all_goals rfl
          · have he2 : decide ((0 : Int) < (n3 : Int)) = true := decide_eq_true (by omega)
            have hg2 : (0 : Int) < (n3 : Int) := by omega
            go_upto_region 14 with (first | (go_at_call 73; (with_reducible refine C1.out.mono ?_); rintro e w20 ⟨rfl, hw⟩; replace hw := hw.symm; subst hw) | (go_at_call 73; (with_reducible refine C2.out.mono ?_); rintro e w20 ⟨rfl, hw⟩; replace hw := hw.symm; subst hw) | (go_at_call 73; (with_reducible refine C3.out.mono ?_); rintro e w20 ⟨rfl, hw⟩; replace hw := hw.symm; subst hw))
            clear C1 C2 C3
            have y0 : wr.cell? ⟨g7, 0, none⟩ = some (.int .u8 ok) := HP.out.1.b7.cell 0
            have y1 : wr.cell? ⟨g7, 1, none⟩ = some (.string k) := HP.out.1.b7.cell 1
            have y2 : wr.cell? ⟨g7, 2, none⟩ = some (.string v) := HP.out.1.b7.cell 2
            have y3 : wr.cell? ⟨g7, 3, none⟩ = some (.string o) := HP.out.1.b7.cell 3
            have y4 : wr.cell? ⟨g7, 4, none⟩ = some (.bool had) := HP.out.1.b7.cell 4
            have y5 : wr.cell? ⟨g7, 5, none⟩ = some (.bool aft) := HP.out.1.b7.cell 5
            have y6 : wr.cell? ⟨g7, 6, none⟩ = some (.slice A0 len cap0) := HP.out.1.b7.cell 6
            have n1 := HP.out.1.b5.ne HP.out.1.b4 (cells_ne (by decide))
            have n2 := n1.symm
            have CA1 := Lib.hid (CA.out wr.drew HP.out.1.tu.drew)
            have CA1 := Lib.hid (CA.out wr.drew HP.out.1.tu.drew)
            go_region_with (go_at_call 74; (refine CA1.out.mono ?_); rintro e w9 ⟨rfl, ht⟩; have H9 := Lib.hid (HP.out.1.no (drew_or ht)); have z0 : w9.cell? ⟨g7, 0, none⟩ = some (.int .u8 ok) := H9.out.b7.cell 0; have z1 : w9.cell? ⟨g7, 1, none⟩ = some (.string k) := H9.out.b7.cell 1; have z2 : w9.cell? ⟨g7, 2, none⟩ = some (.string v) := H9.out.b7.cell 2; have z3 : w9.cell? ⟨g7, 3, none⟩ = some (.string o) := H9.out.b7.cell 3; have z4 : w9.cell? ⟨g7, 4, none⟩ = some (.bool had) := H9.out.b7.cell 4; have z5 : w9.cell? ⟨g7, 5, none⟩ = some (.bool aft) := H9.out.b7.cell 5; have z6 : w9.cell? ⟨g7, 6, none⟩ = some (.slice A0 len cap0) := H9.out.b7.cell 6; have p0 : w9.cell? ⟨g4, 0, none⟩ = some (.int .u8 0) := H9.out.b4.cell 0; have p1 : w9.cell? ⟨g4, 1, none⟩ = some (.string ⟨#[]⟩) := H9.out.b4.cell 1; have p2 : w9.cell? ⟨g4, 2, none⟩ = some (.string ⟨#[]⟩) := H9.out.b4.cell 2; have p3 : w9.cell? ⟨g4, 3, none⟩ = some (.string ⟨#[]⟩) := H9.out.b4.cell 3; have p4 : w9.cell? ⟨g4, 4, none⟩ = some (.bool false) := H9.out.b4.cell 4; have p5 : w9.cell? ⟨g4, 5, none⟩ = some (.bool false) := H9.out.b4.cell 5; have p6 : w9.cell? ⟨g4, 6, none⟩ = some (.slice none 0 0) := H9.out.b4.cell 6; have r0 : w9.cell? ⟨g5, 0, none⟩ = some (.int .i64 0) := H9.out.b5.cell 0; have r1 : w9.cell? ⟨g5, 1, none⟩ = some (.bool false) := H9.out.b5.cell 1; have r2 : w9.cell? ⟨g5, 2, none⟩ = some (.string ⟨#[]⟩) := H9.out.b5.cell 2; have r3 : w9.cell? ⟨g5, 3, none⟩ = some (.string ⟨#[]⟩) := H9.out.b5.cell 3; have f4 := H9.out.b4.thawed; have f5 := H9.out.b5.thawed; clear ht)
            all_goals go_wp2_with fail
            all_goals (try simp only [Exit.inBlock, Exit.then])
            all_goals have hz := H9.out.fin ⟨code, found, ak, av⟩
            all_goals simp only [puts, Opx.cs, Ans.cs] at hz
            all_goals refine bodyPost_ret (results_cct rfl _ _ g4 g5 34 38 #[.int .u8 ok, .string k, .string v, .string o, .bool had, .bool aft, .slice A0 len cap0] #[.int .i64 code, .bool found, .string ak, .string av] (0, 0) (0, 0) _ _ (by rfl) (by first | exact hz.2.1 | exact hz.2.1.no (Turn.refl No _).drew) Try.underlying34 rfl inf29 (by rfl) (by first | exact hz.2.2 | exact hz.2.2.no (Turn.refl No _).drew) Try.underlying38 rfl inf32) rfl ?_
            all_goals refine ⟨⟨ok, k, v, o, had, aft, A0, len, cap0⟩, ?_, (by first | exact hz.1 | exact hz.1.drew), HO.out.1, HO.out.2.turn (by first | exact hz.1 | exact hz.1.drew) fun _ _ _ h => h⟩
            all_goals rw [HAA.out, HN.out, if_neg hc0, if_neg hc1, if_neg hc2]
            all_goals rfl
end Go.Proofs.Ytllppkfeiifklaa
