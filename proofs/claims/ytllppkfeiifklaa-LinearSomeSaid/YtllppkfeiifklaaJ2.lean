/-
  Rows of cells that are read; rows of the program's own; writes and operations as plain data.
  find: the place of a key among keys that rise.
  get: what a key has.
  append, copy, clear over rows of pairs of the program's own, as run equations.
  slices.Delete of one pair, in a row of the program's own.
  slices.Insert of one pair at the end of a row of the program's own.
-/
import Derived.Test.YtllppkfeiifklaaJ1
import Derived.Laws.AppendOwn
import Derived.Deep.MidRow
import Derived.Laws.CopyOwn
import Derived.Laws.OwnMore
import Derived.Laws.AppendOwnNone
import Derived.Lib.AppendZerosOnto
import Derived.Lib.Overlaps
import Derived.Deep.RegionLaw
import Derived.Maps.AppendAt
namespace Go.Proofs.Ytllppkfeiifklaa
open Go.RowKit Go.Lib
set_option linter.unusedVariables false
set_option maxRecDepth 20000

structure Wr where
  (k v : ByteArray)
  gone : Bool
def Wr.cs (x : Wr) : List Value := [.string x.k, .string x.v, .bool x.gone]
def wcs (ws : List Wr) : List Value := ws.flatMap Wr.cs
structure Opx where
  kind : Int
  (k v o : ByteArray)
  (had aft : Bool)
  A : Option Addr
  (len cap : Nat)
def Opx.cs (x : Opx) : List Value := [.int .u8 x.kind, .string x.k, .string x.v, .string x.o, .bool x.had, .bool x.aft, .slice x.A x.len x.cap]
structure Ans where
  code : Int
  found : Bool
  (k v : ByteArray)
def Ans.cs (a : Ans) : List Value := [.int .i64 a.code, .bool a.found, .string a.k, .string a.v]
theorem flat_length {α : Type} (f : α → List Value) (n : Nat) (h : ∀ x, (f x).length = n) : ∀ l : List α, (l.flatMap f).length = l.length * n
  | [] => by simp
  | x :: l => by rw [List.flatMap_cons, List.length_append, h, flat_length f n h l, List.length_cons, Nat.succ_mul]; omega
theorem flat_at {α : Type} (f : α → List Value) (n : Nat) (h : ∀ x, (f x).length = n) : ∀ (l : List α) (j i : Nat) (x : α), l[j]? = some x → i < n → (l.flatMap f)[j * n + i]? = (f x)[i]?
  | y :: l, 0, i, x, hx, hi => by
    simp at hx
    subst hx
    rw [List.flatMap_cons, Nat.zero_mul, Nat.zero_add, List.getElem?_append_left (by rw [h]; exact hi)]
  | y :: l, j + 1, i, x, hx, hi => by
    rw [List.flatMap_cons, List.getElem?_append_right (by rw [h, Nat.succ_mul]; omega), h, show (j + 1) * n + i - n = j * n + i by rw [Nat.succ_mul]; omega]
    exact flat_at f n h l j i x (by simpa using hx) hi
theorem wcs_length (ws : List Wr) : (wcs ws).length = ws.length * 3 := flat_length _ 3 (fun _ => rfl) ws
theorem pcs_length (l : List Pr) : (pcs l).length = l.length * 2 := flat_length _ 2 (fun _ => rfl) l
theorem wcs_at {ws : List Wr} {j : Nat} {x : Wr} (h : ws[j]? = some x) (i : Nat) (hi : i < 3) : (wcs ws)[j * 3 + i]? = x.cs[i]? := flat_at _ 3 (fun _ => rfl) ws j i x h hi
theorem pcs_at {l : List Pr} {j : Nat} {x : Pr} (h : l[j]? = some x) (i : Nat) (hi : i < 2) : (pcs l)[j * 2 + i]? = x.cs[i]? := flat_at _ 2 (fun _ => rfl) l j i x h hi
theorem pcs_append (l m : List Pr) : pcs (l ++ m) = pcs l ++ pcs m := List.flatMap_append ..

/-- A row of cells that is read: all its cells are there. -/
def Row (w : World) (A : Option Addr) (xs : List Value) : Prop :=
  ∀ j u, xs[j]? = some u → ∃ b o, A = some ⟨b, o, none⟩ ∧ b < w.heap.size ∧ w.cell? ⟨b, o + j, none⟩ = some u
theorem Row.turn {X : Nat → Prop} {w w' : World} {A : Option Addr} {xs : List Value} (h : Row w A xs) (t : Turn X w w') (hX : ∀ b o, A = some ⟨b, o, none⟩ → ¬ X b) : Row w' A xs := fun j u hj => by
  obtain ⟨b, o, hA, hb, hc⟩ := h j u hj
  exact ⟨b, o, hA, Nat.lt_of_lt_of_le hb t.size, (World.cell?_of_block (w := w) (t.block b hb (hX b o hA))).trans hc⟩
theorem Row.nil (w : World) (A : Option Addr) : Row w A [] := fun j u h => by simp at h
/-- A row of the program's own, as it is read. -/
theorem row_of_own {w : World} {base : Nat} {e : TypeId} {size n cap : Nat} {A : Option Addr} {xs : List Value} (h : w.ownsRow base e size (.slice A n cap) n xs) : Row w A xs := fun j u hj => by
  obtain ⟨hl, ⟨hv, hn⟩ | ⟨g, c, cur, hv, hb, hg, hn, hc, hs, ht⟩⟩ := h
  · subst hn
    rw [Nat.zero_mul] at hl
    rw [List.eq_nil_of_length_eq_zero hl] at hj
    simp at hj
  · injection hv with hA _ _
    refine ⟨g, 0, hA, (Array.getElem?_eq_some_iff.1 hg).1, ?_⟩
    rw [cell_of_row w g _ cur e (0, 0) hg, Nat.zero_add]
    rw [← ht, List.getElem?_take] at hj
    split at hj
    · simpa using hj
    · cases hj
theorem own_grown {w w' : World} {base : Nat} {e : TypeId} {size n : Nat} {v : Value} {xs : List Value} {X : Nat → Prop} (h : w.ownsRow base e size v n xs) (t : Turn X w w') (hX : ∀ k, v.ownBlock = some k → ¬ X k) : w'.ownsRow base e size v n xs := by
  refine ⟨h.1, ?_⟩
  rcases h.2 with hn | ⟨g, cap, cur, rfl, hb, hgg, rest⟩
  · exact .inl hn
  · refine .inr ⟨g, cap, cur, rfl, hb, ?_, rest⟩
    rw [t.block g (Array.getElem?_eq_some_iff.1 hgg).1 (hX g rfl)]
    exact hgg
/-- One pair of a row that is read. -/
theorem Row.pair {w : World} {A : Option Addr} {l : List Pr} (h : Row w A (pcs l)) {j : Nat} {p : Pr} (hj : l[j]? = some p) :
    ∃ b o, A = some ⟨b, o, none⟩ ∧ b < w.heap.size ∧ w.cell? ⟨b, o + j * 2, none⟩ = some (.string p.k) ∧ w.cell? ⟨b, o + j * 2 + 1, none⟩ = some (.string p.v) := by
  obtain ⟨b, o, hA, hb, h0⟩ := h (j * 2 + 0) (.string p.k) (by rw [pcs_at hj 0 (by decide)]; rfl)
  obtain ⟨b', o', hA', _, h1⟩ := h (j * 2 + 1) (.string p.v) (by rw [pcs_at hj 1 (by decide)]; rfl)
  rw [hA] at hA'
  injection hA' with hA'
  injection hA' with e1 e2
  subst e1 e2
  exact ⟨b, o, hA, hb, h0, h1⟩
end Go.Proofs.Ytllppkfeiifklaa
namespace Go.Proofs.Ytllppkfeiifklaa
open Go.RowKit Go.Lib
set_option linter.unusedVariables false
set_option maxRecDepth 20000
set_option linter.unusedSimpArgs false

theorem low_iff {l : List Pr} (ha : Asc l) (key : ByteArray) {i : Nat} {p : Pr} (h : l[i]? = some p) : kl p.k key ↔ i < (lowL l key).length := by
  rw [← split_L l key] at h
  constructor
  · intro hk
    rcases Nat.lt_or_ge i (lowL l key).length with h1 | h1
    · exact h1
    · rw [List.getElem?_append_right h1] at h
      exact absurd hk (ha.hi (List.mem_of_getElem? h))
  · intro hi
    rw [List.getElem?_append_left hi] at h
    exact low_mem (List.mem_of_getElem? h)
theorem has_at {l : List Pr} {key : ByteArray} {p : Pr} (h : l[(lowL l key).length]? = some p) : hasL l key = decide (p.k = key) := by
  have h2 : (lowL l key ++ hiL l key)[(lowL l key).length]? = some p := by rw [split_L]; exact h
  rw [List.getElem?_append_right (Nat.le_refl _), Nat.sub_self] at h2
  unfold hasL
  cases hh : hiL l key with
  | nil => rw [hh] at h2; cases h2
  | cons q t => rw [hh] at h2; simp at h2; subst h2; rfl
theorem has_end {l : List Pr} {key : ByteArray} (h : ¬ (lowL l key).length < l.length) : hasL l key = false := by
  have := congrArg List.length (split_L l key)
  rw [List.length_append] at this
  have h0 : hiL l key = [] := List.eq_nil_of_length_eq_zero (by omega)
  unfold hasL
  rw [h0]

theorem kcmp_beq (a b : ByteArray) : (kcmp a b == 0) = decide (a = b) := by
  by_cases h : a = b
  · rw [kcmp_zero.2 h, decide_eq_true h]; rfl
  · rw [decide_eq_false h]
    exact beq_eq_false_iff_ne.2 fun e => h (kcmp_zero.1 e)
set_option maxHeartbeats 2000000 in
theorem search_any (l : List Pr) (ha : Asc l) (A : Option Addr) (cap : Nat) (key : ByteArray) (w : World) (h : Row w A (pcs l)) (hl : l.length ≤ 1000000) :
    Calls Try.prog 107 #[.slice A l.length cap, .string key, .func (.func 108) #[] #[]] w fun e w' => e = .returned (.tuple #[.int .i64 ((lowL l key).length : Int), .bool (hasL l key)]) ∧ Turn No w w' := by
  have hlow : (lowL l key).length ≤ l.length := by
    have := congrArg List.length (split_L l key)
    rw [List.length_append] at this
    omega
  have HR := Lib.hid (And.intro h ha)
  clear h ha
  obtain ⟨c, hc⟩ : ∃ c, (lowL l key).length = c := ⟨_, rfl⟩
  obtain ⟨r, hr⟩ : ∃ r, hasL l key = r := ⟨_, rfl⟩
  have HC := Lib.hid (And.intro hc hr)
  rw [hc] at hlow ⊢
  rw [hr]
  clear hc hr
  go_enter Try.func107, Try.ntmps107
  go_wp2_with fail
  go_loopw [9, 10] (fun i j wr => ∃ (a b : Nat), a ≤ c ∧ c ≤ b ∧ b ≤ l.length ∧ i = .int .i64 (a : Int) ∧ j = .int .i64 (b : Int) ∧ Hid (Turn No w wr)) (fun i j _ => (RowKit.intOf j).toNat - (RowKit.intOf i).toNat)
  case atStart => exact ⟨0, l.length, Nat.zero_le _, hlow, Nat.le_refl _, rfl, rfl, Lib.hid (Turn.refl _ _)⟩
  case round =>
    obtain ⟨a, b, h1, h2, h3, rfl, rfl, HT⟩ := hrel
    by_cases hlt : a < b
    · obtain ⟨p, hp⟩ : ∃ p, l[(a + b) / 2]? = some p := ⟨l[(a + b) / 2]'(by omega), List.getElem?_eq_getElem (by omega)⟩
      obtain ⟨bk, off, hA, hb, x0, x1⟩ := (HR.out.1.turn HT.out fun _ _ _ h => h).pair hp
      have hiff := low_iff HR.out.2 key hp
      rw [HC.out.1] at hiff
      subst hA
      obtain ⟨pk, pv⟩ := p
      have CC := Lib.hid (cmp58_any pk pv key wr)
      simp only at x0 x1 hiff
      have HI := Lib.hid hiff
      clear hiff hb hp
      by_cases hk : kcmp pk key < 0
      · have hkd : decide (kcmp pk key < 0) = true := decide_eq_true hk
        have h4 : (a + b) / 2 < c := HI.out.1 hk
        clear hk
        go_wp2_with (go_at_call 108; refine CC.out.mono ?_; rintro e w2 ⟨rfl, ht⟩; have HT2 := Lib.hid (HT.out.trans ht); clear ht)
        exact ⟨⟨(a + b) / 2 + 1, b, by omega, h2, h3, by rw [show ((a : Int) + (b : Int)) / 2 + 1 = (((a + b) / 2 + 1 : Nat) : Int) by omega], rfl, HT2⟩, by simp [RowKit.intOf]; omega⟩
      · have hkd : decide (kcmp pk key < 0) = false := decide_eq_false hk
        have h4 : ¬ (a + b) / 2 < c := fun h => hk (HI.out.2 h)
        clear hk
        go_wp2_with (go_at_call 108; refine CC.out.mono ?_; rintro e w2 ⟨rfl, ht⟩; have HT2 := Lib.hid (HT.out.trans ht); clear ht)
        exact ⟨⟨a, (a + b) / 2, h1, by omega, by omega, rfl, by rw [show ((a : Int) + (b : Int)) / 2 = (((a + b) / 2 : Nat) : Int) by omega], HT2⟩, by simp [RowKit.intOf]; omega⟩
    · obtain rfl : a = b := by omega
      obtain rfl : a = c := by omega
      by_cases hn : a < l.length
      · obtain ⟨p, hp⟩ : ∃ p, l[a]? = some p := ⟨l[a], List.getElem?_eq_getElem hn⟩
        obtain ⟨bk, off, hA, hb, x0, x1⟩ := (HR.out.1.turn HT.out fun _ _ _ h => h).pair hp
        have hat : hasL l key = decide (p.k = key) := has_at (by rw [HC.out.1]; exact hp)
        rw [HC.out.2] at hat
        subst hA
        obtain ⟨pk, pv⟩ := p
        have CC := Lib.hid (cmp58_any pk pv key wr)
        simp only at x0 x1 hat
        have HX := Lib.hid hat
        clear hb hp hat
        go_wp2_with (go_at_call 108; refine CC.out.mono ?_; rintro e w2 ⟨rfl, ht⟩; have HT2 := Lib.hid (HT.out.trans ht); clear ht)
        go_ret2
        refine ⟨?_, HT2.out⟩
        rw [HX.out, ← kcmp_beq]
        rfl
      · have hat := has_end (l := l) (key := key) (by rw [HC.out.1]; exact hn)
        rw [HC.out.2] at hat
        have HX := Lib.hid hat
        clear hat
        go_wp2_with fail
        go_ret2
        exact ⟨by rw [HX.out]; rfl, HT.out⟩
/-- A map in memory: the block of its one field, and the row of its pairs, which is its own. -/
structure Om (w : World) (Z mb : Nat) (rb : Option Nat) (l : List Pr) : Prop where
  rowed : ∃ A cap, At w mb (.cells #[.slice A l.length cap] 98 (0, 0)) ∧ w.ownsRow Z 47 2 (.slice A l.length cap) l.length (pcs l) ∧ (Value.slice A l.length cap).ownBlock = rb
  asc : Asc l
  few : l.length ≤ 50000
  fit : ∀ p ∈ l, Fit p.k ∧ Fit p.v
  mb_new : Z ≤ mb
/-- find -/
theorem find_any {w : World} {Z mb : Nat} {rb : Option Nat} {l : List Pr} (h : Om w Z mb rb l) (key : ByteArray) :
    Calls Try.prog 96 #[.pointer (some ⟨mb, 0, none⟩), .string key] w fun e w' => e = .returned (.tuple #[.int .i64 ((lowL l key).length : Int), .bool (hasL l key)]) ∧ Turn No w w' := by
  obtain ⟨A, cap, h0, hr, _⟩ := h.rowed
  have CS := Lib.hid (search_any l h.asc A cap key w (row_of_own hr) (Nat.le_trans h.few (by decide)))
  have c0 := h0.cell 0
  simp only [List.getElem?_toArray, List.getElem?_cons_zero] at c0
  clear h h0 hr
  go_enter Try.func96, Try.ntmps96
  go_wp2_with (go_at_call 107; refine CS.out.mono ?_; rintro e w2 ⟨rfl, ht⟩; have HT2 := Lib.hid ht; clear ht)
  go_ret2
  exact ⟨rfl, HT2.out⟩
end Go.Proofs.Ytllppkfeiifklaa
namespace Go.Proofs.Ytllppkfeiifklaa
open Go.RowKit Go.Lib
set_option linter.unusedVariables false
set_option maxRecDepth 20000
set_option linter.unusedSimpArgs false

def ans0 : Array Value := #[.int .i64 0, .bool false, .string ⟨#[]⟩, .string ⟨#[]⟩]
def gans (o : Option ByteArray) : Ans := ⟨0, o.isSome, ⟨#[]⟩, o.getD ⟨#[]⟩⟩
def Ans.val (a : Ans) : Value := .agg #[.int .i64 a.code, .bool a.found, .string a.k, .string a.v]
def Ans.ar (a : Ans) : Array Value := #[.int .i64 a.code, .bool a.found, .string a.k, .string a.v]
theorem Om.turn {X : Nat → Prop} {w w' : World} {Z mb : Nat} {rb : Option Nat} {l : List Pr} (h : Om w Z mb rb l) (t : Turn X w w') (h1 : ¬ X mb) (h2 : ∀ k, rb = some k → ¬ X k) : Om w' Z mb rb l := by
  obtain ⟨A, cap, h0, hr, hb⟩ := h.rowed
  exact ⟨⟨A, cap, h0.turn t h1, own_grown hr t fun k hk hx => h2 k (hb ▸ hk) hx, hb⟩, h.asc, h.few, h.fit, h.mb_new⟩
theorem Om.no {w w' : World} {Z mb : Nat} {rb : Option Nat} {l : List Pr} (h : Om w Z mb rb l) (t : Turn No w w') : Om w' Z mb rb l := h.turn t (fun h => h) (fun _ _ h => h)
theorem Om.lt {w : World} {Z mb : Nat} {rb : Option Nat} {l : List Pr} (h : Om w Z mb rb l) : mb < w.heap.size := by
  obtain ⟨A, cap, h0, _⟩ := h.rowed
  exact h0.lt
theorem hi_get {l : List Pr} {key v : ByteArray} {t : List Pr} (h : hiL l key = ⟨key, v⟩ :: t) : l[(lowL l key).length]? = some ⟨key, v⟩ := by
  have h2 : (lowL l key ++ hiL l key)[(lowL l key).length]? = some ⟨key, v⟩ := by rw [List.getElem?_append_right (Nat.le_refl _), Nat.sub_self, h]; rfl
  rwa [split_L] at h2
theorem Om.rb_lt {w : World} {Z mb : Nat} {rb : Option Nat} {l : List Pr} (h : Om w Z mb rb l) {k : Nat} (hk : rb = some k) : Z ≤ k ∧ k < w.heap.size := by
  obtain ⟨A, cap, _, hr, hb⟩ := h.rowed
  exact hr.lt k (hb.trans hk)
theorem Om.ne {w : World} {Z mb : Nat} {rb : Option Nat} {l : List Pr} (h : Om w Z mb rb l) {k : Nat} (hk : rb = some k) : mb ≠ k := by
  obtain ⟨A, cap, hm, hr, hb⟩ := h.rowed
  rcases hr.2 with ⟨hv, _⟩ | ⟨g, c, cur, hv, _, hg, _⟩
  · rw [hv, hk] at hb; cases hb
  · rw [hv, hk] at hb
    injection hb with hb
    subst hb
    refine At.ne hm hg ?_
    intro e
    injection e with _ e
    cases e
/-- A result cell: block g was new, and holds an answer. -/
structure Res (w w' : World) (g : Nat) (c : Array Value) : Prop where
  tu : Turn No w w'
  old : w.heap.size ≤ g
  at_ : At w' g (.cells c 38 (0, 0))
theorem Res.start (w : World) : Res w (w.alloc (.cells ans0 38)) w.heap.size ans0 := ⟨(Turn.refl _ _).alloc _, Nat.le_refl _, At.new _ _⟩
theorem Res.no {w w' w2 : World} {g : Nat} {c : Array Value} (h : Res w w' g c) (t : Turn No w' w2) : Res w w2 g c := ⟨h.tu.trans t, h.old, h.at_.no t⟩
theorem Res.set {w w' : World} {g : Nat} {c : Array Value} (h : Res w w' g c) (i : Nat) (u : Value) : Res w (w'.setCell ⟨g, i, none⟩ u) g (c.setIfInBounds i u) :=
  ⟨h.tu.setCell (p := ⟨g, i, none⟩) (Or.inr h.old) u, h.old, h.at_.set i u⟩

theorem Res.all {w w' : World} {g : Nat} {x0 x1 x2 x3 : Value} (h : Res w w' g #[x0, x1, x2, x3]) (y0 y1 y2 y3 : Value) :
    Res w ((((w'.setCell ⟨g, 0, none⟩ y0).setCell ⟨g, 1, none⟩ y1).setCell ⟨g, 2, none⟩ y2).setCell ⟨g, 3, none⟩ y3) g #[y0, y1, y2, y3] := by
  have := (((h.set 0 y0).set 1 y1).set 2 y2).set 3 y3
  simpa using this
set_option maxHeartbeats 2000000 in
theorem get_any {w : World} {Z mb : Nat} {rb : Option Nat} {l : List Pr} (h : Om w Z mb rb l) (key : ByteArray) :
    Calls Try.prog 65 #[.pointer (some ⟨mb, 0, none⟩), .string key] w fun e w' => e = .returned (gans (getL l key)).val ∧ Turn No w w' := by
  have HR := Lib.hid (Res.start w)
  have HM := Lib.hid h
  have CF := Lib.hid fun (W : World) (t : Turn No w W) => find_any (h.no t) key
  clear h
  go_enter Try.func65, Try.ntmps65
  go_upto_region 1 with fail
  unfold ans0 at HR
  generalize w.alloc (.cells #[.int .i64 0, .bool false, .string ⟨#[]⟩, .string ⟨#[]⟩] 38) = w1 at HR ⊢
  generalize w.heap.size = g at HR ⊢
  go_upto_if 14 with (go_at_call 96; refine (CF.out _ HR.out.tu).mono ?_; rintro e w2 ⟨rfl, ht⟩; have H2 := Lib.hid (HR.out.no ht); clear ht)
  clear CF HR
  have f0 := H2.out.at_.thawed 0
  have f1 := H2.out.at_.thawed 1
  have f2 := H2.out.at_.thawed 2
  have f3 := H2.out.at_.thawed 3
  have d0 := H2.out.at_.cell 0
  have d1 := H2.out.at_.cell 1
  have d2 := H2.out.at_.cell 2
  have d3 := H2.out.at_.cell 3
  simp at d0 d1 d2 d3
  cases hh : hasL l key with
  | false =>
    have hg := Lib.hid (HM.out.asc.get_hi hh)
    go_wp2_with fail
    have HE := Lib.hid (H2.out.all (.int .i64 0) (.bool false) (.string ⟨#[]⟩) (.string ⟨#[]⟩))
    clear H2 f0 f1 f2 f3 d0 d1 d2 d3
    generalize (((w2.setCell ⟨g, 0, none⟩ (.int .i64 0)).setCell ⟨g, 1, none⟩ (.bool false)).setCell ⟨g, 2, none⟩ (.string ⟨#[]⟩)).setCell ⟨g, 3, none⟩ (.string ⟨#[]⟩) = w3 at HE ⊢
    (try simp only [Exit.inBlock, Exit.then])
    refine bodyPost_ret (results_cell_row rfl _ _ g 38 _ (0, 0) _ (by rfl) HE.out.at_ Try.underlying38 rfl (by kernel_rfl)) rfl ?_
    exact ⟨by rw [hg.out]; rfl, HE.out.tu⟩
  | true =>
    obtain ⟨v, t, ht⟩ := has_true hh
    have hg := Lib.hid (get_has ht)
    have hat := hi_get ht
    have HM2 := HM.out.no H2.out.tu
    obtain ⟨A, cap, hm, hr, _⟩ := HM2.rowed
    obtain ⟨b, off, hA, hb, x0, x1⟩ := (row_of_own hr).pair hat
    have hfv : Fit v := (HM.out.fit _ (List.mem_of_getElem? hat)).2
    have hlt : (lowL l key).length < l.length := (List.getElem?_eq_some_iff.1 hat).1
    have CL := Lib.hid fun (W : World) (t : Turn No w2 W) => clone_turn v hfv W t
    have m0 := hm.cell 0
    simp only [List.getElem?_toArray, List.getElem?_cons_zero] at m0
    subst hA
    clear hb hm hr HM2 hat ht hh hfv HM
    generalize (lowL l key).length = c at x0 x1 hlt ⊢
    simp only at x0 x1
    go_wp2_with (go_at_call 79; refine (CL.out _ (Turn.refl _ _)).mono ?_; rintro e w3 ⟨rfl, ht, _⟩; have H3 := Lib.hid (H2.out.no ht); clear ht; have f0 := H3.out.at_.thawed 0; have f1 := H3.out.at_.thawed 1; have f2 := H3.out.at_.thawed 2; have f3 := H3.out.at_.thawed 3; have d0 := H3.out.at_.cell 0; have d1 := H3.out.at_.cell 1; have d2 := H3.out.at_.cell 2; have d3 := H3.out.at_.cell 3; simp at d0 d1 d2 d3)
    have HE := Lib.hid (H3.out.all (.int .i64 0) (.bool true) (.string ⟨#[]⟩) (.string v))
    clear H3 f0 f1 f2 f3 d0 d1 d2 d3
    generalize (((w3.setCell ⟨g, 0, none⟩ (.int .i64 0)).setCell ⟨g, 1, none⟩ (.bool true)).setCell ⟨g, 2, none⟩ (.string ⟨#[]⟩)).setCell ⟨g, 3, none⟩ (.string v) = w4 at HE ⊢
    (try simp only [Exit.inBlock, Exit.then])
    refine bodyPost_ret (results_cell_row rfl _ _ g 38 _ (0, 0) _ (by rfl) HE.out.at_ Try.underlying38 rfl (by kernel_rfl)) rfl ?_
    exact ⟨by rw [hg.out]; rfl, HE.out.tu⟩
end Go.Proofs.Ytllppkfeiifklaa
namespace Go.Proofs.Ytllppkfeiifklaa
open Go.RowKit Go.Lib
set_option linter.unusedVariables false
set_option maxRecDepth 20000

/-- A builtin's call whose run is known; a structure, so that it is matched by its words alone. -/
structure BRun2 (b : Builtin) (ts : Array TypeId) (ty : TypeId) (vs vx r : Value) (w w' : World) : Prop where
  out : ∀ cs, (builtin b ts ty cs #[vs, vx]).run Try.prog w = .ok (.value r) w'
structure BRun1 (b : Builtin) (ts : Array TypeId) (ty : TypeId) (vs r : Value) (w w' : World) : Prop where
  out : ∀ cs, (builtin b ts ty cs #[vs]).run Try.prog w = .ok (.value r) w'
theorem step_brun2 {w w' : World} {ops : Array Oper} {o : Oper} {a : Act} {K : Act → World → Prop} {Q : Exit → Act → World → Prop} {E : Prop} (hgd : o.guard = none) (s x : Operand) (b : Builtin) (ts : Array TypeId)
    (ho : o.op = .call { callee := .builtin b, args := #[s, x], argTypes := ts }) (vs vx r : Value) (hs : a.eval s = vs) (hx : a.eval x = vx) (hrun : BRun2 b ts o.type vs vx r w w')
    (h : K (a.put o.dst r) w') : if Region.wanted o (yielded ops a.tmps) = true then Oper.wp Try.prog o a w K Q else E := by
  have hw : Region.wanted o (yielded ops a.tmps) = true := by simp [Region.wanted, hgd]
  rw [if_pos hw]
  unfold Oper.wp execOp
  simp only [ho, resolve, invoke, Sem.run_bind, Sem.run_pure, Result.andThen_ok, List.map_toArray, List.map_cons, List.map_nil, hs, hx, hrun.out]
  exact h
theorem wpList_brun2 {w w' : World} {ops : Array Oper} {rest : List Oper} {o : Oper} {a : Act} {Q : Exit → Act → World → Prop} (hgd : o.guard = none) (s x : Operand) (b : Builtin) (ts : Array TypeId)
    (ho : o.op = .call { callee := .builtin b, args := #[s, x], argTypes := ts }) (vs vx r : Value) (hs : a.eval s = vs) (hx : a.eval x = vx) (hrun : BRun2 b ts o.type vs vx r w w')
    (h : wpList Try.prog ops Q rest (a.put o.dst r) w') : wpList Try.prog ops Q (o :: rest) a w :=
  wpList_plain hgd fun K hK => by
    unfold Oper.wp execOp
    simp only [ho, resolve, invoke, Sem.run_bind, Sem.run_pure, Result.andThen_ok, List.map_toArray, List.map_cons, List.map_nil, hs, hx, hrun.out]
    exact hK _ _ h
theorem wpList_brun1 {w w' : World} {ops : Array Oper} {rest : List Oper} {o : Oper} {a : Act} {Q : Exit → Act → World → Prop} (hgd : o.guard = none) (s : Operand) (b : Builtin) (ts : Array TypeId)
    (ho : o.op = .call { callee := .builtin b, args := #[s], argTypes := ts }) (vs r : Value) (hs : a.eval s = vs) (hrun : BRun1 b ts o.type vs r w w')
    (h : wpList Try.prog ops Q rest (a.put o.dst r) w') : wpList Try.prog ops Q (o :: rest) a w :=
  wpList_plain hgd fun K hK => by
    unfold Oper.wp execOp
    simp only [ho, resolve, invoke, Sem.run_bind, Sem.run_pure, Result.andThen_ok, List.map_toArray, List.map_cons, List.map_nil, hs, hrun.out]
    exact hK _ _ h

theorem turn_of_grown {w w' : World} (h : w.grownBy w' none) : Turn No w w' := (Turn.refl No w).grown h fun k hk => by cases hk
theorem info_parts {P : Program} {e : TypeId} {z : Value} {s b : Nat} (h : (P.info? e).map (fun i => (i.zero, i.size, i.bytes)) = some (some z, s, b)) : ∃ i, P.info? e = some i ∧ i.zero = some z ∧ i.size = s ∧ i.bytes = b := by
  cases hi : P.info? e with
  | none => rw [hi] at h; cases h
  | some i =>
    rw [hi] at h
    simp only [Option.map_some, Option.some.injEq, Prod.mk.injEq] at h
    exact ⟨i, rfl, h.1, h.2.1, h.2.2⟩
theorem own_form {w : World} {base : Nat} {e : TypeId} {size n : Nat} {v : Value} {xs : List Value} (h : w.ownsRow base e size v n xs) : ∃ A cap, v = .slice A n cap := by
  rcases h.2 with ⟨hv, hn⟩ | ⟨g, cap, cur, hv, _⟩
  · subst hn; exact ⟨none, 0, hv⟩
  · exact ⟨_, cap, hv⟩
abbrev pz : Value := .agg #[.string ⟨#[]⟩, .string ⟨#[]⟩]
theorem info50 : (Try.prog.info? 47).map (fun i => (i.zero, i.size, i.bytes)) = some (some pz, 2, 32) := by kernel_rfl
theorem info_size : (Try.prog.info? 47).map (·.size) = some 2 := by kernel_rfl
theorem one_pcs (l : List Pr) : ∀ u ∈ pcs l, u.oneCell' = true := by
  intro u hu
  obtain ⟨x, _, hx⟩ := List.mem_flatMap.1 hu
  simp only [Pr.cs, List.mem_cons, List.not_mem_nil, or_false] at hx
  rcases hx with rfl | rfl <;> rfl
/-- A block of pairs' cells: all of them, as a list. -/
def Blk (w : World) (g : Nat) (cur : List Value) : Prop := At w g (.cells cur.toArray 47 (0, 0))
theorem turn_setRow (w : World) (g : Nat) (cs : Array Value) : Turn (fun k => k = g) w (w.setRow g cs) :=
  ⟨rfl, rfl, rfl, by simp, fun k _ hk => setRow_other w g k cs hk⟩
theorem blk_setRow {w : World} {g : Nat} {cur : List Value} (h : Blk w g cur) (cs : List Value) : Blk (w.setRow g cs.toArray) g cs := setRow_heap w g _ _ 47 _ h
theorem add_lit0 (b o j : Nat) : (⟨b, o, none⟩ : Addr).add j = ⟨b, o + j, none⟩ := by
  unfold Addr.add
  split
  · rename_i h; subst h; rfl
  · rfl

/-- copy: into a block of pairs. -/
theorem run_cp {w : World} {g o dLen dCap sLen sCap : Nat} {cur : List Value} (hg : Blk w g cur) (sb so : Nat) (cs : List Value) (hn : cs.length = Nat.min sLen dLen * 2)
    (hsrc : ∀ j v, cs[j]? = some v → w.cell? ⟨sb, so + j, none⟩ = some v) (hfit : o + cs.length ≤ cur.length) (h1 : ∀ v ∈ cs, v.oneCell' = true) (ty : TypeId) :
    BRun2 .copy #[22, 22] ty (.slice (some ⟨g, o, none⟩) dLen dCap) (.slice (some ⟨sb, so, none⟩) sLen sCap) (goInt (Nat.min sLen dLen)) w (w.setRow g (splice cur o cs).toArray) := by
  have hl := run_loadCells_list (P := Try.prog) w ⟨sb, so, none⟩ cs (fun j v h => by rw [add_lit0]; exact hsrc j v h)
  have hst := run_storeCells_at Try.prog g o 47 cs 0 cur.toArray w hg (by simpa using hfit) h1
  obtain ⟨i, hi, _, hz1, _⟩ := info_parts info50
  refine ⟨fun q => ?_⟩
  simp [builtin, Builtin.copy_, run_underlying Try.underlying22, Builtin.lenOf, Builtin.firstCells, sizeOf, typeInfo, hi, hz1, ← hn, hl, hst, splice]
/-- clear: the last n pairs from place o on. -/
theorem run_cl {w : World} {g o n cap : Nat} {cur : List Value} (hg : Blk w g cur) (hfit : o + n * 2 ≤ cur.length) (h0 : 0 < n) (ty : TypeId) :
    ∃ cs : List Value, cs.length = n * 2 ∧ BRun1 .clear #[22] ty (.slice (some ⟨g, o, none⟩) n cap) (.tuple #[]) w (w.setRow g (splice cur o cs).toArray) := by
  have hlen : (Builtin.zeroCells pz.cells n).toList.length = n * 2 := by simp [Builtin.zeroCells, Value.cells]
  have hst := run_storeCells_at Try.prog g o 47 (Builtin.zeroCells pz.cells n).toList 0 cur.toArray w hg (by rw [hlen]; simpa using hfit) (by
    intro v hv
    simp only [Builtin.zeroCells, Value.cells] at hv
    have hv := Array.mem_toList_iff.1 hv
    simp at hv
    obtain ⟨a, _, rfl⟩ := hv
    have : a % 2 = 0 ∨ a % 2 = 1 := by omega
    rcases this with h | h <;> rw [h] <;> rfl)
  obtain ⟨i, hi, hz, hz1, _⟩ := info_parts info50
  refine ⟨(Builtin.zeroCells pz.cells n).toList, hlen, ⟨fun q => ?_⟩⟩
  obtain ⟨m, rfl⟩ : ∃ m, n = m + 1 := ⟨n - 1, by omega⟩
  simp [builtin, Builtin.clear_, run_underlying Try.underlying22, zeroValue, typeInfo, hi, hz, splice] at hst ⊢
  simp [hst]
theorem run_cl0 (w : World) (A : Option Addr) (cap : Nat) (ty : TypeId) : BRun1 .clear #[22] ty (.slice A 0 cap) (.tuple #[]) w w := by
  refine ⟨fun q => ?_⟩
  cases A <;> simp [builtin, Builtin.clear_, run_underlying Try.underlying22]
end Go.Proofs.Ytllppkfeiifklaa
namespace Go.Proofs.Ytllppkfeiifklaa
open Go.RowKit Go.Lib
set_option linter.unusedVariables false
set_option maxRecDepth 20000
set_option linter.unusedSimpArgs false

/-- A row of n pairs at the head of a block whose cells are cur. -/
structure Hd (w : World) (g : Nat) (cap : Nat) (cur : List Value) (l : List Pr) : Prop where
  blk : Blk w g cur
  size : cur.length = cap * 2
  fits : l.length ≤ cap
  head : cur.take (l.length * 2) = pcs l
theorem Hd.own {w : World} {g cap Z : Nat} {cur : List Value} {l : List Pr} (h : Hd w g cap cur l) (hZ : Z ≤ g) (hc : cap ≤ maxLen) : w.ownsRow Z 47 2 (.slice (some ⟨g, 0, none⟩) l.length cap) l.length (pcs l) :=
  ⟨pcs_length l, .inr ⟨g, cap, cur.toArray, rfl, hZ, h.blk, h.fits, hc, by simpa using h.size, h.head⟩⟩
theorem Hd.of_own {w : World} {Z n cap : Nat} {A : Option Addr} {l : List Pr} (h : w.ownsRow Z 47 2 (.slice A n cap) n (pcs l)) (hn : n = l.length) (h0 : 0 < cap) : ∃ g cur, A = some ⟨g, 0, none⟩ ∧ Z ≤ g ∧ cap ≤ maxLen ∧ Hd w g cap cur l := by
  subst hn
  obtain ⟨_, ⟨hv, _⟩ | ⟨g, c, cur, hv, hb, hg, hn, hc, hs, ht⟩⟩ := h
  · injection hv with _ _ e3
    omega
  · injection hv with e1 _ e3
    subst e1 e3
    exact ⟨g, cur.toList, rfl, hb, hc, ⟨by unfold Blk At; simpa using hg, by simpa using hs, hn, ht⟩⟩
theorem Hd.cell {w : World} {g cap : Nat} {cur : List Value} {l : List Pr} (h : Hd w g cap cur l) {j : Nat} {u : Value} (hj : (pcs l)[j]? = some u) : w.cell? ⟨g, j, none⟩ = some u := by
  have h1 := At.cell h.blk j
  rw [h1]
  have hlt : j < l.length * 2 := by rw [← pcs_length]; exact (List.getElem?_eq_some_iff.1 hj).1
  rw [← h.head, List.getElem?_take, if_pos hlt] at hj
  simpa using hj

theorem splice_head {L M : List Value} {a b k : Nat} {cs : List Value} (hL : L.take a = M) (hb : b = a + cs.length) (hl : a + cs.length ≤ L.length) : (splice L a cs).take b = M ++ cs := by
  unfold splice
  have hm : M.length = a := by rw [← hL, List.length_take]; omega
  rw [hL, ← List.append_assoc, List.take_left']
  simp [hm, hb]
theorem splice_keep {L M : List Value} {a off : Nat} {cs : List Value} (hL : L.take a = M) (ha : a ≤ off) (hl : off ≤ L.length) : (splice L off cs).take a = M := by
  unfold splice
  rw [List.take_append_of_le_length (by rw [List.length_take]; omega), List.take_take, Nat.min_eq_left ha, hL]

set_option maxHeartbeats 2000000 in
theorem delete_any {w : World} {g cap : Nat} {cur : List Value} (X Y : List Pr) (p : Pr) (h : Hd w g cap cur (X ++ p :: Y)) (hc : cap ≤ maxLen) :
    Calls Try.prog 98 #[.slice (some ⟨g, 0, none⟩) (X.length + (Y.length + 1)) cap, .int .i64 (X.length : Int), .int .i64 ((X.length : Int) + 1)] w fun e w' =>
      e = .returned (.slice (some ⟨g, 0, none⟩) (X.length + Y.length) cap) ∧ (∃ cur', Hd w' g cap cur' (X ++ Y)) ∧ Turn (fun k => k = g) w w' := by
  have hfit : X.length + (Y.length + 1) ≤ cap := by simpa using h.fits
  have hs := h.size
  have hd := h.head
  simp only [List.length_append, List.length_cons] at hd
  unfold maxLen at hc
  have hx : cur.take (X.length * 2) = pcs X := by
    have := congrArg (List.take (X.length * 2)) hd
    rw [List.take_take, Nat.min_eq_left (by omega), pcs_append, List.take_left' (pcs_length X)] at this
    exact this
  obtain ⟨cur1, hcur1⟩ : ∃ c, splice cur (X.length * 2) (pcs Y) = c := ⟨_, rfl⟩
  have hY : ∀ j v, (pcs Y)[j]? = some v → w.cell? ⟨g, (X.length + 1) * 2 + j, none⟩ = some v := fun j v hj => h.cell (by
    rw [pcs_append, List.getElem?_append_right (by rw [pcs_length]; omega), pcs_length]
    have : (X.length + 1) * 2 + j - X.length * 2 = 2 + j := by omega
    rw [this]
    show (p.cs ++ pcs Y)[2 + j]? = some v
    rw [List.getElem?_append_right (by simp [Pr.cs])]
    simpa [Pr.cs] using hj)
  have hlen1 : cur1.length = cap * 2 := by rw [← hcur1, length_splice _ _ _ (by rw [pcs_length]; omega), hs]
  have htk1 : cur1.take ((X.length + Y.length) * 2) = pcs (X ++ Y) := by
    rw [← hcur1, pcs_append]
    exact splice_head (k := 0) hx (by rw [pcs_length]; omega) (by rw [pcs_length]; omega)
  obtain ⟨i0, hi0, _, hz1, _⟩ := info_parts info50
  have hrA : ∀ so, (so = (X.length + 1) * 2 ∨ Y.length = 0) → BRun2 .append #[22, 22] 22 (.slice (some ⟨g, 0, none⟩) X.length cap) (.slice (some ⟨g, so, none⟩) Y.length (cap - (X.length + 1))) (.slice (some ⟨g, 0, none⟩) (X.length + Y.length) cap) w.drew (w.drew.setRow g cur1.toArray) := fun so hso => ⟨fun q => by
    have hY2 : ∀ j v, (pcs Y)[j]? = some v → w.cell? ⟨g, so + j, none⟩ = some v := by
      rcases hso with rfl | h0
      · exact hY
      · rw [List.eq_nil_of_length_eq_zero h0]; intro j v hj; simp [pcs] at hj
    have := run_append_room (P := Try.prog) w.drew 22 22 47 i0 Try.underlying22 hi0 g X.length cap cur.toArray h.blk ⟨g, so, none⟩ Y.length (cap - (X.length + 1)) (pcs Y) (by rw [pcs_length, hz1]) (fun j u hj => by rw [add_lit0]; exact hY2 j u hj) (one_pcs _) (by omega) (by rw [hz1, pcs_length]; simp; omega)
    rw [hz1] at this
    simp only [builtin, Sem.run_bind, this, Result.andThen_ok, Sem.run_pure]
    rw [← hcur1]
    unfold splice
    simp⟩
  have hB1 : Blk (w.drew.setRow g cur1.toArray) g cur1 := blk_setRow (w := w.drew) h.blk _
  have t1 : Turn (fun k => k = g) w (w.drew.setRow g cur1.toArray) := (Turn.refl _ w).drew.trans (turn_setRow _ _ _)
  generalize w.drew.setRow g cur1.toArray = w2 at hrA hB1 t1
  obtain ⟨zs, hzs, hrC⟩ := run_cl (n := X.length + (Y.length + 1) - (X.length + Y.length)) (cap := cap - (X.length + Y.length)) hB1 (o := (X.length + Y.length) * 2) (by omega) (by omega) 0
  have hFin : Hid ((∃ cur', Hd (w2.setRow g (splice cur1 ((X.length + Y.length) * 2) zs).toArray) g cap cur' (X ++ Y)) ∧ Turn (fun k => k = g) w (w2.setRow g (splice cur1 ((X.length + Y.length) * 2) zs).toArray)) := by
    refine Lib.hid ⟨⟨_, blk_setRow hB1 _, ?_, by simp; omega, ?_⟩, t1.trans (turn_setRow _ _ _)⟩
    · rw [length_splice _ _ _ (by omega), hlen1]
    · rw [List.length_append]
      exact splice_keep htk1 (Nat.le_refl _) (by omega)
  generalize (w2.setRow g (splice cur1 ((X.length + Y.length) * 2) zs).toArray) = w3 at hrC hFin
  clear h hd hx hcur1 hY hlen1 htk1 hi0 hz1 hB1 t1 hzs hs
  have n1 : X.length ≤ cap := by omega
  have n2 : X.length + 1 ≤ X.length + (Y.length + 1) := by omega
  have n3 : X.length + (Y.length + 1) - (X.length + 1) = Y.length := by omega
  have n4 : (0 : Int) ≤ (X.length : Int) + 1 := by omega
  have n5 : (1 : Int) ≤ (Y.length : Int) + 1 := by omega
  have hcase : Hid (cap = X.length + 1 ∨ ¬ cap = X.length + 1) := Lib.hid (Decidable.em _)
  go_enter Try.func98, Try.ntmps98
  go_wp2_with fail
  rcases hcase.out with hq | hq
  · have hrA1 := hrA 0 (Or.inr (by omega))
    clear hrA hcase
    have n6 : (X.length : Int) ≤ (X.length : Int) + 1 := by omega
    subst hq
    rw [show X.length + 1 - (X.length + 1) = 0 by omega] at hrA1
    go_region_law ((refine step_brun2 (by rfl) _ _ .append _ (by rfl) _ _ _ (by simp [Act.eval, Act.put]) (by simp [Act.eval, Act.put]) hrA1 ?_))
    all_goals go_wp2_with (refine wpList_brun1 (by rfl) _ .clear _ (by rfl) _ _ (by rfl) hrC ?_)
    all_goals go_ret
    all_goals exact ⟨rfl, hFin.out⟩
  · have hrA1 := hrA _ (Or.inl rfl)
    clear hrA hcase
    go_region_law ((refine step_brun2 (by rfl) _ _ .append _ (by rfl) _ _ _ (by simp [Act.eval, Act.put]) (by simp [Act.eval, Act.put]) hrA1 ?_))
    all_goals go_wp2_with (refine wpList_brun1 (by rfl) _ .clear _ (by rfl) _ _ (by rfl) hrC ?_)
    all_goals go_ret
    all_goals exact ⟨rfl, hFin.out⟩
end Go.Proofs.Ytllppkfeiifklaa
namespace Go.Proofs.Ytllppkfeiifklaa
open Go.RowKit Go.Lib
set_option linter.unusedVariables false
set_option maxRecDepth 20000
set_option linter.unusedSimpArgs false

theorem and3 {a b c : Prop} (ha : a) (hb : b) (hc : c) : a ∧ b ∧ c := ⟨ha, hb, hc⟩
theorem app_own {w : World} {Z : Nat} {v : Value} {n : Nat} {xs : List Value} (h : w.ownsRow Z 47 2 v n xs) (vb : Nat) (p : Pr) (hp : At w vb (.cells #[.string p.k, .string p.v] 47 (0, 0))) (hn : n + 1 ≤ 1000000) (hz : Z ≤ w.heap.size) (ty : TypeId) :
    ∃ B cap w', BRun2 .append #[22, 22] ty v (.slice (some ⟨vb, 0, none⟩) 1 1) (.slice B (n + 1) cap) w w' ∧ w'.ownsRow Z 47 2 (.slice B (n + 1) cap) (n + 1) (xs ++ p.cs) ∧ Turn (fun i => v.ownBlock = some i) w w' ∧ ((Value.slice B (n + 1) cap).ownBlock = v.ownBlock ∨ (Value.slice B (n + 1) cap).ownBlock = some w.heap.size) := by
  obtain ⟨i0, hi, hz0, hz1, hz2⟩ := info_parts info50
  obtain ⟨v', w', hr, h2, h3, _, h5⟩ := run_append_own_at (P := Try.prog) w Z 22 ty 47 i0 pz 2 32 Try.underlying22 hi hz0 hz1 hz2 (by rfl) (by decide) v n xs h ⟨vb, 0, none⟩ 1 1 p.cs (by simp [Pr.cs]) (fun j u hj => by
      rw [add_lit0, hp.cell]
      rw [Nat.zero_add]
      rw [show (#[Value.string p.k, Value.string p.v] : Array Value) = p.cs.toArray from rfl]
      simpa using hj) (fun u hu => one_pcs [p] u (by simpa [pcs] using hu)) (by unfold maxLen; omega) (by omega) hz
  obtain ⟨B, cap, rfl⟩ := own_form h2
  exact ⟨B, cap, w', ⟨fun q => by simp only [builtin, Sem.run_bind, hr, Result.andThen_ok, Sem.run_pure]⟩, h2, (Turn.refl _ w).grown h3 (fun k hk => Or.inl hk), h5⟩

set_option maxHeartbeats 1000000 in
theorem insert_end {w : World} {Z g cap n : Nat} {xs : List Value} (h : w.ownsRow Z 47 2 (.slice (some ⟨g, 0, none⟩) n cap) n xs) (vb : Nat) (p : Pr) (hp : At w vb (.cells #[.string p.k, .string p.v] 47 (0, 0))) (hn : n ≤ 100000) (hcap : n ≤ cap) (hz : Z ≤ w.heap.size) :
    Calls Try.prog 97 #[.slice (some ⟨g, 0, none⟩) n cap, .int .i64 (n : Int), .slice (some ⟨vb, 0, none⟩) 1 1] w fun e w' => ∃ B cap', e = .returned (.slice B (n + 1) cap') ∧
      w'.ownsRow Z 47 2 (.slice B (n + 1) cap') (n + 1) (xs ++ p.cs) ∧ Turn (fun i => i = g) w w' ∧ ((Value.slice B (n + 1) cap').ownBlock = some g ∨ (Value.slice B (n + 1) cap').ownBlock = some w.heap.size) := by
  obtain ⟨B, cap', w2, hr, ho, ht, hB⟩ := app_own h vb p hp (by omega) hz 22
  have hF := Lib.hid (and3 ho (ht.mono (Y := fun i => i = g) fun k _ hk => by simpa [Value.ownBlock, eq_comm] using hk) hB)
  clear h hp ho ht hz hB
  go_enter Try.func97, Try.ntmps97
  go_wp2_with (refine wpList_brun2 (by rfl) _ _ .append _ (by rfl) _ _ _ (by rfl) (by rfl) hr ?_)
  all_goals go_ret
  all_goals exact ⟨B, cap', rfl, hF.out⟩
set_option maxHeartbeats 1000000 in
theorem insert_nil (w : World) (vb : Nat) (p : Pr) (hp : At w vb (.cells #[.string p.k, .string p.v] 47 (0, 0))) {Z : Nat} (hz : Z ≤ w.heap.size) :
    Calls Try.prog 97 #[.slice none 0 0, .int .i64 0, .slice (some ⟨vb, 0, none⟩) 1 1] w fun e w' => ∃ B cap', e = .returned (.slice B 1 cap') ∧
      w'.ownsRow Z 47 2 (.slice B 1 cap') 1 p.cs ∧ Turn No w w' ∧ (Value.slice B 1 cap').ownBlock = some w.heap.size := by
  obtain ⟨B, cap', w2, hr, ho, ht, hB⟩ := app_own (World.ownsRow_nil w Z 47 2) vb p hp (by omega) hz 22
  have hB2 : (Value.slice B (0 + 1) cap').ownBlock = some w.heap.size := by
    rcases hB with h1 | h1
    · exfalso
      rcases ho.2 with ⟨hv, _⟩ | ⟨g, c, cur, hv, _⟩
      · injection hv with _ e2 _; cases e2
      · rw [hv] at h1; cases h1
    · exact h1
  have hF := Lib.hid (and3 ho (ht.mono (Y := No) fun k _ hk => by simp [Value.ownBlock] at hk) hB2)
  clear hp ho ht hz hB hB2
  go_enter Try.func97, Try.ntmps97
  go_wp2_with (refine wpList_brun2 (by rfl) _ _ .append _ (by rfl) _ _ _ (by rfl) (by rfl) hr ?_)
  all_goals go_ret
  all_goals exact ⟨B, cap', rfl, hF.out⟩
end Go.Proofs.Ytllppkfeiifklaa
