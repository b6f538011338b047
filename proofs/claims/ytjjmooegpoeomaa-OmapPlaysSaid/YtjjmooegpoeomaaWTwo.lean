/-
  One map, or two, that are new since the law began; what each call makes of them.
-/
import Derived.Test.YtjjmooegpoeomaaWNewl
import Derived.Test.YtjjmooegpoeomaaWGts
import Derived.Test.YtjjmooegpoeomaaWNob
namespace Go.Proofs.Ytjjmooegpoeomaa
open Go.RowKit Go.Lib
set_option linter.unusedVariables false
set_option linter.unusedSimpArgs false

/-- One map, new since w. -/
structure So (w wr : World) (m : Nat) (r : Option Nat) (l : List Pr) : Prop where
  a : Om wr w.heap.size m r l
  tu : Turn No w wr
/-- Two maps, new since w, apart. -/
structure Sc (w wr : World) (m1 : Nat) (r1 : Option Nat) (l1 : List Pr) (m2 : Nat) (r2 : Option Nat) (l2 : List Pr) : Prop where
  a : Om wr w.heap.size m1 r1 l1
  b : Om wr w.heap.size m2 r2 l2
  ne : m1 ≠ m2
  dj : ∀ k, r1 = some k → r2 ≠ some k
  tu : Turn No w wr
/-- What a map's turning may touch. -/
abbrev Mp (m : Nat) (r : Option Nat) (k : Nat) : Prop := k = m ∨ r = some k
theorem Om.nr {w : World} {Z mb mb' : Nat} {rb rb' : Option Nat} {l l' : List Pr} (h : Om w Z mb rb l) (h' : Om w Z mb' rb' l') : rb ≠ some mb' := by
  obtain ⟨A, cap, hm, _, _⟩ := h'.rowed
  obtain ⟨A2, cap2, _, hr, hb⟩ := h.rowed
  intro e
  rcases hr.2 with ⟨hv, _⟩ | ⟨g', c', cur, hv, _, hg', _⟩
  · rw [hv, e] at hb; cases hb
  · rw [hv, e] at hb
    injection hb with hb
    exact At.ne hm hg' (fun e => by injection e with _ e; exact absurd e (by decide)) hb.symm
theorem Om.keep {w w' : World} {Z mb g : Nat} {rb : Option Nat} {l : List Pr} {c : Array Value} {t : TypeId} (h : Om w Z mb rb l) (hg : At w g (.cells c t (0, 0))) (h1 : t ≠ 65) (h2 : t ≠ 50) (tu : Turn (Mp mb rb) w w') : At w' g (.cells c t (0, 0)) := by
  have := h.apart hg h1 h2
  exact hg.turn tu (fun e => e.elim this.1 this.2)
theorem turn_mp {w W w' : World} {m : Nat} {r : Option Nat} {l : List Pr} (h : Om W w.heap.size m r l) (t : Turn No w W) (t2 : Turn (Mp m r) W w') : Turn No w w' :=
  t.then t2 fun i hi e => by
    rcases e with e | e
    · have := h.mb_new; omega
    · have := (h.rb_lt e).1; omega
/-- Do, of a map that is new since w, with what came in. -/
theorem om_do {w W : World} {m : Nat} {r : Option Nat} {l : List Pr} (h : Om W w.heap.size m r l) (t : Turn No w W) (kind : Int) (k v o : ByteArray) (had aft : Bool) (A : Option Addr) (cap : Nat) (ws : List Wr) (hrow : Row w A (wcs ws)) (hf : Few k v o ws) (hn : l.length ≤ 30000) {a : Ans} {l2 : List Pr} (ha : doA l kind k v o had aft ws = a) (hl : doM l kind k v o had aft ws = l2) :
    Calls Try.prog 16 #[.pointer (some ⟨m, 0, none⟩), .agg #[.int .u8 kind, .string k, .string v, .string o, .bool had, .bool aft, .slice A ws.length cap]] W fun e w' => e = .returned (.agg #[.int .i64 a.code, .bool a.found, .string a.k, .string a.v]) ∧
      ∃ r', Om w' w.heap.size m r' l2 ∧ (r' = r ∨ ∃ k, r' = some k ∧ W.heap.size ≤ k) ∧ Turn (Mp m r) W w' := by
  refine (do_any h kind k v o had aft A cap ws (hrow.turn t fun _ _ _ h => h) (fun b o hA h0 => ?_) ⟨fit500 hf.k, fit500 hf.v, fun x hx => ⟨fit500 (hf.w x hx).1, fit500 (hf.w x hx).2⟩⟩ (fit500 hf.o) t.size (by have := hf.n; omega)).mono ?_
  · obtain ⟨x, hx⟩ : ∃ x, ws[0]? = some x := ⟨ws[0], List.getElem?_eq_getElem h0⟩
    obtain ⟨b', o', hA', hb, _⟩ := hrow.wr hx
    rw [hA] at hA'
    injection hA' with hA'
    injection hA' with e1 _
    subst e1
    refine ⟨by have := h.mb_new; omega, fun e => ?_⟩
    have := (h.rb_lt e).1
    omega
  · rintro e w' ⟨rfl, r', hom, hr, ht⟩
    rw [ha]
    rw [hl] at hom
    exact ⟨rfl, r', hom, hr, ht⟩
section
variable {w W : World} {m1 m2 : Nat} {r1 r2 : Option Nat} {l1 l2 : List Pr}
theorem Sc.swap (h : Sc w W m1 r1 l1 m2 r2 l2) : Sc w W m2 r2 l2 m1 r1 l1 := ⟨h.b, h.a, fun e => h.ne e.symm, fun k h1 h2 => h.dj k h2 h1, h.tu⟩
theorem Sc.no {w' : World} (h : Sc w W m1 r1 l1 m2 r2 l2) (t : Turn No W w') : Sc w w' m1 r1 l1 m2 r2 l2 := ⟨h.a.no t, h.b.no t, h.ne, h.dj, h.tu.trans t⟩
theorem Sc.far {w' : World} {X : Nat → Prop} (h : Sc w W m1 r1 l1 m2 r2 l2) (t : Turn X W w') (hX : ∀ k, X k → w.heap.size ≤ k ∧ k ≠ m1 ∧ k ≠ m2 ∧ r1 ≠ some k ∧ r2 ≠ some k) : Sc w w' m1 r1 l1 m2 r2 l2 :=
  ⟨h.a.turn t (fun e => (hX _ e).2.1 rfl) (fun k hk e => (hX _ e).2.2.2.1 hk), h.b.turn t (fun e => (hX _ e).2.2.1 rfl) (fun k hk e => (hX _ e).2.2.2.2 hk), h.ne, h.dj, h.tu.then t fun i hi e => by have := (hX i e).1; omega⟩
/-- The first one has turned. -/
theorem Sc.step {w' : World} {l1' : List Pr} {r1' : Option Nat} (h : Sc w W m1 r1 l1 m2 r2 l2) (hom : Om w' w.heap.size m1 r1' l1') (hr : r1' = r1 ∨ ∃ k, r1' = some k ∧ W.heap.size ≤ k) (t : Turn (Mp m1 r1) W w') : Sc w w' m1 r1' l1' m2 r2 l2 := by
  refine ⟨hom, h.b.turn t (fun e => ?_) (fun k hk e => ?_), h.ne, fun k hk h2 => ?_, turn_mp h.a h.tu t⟩
  · rcases e with e | e
    · exact h.ne e.symm
    · exact h.a.nr h.b e
  · rcases e with e | e
    · subst e; exact h.b.nr h.a hk
    · exact h.dj k e hk
  · rcases hr with e | ⟨q, e, hq⟩
    · rw [e] at hk; exact h.dj k hk h2
    · rw [e] at hk
      injection hk with hk
      have := (h.b.rb_lt h2).2
      omega
theorem So.no {w' : World} (h : So w W m1 r1 l1) (t : Turn No W w') : So w w' m1 r1 l1 := ⟨h.a.no t, h.tu.trans t⟩
end
/-- New: the first one. -/
theorem so_new {w W : World} (t : Turn No w W) (A : Option Addr) (cap : Nat) (l : List Pr) (hl : InP w A l.length cap l) (hn : l.length ≤ 100) :
    Calls Try.prog 11 #[.slice A l.length cap] W fun e w' => ∃ m r, e = .returned (.pointer (some ⟨m, 0, none⟩)) ∧ So w w' m (some r) (news l) ∧ Turn No W w' := by
  refine (new_any l A cap W t.size (hl.row.turn t fun _ _ _ h => h) hl.nil hl.fit (by omega)).mono ?_
  rintro e w' ⟨mb, rb, rfl, hom, h1, h2, ht⟩
  exact ⟨mb, rb, rfl, ⟨hom, t.trans ht⟩, ht⟩
/-- New: the second one. -/
theorem sc_new {w W : World} {m1 : Nat} {r1 : Option Nat} {l1 : List Pr} (h : So w W m1 r1 l1) (A : Option Addr) (cap : Nat) (l : List Pr) (hl : InP w A l.length cap l) (hn : l.length ≤ 100) :
    Calls Try.prog 11 #[.slice A l.length cap] W fun e w' => ∃ m r, e = .returned (.pointer (some ⟨m, 0, none⟩)) ∧ Sc w w' m1 r1 l1 m (some r) (news l) ∧ Turn No W w' := by
  refine (new_any l A cap W h.tu.size (hl.row.turn h.tu fun _ _ _ h => h) hl.nil hl.fit (by omega)).mono ?_
  rintro e w' ⟨mb, rb, rfl, hom, h1, h2, ht⟩
  refine ⟨mb, rb, rfl, ⟨h.a.no ht, hom, fun e => ?_, fun k hk e => ?_, h.tu.trans ht⟩, ht⟩
  · have := h.a.lt; omega
  · injection e with e
    have := (h.a.rb_lt hk).2
    omega
theorem news_few {l : List Pr} (h : l.length ≤ 100) : (news l).length ≤ 100 := Nat.le_trans (news_length l) h
/-- A batch that is let by: so is each of its writes. -/
theorem ref_each {k v o : ByteArray} {had : Bool} {ws : List Wr} (h : refO 6 k v o had ws = 0) {x : Wr} (hx : x ∈ ws) : refO (if x.gone then 3 else 2) x.k x.v ⟨#[]⟩ false [] = 0 := by
  have h1 : refW ws = 0 := by
    unfold refO at h
    rwa [if_neg (by decide), if_neg (by decide), if_neg (by decide), if_pos rfl] at h
  have h2 : ws.any badW = false := by
    unfold refW at h1
    split at h1
    · cases h1
    · split at h1
      · cases h1
      · rename_i h3; simpa using h3
  have h3 : badW x = false := by
    have := List.any_eq_false.1 h2 x hx
    simpa using this
  unfold badW at h3
  have hk : bigK x.k = false := by
    cases hb : bigK x.k with
    | false => rfl
    | true => rw [hb] at h3; simp at h3
  unfold refO
  cases hg : x.gone with
  | true => simp [hk]
  | false =>
    rw [hg] at h3
    have hv : bigV x.v = false := by simpa [hk] using h3
    simp [hk, hv]
theorem doM_each {l : List Pr} {x : Wr} (h : refO (if x.gone then 3 else 2) x.k x.v ⟨#[]⟩ false [] = 0) : doM l (if x.gone then 3 else 2) x.k x.v ⟨#[]⟩ false false [] = wr1 l x := by
  unfold doM wr1
  rw [if_pos h]
  cases x.gone <;> simp
theorem doM_batch {l : List Pr} {k v o : ByteArray} {had aft : Bool} {ws : List Wr} : doM l 6 k v o had aft ws = if refO 6 k v o had ws = 0 then wrL l ws else l := by
  unfold doM
  split
  · simp
  · rfl
theorem doA_batch {l : List Pr} {k v o : ByteArray} {had aft : Bool} {ws : List Wr} : doA l 6 k v o had aft ws = ⟨refO 6 k v o had ws, false, ⟨#[]⟩, ⟨#[]⟩⟩ := by
  unfold doA
  split
  · rename_i h; rw [h]; simp
  · rfl
theorem wrL_length (l : List Pr) : ∀ ws : List Wr, (wrL l ws).length ≤ l.length + ws.length := by
  intro ws
  unfold wrL
  induction ws generalizing l with
  | nil => simp
  | cons x t ih =>
    rw [List.foldl_cons]
    have h1 := ih (wr1 l x)
    have h2 := wr1_length l x
    rw [List.length_cons]
    omega
end Go.Proofs.Ytjjmooegpoeomaa
