/-
  A B-link tree in memory: its nodes in an arena's places; what is read there, and written over.
  Alloc of a node: the store has one more.
  A B-link tree in memory; isMade, stands, last.
  A row of pointers of one's own.
  The way down a B-link tree, as plain data; what Get tells there.
  The tree's line: the way down to a key.
-/
import Derived.Test.YtfplnobnmgbgoaaDoorJ11
import Derived.Test.YtfplnobnmgbgoaaDoorJ10
namespace Go.Proofs.YtfplnobnmgbgoaaDoor
open Go.RowKit Go.Lib
set_option linter.unusedVariables false
set_option maxRecDepth 20000
set_option linter.unusedSimpArgs false

open Go.Maps
/-- A node's eight cells. -/
def ndc (n : Nd) (AK : Option Addr) (ck : Nat) (AV : Option Addr) (cv : Nat) (AD : Option Addr) (cd : Nat) : Array Value := #[.bool n.leaf, .slice AK n.keys.length ck, .slice AV n.vals.length cv, .slice AD n.kids.length cd, .string n.high, .bool n.bnd, .int .i64 n.nx.slot, .int .u64 n.nx.gen]
/-- A node whose rows are read, and lie in blocks of texts and handles. -/
structure Inn (w : World) (n : Nd) (AK AV AD : Option Addr) : Prop where
  i : In w n AK AV AD
  wk : Wt w 9 1 AK n.keys.length
  wv : Wt w 9 1 AV n.vals.length
  wd : Wt w 77 2 AD n.kids.length
theorem Inn.no {w w' : World} {n : Nd} {AK AV AD : Option Addr} (h : Inn w n AK AV AD) (t : Turn No w w') : Inn w' n AK AV AD := ⟨h.i.no t, h.wk.no t, h.wv.no t, h.wd.no t⟩
theorem Wt.turn {X : Nat → Prop} {w w' : World} {t s n : Nat} {A : Option Addr} (h : Wt w t s A n) (k : Turn X w w') (hX : ∀ b c, At w b (.cells c t (0, 0)) → ¬ X b) : Wt w' t s A n := by
  rcases h with h | ⟨b, off, cur, hA, hat, hs⟩
  · exact Or.inl h
  · exact Or.inr ⟨b, off, cur, hA, hat.turn k (hX b _ hat), hs⟩
theorem Row.wt {X : Nat → Prop} {w w' : World} {t s n : Nat} {A : Option Addr} {xs : List Value} (h : Row w A xs) (hw : Wt w t s A n) (hl : xs.length = n * s) (k : Turn X w w') (hX : ∀ b c, At w b (.cells c t (0, 0)) → ¬ X b) : Row w' A xs := by
  rcases hw with hw | ⟨b, off, cur, hA, hat, hs⟩
  · subst hw
    rw [Nat.zero_mul] at hl
    rw [List.eq_nil_of_length_eq_zero hl]
    exact Row.nil _ _
  · exact h.turn k fun b2 o2 e => by
      rw [hA] at e
      injection e with e
      injection e with e _
      subst e
      exact hX _ _ hat
theorem Inn.turn {X : Nat → Prop} {w w' : World} {n : Nd} {AK AV AD : Option Addr} (h : Inn w n AK AV AD) (k : Turn X w w') (hX : ∀ b c, At w b (.cells c 9 (0, 0)) → ¬ X b) (hY : ∀ b c, At w b (.cells c 77 (0, 0)) → ¬ X b) : Inn w' n AK AV AD :=
  ⟨⟨h.i.k.wt h.wk (by rw [kcs_length, Nat.mul_one]) k hX, h.i.v.wt h.wv (by rw [kcs_length, Nat.mul_one]) k hX, h.i.d.wt h.wd (hcs_length _) k hY, h.i.fk, h.i.fv, h.i.fh, h.i.lk, h.i.lv, h.i.ld⟩, h.wk.turn k hX, h.wv.turn k hX, h.wd.turn k hY⟩
def NdV (w : World) (v : Array Value) (n : Nd) : Prop := ∃ AK ck AV cv AD cd, v = ndc n AK ck AV cv AD cd ∧ Inn w n AK AV AD
/-- A tree's blocks: its own, its arena's, the arena's map, its pool's three; all its own ones lie from block Z on. -/
structure Ids where
  (tb ab mb pb gb fb Z : Nat)
/-- What a tree's calls may turn. -/
def Xt (I : Ids) (w : World) (i : Nat) : Prop := i = I.mb ∨ i = I.tb ∨ i = I.gb ∨ i = I.fb ∨ (I.Z ≤ i ∧ ∃ c, At w i (.cells c 121 (0, 0)))
def Tn (I : Ids) (w w' : World) : Prop := Turn (Xt I w) w w'
theorem Tn.refl (I : Ids) (w : World) : Tn I w w := Turn.refl _ _
theorem Tn.of {I : Ids} {w w' : World} {X : Nat → Prop} (t : Turn X w w') (h : ∀ i, X i → Xt I w i) : Tn I w w' := t.mono fun k _ hx => h k hx
theorem Tn.no {I : Ids} {w w' : World} (t : Turn No w w') : Tn I w w' := Tn.of t fun _ h => h.elim
theorem Tn.trans {I : Ids} {a b c : World} (h : Tn I a b) (k : Tn I b c) : Tn I a c := Turn.then h k fun i hi hx => by
  by_cases hX : Xt I a i
  · exact hX
  · rcases hx with e | e | e | e | ⟨hz, cc, hat⟩
    · exact .inl e
    · exact .inr (.inl e)
    · exact .inr (.inr (.inl e))
    · exact .inr (.inr (.inr (.inl e)))
    · exact .inr (.inr (.inr (.inr ⟨hz, cc, (h.block i hi hX).symm.trans hat⟩)))
/-- The arena as a store of nodes. -/
structure BrF (w : World) (I : Ids) (N : Nat → Option Ent) (n : Nat) (M : Nat → Option (Nat × Array Value)) (f : Int → Option Value) : Prop where
  ar : ArFN 116 121 w I.ab I.mb (.pointer (some ⟨I.pb, 0, none⟩)) M n f
  no : ∀ x, N x = none → M x = none
  yes : ∀ x e, N x = some e → ∃ v, M x = some (e.gen, v) ∧ f (x : Int) = some (.pointer (some ⟨e.blk, 0, none⟩)) ∧ NdV w v e.nd
  z : ∀ x e, N x = some e → I.Z ≤ e.blk ∧ 1 ≤ e.gen ∧ x < 4096
def Br (w : World) (I : Ids) (N : Nat → Option Ent) (n : Nat) : Prop := ∃ M f, BrF w I N n M f
/-- The tree's own block. -/
def TrB (w : World) (I : Ids) (root : Hn) : Prop := At w I.tb (.cells #[.pointer (some ⟨I.pb, 0, none⟩), .pointer (some ⟨I.ab, 0, none⟩), .int .i64 root.slot, .int .u64 root.gen] 83 (0, 0))
section
variable {w w' : World} {I : Ids} {N : Nat → Option Ent} {n : Nat}
theorem NdV.no {v : Array Value} {m : Nd} (h : NdV w v m) (t : Turn No w w') : NdV w' v m := by
  obtain ⟨AK, ck, AV, cv, AD, cd, e, hi⟩ := h
  exact ⟨AK, ck, AV, cv, AD, cd, e, hi.no t⟩
theorem Br.no (h : Br w I N n) (t : Turn No w w') : Br w' I N n := by
  obtain ⟨M, f, h⟩ := h
  exact ⟨M, f, h.ar.same t, h.no, fun x e he => by
    obtain ⟨v, h1, h2, h3⟩ := h.yes x e he
    exact ⟨v, h1, h2, h3.no t⟩, h.z⟩
theorem BrF.at_ {M : Nat → Option (Nat × Array Value)} {f : Int → Option Value} (h : BrF w I N n M f) {x : Nat} {e : Ent} (he : N x = some e) : ∃ AK ck AV cv AD cd, M x = some (e.gen, ndc e.nd AK ck AV cv AD cd) ∧ At w e.blk (.cells (#[.int .u64 (e.gen : Int)] ++ ndc e.nd AK ck AV cv AD cd) 121 (0, 0)) ∧ Inn w e.nd AK AV AD := by
  obtain ⟨v, h1, h2, AK, ck, AV, cv, AD, cd, rfl, hi⟩ := h.yes x e he
  refine ⟨AK, ck, AV, cv, AD, cd, h1, ?_, hi⟩
  have h0 := h.ar.2.2.2.1 x
  rw [h1] at h0
  obtain ⟨q, h3, h4⟩ := h0
  rw [h2] at h3
  injection h3 with h3
  injection h3 with h3
  injection h3 with h3
  injection h3 with h3
  subst h3
  exact h4
theorem Br.at_ (h : Br w I N n) {x : Nat} {e : Ent} (he : N x = some e) : ∃ AK ck AV cv AD cd, At w e.blk (.cells (#[.int .u64 (e.gen : Int)] ++ ndc e.nd AK ck AV cv AD cd) 121 (0, 0)) ∧ Inn w e.nd AK AV AD := by
  obtain ⟨M, f, h⟩ := h
  obtain ⟨AK, ck, AV, cv, AD, cd, _, h2, h3⟩ := h.at_ he
  exact ⟨AK, ck, AV, cv, AD, cd, h2, h3⟩
theorem Br.range {e : Ent} {AK : Option Addr} {ck : Nat} {AV : Option Addr} {cv : Nat} {AD : Option Addr} {cd : Nat} (h : At w e.blk (.cells (#[.int .u64 (e.gen : Int)] ++ ndc e.nd AK ck AV cv AD cd) 121 (0, 0))) : w.rangeAt e.blk 1 (ndc e.nd AK ck AV cv AD cd).toList := fun j v hj => by
  rw [h.cell]
  unfold ndc at hj ⊢
  match j, hj with
  | 0, hj | 1, hj | 2, hj | 3, hj | 4, hj | 5, hj | 6, hj | 7, hj => exact hj
/-- Get of what is alive: where it stands. -/
theorem getB_yes (h : Br w I N n) {x : Nat} {e : Ent} (he : N x = some e) :
    Calls Tryd.prog 61 #[.pointer (some ⟨I.ab, 0, none⟩), .agg #[.int .i64 (x : Int), .int .u64 (e.gen : Int)]] w fun r w' => r = .returned (.tuple #[.pointer (some ⟨e.blk, 1, none⟩), .bool true]) ∧ Turn No w w' := by
  obtain ⟨M, f, h⟩ := h
  obtain ⟨AK, ck, AV, cv, AD, cd, h1, h2, h3⟩ := h.at_ he
  obtain ⟨v, _, hf, _⟩ := h.yes x e he
  have hx := (h.z x e he).2.2
  have := getN_some_w I.ab I.mb e.blk (x : Int) e.gen e.gen w (h.ar.1.cell 1) h.ar.1.lt h2.lt (h2.cell 0) (fun k => by rw [lookN h.ar _ (wf64 (by omega) (by omega)), hf]; rfl)
  rw [if_pos rfl] at this
  exact this
/-- Get of the zero handle. -/
theorem getB_zero (h : Br w I N n) : Calls Tryd.prog 61 #[.pointer (some ⟨I.ab, 0, none⟩), .agg #[.int .i64 0, .int .u64 0]] w fun r w' => r = .returned (.tuple #[.pointer none, .bool false]) ∧ Turn No w w' := by
  obtain ⟨M, f, h⟩ := h
  cases he : N 0 with
  | none => exact getN_none ⟨f, h.ar⟩ 0 0 (by decide) (h.no 0 he)
  | some e =>
    obtain ⟨v, h1, _⟩ := h.yes 0 e he
    exact getN_other ⟨f, h.ar⟩ 0 0 e.gen v (by decide) h1 (by have := (h.z 0 e he).2.1; omega)
theorem liveB (h : Br w I N n) : Calls Tryd.prog 53 #[.pointer (some ⟨I.ab, 0, none⟩)] w fun e w' => e = .returned (.int .i64 (n : Int)) ∧ w = w' := by
  obtain ⟨M, f, h⟩ := h
  exact liveN ⟨f, h.ar⟩
/-- What is of another kind stays. -/
theorem BrF.mbne {M : Nat → Option (Nat × Array Value)} {f : Int → Option Value} (h : BrF w I N n M f) {q : Nat} {c : Array Value} {t : TypeId} (hq : At w q (.cells c t (0, 0))) : q ≠ I.mb := fun e => h.ar.2.1.ne hq e.symm
theorem BrF.apart {M : Nat → Option (Nat × Array Value)} {f : Int → Option Value} (h : BrF w I N n M f) {x y : Nat} {e d : Ent} (hx : N x = some e) (hy : N y = some d) (hb : e.blk = d.blk) : x = y := by
  obtain ⟨_, _, h1, _⟩ := h.yes x e hx
  obtain ⟨_, _, h2, _⟩ := h.yes y d hy
  rw [hb] at h1
  have := h.ar.2.2.2.2 _ _ _ h1 h2
  omega
/-- A node is written over where it stands. -/
theorem Br.set (h : Br w I N n) {x : Nat} {e : Ent} (he : N x = some e) {m : Nd} {AK : Option Addr} {ck : Nat} {AV : Option Addr} {cv : Nat} {AD : Option Addr} {cd : Nat} (hm : Inn w m AK AV AD) (t : Turn (· = e.blk) w w') (hat : At w' e.blk (.cells (#[.int .u64 (e.gen : Int)] ++ ndc m AK ck AV cv AD cd) 121 (0, 0))) :
    Br w' I (updE N x (some ⟨e.gen, e.blk, m⟩)) n := by
  obtain ⟨M, f, h⟩ := h
  obtain ⟨BK, dk, BV, dv, BD, dd, h1, h2, h3⟩ := h.at_ he
  have hty : ∀ b c t, t ≠ 121 → At w b (.cells c t (0, 0)) → ¬ b = e.blk := fun b c t ht hb e2 => by
    subst e2
    have := hb.eq h2
    injection this with _ this
    exact ht this
  have hmb := h.mbne h2
  refine ⟨updMN M x (some (e.gen, ndc m AK ck AV cv AD cd)), f, ⟨h.ar.1.turn t (hty _ _ _ (by decide) h.ar.1), h.ar.2.1.turn t (fun e2 => hmb e2.symm), h.ar.2.2.1, fun y => ?_, h.ar.2.2.2.2⟩, fun y hy => ?_, fun y d hy => ?_, fun y d hy => ?_⟩
  · unfold updMN
    by_cases hyx : y = x
    · subst hyx
      rw [if_pos rfl]
      obtain ⟨_, _, hf, _⟩ := h.yes y e he
      exact ⟨e.blk, hf, hat⟩
    · rw [if_neg hyx]
      have h0 := h.ar.2.2.2.1 y
      cases hM : M y with
      | none => rw [hM] at h0; exact h0
      | some gv =>
        obtain ⟨g, v⟩ := gv
        rw [hM] at h0
        obtain ⟨q, hq, hqa⟩ := h0
        refine ⟨q, hq, hqa.turn t fun e2 => hyx ?_⟩
        subst e2
        obtain ⟨_, _, hf, _⟩ := h.yes x e he
        have := h.ar.2.2.2.2 _ _ _ hq hf
        omega
  · unfold updE at hy
    unfold updMN
    split at hy
    · cases hy
    · rename_i hyx
      rw [if_neg hyx]
      exact h.no y hy
  · unfold updE at hy
    unfold updMN
    have kd : ∀ {v : Array Value} {k : Nd}, NdV w v k → NdV w' v k := fun ⟨AK, ck, AV, cv, AD, cd, e2, hi⟩ => ⟨AK, ck, AV, cv, AD, cd, e2, hi.turn t (fun b c hb => hty b c _ (by decide) hb) (fun b c hb => hty b c _ (by decide) hb)⟩
    split at hy
    · rename_i hyx
      subst hyx
      injection hy with hy
      subst hy
      rw [if_pos rfl]
      obtain ⟨_, _, hf, _⟩ := h.yes y e he
      exact ⟨_, rfl, hf, kd ⟨_, _, _, _, _, _, rfl, hm⟩⟩
    · rename_i hyx
      rw [if_neg hyx]
      obtain ⟨v, k1, k2, k3⟩ := h.yes y d hy
      exact ⟨v, k1, k2, kd k3⟩
  · unfold updE at hy
    split at hy
    · rename_i hyx
      injection hy with hy
      subst hy hyx
      exact h.z y e he
    · exact h.z y d hy
end
end Go.Proofs.YtfplnobnmgbgoaaDoor
namespace Go.Proofs.YtfplnobnmgbgoaaDoor
open Go.RowKit Go.Lib
set_option linter.unusedVariables false
set_option maxRecDepth 20000
set_option linter.unusedSimpArgs false

open Go.Maps
section
variable {tA tP : TypeId} {w w' : World} {ab mb : Nat} {pp : Value} {M : Nat → Option (Nat × Array Value)} {n : Nat} {f : Int → Option Value}
/-- Behind 'm[s] = &place{..}': W is the world in which the place has come, q its block. -/
theorem ArFN.storedF {W w2 : World} {s q g : Nat} {v : Array Value} (h : ArFN tA tP w ab mb pp M n f) (t : Turn (fun _ => False) w W) (hq : At W q (.cells (#[.int .u64 (g : Int)] ++ v) tP (0, 0))) (hf : w.heap.size ≤ q) (hM : M s = none)
    (hI : IMap Tryd.prog 3 w2 mb (put f (s : Int) (.pointer (some ⟨q, 0, none⟩))) (if (f (s : Int)).isSome then n else n + 1)) (t2 : Turn (· = mb) W w2) : ArFN tA tP w2 ab mb pp (updMN M s (some (g, v))) (n + 1) (put f (s : Int) (.pointer (some ⟨q, 0, none⟩))) := by
  have hs : f (s : Int) = none := by have := h.2.2.2.1 s; rw [hM] at this; exact this
  have hW := h.same t
  rw [hs] at hI
  have hmq : ∀ q c t', At W q (.cells c t' (0, 0)) → ¬ q = mb := fun q c t' hq e => hW.2.1.ne hq e.symm
  refine ⟨hW.1.turn t2 (hmq _ _ _ hW.1), hI, ?_, ?_, ?_⟩
  · intro i hi
    unfold put
    rw [if_neg (by omega)]
    exact h.2.2.1 i hi
  · intro x
    unfold updMN
    by_cases hx : x = s
    · subst hx
      rw [if_pos rfl]
      exact ⟨q, by simp [put], hq.turn t2 (hmq _ _ _ hq)⟩
    · rw [if_neg hx]
      have h0 := hW.2.2.2.1 x
      have e : put f (s : Int) (.pointer (some ⟨q, 0, none⟩)) (x : Int) = f (x : Int) := by
        unfold put
        rw [if_neg (by omega)]
      cases hMx : M x with
      | none => rw [hMx] at h0; exact e.trans h0
      | some gv =>
        obtain ⟨g', v'⟩ := gv
        rw [hMx] at h0
        obtain ⟨q', h1, h2⟩ := h0
        exact ⟨q', e.trans h1, h2.turn t2 (hmq _ _ _ h2)⟩
  · have old : ∀ i v, f i = some v → v ≠ .pointer (some ⟨q, 0, none⟩) := by
      intro i v hv e
      subst e
      have hi : ¬ i < 0 := fun hi => by rw [h.2.2.1 i hi] at hv; cases hv
      obtain ⟨x, rfl⟩ : ∃ x : Nat, i = (x : Int) := ⟨i.toNat, by omega⟩
      have h0 := h.2.2.2.1 x
      cases hMx : M x with
      | none => rw [hMx] at h0; rw [show f (x : Int) = none from h0] at hv; cases hv
      | some gv =>
        obtain ⟨g', v'⟩ := gv
        rw [hMx] at h0
        obtain ⟨q', h1, h2⟩ := h0
        rw [h1] at hv
        injection hv with hv
        injection hv with hv
        injection hv with hv
        injection hv with hv
        subst hv
        have := h2.lt
        omega
    intro i j v hi hj
    unfold put at hi hj
    split at hi <;> split at hj
    · omega
    · injection hi with hi
      subst hi
      exact absurd rfl (old j _ hj)
    · injection hj with hj
      subst hj
      exact absurd rfl (old i _ hi)
    · exact h.2.2.2.2 i j v hi hj

end
section
variable {w : World} {ab mb n : Nat} {pp : Value} {M : Nat → Option (Nat × Array Value)} {f : Int → Option Value}
/-- Alloc, where s is the pool's least free slot. -/
theorem allocN_f {w00 : World} {pb gb fb s : Nat} {G : List Nat} {fr : Nat → Bool} (leaf : Bool) (AK : Option Addr) (nk ck : Nat) (AV : Option Addr) (nv cv : Nat) (AD : Option Addr) (nd cd : Nat) (high : ByteArray) (bnd : Bool) (sl ge : Int) (h00 : ArFN 116 121 w00 ab mb (.pointer (some ⟨pb, 0, none⟩)) M n f) (hP00 : Pool w00 pb gb fb G fr) (hT00 : Tab w00) (hs : fr s = true) (hl : ∀ y, y < s → fr y = false) (hM : M s = none) (hn : n < 1000000) :
    Calls Tryd.prog 31 #[.pointer (some ⟨ab, 0, none⟩), .agg #[.bool leaf, .slice AK nk ck, .slice AV nv cv, .slice AD nd cd, .string high, .bool bnd, .int .i64 sl, .int .u64 ge]] w00 fun e w' => e = .returned (.tuple #[.agg #[.int .i64 (s : Int), .int .u64 (G.getD s 0 : Nat)], .int .i64 0]) ∧
      Pool w' pb gb fb G (fun x => fr x && x != s) ∧ (∃ q, w00.heap.size ≤ q ∧ ArFN 116 121 w' ab mb (.pointer (some ⟨pb, 0, none⟩)) (updMN M s (some (G.getD s 0, #[.bool leaf, .slice AK nk ck, .slice AV nv cv, .slice AD nd cd, .string high, .bool bnd, .int .i64 sl, .int .u64 ge]))) (n + 1) (put f (s : Int) (.pointer (some ⟨q, 0, none⟩)))) ∧ Turn (fun i => i = fb ∨ i = mb) w00 w' := by
  have tq : Turn (fun _ => False) w00 (w00.alloc (.cells #[.bool leaf, .slice AK nk ck, .slice AV nv cv, .slice AD nd cd, .string high, .bool bnd, .int .i64 sl, .int .u64 ge] 79)) := (Turn.refl _ w00).alloc _
  have hBx := At.new w00 (.cells #[.bool leaf, .slice AK nk ck, .slice AV nv cv, .slice AD nd cd, .string high, .bool bnd, .int .i64 sl, .int .u64 ge] 79)
  have h := h00.same tq
  have hP := hP00.turn tq (fun h => h) (fun h => h) (fun h => h)
  have hT := hT00.turn tq (fun h => h) hT00.pos
  have hsz : (w00.alloc (.cells #[.bool leaf, .slice AK nk ck, .slice AV nv cv, .slice AD nd cd, .string high, .bool bnd, .int .i64 sl, .int .u64 ge] 79)).heap.size = w00.heap.size + 1 := by simp
  have lb00 : mb < w00.heap.size := h00.2.1.lt
  have lf00 := hP00.lt
  have c00 : w00.cell? ⟨ab, 0, none⟩ = some (.pointer (some ⟨pb, 0, none⟩)) := by simpa using h00.1.cell 0
  have l00 : ab < w00.heap.size := h00.1.lt
  clear h00 hP00 hT00
  obtain ⟨w, hw⟩ : ∃ w, w = w00.alloc (.cells #[.bool leaf, .slice AK nk ck, .slice AV nv cv, .slice AD nd cd, .string high, .bool bnd, .int .i64 sl, .int .u64 ge] 79) := ⟨_, rfl⟩
  obtain ⟨Bx, hbx⟩ : ∃ Bx, Bx = w00.heap.size := ⟨_, rfl⟩
  rw [← hw, ← hbx] at hsz hBx
  rw [← hw] at tq h hP hT
  have TQ := Lib.hid tq
  clear tq
  have hsG : s < 4096 := by
    obtain ⟨F, _, _, _, _, _, _, _, _, h2, _, hlt⟩ := hP
    have := hlt s hs
    omega
  have t0 : Turn (fun _ => False) w (w.alloc (.cells #[.int .i64 0, .int .u64 0] 77)) := (Turn.refl _ w).alloc _
  have hP0 := hP.turn t0 (fun h => h) (fun h => h) (fun h => h)
  have TK := Lib.hid (take_some hP0 (hT.turn t0 (fun h => h) hT.pos) hs hl)
  have h0 := h.same t0
  have hfb : ∃ c, At (w.alloc (.cells #[.int .i64 0, .int .u64 0] 77)) fb (.cells c 68 (0, 0)) := by
    obtain ⟨F, _, _, hf, _⟩ := hP0
    exact ⟨_, hf⟩
  obtain ⟨cf, hfb⟩ := hfb
  have nab : ¬ ab = fb := h0.1.ne hfb (by intro e; injection e with _ e; cases e)
  have nmb : ¬ mb = fb := h0.2.1.ne hfb
  have nB : ¬ w.heap.size = fb := (At.new w (.cells #[.int .i64 0, .int .u64 0] 77)).ne hfb (by intro e; injection e with _ e; cases e)
  have npl : ∀ q c, At (w.alloc (.cells #[.int .i64 0, .int .u64 0] 77)) q (.cells c 121 (0, 0)) → ¬ q = fb := fun q c hq => hq.ne hfb (by intro e; injection e with _ e; cases e)
  have hB0 := At.new w (.cells #[.int .i64 0, .int .u64 0] 77)
  have nBx : ¬ Bx = fb := (hBx.turn t0 (fun h => h)).ne hfb (by intro e; injection e with _ e; cases e)
  have HBX := Lib.hid (hBx.turn t0 (fun h => h))
  have HX := Lib.hid (And.intro h0 (And.intro hP (And.intro npl (And.intro hB0 (And.intro h hT)))))
  have c0 := h.1.cell 0
  simp at c0
  have l0 := h.1.lt
  clear h0 hP hP0 hT npl hB0 h hfb hBx
  generalize G.getD s 0 = g at *
  go_enter Tryd.func31, Tryd.ntmps31
  go_wp2_with fail
  rw [← hw, ← hbx, ← hsz]
  have HSZ := Lib.hid (And.intro hw (And.intro hbx hsz))
  clear hw hbx hsz c00 l00
  refine TK.out.mono ?_
  rintro e w1 ⟨rfl, hp1, ht1⟩
  obtain ⟨h0, hP, npl, hB0, h, hT⟩ := HX.out
  have h1 := h0.turn ht1 nab nmb npl
  have hX1 := HBX.out.turn ht1 nBx
  obtain ⟨x1, x2, x3, x4, x5, x6, x7, x8⟩ := at8 hX1
  have lX1 := hX1.lt
  clear hX1
  have hB1 := hB0.turn ht1 nB
  have lB := hB1.lt
  have la := h1.1.lt
  have c1 := h1.1.cell 1
  simp at c1
  have t2 : Turn (fun _ => False) w1 (((w1.alloc (.cells #[.int .i64 (s : Int), .int .u64 (g : Int)] 77)).alloc (.cells #[.int .u64 (g : Int), .bool leaf, .slice AK nk ck, .slice AV nv cv, .slice AD nd cd, .string high, .bool bnd, .int .i64 sl, .int .u64 ge] 121)).drew) := (((Turn.refl _ w1).alloc _).alloc _).drew
  obtain ⟨w2, hrun, hI2, ht2⟩ := (h1.2.1.turn t2 (fun h => h)).store (v := .pointer (some ⟨w1.heap.size + 1, 0, none⟩)) law3 Tryd.underlying3 Tryd.underlying114 hn (wf64 (i := (s : Int)) (by omega) (by omega))
  have hH : At (((w1.alloc (.cells #[.int .i64 (s : Int), .int .u64 (g : Int)] 77)).alloc (.cells #[.int .u64 (g : Int), .bool leaf, .slice AK nk ck, .slice AV nv cv, .slice AD nd cd, .string high, .bool bnd, .int .i64 sl, .int .u64 ge] 121)).drew) w1.heap.size (.cells #[.int .i64 (s : Int), .int .u64 (g : Int)] 77 (0, 0)) :=
    (At.new w1 _).turn (((Turn.refl (fun _ => False) _).alloc _).drew) (fun h => h)
  have hQ : At (((w1.alloc (.cells #[.int .i64 (s : Int), .int .u64 (g : Int)] 77)).alloc (.cells #[.int .u64 (g : Int), .bool leaf, .slice AK nk ck, .slice AV nv cv, .slice AD nd cd, .string high, .bool bnd, .int .i64 sl, .int .u64 ge] 121)).drew) (w1.heap.size + 1) (.cells #[.int .u64 (g : Int), .bool leaf, .slice AK nk ck, .slice AV nv cv, .slice AD nd cd, .string high, .bool bnd, .int .i64 sl, .int .u64 ge] 121 (0, 0)) := by
    have := At.new (w1.alloc (.cells #[.int .i64 (s : Int), .int .u64 (g : Int)] 77)) (.cells #[.int .u64 (g : Int), .bool leaf, .slice AK nk ck, .slice AV nv cv, .slice AD nd cd, .string high, .bool bnd, .int .i64 sl, .int .u64 ge] 121)
    have e : (w1.alloc (.cells #[.int .i64 (s : Int), .int .u64 (g : Int)] 77)).heap.size = w1.heap.size + 1 := by simp
    rw [e] at this
    exact this.turn ((Turn.refl (fun _ => False) _).drew) (fun h => h)
  have hW := h1.same t2
  have hmq : ∀ q c t', At (((w1.alloc (.cells #[.int .i64 (s : Int), .int .u64 (g : Int)] 77)).alloc (.cells #[.int .u64 (g : Int), .bool leaf, .slice AK nk ck, .slice AV nv cv, .slice AD nd cd, .string high, .bool bnd, .int .i64 sl, .int .u64 ge] 121)).drew) q (.cells c t' (0, 0)) → ¬ q = mb := fun q c t' hq e => hW.2.1.ne hq e.symm
  have hH2 := hH.turn ht2 (hmq _ _ _ hH)
  have hBW := hB1.turn t2 (fun h => h)
  have hB2 := hBW.turn ht2 (hmq _ _ _ hBW)
  have r0 := hH2.cell 0
  have r1 := hH2.cell 1
  have z0 := hB2.cell 0
  have z1 := hB2.cell 1
  have y0 := hB2.thawed 0
  have y1 := hB2.thawed 1
  have lw2 := hH2.lt
  have HE := Lib.hid (And.intro hp1 (And.intro ht1 (And.intro h1 (And.intro t2 (And.intro hQ (And.intro hI2 (And.intro ht2 hB2)))))))
  clear h0 hP npl hB0 h hT h1 hB1 t2 hI2 ht2 hH hQ hW hmq hH2 hBW hB2 hp1 ht1
  simp at r0 r1 z0 z1
  go_wp2_with fail
  go_region
  go_wp2_with fail
  refine bodyPost_ret (v := .tuple #[.agg #[.int .i64 (s : Int), .int .u64 (g : Int)], .int .i64 0]) (by simp [results, Tryd.results31, go_sem, z0, z1]) rfl ⟨rfl, ?_⟩
  obtain ⟨hp1, ht1, h1, t2, hQ, hI2, ht2, hB2⟩ := HE.out
  obtain ⟨h0, hP, npl, hB0, h, hT⟩ := HX.out
  have h2 := h1.storedF (v := #[.bool leaf, .slice AK nk ck, .slice AV nv cv, .slice AD nd cd, .string high, .bool bnd, .int .i64 sl, .int .u64 ge]) t2 (by first | exact hQ | simpa using hQ) (by omega) hM hI2 ht2
  have tE : Turn (· = w.heap.size) w2 ((w2.setCell ⟨w.heap.size, 0, none⟩ (.int .i64 (s : Int))).setCell ⟨w.heap.size, 1, none⟩ (.int .u64 (g : Int))) := ((Turn.refl (· = w.heap.size) w2).setCell (p := ⟨w.heap.size, 0, none⟩) (Or.inl rfl) _).setCell (p := ⟨w.heap.size, 1, none⟩) (Or.inl rfl) _
  have lp := hP.lt
  have lt1 := ht1.size
  have hpm : ∀ i c t', At w1 i (.cells c t' (0, 0)) → ¬ i = mb := fun i c t' hi e => h1.2.1.ne hi e.symm
  have hpw2 : Pool w2 pb gb fb G (fun x => fr x && x != s) := by
    have ⟨F, q1, q2, q3, _⟩ := hp1
    exact (hp1.turn t2 (fun h => h) (fun h => h) (fun h => h)).turn ht2 (hpm _ _ _ q1) (hpm _ _ _ q2) (hpm _ _ _ q3)
  have lmb := h.2.1.lt
  obtain ⟨hw, hbx, hsz⟩ := HSZ.out
  refine ⟨hpw2.turn tE (by omega) (by omega) (by omega), ⟨w1.heap.size + 1, by have := TQ.out.size; omega, h2.turn tE (by omega) (by omega) ?_⟩, ?_⟩
  · intro q c hq e
    exact hB2.ne hq (by intro e; injection e with _ e; cases e) e.symm
  · have u1 : Turn (fun i => i = fb ∨ i = mb) w w1 := ((Turn.refl (fun i => i = fb ∨ i = mb) w).then t0 (fun i _ hi => hi.elim)).then ht1 (fun i _ hi => Or.inl hi)
    have u2 : Turn (fun i => i = fb ∨ i = mb) w w2 := (u1.then t2 (fun i _ hi => hi.elim)).then ht2 (fun i _ hi => Or.inr hi)
    exact ((TQ.out.mono (fun _ _ h => h.elim)).trans (u2.then tE (fun i hi e => by omega)))

end
section
variable {w w' : World} {I : Ids} {N : Nat → Option Ent} {n : Nat}
theorem Inn.any {X : Nat → Prop} {m : Nd} {AK AV AD : Option Addr} (h : Inn w m AK AV AD) (k : Turn X w w') (hX : ∀ i, X i → (∃ c t, At w i (.cells c t (0, 0)) ∧ t ≠ 9 ∧ t ≠ 77) ∨ ∀ c t, ¬ At w i (.cells c t (0, 0))) : Inn w' m AK AV AD :=
  h.turn k (fun b c hb hx => by
    rcases hX b hx with ⟨c2, t, h1, h2, _⟩ | h1
    · have := hb.eq h1
      injection this with _ this
      exact h2 this.symm
    · exact h1 _ _ hb) (fun b c hb hx => by
    rcases hX b hx with ⟨c2, t, h1, _, h2⟩ | h1
    · have := hb.eq h1
      injection this with _ this
      exact h2 this.symm
    · exact h1 _ _ hb)
/-- Alloc: the pool's least free slot gets the node. (w0: where the tree was known; what has come since may be written over.) -/
theorem allocB_some {w0 : World} {G : List Nat} {fr : Nat → Bool} {s : Nat} (h0 : Br w0 I N n) (t0 : Turn No w0 w) (hP : Pool w I.pb I.gb I.fb G fr) (hT : Tab w) (hs : fr s = true) (hl : ∀ y, y < s → fr y = false) (hN : N s = none) (hn : n < 1000000) (hg : 1 ≤ G.getD s 0) (hz : I.Z ≤ w.heap.size)
    {m : Nd} {AK : Option Addr} (ck : Nat) {AV : Option Addr} (cv : Nat) {AD : Option Addr} (cd : Nat) (hm : Inn w m AK AV AD) :
    Calls Tryd.prog 31 #[.pointer (some ⟨I.ab, 0, none⟩), .agg (ndc m AK ck AV cv AD cd)] w fun e w' => e = .returned (.tuple #[.agg #[.int .i64 (s : Int), .int .u64 (G.getD s 0 : Nat)], .int .i64 0]) ∧
      Pool w' I.pb I.gb I.fb G (fun x => fr x && x != s) ∧ Inn w' m AK AV AD ∧ (∃ q, w.heap.size ≤ q ∧ ∀ (w2 : World) (Y : Nat → Prop), Turn Y w' w2 → (∀ i, Y i → w0.heap.size ≤ i ∧ ∃ c t, At w' i (.cells c t (0, 0)) ∧ t ≠ 121) → Inn w2 m AK AV AD → Br w2 I (updE N s (some ⟨G.getD s 0, q, m⟩)) (n + 1)) ∧ Turn (fun i => i = I.fb ∨ i = I.mb) w w' := by
  obtain ⟨M, f, h⟩ := h0
  have hs4 : s < 4096 := by
    obtain ⟨F, _, _, _, _, _, _, _, _, h2, _, hlt⟩ := hP
    have := hlt s hs
    omega
  have hfb : ∃ c, At w I.fb (.cells c 68 (0, 0)) := by
    obtain ⟨F, _, _, hf, _⟩ := hP
    exact ⟨_, hf⟩
  obtain ⟨cf, hfb⟩ := hfb
  refine (allocN_f m.leaf AK m.keys.length ck AV m.vals.length cv AD m.kids.length cd m.high m.bnd m.nx.slot m.nx.gen (h.ar.same t0) hP hT hs hl (h.no s hN) hn).mono ?_
  rintro e w' ⟨rfl, hp, ⟨q, hq, ha⟩, ht⟩
  have hmb := (h.ar.same t0).2.1
  have kd : ∀ {k : Nd} {AK AV AD : Option Addr}, Inn w k AK AV AD → Inn w' k AK AV AD := fun hk => hk.any ht (by
    intro i hi
    rcases hi with e | e
    · subst e
      exact .inl ⟨cf, 68, hfb, by decide, by decide⟩
    · subst e
      exact .inr fun c t hc => hmb.ne hc rfl)
  refine ⟨rfl, hp, kd hm, ⟨q, hq, fun w2 Y t2 hY hm2 => ?_⟩, ht⟩
  have lab := h.ar.1.lt
  have lmb := h.ar.2.1.lt
  have ka : ∀ {k : Nd} {AK AV AD : Option Addr}, Inn w0 k AK AV AD → Inn w2 k AK AV AD := fun {k AK AV AD} hk => by
    have t3 : Turn (fun i => i = I.fb ∨ i = I.mb) w0 w2 := (Turn.then (X := fun i => i = I.fb ∨ i = I.mb) (t0.mono fun _ _ hx => hx.elim) ht fun i _ hi => hi).then t2 fun i hi hy => by
      have := (hY i hy).1
      omega
    refine hk.turn t3 (fun b c hb hx => ?_) (fun b c hb hx => ?_)
    all_goals
      rcases hx with e | e
      · subst e
        have := (hb.no t0).eq hfb
        injection this with _ this
        exact absurd this (by decide)
      · subst e
        exact h.ar.2.1.ne hb rfl
  refine ⟨updMN M s (some (G.getD s 0, ndc m AK ck AV cv AD cd)), _, ha.turn t2 (fun hy => by have := (hY _ hy).1; omega) (fun hy => by have := (hY _ hy).1; omega) (fun q' c hq' hy => ?_), fun x hx => ?_, fun x d hx => ?_, fun x d hx => ?_⟩
  · obtain ⟨_, c2, t, h5, h6⟩ := hY _ hy
    have := hq'.eq h5
    injection this with _ this
    exact h6 this.symm
  · unfold updE at hx
    unfold updMN
    split at hx
    · cases hx
    · rename_i hxs
      rw [if_neg hxs]
      exact h.no x hx
  · unfold updE at hx
    unfold updMN
    split at hx
    · rename_i hxs
      subst hxs
      injection hx with hx
      subst hx
      rw [if_pos rfl]
      exact ⟨_, rfl, by unfold put; rw [if_pos rfl], AK, ck, AV, cv, AD, cd, rfl, hm2⟩
    · rename_i hxs
      rw [if_neg hxs]
      obtain ⟨v, k1, k2, AK, ck, AV, cv, AD, cd, k3, k4⟩ := h.yes x d hx
      refine ⟨v, k1, ?_, AK, ck, AV, cv, AD, cd, k3, ka k4⟩
      unfold put
      rw [if_neg (by omega)]
      exact k2
  · unfold updE at hx
    split at hx
    · rename_i hxs
      injection hx with hx
      subst hx hxs
      exact ⟨by show I.Z ≤ q; omega, hg, hs4⟩
    · exact h.z x d hx
theorem allocB_full {G : List Nat} {fr : Nat → Bool} (h : Br w I N n) (hP : Pool w I.pb I.gb I.fb G fr) (hl : ∀ y, fr y = false) (m : Nd) (AK : Option Addr) (ck : Nat) (AV : Option Addr) (cv : Nat) (AD : Option Addr) (cd : Nat) :
    Calls Tryd.prog 31 #[.pointer (some ⟨I.ab, 0, none⟩), .agg (ndc m AK ck AV cv AD cd)] w fun e w' => e = .returned (.tuple #[.agg #[.int .i64 0, .int .u64 0], .int .i64 5]) ∧ Turn No w w' := by
  obtain ⟨M, f, h⟩ := h
  exact allocN_full m.leaf AK m.keys.length ck AV m.vals.length cv AD m.kids.length cd m.high m.bnd m.nx.slot m.nx.gen ⟨f, h.ar⟩ hP hl
end
end Go.Proofs.YtfplnobnmgbgoaaDoor
namespace Go.Proofs.YtfplnobnmgbgoaaDoor
open Go.RowKit Go.Lib
set_option linter.unusedVariables false
set_option maxRecDepth 20000
set_option linter.unusedSimpArgs false

/-- A tree without a node too full, whose inner nodes have keys, below one root. -/
structure Good (T : List Lvl) (root : Hn) : Prop where
  tw : Tower T
  rt : ∃ n R, T = [(root, n)] :: R
  sl : ∀ l ∈ T, ∀ x ∈ l, x.2.keys.length ≤ 4
  fl : Fil T
/-- A tree in memory. -/
structure Tr (w : World) (I : Ids) (N : Nat → Option Ent) (T : List Lvl) (root : Hn) : Prop where
  b : Br w I N T.flatten.length
  t : TrB w I root
  s : Sto N T.flatten
  g : Good T root
theorem Tr.no {w w' : World} {I : Ids} {N : Nat → Option Ent} {T : List Lvl} {root : Hn} (h : Tr w I N T root) (t : Turn No w w') : Tr w' I N T root := ⟨h.b.no t, At.no h.t t, h.s, h.g⟩
def blkOf (N : Nat → Option Ent) (x : Hn × Nd) : Nat := ((N x.1.slot.toNat).map Ent.blk).getD 0
theorem Sto.blk {N : Nat → Option Ent} {X : Lvl} (hs : Sto N X) {x : Hn × Nd} (hx : x ∈ X) : ∃ e s, N s = some e ∧ x = (⟨(s : Int), (e.gen : Int)⟩, e.nd) ∧ blkOf N x = e.blk := by
  obtain ⟨h, n⟩ := x
  obtain ⟨s, e, h1, h2, h3⟩ := (hs.mem h n).1 hx
  subst h2 h3
  refine ⟨e, s, h1, rfl, ?_⟩
  unfold blkOf
  rw [show ((⟨(s : Int), (e.gen : Int)⟩, e.nd) : Hn × Nd).1.slot.toNat = s from Int.toNat_natCast s, h1]
  rfl
theorem made_yes (I : Ids) (root : Hn) (w : World) (h : TrB w I root) : Calls Tryd.prog 41 #[.pointer (some ⟨I.tb, 0, none⟩)] w fun e w' => e = .returned (.bool true) ∧ w' = w := by
  have h1 := At.cell h 1
  simp at h1
  clear h
  go_enter Tryd.func41, Tryd.ntmps41
  go_wp2_with fail
  go_ret
  exact ⟨rfl, rfl⟩
theorem made_nil (w : World) : Calls Tryd.prog 41 #[.pointer none] w fun e w' => e = .returned (.bool false) ∧ w' = w := by
  go_enter Tryd.func41, Tryd.ntmps41
  go_wp2_with fail
  go_ret
  exact ⟨rfl, rfl⟩
def rtZ (root : Hn) : Bool := hnEq root.slot 0 root.gen 0
set_option maxHeartbeats 4000000 in
theorem stands_any (I : Ids) (root : Hn) (w : World) (h : TrB w I root) : Calls Tryd.prog 42 #[.pointer (some ⟨I.tb, 0, none⟩)] w fun e w' => e = .returned (.bool (!rtZ root)) ∧ w' = w := by
  have h2 := At.cell h 2
  have h3 := At.cell h 3
  simp at h2 h3
  have hq := neq_hn root.slot 0 root.gen 0
  clear h
  unfold rtZ
  go_enter Tryd.func42, Tryd.ntmps42
  go_wp2_with fail
  go_ret
  exact ⟨rfl, rfl⟩
theorem stands_nil (w : World) : Calls Tryd.prog 42 #[.pointer none] w fun e w' => e = .returned (.bool false) ∧ w' = w := by
  go_enter Tryd.func42, Tryd.ntmps42
  go_wp2_with fail
  go_ret
  exact ⟨rfl, rfl⟩
/-- A row of pointers to places' things. -/
def pq (q : Nat) : Value := .pointer (some ⟨q, 1, none⟩)
theorem last_any (b o : Nat) (Q : List Nat) (q : Nat) (c : Nat) (w : World) (h : Row w (some ⟨b, o, none⟩) ((Q ++ [q]).map pq)) (hn : Q.length < 100000) :
    Calls Tryd.prog 46 #[.slice (some ⟨b, o, none⟩) (Q.length + 1) c] w fun e w' => e = .returned (pq q) ∧ w' = w := by
  obtain ⟨b', o', hA, _, h1⟩ := h Q.length (pq q) (by simp)
  injection hA with hA
  injection hA with e1 e2
  subst e1 e2
  clear h
  have hw : IntKind.i64.wrap (((Q.length : Int) + 1) - 1) = (Q.length : Int) := by rw [show ((Q.length : Int) + 1) - 1 = (Q.length : Int) by omega]; exact IntWalk.i64_in _ ⟨by omega, by omega⟩
  have b1 : (0 : Int) ≤ (Q.length : Int) := by omega
  have b2 : (Q.length : Int) < ((Q.length : Int) + 1) := by omega
  unfold pq at h1 ⊢
  go_enter Tryd.func46, Tryd.ntmps46
  go_wp2_with fail
  go_ret
  exact ⟨rfl, rfl⟩
end Go.Proofs.YtfplnobnmgbgoaaDoor
namespace Go.Proofs.YtfplnobnmgbgoaaDoor
open Go.RowKit Go.Lib
set_option linter.unusedVariables false
set_option maxRecDepth 20000
set_option linter.unusedSimpArgs false

/-- A row of pointers of one's own. -/
structure Ptrs (w0 wx : World) (Q : List Nat) (B : Option Addr) (c : Nat) : Prop where
  tu : Turn No w0 wx
  row : wx.ownsRow w0.heap.size 86 1 (.slice B Q.length c) Q.length (Q.map pq)
theorem Ptrs.nil (w : World) : Ptrs w w [] none 0 := ⟨Turn.refl _ _, rfl, .inl ⟨rfl, rfl⟩⟩
theorem Ptrs.no {w0 wx w2 : World} {Q : List Nat} {B : Option Addr} {c : Nat} (h : Ptrs w0 wx Q B c) (t : Turn No wx w2) : Ptrs w0 w2 Q B c := ⟨h.tu.trans t, own_grown h.row t fun _ _ h => h⟩
theorem infoPN : (Tryd.prog.info? 86).map (fun i => (i.zero, i.size, i.bytes)) = some (some (.pointer none), 1, 8) := by kernel_rfl
theorem Ptrs.append {w0 wx : World} {Q : List Nat} {B : Option Addr} {c : Nat} (h : Ptrs w0 wx Q B c) (hl : Q.length < 100000) (q : Nat) :
    ∃ B' c' w2, AppRun 101 101 (.slice B Q.length c) (.slice (some ⟨wx.heap.size, 0, none⟩) 1 1) (.slice B' (Q.length + 1) c') (wx.alloc (.cells #[pq q] 86)) w2 ∧ Ptrs w0 w2 (Q ++ [q]) B' c' ∧ Turn (fun i => ablk B = some i) wx w2 := by
  have tj : Turn No wx (wx.alloc (.cells #[pq q] 86)) := (Turn.refl _ _).alloc _
  have h2 := h.no tj
  have hn := At.new wx (.cells #[pq q] 86)
  obtain ⟨B', c', w2, qq, ho, ht, hB⟩ := app_gen Tryd.underlying101 infoPN rfl (by decide) (by decide) h2.row ⟨wx.heap.size, 0, none⟩ 1 1 [pq q] rfl
    (fun j u hj => by rw [Addr.add_lit, Nat.zero_add, hn.cell]; simpa using hj) (by
      intro u hu
      simp at hu
      subst hu
      rfl) (by omega) h2.tu.size 101
  have ht2 : Turn (fun i => ablk B = some i) (wx.alloc (.cells #[pq q] 86)) w2 := ht.mono fun k _ hk => by rw [own_ablk] at hk; exact hk
  refine ⟨B', c', w2, qq, ⟨h2.tu.then ht2 fun i hi hb => ?_, ?_⟩, (tj.mono fun _ _ h => h.elim).trans ht2⟩
  · have := (own_at h2.row hb).1
    omega
  · rw [List.map_append, List.length_append]
    exact ho
theorem Ptrs.blk_ {w0 wx : World} {Q : List Nat} {B : Option Addr} {c : Nat} (h : Ptrs w0 wx Q B c) (hq : Q ≠ []) : ∃ g, B = some ⟨g, 0, none⟩ ∧ w0.heap.size ≤ g := by
  rcases h.row.2 with ⟨hv, hn⟩ | ⟨g, cap, cur, hv, hb, hg, hn, hc, hs, ht⟩
  · exact absurd (List.eq_nil_of_length_eq_zero hn) hq
  · injection hv with hA
    exact ⟨g, hA, hb⟩
theorem Ptrs.one (w : World) (q : Nat) : Ptrs w (w.alloc (.cells #[pq q] 86)) [q] (some ⟨w.heap.size, 0, none⟩) 1 :=
  ⟨(Turn.refl _ _).alloc _, World.ownsRow_lit (base := w.heap.size) (e := 86) (size := 1) w #[pq q] 1 (Nat.le_refl _) (by decide) (by rfl)⟩
end Go.Proofs.YtfplnobnmgbgoaaDoor
namespace Go.Proofs.YtfplnobnmgbgoaaDoor
open Go.RowKit Go.Lib
set_option linter.unusedVariables false
set_option maxRecDepth 20000
set_option linter.unusedSimpArgs false

/-- On the way down: the levels above (the lowest first) and the nodes passed, the level, the node that covers the key, the levels below. -/
structure Dn (T : List Lvl) (key : ByteArray) (U : List Lvl) (L : Lvl) (A : Lvl) (h : Hn) (n : Nd) (B : Lvl) (D : List Lvl) : Prop where
  e : T = U.reverse ++ (A ++ (h, n) :: B) :: D
  tw : Tower ((A ++ (h, n) :: B) :: D)
  ab : Above (A ++ (h, n) :: B) U
  pt : Pth key U L A.length
  lo : ∀ a ∈ A, ¬ NdCov a.2 key
  cv : NdCov n key
theorem Good.start {T : List Lvl} {root : Hn} (h : Good T root) (key : ByteArray) : ∃ n D, Dn T key [] [] [] root n [] D := by
  obtain ⟨n, D, e⟩ := h.rt
  have ht := h.tw
  rw [e] at ht
  obtain ⟨P, k, c, e2, h1, _⟩ := tower_lst rfl ht
  have hn : En1 n = none := by
    have : P = [] := by
      cases P with
      | nil => rfl
      | cons p P => injection e2 with _ e2; cases P <;> cases e2
    subst this
    injection e2 with e2
    injection e2 with _ e2
    rw [e2]; exact h1
  refine ⟨n, D, e, ht, ⟨root, n, rfl⟩, rfl, (fun a ha => by cases ha), fun hb => ?_⟩
  unfold En1 at hn
  rw [if_pos hb] at hn
  cases hn
theorem pth_len : ∀ {key : ByteArray} {U : List Lvl} {L : Lvl} {a : Nat}, Pth key U L a → U.length = L.length
  | _, [], [], _, _ => rfl
  | _, _ :: _, _ :: _, _, ⟨_, _, _, _, h⟩ => by rw [List.length_cons, List.length_cons, pth_len h]
theorem pth_mem : ∀ {key : ByteArray} {U : List Lvl} {L : Lvl} {a : Nat}, Pth key U L a → ∀ x ∈ L, ∃ u ∈ U, x ∈ u
  | _, [], [], _, _, _, hx => by cases hx
  | _, u :: _, (h, n) :: _, _, ⟨A, B, e, _, hp⟩, x, hx => by
    rcases List.mem_cons.1 hx with e1 | e1
    · exact ⟨u, List.mem_cons_self .., by rw [e, e1]; simp⟩
    · obtain ⟨v, hv, hm⟩ := pth_mem hp x e1
      exact ⟨v, List.mem_cons_of_mem _ hv, hm⟩
section
variable {T : List Lvl} {key : ByteArray} {U : List Lvl} {L A : Lvl} {h : Hn} {n : Nd} {B : Lvl} {D : List Lvl} (d : Dn T key U L A h n B D)
include d
theorem Dn.right : NdRight n := (tower_down d.tw d.lo d.cv).1
theorem Dn.leaf (hl : n.leaf = true) : D = [] := by
  rcases (tower_down d.tw d.lo d.cv).2 with ⟨_, h1⟩ | ⟨h1, _⟩
  · exact h1
  · rw [hl] at h1; cases h1
theorem Dn.step (hl : n.leaf = false) : ∃ A' kid c B' D', D = (A' ++ (kid, c) :: B') :: D' ∧ n.kids[kix n.keys key]? = some kid ∧ Dn T key ((A ++ (h, n) :: B) :: U) ((h, n) :: L) A' kid c B' D' := by
  rcases (tower_down d.tw d.lo d.cv).2 with ⟨h1, _⟩ | ⟨_, A', kid, c, B', D', e, h2, h3, h4, h5, h6, h7⟩
  · rw [hl] at h1; cases h1
  · refine ⟨A', kid, c, B', D', e, h2, ⟨?_, by rw [← e]; exact h7, ⟨h6, tower_nxs d.tw, d.ab⟩, ⟨A, B, rfl, h5, d.pt⟩, h4, h3⟩⟩
    rw [d.e, e, List.reverse_cons, List.append_assoc]
    rfl
theorem Dn.mem : (h, n) ∈ T.flatten := by
  rw [d.e]
  exact List.mem_flatten.2 ⟨A ++ (h, n) :: B, by simp, by simp⟩
theorem Dn.len : T.length = L.length + 1 + D.length := by
  rw [d.e, List.length_append, List.length_reverse, List.length_cons, pth_len d.pt]
  omega
theorem Dn.lmem : ∀ x ∈ L, x ∈ T.flatten := fun x hx => by
  obtain ⟨u, hu, hm⟩ := pth_mem d.pt x hx
  rw [d.e]
  exact List.mem_flatten.2 ⟨u, List.mem_append.2 (.inl (List.mem_reverse.2 hu)), hm⟩
end
section
variable {w : World} {I : Ids} {N : Nat → Option Ent} {T : List Lvl} {root : Hn}
theorem Tr.getY (h : Tr w I N T root) {x : Hn × Nd} (hx : x ∈ T.flatten) (W : World) (t : Turn No w W) :
    Calls Tryd.prog 61 #[.pointer (some ⟨I.ab, 0, none⟩), .agg #[.int .i64 x.1.slot, .int .u64 x.1.gen]] W fun r w' => r = .returned (.tuple #[pq (blkOf N x), .bool true]) ∧ Turn No W w' := by
  obtain ⟨e, s, h1, h2, h3⟩ := h.s.blk hx
  rw [h3, h2]
  exact getB_yes (h.b.no t) h1
theorem Tr.getZ (h : Tr w I N T root) (W : World) (t : Turn No w W) :
    Calls Tryd.prog 61 #[.pointer (some ⟨I.ab, 0, none⟩), .agg #[.int .i64 0, .int .u64 0]] W fun r w' => r = .returned (.tuple #[.pointer none, .bool false]) ∧ Turn No W w' := getB_zero (h.b.no t)
/-- What stands where a node is. -/
theorem Tr.node (h : Tr w I N T root) {x : Hn × Nd} (hx : x ∈ T.flatten) : ∃ (g : Nat) (AK : Option Addr) (ck : Nat) (AV : Option Addr) (cv : Nat) (AD : Option Addr) (cd : Nat), At w (blkOf N x) (.cells (#[.int .u64 (g : Int)] ++ ndc x.2 AK ck AV cv AD cd) 121 (0, 0)) ∧ Inn w x.2 AK AV AD := by
  obtain ⟨e, s, h1, h2, h3⟩ := h.s.blk hx
  obtain ⟨AK, ck, AV, cv, AD, cd, h4, h5⟩ := h.b.at_ h1
  rw [h3, h2]
  exact ⟨e.gen, AK, ck, AV, cv, AD, cd, h4, h5⟩
theorem node_range {q g : Nat} {n : Nd} {AK : Option Addr} {ck : Nat} {AV : Option Addr} {cv : Nat} {AD : Option Addr} {cd : Nat} (h : At w q (.cells (#[.int .u64 (g : Int)] ++ ndc n AK ck AV cv AD cd) 121 (0, 0))) : w.rangeAt q 1 (ndc n AK ck AV cv AD cd).toList := fun j v hj => by
  rw [h.cell]
  unfold ndc at hj ⊢
  match j, hj with
  | 0, hj | 1, hj | 2, hj | 3, hj | 4, hj | 5, hj | 6, hj | 7, hj => exact hj
end
theorem inf79 : (Tryd.prog.info? 79).map (·.size) = some 8 := by kernel_rfl
end Go.Proofs.YtfplnobnmgbgoaaDoor
namespace Go.Proofs.YtfplnobnmgbgoaaDoor
open Go.RowKit Go.Lib
set_option linter.unusedVariables false
set_option maxRecDepth 20000
set_option linter.unusedSimpArgs false

open Go.Maps
def slN : Value → Nat
  | .slice _ n _ => n
  | _ => 0
def ptrs (N : Nat → Option Ent) (L : Lvl) : List Nat := L.map (blkOf N)
/-- While the way down is laid: alive, the node that comes next; or done. -/
inductive LnS (w wr : World) (N : Nat → Option Ent) (T : List Lvl) (key : ByteArray) : Value → Value → Value → Prop
  | go {U L A h n B D Q Bq c} : Dn T key U L A h n B D → Q = ptrs N L.reverse → Ptrs w wr Q Bq c → LnS w wr N T key (.slice Bq Q.length c) (pq (blkOf N (h, n))) (.bool true)
  | stop {U L A h n B Q Bq c} : Dn T key U L A h n B [] → n.leaf = true → Q = ptrs N (L.reverse ++ [(h, n)]) → Ptrs w wr Q Bq c → LnS w wr N T key (.slice Bq Q.length c) (.pointer none) (.bool false)
/-- A tree's way down to a key's leaf. -/
structure Way (T : List Lvl) (key : ByteArray) (U : List Lvl) (L : Lvl) (A : Lvl) (h : Hn) (n : Nd) (B : Lvl) : Prop where
  d : Dn T key U L A h n B []
  lf : n.leaf = true
set_option maxRecDepth 100000 in
set_option maxHeartbeats 8000000 in
theorem line_any {w : World} {I : Ids} {N : Nat → Option Ent} {T : List Lvl} {root : Hn} (hT : Tr w I N T root) (key : ByteArray) (hk : Fit key) (hn : T.length ≤ 4096) :
    Calls Tryd.prog 45 #[.pointer (some ⟨I.tb, 0, none⟩), .string key] w fun e w' => ∃ U L A h n B Q Bq c, e = .returned (.slice Bq Q.length c) ∧ Way T key U L A h n B ∧ Q = ptrs N (L.reverse ++ [(h, n)]) ∧ Ptrs w w' Q Bq c := by
  obtain ⟨n0, D0, hd0⟩ := hT.g.start key
  have HD0 := Lib.hid hd0
  have t1 := At.cell hT.t 1
  have t2 := At.cell hT.t 2
  have t3 := At.cell hT.t 3
  simp at t1 t2 t3
  have ltb := At.lt hT.t
  have HS : Hid (∀ W, Turn No w W → W.cell? ⟨I.tb, 1, none⟩ = some (.pointer (some ⟨I.ab, 0, none⟩)) ∧ W.cell? ⟨I.tb, 2, none⟩ = some (.int .i64 root.slot) ∧ W.cell? ⟨I.tb, 3, none⟩ = some (.int .u64 root.gen)) := Lib.hid fun W t => by
    have h := At.no hT.t t
    exact ⟨by simpa using At.cell h 1, by simpa using At.cell h 2, by simpa using At.cell h 3⟩
  have GY := Lib.hid fun x (hx : x ∈ T.flatten) W t => hT.getY hx W t
  have GZ := Lib.hid fun W t => hT.getZ W t
  have HT := Lib.hid hT
  have hm0 := hd0.mem
  clear hT hd0
  go_enter Tryd.func45, Tryd.ntmps45
  go_upto_region 14 with fail
  go_region_held3 (fun W => W.cell? ⟨I.tb, 1, none⟩ = some (.pointer (some ⟨I.ab, 0, none⟩)) ∧ W.cell? ⟨I.tb, 2, none⟩ = some (.int .i64 root.slot) ∧ W.cell? ⟨I.tb, 3, none⟩ = some (.int .u64 root.gen)) (first | (with_reducible exact ⟨t1, t2, t3⟩) | (exact HS.out _ (by first | exact (Turn.refl No _).drew | assumption))) (first | (go_at_call 61; (with_reducible refine (GY.out (root, n0) hm0 _ (Turn.refl No _).drew).mono ?_); rintro e w2 ⟨rfl, ht⟩; have ht : Turn No w w2 := (Turn.refl No w).drew.trans ht))
  have HP0 : Hid (Ptrs w w2 [] none 0) := Lib.hid ((Ptrs.nil w).no ht)
  clear ht t1 t2 t3
  go_wp2_with fail
  go_loopw [5, 6, 7] (fun x y z wr => LnS w wr N T key x y z) (fun x _ _ _ => T.length + 1 - slN x)
  case atStart => exact LnS.go HD0.out rfl HP0.out
  case round =>
    clear HP0
    cases hrel with
    | @go U L A h n B D Q Bq c hd hQ hP =>
      have HD := Lib.hid hd
      have HQ := Lib.hid hQ
      have HP := Lib.hid hP
      have hql : Q.length = L.length := by rw [hQ]; unfold ptrs; simp
      have hlt : Q.length < 100000 := by have := hd.len; omega
      have hTl := hd.len
      obtain ⟨B3, c3, w3, q, hq3, ht3⟩ := hP.append hlt (blkOf N (h, n))
      have HQ3 := Lib.hid hq3
      obtain ⟨g, AK, ck, AV, cv, AD, cd, hat, hin⟩ := (HT.out.no hq3.tu).node hd.mem
      have hr := node_range hat
      have hqat := hat.lt
      have HI := Lib.hid hin
      obtain ⟨X, hX⟩ : ∃ X, blkOf N (h, n) = X := ⟨_, rfl⟩
      simp only [hX] at hat hr q hqat ⊢
      have HX := Lib.hid hX
      clear hd hQ hP hq3 ht3 hat hin hX
      unfold pq at q ⊢
      have CK := Lib.hid (kid_c n AK AV AD ck cv cd key w3 HI.out.i hk)
      go_upto_region 11 with (first | (at_builtin; refine wpList_append_run rfl _ _ 101 rfl _ _ _ rfl rfl q ?_) | (refine wpList_load_mid rfl 79 _ rfl X 1 rfl (ndc n AK ck AV cv AD cd).toList _ hr Tryd.underlying79 rfl inf79 ?_) | (go_at_call 65; refine CK.out.mono ?_; rintro e w4 ⟨kh, is, rfl, hkr, ht4⟩; have HK := Lib.hid (And.intro hkr ht4); clear hkr ht4))
      have tj := (Turn.refl No w4).alloc (.cells #[.int .i64 kh.slot, .int .u64 kh.gen] 77)
      have hn8 := At.new w4 (.cells #[.int .i64 kh.slot, .int .u64 kh.gen] 77)
      obtain ⟨g8, hg8⟩ : ∃ x, w4.heap.size = x := ⟨_, rfl⟩
      rw [hg8] at hn8
      rw [hg8]
      clear hg8 hr q hqat
      generalize w4.alloc (.cells #[.int .i64 kh.slot, .int .u64 kh.gen] 77) = w5 at tj hn8 ⊢
      have hP5 := (HQ3.out.no HK.out.2).no tj
      have HP5 := Lib.hid hP5
      have H8 := Lib.hid (And.intro tj hn8)
      have y1 := (HS.out w5 hP5.tu).1
      obtain ⟨y2, y3⟩ := at2 hn8
      have hS8 : Hid (∀ W, Turn No w5 W → W.cell? ⟨I.tb, 1, none⟩ = some (.pointer (some ⟨I.ab, 0, none⟩)) ∧ W.cell? ⟨g8, 0, none⟩ = some (.int .i64 kh.slot) ∧ W.cell? ⟨g8, 1, none⟩ = some (.int .u64 kh.gen)) := Lib.hid fun W t => ⟨(HS.out W (HP5.out.tu.trans t)).1, at2 (H8.out.2.no t)⟩
      have lg8 := hn8.lt
      clear tj hn8 hP5
      cases hlf : n.leaf with
      | true =>
        have hkh : kh = ⟨0, 0⟩ := (HK.out.1.2 fun h => by rw [hlf] at h; cases h.2.1).2
        subst hkh
        have HLF := Lib.hid hlf
        clear hlf
        go_region_held3 (fun W => W.cell? ⟨I.tb, 1, none⟩ = some (.pointer (some ⟨I.ab, 0, none⟩)) ∧ W.cell? ⟨g8, 0, none⟩ = some (.int .i64 0) ∧ W.cell? ⟨g8, 1, none⟩ = some (.int .u64 0)) (first | (with_reducible exact ⟨y1, y2, y3⟩) | (exact hS8.out _ (by first | exact (Turn.refl No _).drew | assumption))) (first | (go_at_call 61; (with_reducible refine (GZ.out _ (HP5.out.tu.drew)).mono ?_); rintro e w6 ⟨rfl, ht⟩; have ht : Turn No w5 w6 := (Turn.refl No w5).drew.trans ht))
        have HR : Hid (LnS w w6 N T key (.slice B3 (Q ++ [X]).length c3) (.pointer none) (.bool false)) := Lib.hid (by
          have hD0 := HD.out.leaf HLF.out
          have hd := HD.out
          rw [hD0] at hd
          exact LnS.stop hd HLF.out (by rw [HQ.out, ← HX.out]; unfold ptrs; simp) (by rw [← HX.out]; exact HP5.out.no ht))
        clear ht
        rw [List.length_append] at HR
        rw [hql] at HR
        go_wp2_with fail
        exact ⟨HR.out, by simp [slN]; omega⟩
      | false =>
        obtain ⟨A2, kid, c2, B2, D2, hD2, hkk, hd2⟩ := HD.out.step hlf
        have hkid : kid = kh := by
          have := (HK.out.1.1 ⟨HD.out.right, hlf, HD.out.cv⟩).2
          rw [hkk] at this
          injection this
        subst hkid
        have hmk := hd2.mem
        have HD2 := Lib.hid hd2
        clear hD2 hkk hd2 hlf
        go_region_held3 (fun W => W.cell? ⟨I.tb, 1, none⟩ = some (.pointer (some ⟨I.ab, 0, none⟩)) ∧ W.cell? ⟨g8, 0, none⟩ = some (.int .i64 kid.slot) ∧ W.cell? ⟨g8, 1, none⟩ = some (.int .u64 kid.gen)) (first | (with_reducible exact ⟨y1, y2, y3⟩) | (exact hS8.out _ (by first | exact (Turn.refl No _).drew | assumption))) (first | (go_at_call 61; (with_reducible refine (GY.out (kid, c2) hmk _ (HP5.out.tu.drew)).mono ?_); rintro e w6 ⟨rfl, ht⟩; have ht : Turn No w5 w6 := (Turn.refl No w5).drew.trans ht))
        have HR : Hid (LnS w w6 N T key (.slice B3 (Q ++ [X]).length c3) (pq (blkOf N (kid, c2))) (.bool true)) := Lib.hid (LnS.go HD2.out (by rw [HQ.out, ← HX.out]; unfold ptrs; simp) (by rw [← HX.out]; exact HP5.out.no ht))
        clear ht
        rw [List.length_append] at HR
        rw [hql] at HR
        go_wp2_with fail
        exact ⟨HR.out, by simp [slN]; omega⟩
    | @stop U L A h n B Q Bq c hd hl hQ hP =>
      have HF := Lib.hid (And.intro hd (And.intro hl (And.intro hQ hP)))
      clear hd hl hQ hP
      go_wp2_with fail
      go_ret
      obtain ⟨hd, hl, hQ, hP⟩ := HF.out
      exact ⟨U, L, A, h, n, B, Q, Bq, c, rfl, ⟨hd, hl⟩, hQ, hP⟩
end Go.Proofs.YtfplnobnmgbgoaaDoor
