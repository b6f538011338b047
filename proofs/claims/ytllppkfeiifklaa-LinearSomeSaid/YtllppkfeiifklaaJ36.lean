/-
  near, as plain data and in memory.
  Whether there is a row, as the program looks for it: plain data.
  What the two small rows come to.
-/
import Derived.Test.YtllppkfeiifklaaJ35
import Derived.Test.YtllppkfeiifklaaJ16
import Derived.Test.YtllppkfeiifklaaJ17
import Derived.Test.YtllppkfeiifklaaJ34
import Derived.Test.YtllppkfeiifklaaJ33
namespace Go.Proofs.Ytllppkfeiifklaa
open Go.RowKit Go.Lib
set_option linter.unusedVariables false
set_option maxRecDepth 20000
set_option linter.unusedSimpArgs false

/-- What a Next adds: the first pair that no key names. -/
def nxO (M : List Pr) (K : List ByteArray) (o : Opx) (ws : List Wr) : List Pr := if o.kind = 5 ∧ refO o.kind o.k o.v o.o o.had ws = 0 then ((nexts M o.k o.aft).find? fun p => !keepB K p).toList else []
def nearL (l : List Ev) (ps : List (List Wr)) (M : List Pr) (K : List ByteArray) (J : List Int) : List Pr := M.filter (keepB K) ++ J.flatMap fun id => nxO M K (stO l id) (stW l ps id)
theorem nearL_snoc {l : List Ev} {ps : List (List Wr)} {M : List Pr} {K : List ByteArray} {J : List Int} {k : Nat} {id : Int} (h : J[k]? = some id) : nearL l ps M K (J.take (k + 1)) = nearL l ps M K (J.take k) ++ nxO M K (stO l id) (stW l ps id) := by
  rw [List.take_add_one, h]; simp [nearL]
theorem nxO_len (M : List Pr) (K : List ByteArray) (o : Opx) (ws : List Wr) : (nxO M K o ws).length ≤ 1 := by
  unfold nxO
  split
  · cases (nexts M o.k o.aft).find? fun p => !keepB K p <;> simp
  · simp
theorem nearL_len (l : List Ev) (ps : List (List Wr)) (M : List Pr) (K : List ByteArray) (J : List Int) : (nearL l ps M K J).length ≤ M.length + J.length := by
  unfold nearL
  rw [List.length_append]
  have h1 : (M.filter (keepB K)).length ≤ M.length := List.length_filter_le _ _
  have h2 : (J.flatMap fun id => nxO M K (stO l id) (stW l ps id)).length ≤ J.length := by
    induction J with
    | nil => simp
    | cons a t ih =>
      rw [List.flatMap_cons, List.length_append, List.length_cons]
      have := nxO_len M K (stO l a) (stW l ps a)
      omega
  omega
theorem nxO_sub {M : List Pr} (ha : Asc M) {K : List ByteArray} {o : Opx} {ws : List Wr} {p : Pr} (h : p ∈ nxO M K o ws) : p ∈ M := by
  unfold nxO at h
  split at h
  · rw [Option.mem_toList] at h
    have := List.mem_of_find?_eq_some h
    exact (ha.nexts_ok.1 this).1
  · cases h
theorem nearL_sub {l : List Ev} {ps : List (List Wr)} {M : List Pr} (ha : Asc M) {K : List ByteArray} {J : List Int} {p : Pr} (h : p ∈ nearL l ps M K J) : p ∈ M := by
  unfold nearL at h
  rcases List.mem_append.1 h with h | h
  · exact (List.mem_filter.1 h).1
  · obtain ⟨id, _, h⟩ := List.mem_flatMap.1 h
    exact nxO_sub ha h
/-- In the inner loop: what is still to be added is R. -/
def Ax (M : List Pr) (K : List ByteArray) (a : Ans) (R : List Pr) : Prop := (a.found = false ∧ R = []) ∨ ∃ i p, M[i]? = some p ∧ a = ⟨0, true, p.k, p.v⟩ ∧ ((M.drop i).find? fun p => !keepB K p).toList = R
theorem Ax.of_drop {M : List Pr} {K : List ByteArray} (i : Nat) : Ax M K (nans (M.drop i)) (((M.drop i).find? fun p => !keepB K p).toList) := by
  by_cases hi : i < M.length
  · obtain ⟨p, hp⟩ : ∃ p, M[i]? = some p := ⟨M[i], List.getElem?_eq_getElem hi⟩
    refine .inr ⟨i, p, hp, ?_, rfl⟩
    rw [drop_cons hp]
    rfl
  · rw [List.drop_eq_nil_of_le (by omega)]
    exact .inl ⟨rfl, rfl⟩
theorem Ax.of_nexts {M : List Pr} {K : List ByteArray} (key : ByteArray) (aft : Bool) : Ax M K (nans (nexts M key aft)) (((nexts M key aft).find? fun p => !keepB K p).toList) := by
  cases h : (hasL M key && aft) with
  | true => rw [nexts_1 M key aft h]; exact Ax.of_drop _
  | false => rw [nexts_0 M key aft h]; exact Ax.of_drop _
theorem Ax.start {M : List Pr} {K : List ByteArray} {o : Opx} {ws : List Wr} (h5 : o.kind = 5) : Ax M K (opA M o ws) (nxO M K o ws) := by
  by_cases hr : refO 5 o.k o.v o.o o.had ws = 0
  · have e1 : opA M o ws = nans (nexts M o.k o.aft) := by unfold opA; rw [h5]; unfold doA; simp [hr]
    have e2 : nxO M K o ws = ((nexts M o.k o.aft).find? fun p => !keepB K p).toList := by unfold nxO; rw [h5]; simp [hr]
    rw [e1, e2]
    exact Ax.of_nexts _ _
  · have e1 : (opA M o ws).found = false := by unfold opA; rw [h5]; unfold doA; simp [hr]
    have e2 : nxO M K o ws = [] := by unfold nxO; rw [h5]; simp [hr]
    rw [e2]
    exact .inl ⟨e1, rfl⟩
/-- One step: the key is named. -/
theorem Ax.step {M : List Pr} (ha : Asc M) {K : List ByteArray} {a : Ans} {R : List Pr} (h : Ax M K a R) (hf : a.found = true) (hk : hasK K a.k = true) (hb : bigK a.k = false) :
    Ax M K (doA M 5 a.k ⟨#[]⟩ ⟨#[]⟩ false true []) R ∧ ((doA M 5 a.k ⟨#[]⟩ ⟨#[]⟩ false true []).found = true → (hiL M (doA M 5 a.k ⟨#[]⟩ ⟨#[]⟩ false true []).k).length < (hiL M a.k).length) ∧ 0 < (hiL M a.k).length := by
  rcases h with ⟨h1, _⟩ | ⟨i, p, hp, rfl, hR⟩
  · rw [h1] at hf; cases hf
  · simp only at hk hb ⊢
    rw [doA_next _ _ _ hb, nexts_after ha hp]
    have hlt := (List.getElem?_eq_some_iff.1 hp).1
    have e1 : (M.drop i).find? (fun p => !keepB K p) = (M.drop (i + 1)).find? (fun p => !keepB K p) := by
      rw [drop_cons hp, List.find?_cons]
      have : keepB K p = true := hk
      rw [this]
      rfl
    have hh := hi_at ha hp
    refine ⟨by rw [← hR, e1]; exact Ax.of_drop (i + 1), fun hf2 => ?_, by rw [hh]; simp⟩
    by_cases hi : i + 1 < M.length
    · obtain ⟨q, hq⟩ : ∃ q, M[i + 1]? = some q := ⟨M[i + 1], List.getElem?_eq_getElem hi⟩
      have h2 := hi_at ha hq
      have : (nans (M.drop (i + 1))).k = q.k := by rw [drop_cons hq]; rfl
      rw [this, h2, hh]
      simp only [List.length_cons, List.length_drop]
      omega
    · rw [List.drop_eq_nil_of_le (by omega)] at hf2
      cases hf2
theorem Ax.fin {M : List Pr} {K : List ByteArray} {a : Ans} {R : List Pr} (h : Ax M K a R) (hk : a.found = true → hasK K a.k = false) : R = if a.found = true then [⟨a.k, a.v⟩] else [] := by
  rcases h with ⟨h1, h2⟩ | ⟨i, p, hp, rfl, hR⟩
  · rw [h1, h2]; rfl
  · rw [if_pos rfl, ← hR, drop_cons hp, List.find?_cons]
    have : keepB K p = false := hk rfl
    rw [this]
    rfl
/-- Named keys are no larger than a key may be. -/
theorem namL_big {l : List Ev} {ps : List (List Wr)} {J : List Int} {k : ByteArray} (h : k ∈ namL l ps J) : bigK k = false := by
  unfold namL at h
  obtain ⟨id, _, h⟩ := List.mem_flatMap.1 h
  generalize stO l id = o at h
  generalize stW l ps id = ws at h
  unfold keysO at h
  split at h
  · cases h
  · rename_i hno
    have hr : refO o.kind o.k o.v o.o o.had ws = 0 := by
      by_cases hr : refO o.kind o.k o.v o.o o.had ws = 0
      · exact hr
      · exact absurd (.inl hr) hno
    split at h
    · rename_i h6
      rw [h6] at hr
      obtain ⟨x, hx, rfl⟩ := List.mem_map.1 h
      unfold refO at hr
      rw [if_neg (by decide), if_neg (by decide), if_neg (by decide), if_pos rfl] at hr
      unfold refW at hr
      split at hr
      · cases hr
      · split at hr
        · cases hr
        · rename_i h3
          have h4 : badW x = false := by
            cases hb : badW x with
            | false => rfl
            | true => exact absurd (List.any_eq_true.2 ⟨x, hx, hb⟩) h3
          unfold badW at h4
          cases hb : bigK x.k with
          | false => rfl
          | true => rw [hb] at h4; simp at h4
    · rename_i h6
      simp at h
      subst h
      cases hb : bigK o.k with
      | false => rfl
      | true =>
        exfalso
        unfold refO at hr
        rw [hb] at hr
        simp only [Bool.true_or, if_true] at hr
        split at hr
        · cases hr
        · split at hr
          · cases hr
          · split at hr
            · cases hr
            · exact absurd hr (by decide)
/-- How far the inner loop still goes. -/
def mzW (M : List Pr) (g : Nat) (w : World) : Nat := match w.cell? ⟨g, 1, none⟩ with
  | some (.bool true) => match w.cell? ⟨g, 2, none⟩ with
    | some (.string k) => (hiL M k).length
    | _ => 0
  | _ => 0
theorem mzW_eq {M : List Pr} {g : Nat} {w : World} {a : Ans} (h : At w g (.cells #[.int .i64 a.code, .bool a.found, .string a.k, .string a.v] 38 (0, 0))) : mzW M g w = if a.found = true then (hiL M a.k).length else 0 := by
  unfold mzW
  have h1 := h.cell 1
  have h2 := h.cell 2
  simp at h1 h2
  rw [h1, h2]
  cases a.found <;> rfl
theorem hx_own {w : World} {Z B n cap : Nat} {l : List Pr} (h : w.ownsRow Z 47 2 (.slice (some ⟨B, 0, none⟩) n cap) n (pcs l)) (hl : n = l.length) : Hx w B cap l ∧ cap ≤ maxLen ∧ Z ≤ B := by
  subst hl
  rcases h.2 with ⟨hv, _⟩ | ⟨g, c, cur, hv, hb, hg, hn, hc, hs, ht⟩
  · cases hv
  · injection hv with e1 _ e2
    injection e1 with e1
    injection e1 with e1
    subst e1 e2
    exact ⟨⟨cur.toList, hg, by simpa using hs, hn, ht⟩, hc, hb⟩
theorem own_hx {w : World} {Z B cap : Nat} {l : List Pr} (h : Hx w B cap l) (hc : cap ≤ maxLen) (hz : Z ≤ B) : w.ownsRow Z 47 2 (.slice (some ⟨B, 0, none⟩) l.length cap) l.length (pcs l) := by
  obtain ⟨cur, hd⟩ := h
  exact hd.own hz hc
/-- near's memory: the map, the calls, the keys, the pairs so far. -/
structure Nr (w wr : World) (Z : Nat) (l : List Ev) (ps : List (List Wr)) (J : List Int) (f : Nat → Nat) (C : List Cl) (B : Option Addr) (c : Nat) (m : Nat) (r : Option Nat) (M : List Pr) (gk : Nat) (K : List ByteArray) (Bk : Option Addr) (ck : Nat) (P : List Pr) (Bp : Option Addr) (cp : Nat) : Prop where
  so : So w wr m r M
  cs : Cs Z wr l ps J f C B c
  kbx : At wr gk (.cells #[.slice Bk K.length ck] 87 (0, 0))
  kr : wr.ownsRow w.heap.size 9 1 (.slice Bk K.length ck) K.length (kcs K)
  pr : wr.ownsRow w.heap.size 47 2 (.slice Bp P.length cp) P.length (pcs P)
  ne : ∀ k, ablk Bp = some k → r ≠ some k
section
variable {w wr w2 : World} {Z : Nat} {l : List Ev} {ps : List (List Wr)} {J : List Int} {f : Nat → Nat} {C : List Cl} {B : Option Addr} {c m gk ck cp : Nat} {r r2 : Option Nat} {M : List Pr} {K : List ByteArray} {Bk : Option Addr} {P : List Pr} {Bp : Option Addr}
theorem Nr.no (h : Nr w wr Z l ps J f C B c m r M gk K Bk ck P Bp cp) (t : Turn No wr w2) : Nr w w2 Z l ps J f C B c m r M gk K Bk ck P Bp cp :=
  ⟨h.so.no t, h.cs.no t, h.kbx.no t, own_grown h.kr t fun _ _ h => h, own_grown h.pr t fun _ _ h => h, h.ne⟩
theorem Nr.kb (h : Nr w wr Z l ps J f C B c m r M gk K Bk ck P Bp cp) : Kb wr gk K Bk ck := ⟨h.kbx, row_of_own h.kr⟩
theorem Nr.step (h : Nr w wr Z l ps J f C B c m r M gk K Bk ck P Bp cp) (hom : Om w2 w.heap.size m r2 M) (hr : r2 = r ∨ ∃ k, r2 = some k ∧ wr.heap.size ≤ k) (t : Turn (Mp m r) wr w2) : Nr w w2 Z l ps J f C B c m r2 M gk K Bk ck P Bp cp := by
  have hap : ∀ k cur tt, tt ≠ 98 → tt ≠ 47 → Mp m r k → ¬ At wr k (.cells cur tt (0, 0)) := fun k cur tt h1 h2 e hat => by
    have := h.so.a.apart hat h1 h2
    exact e.elim this.1 this.2
  refine ⟨⟨hom, turn_mp h.so.a h.so.tu t⟩, h.cs.turn t (fun k cur e => hap k cur 77 (by decide) (by decide) e) (fun k cur e => hap k cur 68 (by decide) (by decide) e), h.so.a.keep h.kbx (by decide) (by decide) t, own_grown h.kr t fun k hk e => ?_, own_grown h.pr t fun k hk e => ?_, fun k hk e2 => ?_⟩
  · rw [own_ablk] at hk
    obtain ⟨_, cur, hc⟩ := own_at h.kr hk
    exact hap k cur 9 (by decide) (by decide) e hc
  · rw [own_ablk] at hk
    rcases e with e | e
    · subst e
      obtain ⟨_, cur, hc⟩ := own_at h.pr hk
      obtain ⟨A2, cap2, hm, _⟩ := h.so.a.rowed
      have := hc.eq hm
      injection this with _ e3 _
      exact absurd e3 (by decide)
    · exact h.ne k hk e
  · rcases hr with e | ⟨q, e, hq⟩
    · rw [e] at e2; exact h.ne k hk e2
    · rw [e] at e2
      injection e2 with e2
      obtain ⟨_, cur, hc⟩ := own_at h.pr hk
      have := hc.lt
      omega
theorem Nr.app (h : Nr w wr Z l ps J f C B c m r M gk K Bk ck P Bp cp) (hz : Z ≤ wr.heap.size) (p : Pr) (hn : P.length ≤ 90000) :
    ∃ B' c' w', AppRun 22 22 (.slice Bp P.length cp) (.slice (some ⟨wr.heap.size, 0, none⟩) 1 1) (.slice B' (P.length + 1) c') (wr.alloc (.cells #[.string p.k, .string p.v] 47)) w' ∧ Nr w w' Z l ps J f C B c m r M gk K Bk ck (P ++ [p]) B' c' := by
  have h2 := h.no ((Turn.refl No wr).alloc (.cells #[.string p.k, .string p.v] 47))
  have hn2 := At.new wr (.cells #[.string p.k, .string p.v] 47)
  obtain ⟨B', c', w', q, ho, ht, hB⟩ := app_gen Try.underlying22 info50 rfl (by decide) (by decide) h2.pr ⟨wr.heap.size, 0, none⟩ 1 1 p.cs rfl
    (fun j u hj => by rw [Addr.add_lit, Nat.zero_add, hn2.cell, show (#[Value.string p.k, Value.string p.v] : Array Value) = p.cs.toArray from rfl]; simpa using hj) (fun u hu => one_pcs [p] u (by simpa [pcs] using hu)) (by omega) h2.so.tu.size 22
  have hX : ∀ k cur tt, tt ≠ 47 → (Value.slice Bp P.length cp).ownBlock = some k → ¬ At (wr.alloc (.cells #[.string p.k, .string p.v] 47)) k (.cells cur tt (0, 0)) := fun k cur tt h1 e hat => by
    rw [own_ablk] at e
    obtain ⟨_, cur2, hc⟩ := own_at h2.pr e
    have := hc.eq hat
    injection this with _ e3 _
    exact h1 e3.symm
  have htn : Turn No w w' := h2.so.tu.then ht fun k hk hb => by
    rw [own_ablk] at hb
    have := (own_at h2.pr hb).1
    omega
  refine ⟨B', c', w', q, ⟨h2.so.a.turn ht (fun e => ?_) (fun k hk e => ?_), htn⟩, h2.cs.turn ht (fun k cur e => hX k cur 77 (by decide) e) (fun k cur e => hX k cur 68 (by decide) e), h2.kbx.turn ht (fun e => hX _ _ 87 (by decide) e h2.kbx), own_grown h2.kr ht fun k hk e => ?_, ?_, fun k hk e2 => ?_⟩
  · obtain ⟨A2, cap2, hm, _⟩ := h2.so.a.rowed
    exact hX _ _ 98 (by decide) e hm
  · rw [own_ablk] at e
    exact h2.ne k e hk
  · rw [own_ablk] at hk
    obtain ⟨_, cur, hc⟩ := own_at h2.kr hk
    exact hX k cur 9 (by decide) e hc
  · rw [List.length_append, pcs_append]
    have e1 : pcs [p] = p.cs := by simp [pcs]
    rw [e1]
    exact ho
  · rw [own_ablk, own_ablk] at hB
    rcases hB with e | e
    · rw [e] at hk; exact h2.ne k hk e2
    · rw [e] at hk
      injection hk with hk
      have hlt := (h2.so.a.rb_lt e2).2
      omega
end
end Go.Proofs.Ytllppkfeiifklaa
namespace Go.Proofs.Ytllppkfeiifklaa
open Go.RowKit Go.Lib
set_option linter.unusedVariables false
set_option maxRecDepth 20000
set_option linter.unusedSimpArgs false

theorem all_iff {d e : Nat} : d &&& e = e ↔ ∀ j, e.testBit j = true → d.testBit j = true := by
  constructor
  · intro h j hj
    rw [← h, Nat.testBit_and] at hj
    simp only [Bool.and_eq_true] at hj
    exact hj.1
  · intro h
    refine Nat.eq_of_testBit_eq fun j => ?_
    rw [Nat.testBit_and]
    cases he : e.testBit j with
    | false => simp
    | true => rw [h j he]; rfl
theorem bit_iff {d k : Nat} : d &&& 2 ^ k = 2 ^ k ↔ d.testBit k = true := by
  rw [all_iff]
  constructor
  · intro h
    exact h k (by rw [Nat.testBit_two_pow]; simp)
  · intro h j hj
    rw [Nat.testBit_two_pow] at hj
    have : k = j := of_decide_eq_true hj
    subst this
    exact h
theorem bit_or {d k j : Nat} : (d ||| 2 ^ k).testBit j = (d.testBit j || decide (k = j)) := by
  rw [Nat.testBit_or, Nat.testBit_two_pow]
/-- How many of the first n calls are not done. -/
def lft (d : Nat) : Nat → Nat
  | 0 => 0
  | n + 1 => lft d n + (if d.testBit n = true then 0 else 1)
theorem lft_le (d : Nat) : ∀ n, lft d n ≤ n
  | 0 => Nat.le_refl _
  | n + 1 => by have := lft_le d n; unfold lft; split <;> omega
theorem lft_mono (d k : Nat) : ∀ n, lft (d ||| 2 ^ k) n ≤ lft d n
  | 0 => Nat.le_refl _
  | n + 1 => by
    have := lft_mono d k n
    unfold lft
    rw [bit_or]
    cases d.testBit n with
    | true => simpa using this
    | false => simp only [Bool.false_or, decide_eq_true_eq, if_neg Bool.false_ne_true]; split <;> omega
theorem lft_lt {d k : Nat} (hk : d.testBit k = false) : ∀ n, k < n → lft (d ||| 2 ^ k) n < lft d n
  | n + 1, hn => by
    have hm := lft_mono d k n
    by_cases h : k = n
    · subst h
      unfold lft
      rw [bit_or, hk]
      simp
      omega
    · have := lft_lt hk n (by omega)
      unfold lft
      rw [bit_or]
      cases d.testBit n with
      | true => simpa using this
      | false => simp only [Bool.false_or, decide_eq_true_eq, if_neg Bool.false_ne_true, if_neg h]; omega
/-- The program's search: what has been done are the bits of d. -/
inductive PR (l : List Ev) (ps : List (List Wr)) (J : List Int) : List Pr → Nat → Prop
  | done {M : List Pr} {d : Nat} : d &&& endB l J J.length = endB l J J.length → PR l ps J M d
  | step {M : List Pr} {d k : Nat} {id : Int} : J[k]? = some id → ¬ (d &&& 2 ^ k = 2 ^ k) → d &&& ahdF l J k = ahdF l J k → (stN l id = 3 → opA M (stO l id) (stW l ps id) = stA l id) → PR l ps J (opD M (stO l id) (stW l ps id)) (d ||| 2 ^ k) → PR l ps J M d
/-- May the k-th call be the next one? -/
def StepOk (l : List Ev) (ps : List (List Wr)) (J : List Int) (M : List Pr) (d k : Nat) : Prop := ∃ id, J[k]? = some id ∧ ¬ (d &&& 2 ^ k = 2 ^ k) ∧ d &&& ahdF l J k = ahdF l J k ∧ (stN l id = 3 → opA M (stO l id) (stW l ps id) = stA l id) ∧ PR l ps J (opD M (stO l id) (stW l ps id)) (d ||| 2 ^ k)
theorem PR.of_step {l : List Ev} {ps : List (List Wr)} {J : List Int} {M : List Pr} {d k : Nat} (h : StepOk l ps J M d k) : PR l ps J M d := by
  obtain ⟨id, h1, h2, h3, h4, h5⟩ := h
  exact .step h1 h2 h3 h4 h5
theorem PR.none {l : List Ev} {ps : List (List Wr)} {J : List Int} {M : List Pr} {d : Nat} (hd : ¬ (d &&& endB l J J.length = endB l J J.length)) (h : ∀ k, k < J.length → ¬ StepOk l ps J M d k) : ¬ PR l ps J M d := fun hp => by
  cases hp with
  | done h1 => exact hd h1
  | step h1 h2 h3 h4 h5 => exact h _ (List.getElem?_eq_some_iff.1 h1).1 ⟨_, h1, h2, h3, h4, h5⟩
theorem news_id {M : List Pr} (h : Asc M) : news M = M := by
  refine Asc.ext (asc_news M) h fun k => ?_
  rw [get_news]
  cases h1 : getL M.reverse k with
  | some v =>
    have := get_mem h1
    rw [List.mem_reverse] at this
    rw [h.get_of_mem this]
  | none =>
    cases h2 : getL M k with
    | none => rfl
    | some v =>
      exfalso
      have hm := get_mem h2
      unfold getL at h1
      rw [Option.map_eq_none_iff, List.find?_eq_none] at h1
      have := h1 ⟨k, v⟩ (List.mem_reverse.2 hm)
      simp at this
theorem ahdF_lt (l : List Ev) (J : List Int) (k : Nat) : ahdF l J k < 2 ^ J.length := by
  unfold ahdF
  cases J[k]? with
  | none => exact Nat.two_pow_pos _
  | some a => exact ahdB_lt l J a _
theorem or_lt {d k n : Nat} (hd : d < 2 ^ n) (hk : k < n) : d ||| 2 ^ k < 2 ^ n := Nat.or_lt_two_pow hd (Nat.pow_lt_pow_right (by decide) hk)
end Go.Proofs.Ytllppkfeiifklaa
namespace Go.Proofs.Ytllppkfeiifklaa
open Go.RowKit Go.Lib
set_option linter.unusedVariables false
set_option maxRecDepth 20000
set_option linter.unusedSimpArgs false

theorem right_of : ∀ (t l : List Ev), Right l → (∀ n e, t[n]? = some e → fits (l ++ t.take n) e = true) → Right (l ++ t)
  | [], l, h, _ => by rwa [List.append_nil]
  | e :: t, l, h, hf => by
    have h1 : Right (l ++ [e]) := .snoc h (by have := hf 0 e rfl; simpa using this)
    have := right_of t (l ++ [e]) h1 (fun n x hx => by
      have := hf (n + 1) x (by simpa using hx)
      simpa using this)
    simpa using this
theorem sm_right (b : Bool) : Right (smL b) := by
  refine right_of (smL b) [] .nil fun n e he => ?_
  have hn : n < 6 := (List.getElem?_eq_some_iff.1 he).1
  have : n = 0 ∨ n = 1 ∨ n = 2 ∨ n = 3 ∨ n = 4 ∨ n = 5 := by omega
  rcases this with rfl | rfl | rfl | rfl | rfl | rfl <;> (injection he with he; subst he)
  · cases b <;> rfl
  · cases b <;> rfl
  · unfold fits
    rw [show kn ([] ++ List.take 2 (smL b)) (Ev.id ⟨2, 1, op00, ans00⟩) = ⟨1, ans00⟩ by cases b <;> rfl]
    simp [fitsK, zero00]
  · unfold fits
    rw [show kn ([] ++ List.take 3 (smL b)) (Ev.id ⟨2, 2, op00, smA b⟩) = ⟨1, ans00⟩ by cases b <;> rfl]
    simp [fitsK, zero00]
  · unfold fits
    rw [show kn ([] ++ List.take 4 (smL b)) (Ev.id ⟨3, 1, op00, ans00⟩) = ⟨2, ans00⟩ by cases b <;> rfl]
    simp [fitsK, zero00]
  · unfold fits
    rw [show kn ([] ++ List.take 5 (smL b)) (Ev.id ⟨3, 2, op00, smA b⟩) = ⟨2, smA b⟩ by cases b <;> rfl]
    simp [fitsK, zero00]
theorem sm_upto (b : Bool) (n : Nat) (h : ∀ j, j < n → ∀ e, (smL b)[j]? = some e → lnOk (smL b) smW (lnM (smL b) smW (news []) j) e = true) : Upto (smL b) smW (news []) n := fun j e hj he => h j hj e he
theorem sm_lin_t : Lin (smL true) smW (news []) (-1) 0 := by
  refine .inl ⟨rfl, rfl, sm_upto true 6 fun j hj e he => ?_⟩
  have : j = 0 ∨ j = 1 ∨ j = 2 ∨ j = 3 ∨ j = 4 ∨ j = 5 := by omega
  rcases this with rfl | rfl | rfl | rfl | rfl | rfl <;> (injection he with he; subst he; rfl)
theorem sm_lin_f : Lin (smL false) smW (news []) 3 32 := by
  refine .inr ⟨3, ⟨2, 2, op00, ans00⟩, rfl, rfl, rfl, sm_upto false 3 fun j hj e he => ?_, by rfl⟩
  have : j = 0 ∨ j = 1 ∨ j = 2 := by omega
  rcases this with rfl | rfl | rfl <;> (injection he with he; subst he; rfl)
theorem sm_after : (lnM (smL true) smW (news []) (smL true).length).length = 1 := by rfl
theorem sm_wit : (wit (smL true)).length = 2 := by rfl
theorem sm_surv (b : Bool) : surv (smL b) (begs (smL b)) = [1, 2] := by cases b <;> rfl
theorem sm_near (b : Bool) : nearL (smL b) smW (news []) (namL (smL b) smW [1, 2]) [1, 2] = [] := by cases b <;> rfl
/-- The Put first, if the Get finds; else the Get first. -/
theorem sm_pr_t : PR (smL true) smW [1, 2] [] 0 := by
  refine .step (k := 0) (id := 1) rfl (by decide) (by decide) (fun _ => by rfl) ?_
  refine .step (k := 1) (id := 2) rfl (by decide) (by decide) (fun _ => by rfl) ?_
  exact .done (by decide)
theorem sm_pr_f : PR (smL false) smW [1, 2] [] 0 := by
  refine .step (k := 1) (id := 2) rfl (by decide) (by decide) (fun _ => by rfl) ?_
  refine .step (k := 0) (id := 1) rfl (by decide) (by decide) (fun _ => by rfl) ?_
  exact .done (by decide)
end Go.Proofs.Ytllppkfeiifklaa
