/-
  Put and Delete of pairs as inserts into keys and values; slices.Insert and slices.Delete by places; results that lie in cells.
-/
import Derived.Test.YtengbkopihiiaaaWCe
namespace Go.Proofs.Ytengbkopihiiaaa
open Go.RowKit Go.Lib
set_option linter.unusedVariables false
set_option maxRecDepth 20000
set_option linter.unusedSimpArgs false

theorem zip_keys : ∀ {K V : List ByteArray}, V.length = K.length → (zipP K V).map Pr.k = K ∧ (zipP K V).map Pr.v = V
  | [], [], _ => ⟨rfl, rfl⟩
  | k :: K, v :: V, h => by
    obtain ⟨h1, h2⟩ := zip_keys (K := K) (V := V) (by simpa using h)
    exact ⟨by show k :: (zipP K V).map Pr.k = _; rw [h1], by show v :: (zipP K V).map Pr.v = _; rw [h2]⟩
  | [], _ :: _, h => by simp at h
  | _ :: _, [], h => by simp at h
theorem zip_asc {K V : List ByteArray} (h : V.length = K.length) (hr : Rk K) : Asc (zipP K V) := asc_keys.2 (by rw [(zip_keys h).1]; exact hr)
theorem low_take {key : ByteArray} : ∀ {l : List Pr}, Asc l → lowL l key = l.take (plc (l.map Pr.k) key) ∧ hiL l key = l.drop (plc (l.map Pr.k) key)
  | [], _ => ⟨rfl, rfl⟩
  | p :: t, h => by
    have ih := low_take (key := key) (l := t) (List.Pairwise.of_cons h)
    have hp : ∀ q ∈ t, kl p.k q.k := fun q hq => List.rel_of_pairwise_cons h hq
    unfold lowL hiL at ih ⊢
    rw [List.map_cons, plc_cons]
    by_cases e : kl p.k key
    · rw [if_pos e, List.takeWhile_cons_of_pos (by simpa using e), List.dropWhile_cons_of_pos (by simpa using e), Nat.add_comm, List.take_succ_cons, List.drop_succ_cons, ih.1, ih.2]
      exact ⟨rfl, rfl⟩
    · have h0 : plc (t.map Pr.k) key = 0 := by
        unfold plc
        rw [List.filter_eq_nil_iff.2 fun y hy => by
          obtain ⟨q, hq, rfl⟩ := List.mem_map.1 hy
          simp only [decide_eq_true_eq]
          exact fun h2 => e (kl_trans (hp q hq) h2)]
        rfl
      rw [if_neg e, h0, List.takeWhile_cons_of_neg (by simpa using e), List.dropWhile_cons_of_neg (by simpa using e)]
      exact ⟨rfl, rfl⟩
theorem has_in {l : List Pr} (ha : Asc l) {key : ByteArray} : hasL l key = inK (l.map Pr.k) key := by
  cases hh : hasL l key with
  | true =>
    obtain ⟨v, t, ht⟩ := has_true hh
    refine (inK_iff.2 (List.mem_map.2 ⟨(⟨key, v⟩ : Pr), ?_, rfl⟩)).symm
    rw [← split_L l key, ht]
    simp
  | false =>
    refine (inK_no.2 fun hm => ?_).symm
    obtain ⟨q, hq, e⟩ := List.mem_map.1 hm
    rw [← split_L l key] at hq
    rcases List.mem_append.1 hq with h | h
    · exact kl_ne (low_mem h) e
    · exact kl_ne (ha.has_false hh h) e.symm
theorem plc_lt {K : List ByteArray} (h : Rk K) {key : ByteArray} (hm : inK K key = true) : plc K key < K.length := by
  have := (plc_mem h).2 (inK_iff.1 hm)
  exact (List.getElem?_eq_some_iff.1 this).1
/-- Without what stands at a place. -/
def era {α : Type} (L : List α) (i : Nat) : List α := L.take i ++ L.drop (i + 1)
theorem era_length {α : Type} (L : List α) {i : Nat} (hi : i < L.length) : (era L i).length = L.length - 1 := by
  unfold era
  rw [List.length_append, List.length_take, List.length_drop]
  omega
section
variable {K V : List ByteArray} (hl : V.length = K.length) (hr : Rk K) {key : ByteArray}
include hl hr
theorem get_zip : getL (zipP K V) key = if inK K key = true then V[plc K key]? else none := by
  have := get_plc (k := key) (zip_asc hl hr)
  rwa [(zip_keys hl).1, (zip_keys hl).2] at this
theorem putL_yes (h : inK K key = true) (val : ByteArray) : (putL (zipP K V) key val).map Pr.k = K ∧ (putL (zipP K V) key val).map Pr.v = V.set (plc K key) val := by
  have ha := zip_asc hl hr
  have hP := plc_lt hr h
  have e1 : hasL (zipP K V) key = true := by rw [has_in ha, (zip_keys hl).1, h]
  rw [put_low, if_pos e1, (low_take ha).1, (low_take ha).2, (zip_keys hl).1, List.tail_drop, List.map_append, List.map_append, List.map_cons, List.map_cons, List.map_take, List.map_take, List.map_drop, List.map_drop, (zip_keys hl).1, (zip_keys hl).2]
  have hk := (plc_mem hr).2 (inK_iff.1 h)
  constructor
  · conv => rhs; rw [← List.take_append_drop (plc K key) K]
    rw [List.drop_eq_getElem_cons hP]
    have : K[plc K key] = key := by
      have := List.getElem?_eq_some_iff.1 hk
      exact this.2
    rw [this]
  · rw [List.set_eq_take_append_cons_drop, if_pos (by omega)]
theorem putL_no (h : inK K key = false) (val : ByteArray) : (putL (zipP K V) key val).map Pr.k = ins K (plc K key) key ∧ (putL (zipP K V) key val).map Pr.v = ins V (plc K key) val := by
  have ha := zip_asc hl hr
  have e1 : ¬ hasL (zipP K V) key = true := by rw [has_in ha, (zip_keys hl).1, h]; decide
  rw [put_low, if_neg e1, (low_take ha).1, (low_take ha).2, (zip_keys hl).1, List.map_append, List.map_append, List.map_cons, List.map_cons, List.map_take, List.map_take, List.map_drop, List.map_drop, (zip_keys hl).1, (zip_keys hl).2]
  exact ⟨rfl, rfl⟩
theorem delL_yes (h : inK K key = true) : (delL (zipP K V) key).map Pr.k = era K (plc K key) ∧ (delL (zipP K V) key).map Pr.v = era V (plc K key) := by
  have ha := zip_asc hl hr
  have e1 : hasL (zipP K V) key = true := by rw [has_in ha, (zip_keys hl).1, h]
  rw [ha.del_low, if_pos e1, (low_take ha).1, (low_take ha).2, (zip_keys hl).1, List.tail_drop, List.map_append, List.map_append, List.map_take, List.map_take, List.map_drop, List.map_drop, (zip_keys hl).1, (zip_keys hl).2]
  exact ⟨rfl, rfl⟩
theorem delL_no (h : inK K key = false) : delL (zipP K V) key = zipP K V := by
  refine del_none (zip_asc hl hr) ?_
  rw [get_zip hl hr, h]
  rfl
end
theorem take_drop_len {α : Type} (L : List α) {i : Nat} (hi : i ≤ L.length) : (L.take i).length = i ∧ (L.drop i).length = L.length - i ∧ (L.take i).length + (L.drop i).length = L.length := by
  rw [List.length_take, List.length_drop]
  omega
theorem own_ins_len {α : Type} (L : List α) {i : Nat} (hi : i ≤ L.length) (x : α) : (ins L i x).length = L.length + 1 := ins_length L hi x
/-- slices.Insert of one text. -/
theorem insK {w : World} {Z cap : Nat} {A : Option Addr} (K : List ByteArray) {i : Nat} (hi : i ≤ K.length) (h : w.ownsRow Z 9 1 (.slice A K.length cap) K.length (kcs K)) (hn : K.length ≤ 50000) (vb : Nat) (p : ByteArray) (hp : At w vb (.cells #[.string p] 9 (0, 0))) (hne : ablk A ≠ some vb) (hz : Z ≤ w.heap.size) :
    Calls Try.prog 41 #[.slice A K.length cap, .int .i64 (i : Int), .slice (some ⟨vb, 0, none⟩) 1 1] w fun e w' => ∃ B cap', e = .returned (.slice (some ⟨B, 0, none⟩) (K.length + 1) cap') ∧
      w'.ownsRow Z 9 1 (.slice (some ⟨B, 0, none⟩) (K.length + 1) cap') (K.length + 1) (kcs (ins K i p)) ∧ Turn (fun k => ablk A = some k) w w' ∧ (ablk A = some B ∨ w.heap.size ≤ B) := by
  obtain ⟨e1, e2, e3⟩ := take_drop_len K hi
  have := IK.insert_any (w := w) (Z := Z) (cap := cap) (A := A) (K.take i) (K.drop i) (by rw [e3, List.take_append_drop]; exact h) (by omega) vb p hp (by rw [own_ablk]; exact hne) hz
  rw [e3, e1] at this
  simpa only [own_ablk, ins] using this
/-- slices.Insert of one handle. -/
theorem insH {w : World} {Z cap : Nat} {A : Option Addr} (K : List Hn) {i : Nat} (hi : i ≤ K.length) (h : w.ownsRow Z 27 2 (.slice A K.length cap) K.length (hcs K)) (hn : K.length ≤ 50000) (vb : Nat) (p : Hn) (hp : At w vb (.cells #[.int .i64 p.slot, .int .u64 p.gen] 27 (0, 0))) (hne : ablk A ≠ some vb) (hz : Z ≤ w.heap.size) :
    Calls Try.prog 44 #[.slice A K.length cap, .int .i64 (i : Int), .slice (some ⟨vb, 0, none⟩) 1 1] w fun e w' => ∃ B cap', e = .returned (.slice (some ⟨B, 0, none⟩) (K.length + 1) cap') ∧
      w'.ownsRow Z 27 2 (.slice (some ⟨B, 0, none⟩) (K.length + 1) cap') (K.length + 1) (hcs (ins K i p)) ∧ Turn (fun k => ablk A = some k) w w' ∧ (ablk A = some B ∨ w.heap.size ≤ B) := by
  obtain ⟨e1, e2, e3⟩ := take_drop_len K hi
  have := IH.insert_any (w := w) (Z := Z) (cap := cap) (A := A) (K.take i) (K.drop i) (by rw [e3, List.take_append_drop]; exact h) (by omega) vb p hp (by rw [own_ablk]; exact hne) hz
  rw [e3, e1] at this
  simpa only [own_ablk, ins] using this
/-- slices.Delete of one text. -/
theorem delK {w : World} {Z cap : Nat} {A : Option Addr} (K : List ByteArray) {i : Nat} (hi : i < K.length) (h : w.ownsRow Z 9 1 (.slice A K.length cap) K.length (kcs K)) :
    Calls Try.prog 42 #[.slice A K.length cap, .int .i64 (i : Int), .int .i64 ((i : Int) + 1)] w fun e w' => e = .returned (.slice A (K.length - 1) cap) ∧
      w'.ownsRow Z 9 1 (.slice A (K.length - 1) cap) (K.length - 1) (kcs (era K i)) ∧ Turn (fun k => ablk A = some k) w w' := by
  have e : K = K.take i ++ K[i] :: K.drop (i + 1) := by rw [List.getElem_cons_drop, List.take_append_drop]
  have l1 : (K.take i).length = i := by rw [List.length_take]; omega
  have l2 : (K.take i).length + ((K.drop (i + 1)).length + 1) = K.length := by rw [List.length_take, List.length_drop]; omega
  have l3 : (K.take i).length + (K.drop (i + 1)).length = K.length - 1 := by rw [List.length_take, List.length_drop]; omega
  have hcap : 0 < cap := Nat.lt_of_lt_of_le (by omega) (own_capN h)
  obtain ⟨g, cur, rfl, hz, hc, hd⟩ := IK.Hd.of_own h rfl hcap
  have := IK.delete_any (w := w) (K.take i) (K.drop (i + 1)) K[i] (by rw [← e]; exact hd) hc
  rw [l2, l3, l1] at this
  refine this.mono ?_
  rintro r w' ⟨rfl, ⟨cur', hd'⟩, ht⟩
  refine ⟨rfl, ?_, ht.mono fun k _ e => by subst e; rfl⟩
  have := hd'.own hz hc
  have l4 : (K.take i ++ K.drop (i + 1)).length = K.length - 1 := by rw [List.length_append]; exact l3
  rw [l4] at this
  exact this
theorem kcs_set {K : List ByteArray} (i : Nat) (v : ByteArray) : (kcs K).set i (.string v) = kcs (K.set i v) := by
  unfold kcs
  rw [List.map_set]
theorem results_cell12 {fn : Func} {p q r : Tmp} {ty : TypeId} (h : fn.results = #[.cell p ty, .tmp q, .tmp r]) (tmps : Array Value) (w : World) (g : Nat) (t : TypeId) (cs : Array Value) (fr : Nat × Nat) (d : Array Field)
    (hp : tmps.getD p undef = .pointer (some ⟨g, 0, none⟩)) (hg : At w g (.cells cs t fr)) (hu : Try.prog.underlying ty = some (.struct d)) (hi : (Try.prog.info? ty).map (·.size) = some cs.size) :
    (results fn tmps).run Try.prog w = .ok (.tuple #[.agg cs, tmps.getD q undef, tmps.getD r undef]) w := by
  have hp' : tmps[p]?.getD undef = .pointer (some ⟨g, 0, none⟩) := by simpa using hp
  simp [results, h, hp', asAddr, Sem.run_bind, Result.andThen, run_loadVar_row w g t ty cs fr (.struct d) hg hu rfl hi]
theorem results_cell11 {fn : Func} {p q : Tmp} {ty : TypeId} (h : fn.results = #[.cell p ty, .tmp q]) (tmps : Array Value) (w : World) (g : Nat) (t : TypeId) (cs : Array Value) (fr : Nat × Nat) (d : Array Field)
    (hp : tmps.getD p undef = .pointer (some ⟨g, 0, none⟩)) (hg : At w g (.cells cs t fr)) (hu : Try.prog.underlying ty = some (.struct d)) (hi : (Try.prog.info? ty).map (·.size) = some cs.size) :
    (results fn tmps).run Try.prog w = .ok (.tuple #[.agg cs, tmps.getD q undef]) w := by
  have hp' : tmps[p]?.getD undef = .pointer (some ⟨g, 0, none⟩) := by simpa using hp
  simp [results, h, hp', asAddr, Sem.run_bind, Result.andThen, run_loadVar_row w g t ty cs fr (.struct d) hg hu rfl hi]
theorem results_cell21 {fn : Func} {p q r : Tmp} {ty tz : TypeId} (h : fn.results = #[.cell p ty, .cell q tz, .tmp r]) (tmps : Array Value) (w : World) (g g' : Nat) (t t' : TypeId) (cs cs' : Array Value) (fr fr' : Nat × Nat) (d d' : Array Field)
    (hp : tmps.getD p undef = .pointer (some ⟨g, 0, none⟩)) (hq : tmps.getD q undef = .pointer (some ⟨g', 0, none⟩)) (hg : At w g (.cells cs t fr)) (hg' : At w g' (.cells cs' t' fr'))
    (hu : Try.prog.underlying ty = some (.struct d)) (hi : (Try.prog.info? ty).map (·.size) = some cs.size)
    (hu' : Try.prog.underlying tz = some (.struct d')) (hi' : (Try.prog.info? tz).map (·.size) = some cs'.size) :
    (results fn tmps).run Try.prog w = .ok (.tuple #[.agg cs, .agg cs', tmps.getD r undef]) w := by
  have hp' : tmps[p]?.getD undef = .pointer (some ⟨g, 0, none⟩) := by simpa using hp
  have hq' : tmps[q]?.getD undef = .pointer (some ⟨g', 0, none⟩) := by simpa using hq
  simp [results, h, hp', hq', asAddr, Sem.run_bind, Result.andThen, run_loadVar_row w g t ty cs fr (.struct d) hg hu rfl hi, run_loadVar_row w g' t' tz cs' fr' (.struct d') hg' hu' rfl hi']
/-- Rows of one's own stay where a node is written. -/
theorem Own.wr {w w' : World} {Z g : Nat} {K V : List ByteArray} {D : List Hn} {B1 B2 B3 : Option Addr} {d1 d2 d3 : Nat} {c : Array Value} {f : Nat × Nat} (h : Own Z w K V D B1 d1 B2 d2 B3 d3) (hg : At w g (.cells c 29 f)) (tu : Turn (fun k => k = g) w w') : Own Z w' K V D B1 d1 B2 d2 B3 d3 :=
  ⟨own_grown h.k tu fun k hk e => own_neG h.k hg (by decide) (by rw [← e]; exact hk), own_grown h.v tu fun k hk e => own_neG h.v hg (by decide) (by rw [← e]; exact hk), own_grown h.d tu fun k hk e => own_neG h.d hg (by decide) (by rw [← e]; exact hk)⟩
end Go.Proofs.Ytengbkopihiiaaa
