/-
  The document's Get, Delete and Put over pairs.
-/
import Derived.Test.YtengbkopihiiaaaWNg
namespace Go.Proofs.Ytengbkopihiiaaa
open Go.RowKit Go.Lib
set_option linter.unusedVariables false
set_option maxRecDepth 20000
set_option maxRecDepth 20000
set_option linter.unusedSimpArgs false

theorem info64 : (Try.prog.info? 74).map (fun i => (i.zero, i.size, i.bytes)) = some (some (.agg #[.string ⟨#[]⟩, .string ⟨#[]⟩]), 2, 32) := by kernel_rfl
/-- A row of pairs of one's own. -/
structure Ps (w0 w : World) (L : List Pr) (B : Option Addr) (c : Nat) : Prop where
  tu : Turn No w0 w
  row : w.ownsRow w0.heap.size 74 2 (.slice B L.length c) L.length (pcs L)
theorem Ps.no {w0 w w' : World} {L : List Pr} {B : Option Addr} {c : Nat} (h : Ps w0 w L B c) (t : Turn No w w') : Ps w0 w' L B c := ⟨h.tu.trans t, own_grown h.row t fun _ _ h => h⟩
theorem one_pr (p : Pr) : ∀ u ∈ p.cs, u.oneCell' = true := by
  intro u hu
  simp only [Pr.cs, List.mem_cons, List.not_mem_nil, or_false] at hu
  rcases hu with rfl | rfl <;> rfl
theorem Ps.append {w0 w : World} {L : List Pr} {B : Option Addr} {c : Nat} (h : Ps w0 w L B c) (hl : L.length < 1000000) (p : Pr) :
    ∃ B' c' w', AppRun 51 51 (.slice B L.length c) (.slice (some ⟨w.heap.size, 0, none⟩) 1 1) (.slice B' (L.length + 1) c') (w.alloc (.cells p.cs.toArray 74)) w' ∧ Ps w0 w' (L ++ [p]) B' c' ∧ ∀ g cs, At w g (.cells cs 29 (0, 0)) → At w' g (.cells cs 29 (0, 0)) := by
  have tn : Turn No w (w.alloc (.cells p.cs.toArray 74)) := (Turn.refl No w).alloc _
  have h2 := h.no tn
  have hn := At.new w (.cells p.cs.toArray 74)
  obtain ⟨B', c', w', q, ho, ht, hB⟩ := app_gen Try.underlying51 info64 rfl (by decide) (by decide) h2.row ⟨w.heap.size, 0, none⟩ 1 1 p.cs rfl
    (fun j u hj => by rw [Addr.add_lit, Nat.zero_add, hn.cell]; simpa using hj) (one_pr p) (by omega) h2.tu.size 51
  refine ⟨B', c', w', q, ⟨h2.tu.then ht fun k hk hb => ?_, ?_⟩, fun g cs hg => (hg.no tn).turn ht fun e => own_neG h2.row (hg.no tn) (by decide) e⟩
  · rw [own_ablk] at hb
    have := (own_at h2.row hb).1
    omega
  · have e : pcs (L ++ [p]) = pcs L ++ p.cs := by rw [pcs_append]; simp [pcs]
    rw [List.length_append, e]
    exact ho
theorem Row.prN {w : World} {A : Option Addr} {l : List Pr} (h : Row w A (pcs l)) {j : Nat} {p : Pr} (hj : l[j]? = some p) :
    ∃ b o, A = some ⟨b, o, none⟩ ∧ ∀ W, Turn No w W → W.cell? ⟨b, o + j * 2, none⟩ = some (.string p.k) ∧ W.cell? ⟨b, o + j * 2 + 1, none⟩ = some (.string p.v) := by
  obtain ⟨b, o, hA, _, _, _⟩ := h.pair hj
  refine ⟨b, o, hA, fun W t => ?_⟩
  obtain ⟨b2, o2, hA2, _, h1, h2⟩ := (h.no t).pair hj
  rw [hA] at hA2
  injection hA2 with hA2
  injection hA2 with e1 e2
  subst e1 e2
  exact ⟨h1, h2⟩
def gT (l : List Pr) (k : ByteArray) : Value := .tuple #[.string ((getL l k).getD ⟨#[]⟩), .bool (getL l k).isSome]
theorem get_first {l : List Pr} {i : Nat} {p : Pr} (hp : l[i]? = some p) {k : ByteArray} (hn : ∀ q ∈ l.take i, ¬ q.k = k) (he : p.k = k) : getL l k = some p.v := by
  unfold getL
  have : l.find? (fun p => decide (p.k = k)) = some p := by
    rw [List.find?_eq_some_iff_append]
    refine ⟨decide_eq_true he, l.take i, l.drop (i + 1), ?_, fun a ha => by simp [hn a ha]⟩
    obtain ⟨hl, rfl⟩ := List.getElem?_eq_some_iff.1 hp
    rw [List.getElem_cons_drop, List.take_append_drop]
  rw [this]
  rfl
theorem get_none {l : List Pr} {k : ByteArray} (hn : ∀ q ∈ l, ¬ q.k = k) : getL l k = none := by
  unfold getL
  rw [List.find?_eq_none.2 fun a ha => by simp [hn a ha]]
  rfl
theorem nokey_snoc {l : List Pr} {i : Nat} {p : Pr} (hp : l[i]? = some p) {Q : Pr → Prop} : (∀ q ∈ l.take (i + 1), Q q) ↔ (∀ q ∈ l.take i, Q q) ∧ Q p := by
  rw [List.take_add_one, hp]
  constructor
  · intro h1
    exact ⟨fun a ha => h1 a (List.mem_append.2 (.inl ha)), h1 p (by simp)⟩
  · rintro ⟨h1, h2⟩ a ha
    rcases List.mem_append.1 ha with h3 | h3
    · exact h1 a h3
    · simp at h3
      subst h3
      exact h2
set_option maxHeartbeats 4000000 in
theorem get_any (l : List Pr) (key : ByteArray) (B : Option Addr) (c : Nat) (w : World) (hR : Row w B (pcs l)) (hn : l.length ≤ 100000) :
    Calls Try.prog 30 #[.slice B l.length c, .string key] w fun e w' => e = .returned (gT l key) ∧ w' = w := by
  have HL := Lib.hid hR
  obtain ⟨T, hT⟩ : ∃ x, gT l key = x := ⟨_, rfl⟩
  have HT := Lib.hid hT
  rw [hT]
  clear hR hT
  go_enter Try.func30, Try.ntmps30
  go_wp2_with fail
  go_loopw [6] (fun x wr => ∃ i : Nat, i ≤ l.length ∧ x = .int .i64 (i : Int) ∧ wr = w ∧ Hid (∀ q ∈ l.take i, ¬ q.k = key)) (fun x _ => l.length - (RowKit.intOf x).toNat)
  case atStart => exact ⟨0, Nat.zero_le _, rfl, rfl, Lib.hid (by simp)⟩
  case round =>
    obtain ⟨i, hi, rfl, hwr, HP⟩ := hrel
    subst hwr
    by_cases hlt : i < l.length
    · obtain ⟨p, hp⟩ : ∃ t, l[i]? = some t := ⟨l[i], List.getElem?_eq_getElem hlt⟩
      obtain ⟨b, o, hB, hb, x0, x1⟩ := HL.out.pair hp
      have HN := Lib.hid (nokey_snoc hp (Q := fun q => ¬ q.k = key))
      have HG : Hid (p.k = key → T = .tuple #[.string p.v, .bool true]) := Lib.hid fun h => by rw [← HT.out]; unfold gT; rw [get_first hp HP.out h]; rfl
      obtain ⟨pk, pv⟩ := p
      simp only at x0 x1 HN HG
      subst hB
      clear hp hb
      have hq1 : (0 : Int) ≤ (i : Int) := by omega
      have hq2 : (i : Int) < (l.length : Int) := by omega
      have qe := bytes_beq pk key
      by_cases he : pk = key
      · rw [decide_eq_true he] at qe
        have HE := Lib.hid (HG.out he)
        clear he HG
        go_wp2_with fail
        go_ret2
        rw [HE.out]
        first | exact ⟨rfl, rfl⟩ | exact ⟨trivial, rfl⟩
      · rw [decide_eq_false he] at qe
        have HX := Lib.hid (HN.out.2 ⟨HP.out, he⟩)
        clear he HG
        go_wp2_with fail
        exact ⟨⟨i + 1, by omega, by go_num, trivial, HX⟩, by simp [RowKit.intOf]; omega⟩
    · obtain rfl : i = l.length := by omega
      have HE : Hid (T = .tuple #[.string ⟨#[]⟩, .bool false]) := Lib.hid (by
        have h := HP.out
        rw [List.take_length] at h
        rw [← HT.out]
        unfold gT
        rw [get_none h]
        rfl)
      go_wp2_with fail
      go_ret2
      rw [HE.out]
      first | exact ⟨rfl, rfl⟩ | exact ⟨trivial, rfl⟩
theorem del_snoc {l : List Pr} {i : Nat} {p : Pr} (hp : l[i]? = some p) (k : ByteArray) : delL (l.take (i + 1)) k = delL (l.take i) k ++ if p.k = k then [] else [p] := by
  unfold delL
  rw [List.take_add_one, hp, List.filter_append]
  by_cases h : p.k = k <;> simp [h]
theorem del_takelen (l : List Pr) (k : ByteArray) (i : Nat) : (delL (l.take i) k).length ≤ l.length := by
  have := del_length (l.take i) k
  rw [List.length_take] at this
  omega
set_option maxHeartbeats 4000000 in
theorem rdel_any (l : List Pr) (key : ByteArray) (B : Option Addr) (c : Nat) (w : World) (hR : Row w B (pcs l)) (hn : l.length ≤ 100000) :
    Calls Try.prog 34 #[.slice B l.length c, .string key] w fun e w' => ∃ B' c', e = .returned (.slice B' (delL l key).length c') ∧ Ps w w' (delL l key) B' c' := by
  have HL := Lib.hid hR
  clear hR
  go_enter Try.func34, Try.ntmps34
  go_wp2_with fail
  go_loopw [5, 6] (fun s x wr => ∃ (i n : Nat) (B' : Option Addr) (c' : Nat), i ≤ l.length ∧ x = .int .i64 (i : Int) ∧ s = .slice B' n c' ∧ Hid (n = (delL (l.take i) key).length ∧ Ps w wr (delL (l.take i) key) B' c')) (fun _ x _ => l.length - (RowKit.intOf x).toNat)
  case atStart => exact ⟨0, 0, none, 0, Nat.zero_le _, rfl, rfl, Lib.hid ⟨rfl, Turn.refl _ _, World.ownsRow_nil _ _ _ _⟩⟩
  case round =>
    obtain ⟨i, n, B', c', hi, rfl, rfl, HP⟩ := hrel
    by_cases hlt : i < l.length
    · obtain ⟨p, hp⟩ : ∃ t, l[i]? = some t := ⟨l[i], List.getElem?_eq_getElem hlt⟩
      obtain ⟨b, o, hB, hc⟩ := (HL.out.no HP.out.2.tu).prN hp
      obtain ⟨x0, x1⟩ := hc wr (Turn.refl _ _)
      have HS := Lib.hid (del_snoc hp key)
      have HN := Lib.hid (del_takelen l key i)
      obtain ⟨B9, c9, w9, q, hq, _⟩ := HP.out.2.append (by have := HN.out; omega) p
      have HQ := Lib.hid hq
      rw [← HP.out.1] at q
      obtain ⟨pk, pv⟩ := p
      simp only [Pr.cs] at x0 x1 HS q
      subst hB
      clear hp hc hq
      have hq1 : (0 : Int) ≤ (i : Int) := by omega
      have hq2 : (i : Int) < (l.length : Int) := by omega
      have qe := bytes_beq pk key
      by_cases he : pk = key
      · rw [decide_eq_true he] at qe
        have qn : (pk.toList != key.toList) = false := by rw [bne, qe]; rfl
        have HE : Hid (delL (l.take (i + 1)) key = delL (l.take i) key) := Lib.hid (by rw [HS.out, if_pos he, List.append_nil])
        clear he q
        go_wp2_with fail
        exact ⟨⟨i + 1, n, B', c', by omega, by go_num, rfl, Lib.hid (by rw [HE.out]; exact HP.out)⟩, by simp [RowKit.intOf]; omega⟩
      · rw [decide_eq_false he] at qe
        have qn : (pk.toList != key.toList) = true := by rw [bne, qe]; rfl
        have HE : Hid (delL (l.take (i + 1)) key = delL (l.take i) key ++ [⟨pk, pv⟩]) := Lib.hid (by rw [HS.out, if_neg he])
        clear he
        go_upto_region 6 with fail
        go_wp2_with (at_builtin; refine wpList_append_run rfl _ _ 51 rfl _ _ _ rfl rfl q ?_)
        exact ⟨⟨i + 1, n + 1, B9, c9, by omega, by go_num, rfl, Lib.hid (by rw [HE.out]; exact ⟨by rw [HP.out.1]; simp, HQ.out⟩)⟩, by simp [RowKit.intOf]; omega⟩
    · obtain rfl : i = l.length := by omega
      have HE : Hid (n = (delL l key).length ∧ Ps w wr (delL l key) B' c') := Lib.hid (by have h := HP.out; rwa [List.take_length] at h)
      go_wp2_with fail
      go_ret
      exact ⟨B', c', by first | exact HE.out.1 | exact congrArg _ (congrArg (fun m => Value.slice B' m c') HE.out.1) | exact ⟨rfl, HE.out.1, rfl⟩, HE.out.2⟩
end Go.Proofs.Ytengbkopihiiaaa
