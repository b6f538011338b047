/-
  HistoryPlays: what its walk keeps.
-/
import Derived.Test.YthopiamiipmobaaOwnA
import Derived.Test.YthopiamiipmobaaWRefF
namespace Go.Proofs.Ythopiamiipmobaa
open Go.RowKit Go.Lib
set_option linter.unusedVariables false
set_option linter.unusedSimpArgs false

/-- A history, and the law's own row of events lw; E: blocks that are not the history's. -/
structure Pw (w wr : World) (hb : Nat) (L : List Ev) (qs : List (List Wr)) (B : Option Addr) (c : Nat) (lw : List Ev) (qw : List (List Wr)) (E : Nat → Prop) : Prop where
  tu : Turn No w wr
  hs : Hs wr w.heap.size hb L qs (fun i => w.heap.size ≤ i ∧ ¬ E i)
  row : wr.ownsRow w.heap.size 34 13 (.slice B lw.length c) lw.length (ecs lw)
  rws : Rws w lw qw
  ex : ∀ i, ablk B = some i → E i
  lt : ∀ i, E i → i < wr.heap.size
/-- With the box of the round's event. -/
structure Pb (w wr : World) (hb : Nat) (L : List Ev) (qs : List (List Wr)) (B : Option Addr) (c : Nat) (lw : List Ev) (qw : List (List Wr)) (E : Nat → Prop) (g : Nat) (x : Ev) : Prop where
  pw : Pw w wr hb L qs B c lw qw E
  b : At wr g (.cells x.cs.toArray 34 (0, 0))
  eg : E g
  gB : ablk B ≠ some g
  old : w.heap.size ≤ g
section
variable {w wr w2 : World} {hb : Nat} {L : List Ev} {qs : List (List Wr)} {B : Option Addr} {c : Nat} {lw : List Ev} {qw : List (List Wr)} {E : Nat → Prop} {g : Nat} {x y : Ev}
theorem Pw.no (h : Pw w wr hb L qs B c lw qw E) (t : Turn No wr w2) : Pw w w2 hb L qs B c lw qw E :=
  ⟨h.tu.trans t, h.hs.no t, own_grown h.row t fun _ _ h => h, h.rws, h.ex, fun i hi => Nat.lt_of_lt_of_le (h.lt i hi) t.size⟩
theorem Pw.start (h : Ow w wr hb [] []) : Pw w wr hb [] [] none 0 [] [] (fun _ => False) :=
  ⟨h.tu, h.hs.mono fun i hi => ⟨hi, fun h => h⟩, World.ownsRow_nil _ _ _ _, ⟨rfl, fun j e ws h => by simp at h⟩, (fun i h => by cases h), fun i h => h.elim⟩
theorem Pw.box (h : Pw w wr hb L qs B c lw qw E) (x : Ev) : Pb w (wr.alloc (.cells x.cs.toArray 34)) hb L qs B c lw qw (fun i => E i ∨ i = wr.heap.size) wr.heap.size x := by
  have t : Turn No wr (wr.alloc (.cells x.cs.toArray 34)) := (Turn.refl _ _).alloc _
  have hsz : (wr.alloc (.cells x.cs.toArray 34)).heap.size = wr.heap.size + 1 := by simp
  refine ⟨⟨h.tu.trans t, ?_, own_grown h.row t fun _ _ h => h, h.rws, fun i hi => .inl (h.ex i hi), fun i hi => ?_⟩, At.new _ _, .inr rfl, fun e => ?_, h.tu.size⟩
  · refine (h.hs.bound.mono fun i hi => ⟨hi.1.1, fun he => ?_⟩).no t
    rcases he with he | he
    · exact hi.1.2 he
    · omega
  · rcases hi with hi | hi
    · have := h.lt i hi; omega
    · omega
  · have := h.lt _ (h.ex _ e); omega
theorem Pb.no (h : Pb w wr hb L qs B c lw qw E g x) (t : Turn No wr w2) : Pb w w2 hb L qs B c lw qw E g x := ⟨h.pw.no t, h.b.no t, h.eg, h.gB, h.old⟩
theorem Pb.set (h : Pb w wr hb L qs B c lw qw E g x) (t : Turn (· = g) wr w2) (hb2 : At w2 g (.cells y.cs.toArray 34 (0, 0))) : Pb w w2 hb L qs B c lw qw E g y :=
  ⟨⟨h.pw.tu.then t fun i hi e => by have := h.old; omega, h.pw.hs.turn t fun i hi e => hi.2 (by rw [e]; exact h.eg), own_grown h.pw.row t fun k hk e => h.gB (by rw [own_ablk] at hk; rw [hk, e]), h.pw.rws, h.pw.ex, fun i hi => Nat.lt_of_lt_of_le (h.pw.lt i hi) t.size⟩, hb2, h.eg, h.gB, h.old⟩
/-- What a call that puts down e answers, and what is there behind it. -/
def PutB (w w' : World) (hb : Nat) (L : List Ev) (qs : List (List Wr)) (B : Option Addr) (c : Nat) (lw : List Ev) (qw : List (List Wr)) (E : Nat → Prop) (g : Nat) (x : Ev) (e : Ev) (ws : List Wr) (d : Int) : Prop :=
  (fits L e = false ∧ d = 31 ∧ Pb w w' hb L qs B c lw qw E g x) ∨ (fits L e = true ∧ d = 0 ∧ Pb w w' hb (L ++ [e.pure]) (qs ++ [ws]) B c lw qw E g x)
theorem Pb.did (h : Pb w wr hb L qs B c lw qw E g x) {e : Ev} {ws : List Wr} {r : Ending} (hd : Did wr w2 w.heap.size hb L qs (fun i => w.heap.size ≤ i ∧ ¬ E i) e ws r) :
    ∃ d, r = .returned (.int .i64 d) ∧ PutB w w2 hb L qs B c lw qw E g x e ws d := by
  rcases hd with ⟨a, b, t⟩ | ⟨a, b, hs, t⟩
  · exact ⟨31, b, .inl ⟨a, rfl, h.no t⟩⟩
  · refine ⟨0, b, .inr ⟨a, rfl, ⟨⟨h.pw.tu.then t fun i hi hx => by omega, ?_, own_grown h.pw.row t fun k hk hx => hx.2 (h.pw.ex k (by rw [own_ablk] at hk; exact hk)), h.pw.rws, h.pw.ex, fun i hi => Nat.lt_of_lt_of_le (h.pw.lt i hi) t.size⟩, h.b.turn t fun hx => hx.2 h.eg, h.eg, h.gB, h.old⟩⟩⟩
    refine hs.mono fun i hi => ?_
    rcases hi with hi | hi
    · exact hi
    · exact ⟨Nat.le_trans h.pw.tu.size hi.1, fun he => by have := h.pw.lt i he; omega⟩
theorem Pb.begin (h : Pb w wr hb L qs B c lw qw E g x) (hl : L.length < 65536) (id : Int) (hid : In64 id) (o : Opx) (ws : List Wr) (hf : o.fit ws) (hrow : Row w o.A (wcs ws)) :
    Calls Try.prog 11 #[.pointer (some ⟨hb, 0, none⟩), .int .i64 id, o.val] wr fun r w' => ∃ d, r = .returned (.int .i64 d) ∧ PutB w w' hb L qs B c lw qw E g x ⟨1, id, o, ans00⟩ ws d :=
  (begin_any h.pw.hs hl h.pw.tu.size id hid o ws hf (hrow.turn h.pw.tu fun _ _ _ h => h) (fun hne b a hA hX => row_below hrow hne b a hA hX.1)).mono fun e w' hd => h.did hd
theorem Pb.mark (h : Pb w wr hb L qs B c lw qw E g x) (hl : L.length < 65536) (id : Int) (hid : In64 id) (a : Ans) (hf : a.fit) :
    Calls Try.prog 12 #[.pointer (some ⟨hb, 0, none⟩), .int .i64 id, a.val] wr fun r w' => ∃ d, r = .returned (.int .i64 d) ∧ PutB w w' hb L qs B c lw qw E g x ⟨2, id, op00, a⟩ [] d :=
  (mark_any h.pw.hs hl h.pw.tu.size id hid a hf).mono fun e w' hd => h.did hd
theorem Pb.ended (h : Pb w wr hb L qs B c lw qw E g x) (hl : L.length < 65536) (id : Int) (hid : In64 id) :
    Calls Try.prog 13 #[.pointer (some ⟨hb, 0, none⟩), .int .i64 id] wr fun r w' => ∃ d, r = .returned (.int .i64 d) ∧ PutB w w' hb L qs B c lw qw E g x ⟨3, id, op00, (kn L id).an⟩ [] d :=
  (end_any h.pw.hs hl h.pw.tu.size id hid).mono fun e w' hd => h.did hd
/-- w = append(w, x). -/
theorem Pb.append (h : Pb w wr hb L qs B c lw qw E g x) (hl : lw.length < 65536) {ws : List Wr} (hrow : Row w x.op.A (wcs ws)) (hf : x.fit ws) :
    ∃ B' c' w', AppRun 22 22 (.slice B lw.length c) (.slice (some ⟨wr.heap.size, 0, none⟩) 1 1) (.slice B' (lw.length + 1) c') (wr.alloc (.cells x.cs.toArray 34)) w' ∧
      Pw w w' hb L qs B' c' (lw ++ [x]) (qw ++ [ws]) (fun i => ablk B' = some i) := by
  have t1 : Turn No wr (wr.alloc (.cells x.cs.toArray 34)) := (Turn.refl _ _).alloc _
  have h2 := h.pw.no t1
  have hn := At.new wr (.cells x.cs.toArray 34)
  have hsz : (wr.alloc (.cells x.cs.toArray 34)).heap.size = wr.heap.size + 1 := by simp
  obtain ⟨B', c', w', q, ho, ht, hB⟩ := app_gen Try.underlying22 info34 rfl (by decide) (by decide) h2.row ⟨wr.heap.size, 0, none⟩ 1 1 x.cs rfl
    (fun j u hj => by rw [Addr.add_lit, Nat.zero_add, hn.cell]; simpa using hj) (one_ev x) (by omega) h2.tu.size 22
  have ht' : Turn (fun i => ablk B = some i) (wr.alloc (.cells x.cs.toArray 34)) w' := ht.mono fun k _ hk => by rwa [own_ablk] at hk
  have hbB : ablk B' = ablk B ∨ ablk B' = some (wr.alloc (.cells x.cs.toArray 34)).heap.size := by rwa [own_ablk, own_ablk] at hB
  refine ⟨B', c', w', q, ⟨h2.tu.then ht' fun i hi hx => ?_, ?_, ?_, ?_, fun i hi => hi, fun i hi => ?_⟩⟩
  · have := (own_at h2.row hx).1; omega
  · refine (h2.hs.bound.turn ht' fun i hi hx => hi.1.2 (h2.ex i hx)).mono fun i hi => ⟨hi.1.1, fun he => ?_⟩
    rcases hbB with hq | hq
    · rw [hq] at he; exact hi.1.2 (h2.ex i he)
    · rw [hq] at he; injection he with he; have := hi.2.2; omega
  · rw [ecs_append, List.length_append]
    have : ecs [x] = x.cs := by simp [ecs]
    rw [this]
    exact ho
  · refine ⟨by simp [h2.rws.len], fun j e ws' he hw => ?_⟩
    rcases snoc_get he with he | ⟨rfl, rfl⟩
    · have hj := (List.getElem?_eq_some_iff.1 he).1
      rw [List.getElem?_append_left (by rw [h2.rws.len]; exact hj)] at hw
      exact h2.rws.get j e ws' he hw
    · rw [List.getElem?_append_right (by rw [h2.rws.len]; omega), h2.rws.len] at hw
      simp at hw
      subst hw
      exact ⟨hrow, hf⟩
  · obtain ⟨_, cur, h3⟩ := own_at ho hi
    exact h3.lt
end
/-- Whether an Ended fits is the same for the document's Answer and for what is known. -/
theorem end_same {l : List Ev} (h : Right l) (id : Int) : fits l ⟨3, id, op00, stA l id⟩ = fits l ⟨3, id, op00, (kn l id).an⟩ ∧ (fits l ⟨3, id, op00, (kn l id).an⟩ = true → (kn l id).an = stA l id) := by
  by_cases h2 : (kn l id).last = 2
  · rw [← h.mark_an id h2]; exact ⟨rfl, fun _ => rfl⟩
  · have e : ∀ a, fits l ⟨3, id, op00, a⟩ = false := fun a => by
      unfold fits fitsK
      dsimp only
      split
      · rfl
      · rw [if_pos (by omega)]
    rw [e, e]
    exact ⟨rfl, fun h => by cases h⟩
end Go.Proofs.Ythopiamiipmobaa
