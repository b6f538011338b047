/-
  What an operation touches, and what it looks at: plain facts. names, shares.
-/
import Derived.Test.YtjjmooegpoeomaaWTwo
namespace Go.Proofs.Ytjjmooegpoeomaa
open Go.RowKit Go.Lib
set_option linter.unusedVariables false
set_option linter.unusedSimpArgs false

def namesO (kind : Int) (k : ByteArray) (ws : List Wr) (key : ByteArray) : Bool := if kind = 6 then ws.any (fun x => decide (x.k = key)) else decide (k = key)
def sharesO (kind : Int) (k : ByteArray) (ws : List Wr) (kind2 : Int) (k2 : ByteArray) (ws2 : List Wr) : Bool := if kind = 6 then ws.any (fun x => namesO kind2 k2 ws2 x.k) else namesO kind2 k2 ws2 k
theorem get_wr1 (l : List Pr) (x : Wr) (q : ByteArray) : getL (wr1 l x) q = if q = x.k then (if x.gone then none else some x.v) else getL l q := by
  unfold wr1
  cases x.gone with
  | true => simp [get_del]
  | false => simp [get_put]
theorem get_wrL : ∀ (ws : List Wr) (l : List Pr) (q : ByteArray), (∀ x ∈ ws, x.k ≠ q) → getL (wrL l ws) q = getL l q
  | [], l, q, _ => rfl
  | x :: t, l, q, h => by
    have := get_wrL t (wr1 l x) q (fun y hy => h y (List.mem_cons_of_mem _ hy))
    have e : wrL l (x :: t) = wrL (wr1 l x) t := rfl
    rw [e, this, get_wr1, if_neg (fun e => h x List.mem_cons_self e.symm)]
theorem get_wrL_same : ∀ (ws : List Wr) (l l' : List Pr) (q : ByteArray), getL l q = getL l' q → getL (wrL l ws) q = getL (wrL l' ws) q
  | [], l, l', q, h => h
  | x :: t, l, l', q, h => by
    have e : ∀ l, wrL l (x :: t) = wrL (wr1 l x) t := fun _ => rfl
    rw [e, e]
    exact get_wrL_same t _ _ q (by rw [get_wr1, get_wr1, h])
/-- No other key is touched. -/
theorem doM_other (l : List Pr) (kind : Int) (k v o : ByteArray) (had aft : Bool) (ws : List Wr) (q : ByteArray) (h : namesO kind k ws q = false) : getL (doM l kind k v o had aft ws) q = getL l q := by
  unfold doM
  split
  · by_cases h6 : kind = 6
    · subst h6
      simp only [namesO, if_true] at h
      rw [if_neg (by decide), if_neg (by decide), if_neg (by decide), if_pos rfl]
      exact get_wrL ws l q fun x hx e => by
        have := List.any_eq_false.1 h x hx
        simp [e] at this
    · have hk : k ≠ q := by simpa [namesO, h6] using h
      have hk2 : ¬ q = k := fun e => hk e.symm
      split
      · rw [get_put, if_neg hk2]
      · split
        · rw [get_del, if_neg hk2]
        · split
          · split
            · rw [get_put, if_neg hk2]
            · rfl
          · rfl
  · rfl
/-- Only the key that it names is looked at. -/
theorem doM_same (l l' : List Pr) (kind : Int) (k v o : ByteArray) (had aft : Bool) (ws : List Wr) (q : ByteArray) (h : getL l q = getL l' q) (hk : kind ≠ 6 → getL l k = getL l' k) : getL (doM l kind k v o had aft ws) q = getL (doM l' kind k v o had aft ws) q := by
  unfold doM
  split
  · split
    · rw [get_put, get_put, h]
    · split
      · rw [get_del, get_del, h]
      · split
        · rename_i h4
          have hs : swD l k o had = swD l' k o had := by unfold swD; rw [hk (by omega)]
          rw [hs]
          split
          · rw [get_put, get_put, h]
          · exact h
        · split
          · exact get_wrL_same ws l l' q h
          · exact h
  · exact h
theorem doA_same (l l' : List Pr) (kind : Int) (k v o : ByteArray) (had aft : Bool) (ws : List Wr) (h5 : kind ≠ 5) (hk : kind ≠ 6 → getL l k = getL l' k) : doA l kind k v o had aft ws = doA l' kind k v o had aft ws := by
  unfold doA
  split
  · split
    · rename_i h; rw [hk (by omega)]
    · split
      · have hs : swD l k o had = swD l' k o had := by unfold swD; rw [hk (by omega)]
        rw [hs, hk (by omega)]
      · simp only [if_neg h5]
  · rfl
/-- Keys that one names and the other doesn't. -/
theorem shares_none {kind : Int} {k : ByteArray} {ws : List Wr} {kind2 : Int} {k2 : ByteArray} {ws2 : List Wr} (h : sharesO kind k ws kind2 k2 ws2 = false) {q : ByteArray} (hq : namesO kind k ws q = true) : namesO kind2 k2 ws2 q = false := by
  unfold sharesO at h
  unfold namesO at hq
  split at h
  · rename_i h6
    rw [if_pos h6] at hq
    obtain ⟨x, hx, he⟩ := List.any_eq_true.1 hq
    have := List.any_eq_false.1 h x hx
    have he := of_decide_eq_true he
    rw [he] at this
    simpa using this
  · rename_i h6
    rw [if_neg h6] at hq
    have he := of_decide_eq_true hq
    rw [← he]
    exact h
theorem names_self {kind : Int} {k : ByteArray} {ws : List Wr} (h : kind ≠ 6) : namesO kind k ws k = true := by simp [namesO, h]
theorem asc_wrL : ∀ (ws : List Wr) (l : List Pr), Asc l → Asc (wrL l ws)
  | [], l, h => h
  | x :: t, l, h => asc_wrL t _ (by unfold wr1; split; exact h.del _; exact h.put _ _)
theorem asc_doM {l : List Pr} (h : Asc l) (kind : Int) (k v o : ByteArray) (had aft : Bool) (ws : List Wr) : Asc (doM l kind k v o had aft ws) := by
  unfold doM
  split
  · split
    · exact h.put _ _
    · split
      · exact h.del _
      · split
        · split
          · exact h.put _ _
          · exact h
        · split
          · exact asc_wrL ws l h
          · exact h
  · exact h
theorem doM_length (l : List Pr) (kind : Int) (k v o : ByteArray) (had aft : Bool) (ws : List Wr) : (doM l kind k v o had aft ws).length ≤ l.length + 1 + ws.length := by
  unfold doM
  have h1 := put_length l k v
  have h2 := del_length l k
  have h3 := wrL_length l ws
  split
  · split
    · omega
    · split
      · omega
      · split
        · split <;> omega
        · split <;> omega
  · omega
/-- Two operations that name no key, both, may be done in either row. -/
structure Apt (l : List Pr) (x : Opx) (xw : List Wr) (y : Opx) (yw : List Wr) : Prop where
  ma : doM (doM l x.kind x.k x.v x.o x.had x.aft xw) y.kind y.k y.v y.o y.had y.aft yw = doM (doM l y.kind y.k y.v y.o y.had y.aft yw) x.kind x.k x.v x.o x.had x.aft xw
  ax : doA (doM l y.kind y.k y.v y.o y.had y.aft yw) x.kind x.k x.v x.o x.had x.aft xw = doA l x.kind x.k x.v x.o x.had x.aft xw
  ay : doA (doM l x.kind x.k x.v x.o x.had x.aft xw) y.kind y.k y.v y.o y.had y.aft yw = doA l y.kind y.k y.v y.o y.had y.aft yw
theorem apt_of {l : List Pr} (hl : Asc l) {x : Opx} {xw : List Wr} {y : Opx} {yw : List Wr} (h : sharesO x.kind x.k xw y.kind y.k yw = false) (hx5 : x.kind ≠ 5) (hy5 : y.kind ≠ 5) : Apt l x xw y yw := by
  have hyx : ∀ q, namesO y.kind y.k yw q = true → namesO x.kind x.k xw q = false := fun q hq => by
    cases hb : namesO x.kind x.k xw q with
    | false => rfl
    | true => rw [shares_none h hb] at hq; cases hq
  have kx : x.kind ≠ 6 → getL (doM l y.kind y.k y.v y.o y.had y.aft yw) x.k = getL l x.k := fun h6 => doM_other _ _ _ _ _ _ _ _ _ (shares_none h (names_self h6))
  have ky : y.kind ≠ 6 → getL (doM l x.kind x.k x.v x.o x.had x.aft xw) y.k = getL l y.k := fun h6 => doM_other _ _ _ _ _ _ _ _ _ (hyx _ (names_self h6))
  refine ⟨?_, doA_same _ _ _ _ _ _ _ _ _ hx5 kx, doA_same _ _ _ _ _ _ _ _ _ hy5 ky⟩
  refine (asc_doM (asc_doM hl _ _ _ _ _ _ _) _ _ _ _ _ _ _).ext (asc_doM (asc_doM hl _ _ _ _ _ _ _) _ _ _ _ _ _ _) fun q => ?_
  cases hq : namesO x.kind x.k xw q with
  | true =>
    rw [doM_other _ y.kind _ _ _ _ _ _ _ (shares_none h hq)]
    exact doM_same _ _ _ _ _ _ _ _ _ q (doM_other l _ _ _ _ _ _ _ q (shares_none h hq)).symm (fun h6 => (kx h6).symm)
  | false =>
    rw [doM_other _ x.kind _ _ _ _ _ _ q hq]
    exact doM_same _ _ _ _ _ _ _ _ _ q (doM_other l _ _ _ _ _ _ _ q hq) (fun h6 => ky h6)
/-- What x doesn't name is there as it was. -/
theorem mem_other {l : List Pr} (hl : Asc l) {kind : Int} {k v o : ByteArray} {had aft : Bool} {ws : List Wr} {p : Pr} (h : namesO kind k ws p.k = false) : p ∈ doM l kind k v o had aft ws ↔ p ∈ l := by
  have h1 := doM_other l kind k v o had aft ws p.k h
  constructor
  · intro hp
    have := (asc_doM hl kind k v o had aft ws).get_of_mem (k := p.k) (v := p.v) hp
    rw [h1] at this
    exact get_mem this
  · intro hp
    have := hl.get_of_mem (k := p.k) (v := p.v) hp
    rw [← h1] at this
    exact get_mem this

theorem names_any_step {ws : List Wr} {j : Nat} {x : Wr} {key : ByteArray} (hj : ws[j]? = some x) (h : (ws.take j).any (fun x => decide (x.k = key)) = false) (hx : x.k ≠ key) : (ws.take (j + 1)).any (fun x => decide (x.k = key)) = false := by
  rw [List.take_add_one, List.any_append, h, hj]
  simp [hx]
set_option maxHeartbeats 2000000 in
theorem names_any (kind : Int) (k v o : ByteArray) (had aft : Bool) (A : Option Addr) (cap : Nat) (ws : List Wr) (key : ByteArray) (w : World) (h : Row w A (wcs ws)) (hn : ws.length ≤ 40) :
    Calls Try.prog 23 #[.agg #[.int .u8 kind, .string k, .string v, .string o, .bool had, .bool aft, .slice A ws.length cap], .string key] w fun e w' => e = .returned (.bool (namesO kind k ws key)) ∧ Turn No w w' := by
  have HB : Hid (Turn No w (w.alloc (.cells #[.int .u8 kind, .string k, .string v, .string o, .bool had, .bool aft, .slice A ws.length cap] 39)) ∧ At (w.alloc (.cells #[.int .u8 kind, .string k, .string v, .string o, .bool had, .bool aft, .slice A ws.length cap] 39)) w.heap.size (.cells #[.int .u8 kind, .string k, .string v, .string o, .bool had, .bool aft, .slice A ws.length cap] 39 (0, 0))) := Lib.hid ⟨(Turn.refl _ _).alloc _, At.new _ _⟩
  have HR := Lib.hid h
  clear h
  obtain ⟨r, hr⟩ : ∃ r, namesO kind k ws key = r := ⟨_, rfl⟩
  have HN := Lib.hid hr
  rw [hr]
  clear hr
  go_enter Try.func23, Try.ntmps23
  go_upto_region 1 with fail
  generalize w.alloc (.cells #[.int .u8 kind, .string k, .string v, .string o, .bool had, .bool aft, .slice A ws.length cap] 39) = w1 at HB ⊢
  generalize w.heap.size = g at HB ⊢
  have y0 := HB.out.2.cell 0
  have y1 := HB.out.2.cell 1
  have y6 := HB.out.2.cell 6
  simp at y0 y1 y6
  by_cases h6 : kind = 6
  · subst h6
    have HN6 : Hid (ws.any (fun x => decide (x.k = key)) = r) := Lib.hid (by have := HN.out; simpa [namesO] using this)
    clear HN
    go_wp2_with fail
    go_loopw [5] (fun i wr => ∃ kk : Nat, kk ≤ ws.length ∧ i = .int .i64 (kk : Int) ∧ wr = w1 ∧ Hid ((ws.take kk).any (fun x => decide (x.k = key)) = false)) (fun i _ => ws.length - (RowKit.intOf i).toNat)
    case atStart => exact ⟨0, Nat.zero_le _, rfl, rfl, Lib.hid (by simp)⟩
    case round =>
      obtain ⟨kk, hm, rfl, rfl, HP⟩ := hrel
      by_cases hlt : kk < ws.length
      · obtain ⟨x, hx⟩ : ∃ x, ws[kk]? = some x := ⟨ws[kk], List.getElem?_eq_getElem hlt⟩
        obtain ⟨b, off, hA, hb, x0, x1, x2⟩ := (HR.out.turn HB.out.1 fun _ _ _ h => h).wr hx
        have HX : Hid ((x.k ≠ key → (ws.take (kk + 1)).any (fun x => decide (x.k = key)) = false) ∧ (x.k = key → r = true)) := Lib.hid ⟨names_any_step hx HP.out, fun e => by rw [← HN6.out]; exact List.any_eq_true.2 ⟨x, List.mem_of_getElem? hx, decide_eq_true e⟩⟩
        obtain ⟨xk, xv, xg⟩ := x
        simp only at x0
        have qe := bytes_beq xk key
        subst hA
        clear hb hx HP x1 x2
        by_cases he : xk = key
        · have hr := HX.out.2 he
          rw [decide_eq_true he] at qe
          subst hr
          clear he HX
          go_wp2_with fail
          go_ret
          exact ⟨rfl, HB.out.1⟩
        · have HE := Lib.hid (HX.out.1 he)
          rw [decide_eq_false he] at qe
          clear he HX
          go_wp2_with fail
          exact ⟨⟨kk + 1, by omega, by go_num, trivial, HE⟩, by simp [RowKit.intOf]; omega⟩
      · obtain rfl : kk = ws.length := by omega
        have hr : r = false := by
          have := HP.out
          rw [List.take_length] at this
          rw [← HN6.out, this]
        subst hr
        go_wp2_with fail
        go_ret
        exact ⟨rfl, HB.out.1⟩
  · have hr : r = decide (k = key) := by rw [← HN.out]; simp [namesO, h6]
    subst hr
    clear HN
    go_wp2_with fail
    go_ret
    refine ⟨?_, HB.out.1⟩
    rw [← bytes_beq]
    rfl
end Go.Proofs.Ytjjmooegpoeomaa
