/-
  GreatOp: what it lets by is small.
-/
import Derived.Test.YtjjmooegpoeomaaWWak
namespace Go.Proofs.Ytjjmooegpoeomaa
open Go.RowKit Go.Lib
set_option linter.unusedVariables false
set_option linter.unusedSimpArgs false

structure Few (k v o : ByteArray) (ws : List Wr) : Prop where
  k : k.size ≤ 500
  v : v.size ≤ 500
  o : o.size ≤ 500
  n : ws.length ≤ 40
  w : ∀ x ∈ ws, x.k.size ≤ 500 ∧ x.v.size ≤ 500
theorem few_snoc {ws : List Wr} {j : Nat} {x : Wr} (hj : ws[j]? = some x) (h : ∀ y ∈ ws.take j, y.k.size ≤ 500 ∧ y.v.size ≤ 500) (hx : x.k.size ≤ 500 ∧ x.v.size ≤ 500) : ∀ y ∈ ws.take (j + 1), y.k.size ≤ 500 ∧ y.v.size ≤ 500 := by
  intro y hy
  rw [List.take_add_one, hj] at hy
  rcases List.mem_append.1 hy with h1 | h1
  · exact h y h1
  · simp at h1
    subst h1
    exact hx
/-- The answer: true, or false and all is few. -/
def Grt (P : Prop) (e : Ending) : Prop := ∃ b, e = .returned (.bool b) ∧ (b = false → P)
theorem Grt.yes {P : Prop} : Grt P (.returned (.bool true)) := ⟨true, rfl, fun h => by cases h⟩
theorem Grt.no {P : Prop} (h : P) : Grt P (.returned (.bool false)) := ⟨false, rfl, fun _ => h⟩
set_option maxHeartbeats 2000000 in
theorem greatop_any (kind : Int) (k v o : ByteArray) (had aft : Bool) (A : Option Addr) (cap : Nat) (ws : List Wr) (w : World) (h : Row w A (wcs ws)) (hk : Fit k) (hv : Fit v) (ho : Fit o) (hf : ∀ x ∈ ws, Fit x.k ∧ Fit x.v) (hn : ws.length ≤ maxLen) :
    Calls Try.prog 21 #[.agg #[.int .u8 kind, .string k, .string v, .string o, .bool had, .bool aft, .slice A ws.length cap]] w fun e w' => Grt (Few k v o ws) e ∧ Turn No w w' := by
  have HT : Hid (Turn No w (w.alloc (.cells #[.int .u8 kind, .string k, .string v, .string o, .bool had, .bool aft, .slice A ws.length cap] 39))) := Lib.hid ((Turn.refl _ _).alloc _)
  have HA : Hid (At (w.alloc (.cells #[.int .u8 kind, .string k, .string v, .string o, .bool had, .bool aft, .slice A ws.length cap] 39)) w.heap.size (.cells #[.int .u8 kind, .string k, .string v, .string o, .bool had, .bool aft, .slice A ws.length cap] 39 (0, 0))) := Lib.hid (At.new _ _)
  have HR := Lib.hid (And.intro h hf)
  unfold Fit at hk hv ho
  unfold maxLen at hn
  clear h hf
  go_enter Try.func21, Try.ntmps21
  go_upto_region 1 with fail
  generalize w.alloc (.cells #[.int .u8 kind, .string k, .string v, .string o, .bool had, .bool aft, .slice A ws.length cap] 39) = w1 at HT HA ⊢
  generalize w.heap.size = g at HA ⊢
  have y1 := HA.out.cell 1
  have y2 := HA.out.cell 2
  have y3 := HA.out.cell 3
  have y6 := HA.out.cell 6
  simp at y1 y2 y3 y6
  by_cases b1 : 500 < k.size
  · have b1' : (500 : Int) < (k.size : Int) := by omega
    clear b1
    go_wp2_with fail
    go_ret
    exact ⟨Grt.yes, HT.out⟩
  · have b1' : ¬ (500 : Int) < (k.size : Int) := by omega
    by_cases b2 : 500 < v.size
    · have b2' : (500 : Int) < (v.size : Int) := by omega
      clear b1 b2
      go_wp2_with fail
      go_ret
      exact ⟨Grt.yes, HT.out⟩
    · have b2' : ¬ (500 : Int) < (v.size : Int) := by omega
      by_cases b3 : 500 < o.size
      · have b3' : (500 : Int) < (o.size : Int) := by omega
        clear b1 b2 b3
        go_wp2_with fail
        go_ret
        exact ⟨Grt.yes, HT.out⟩
      · have b3' : ¬ (500 : Int) < (o.size : Int) := by omega
        by_cases b4 : 40 < ws.length
        · have b4' : (40 : Int) < (ws.length : Int) := by omega
          clear b1 b2 b3 b4
          go_wp2_with fail
          go_ret
          exact ⟨Grt.yes, HT.out⟩
        · have b4' : ¬ (40 : Int) < (ws.length : Int) := by omega
          have HB : Hid (k.size ≤ 500 ∧ v.size ≤ 500 ∧ o.size ≤ 500 ∧ ws.length ≤ 40) := Lib.hid ⟨by omega, by omega, by omega, by omega⟩
          clear b1 b2 b3 b4
          go_wp2_with fail
          go_loopw [3] (fun i wr => ∃ kk : Nat, kk ≤ ws.length ∧ i = .int .i64 (kk : Int) ∧ wr = w1 ∧ Hid (∀ y ∈ ws.take kk, y.k.size ≤ 500 ∧ y.v.size ≤ 500)) (fun i _ => ws.length - (RowKit.intOf i).toNat)
          case atStart => exact ⟨0, Nat.zero_le _, rfl, rfl, Lib.hid (by simp)⟩
          case round =>
            obtain ⟨kk, hm, rfl, rfl, HP⟩ := hrel
            by_cases hlt : kk < ws.length
            · obtain ⟨x, hx⟩ : ∃ x, ws[kk]? = some x := ⟨ws[kk], List.getElem?_eq_getElem hlt⟩
              obtain ⟨b, off, hA, hb, x0, x1, x2⟩ := (HR.out.1.turn HT.out fun _ _ _ h => h).wr hx
              have hfx := HR.out.2 x (List.mem_of_getElem? hx)
              have HX := Lib.hid (few_snoc hx HP.out)
              obtain ⟨xk, xv, xg⟩ := x
              unfold Fit at hfx
              obtain ⟨q1, q2⟩ := hfx
              simp only at x0 x1 x2 q1 q2
              subst hA
              clear hb hx HP HR HA
              by_cases c1 : 500 < xk.size
              · have c1' : (500 : Int) < (xk.size : Int) := by omega
                clear c1
                go_wp2_with fail
                go_ret
                exact ⟨Grt.yes, HT.out⟩
              · have c1' : ¬ (500 : Int) < (xk.size : Int) := by omega
                by_cases c2 : 500 < xv.size
                · have c2' : (500 : Int) < (xv.size : Int) := by omega
                  clear c1 c2
                  go_wp2_with fail
                  go_ret
                  exact ⟨Grt.yes, HT.out⟩
                · have c2' : ¬ (500 : Int) < (xv.size : Int) := by omega
                  have HN := Lib.hid (HX.out ⟨by show xk.size ≤ 500; omega, by show xv.size ≤ 500; omega⟩)
                  clear c1 c2 HX
                  go_wp2_with fail
                  exact ⟨⟨kk + 1, by omega, by go_num, trivial, HN⟩, by simp [RowKit.intOf]; omega⟩
            · obtain rfl : kk = ws.length := by omega
              have h0 := HP.out
              rw [List.take_length] at h0
              have H0 := Lib.hid h0
              clear h0
              go_wp2_with fail
              go_ret
              exact ⟨Grt.no ⟨HB.out.1, HB.out.2.1, HB.out.2.2.1, HB.out.2.2.2, H0.out⟩, HT.out⟩
end Go.Proofs.Ytjjmooegpoeomaa
