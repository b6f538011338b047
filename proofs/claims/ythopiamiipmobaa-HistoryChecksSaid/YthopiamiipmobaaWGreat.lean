/-
  Great.
-/
import Derived.Test.YthopiamiipmobaaWAhead
namespace Go.Proofs.Ythopiamiipmobaa
open Go.RowKit Go.Lib
set_option linter.unusedVariables false
set_option linter.unusedSimpArgs false

def few (e : Ev) : Prop := e.op.len ≤ 20
set_option maxHeartbeats 4000000 in
/-- Either the row is great, or it has at most 200 events, of at most 20 writes. -/
theorem great_any (l : List Ev) (A : Option Addr) (cap : Nat) (w : World) (hR : Row w A (ecs l)) (hm : l.length ≤ maxLen) (hml : ∀ e ∈ l, e.op.len ≤ maxLen) :
    Calls Try.prog 8 #[.slice A l.length cap] w fun r w' => w' = w ∧ (r = .returned (.bool true) ∨ (r = .returned (.bool false) ∧ l.length ≤ 200 ∧ ∀ e ∈ l, few e)) := by
  have HL := Lib.hid (And.intro hR hml)
  clear hR hml
  go_enter Try.func8, Try.ntmps8
  by_cases hb : 200 < l.length
  · have hb' : ((200 : Int) < (l.length : Int)) := by omega
    have hb2 : decide ((200 : Int) < (l.length : Int)) = true := by simp; omega
    go_wp2_with fail
    go_ret
    exact ⟨rfl, .inl rfl⟩
  · have hb' : ¬ ((200 : Int) < (l.length : Int)) := by omega
    have hb2 : decide ((200 : Int) < (l.length : Int)) = false := by simp; omega
    go_wp2_with fail
    clear hb' hb2
    go_loopw [3] (fun i wr => ∃ kk : Nat, kk ≤ l.length ∧ i = .int .i64 (kk : Int) ∧ wr = w ∧ Hid (∀ e ∈ l.take kk, few e)) (fun i _ => l.length - (RowKit.intOf i).toNat)
    case atStart => exact ⟨0, Nat.zero_le _, rfl, rfl, Lib.hid (by simp)⟩
    case round =>
      obtain ⟨kk, hk, rfl, rfl, HP⟩ := hrel
      by_cases hlt : kk < l.length
      · obtain ⟨e, he⟩ : ∃ e, l[kk]? = some e := ⟨l[kk], List.getElem?_eq_getElem hlt⟩
        obtain ⟨b, off, hA, hb0, hx⟩ := HL.out.1.ev he
        have x8 : wr.cell? ⟨b, off + kk * 13 + 8, none⟩ = some (.slice e.op.A e.op.len e.op.cap) := hx 8 _ rfl
        have hme := HL.out.2 e (List.mem_of_getElem? he)
        have HE := Lib.hid he
        subst hA
        clear hx hb0 he
        by_cases hf : 20 < e.op.len
        · have q1 : ((20 : Int) < (e.op.len : Int)) := by omega
          have q2 : decide ((20 : Int) < (e.op.len : Int)) = true := by simp; omega
          go_wp2_with fail
          go_ret
          exact ⟨rfl, .inl rfl⟩
        · have q1 : ¬ ((20 : Int) < (e.op.len : Int)) := by omega
          have q2 : decide ((20 : Int) < (e.op.len : Int)) = false := by simp; omega
          go_wp2_with fail
          have HQ : Hid (∀ e ∈ l.take (kk + 1), few e) := Lib.hid (by
            intro e' he'
            rw [List.take_add_one, HE.out] at he'
            rcases List.mem_append.1 he' with h1 | h1
            · exact HP.out e' h1
            · simp at h1; subst h1; unfold few; omega)
          exact ⟨⟨kk + 1, by omega, by go_num, (by first | rfl | trivial), HQ⟩, by simp [RowKit.intOf]; omega⟩
      · obtain rfl : kk = l.length := by omega
        go_wp2_with fail
        go_ret
        have hr := HP.out
        rw [List.take_length] at hr
        exact ⟨rfl, .inr ⟨rfl, by omega, hr⟩⟩
end Go.Proofs.Ythopiamiipmobaa
