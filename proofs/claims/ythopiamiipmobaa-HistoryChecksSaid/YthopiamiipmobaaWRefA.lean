/-
  count, Answer, Fits: the document's own text.
-/
import Derived.Test.YthopiamiipmobaaCnt
import Derived.Test.YthopiamiipmobaaWState
namespace Go.Proofs.Ythopiamiipmobaa
open Go.RowKit Go.Lib
set_option linter.unusedVariables false
set_option linter.unusedSimpArgs false

set_option maxHeartbeats 1000000 in
theorem count_any (kind0 id0 : Int) (l : List Ev) (A : Option Addr) (cap : Nat) (w : World) (hR : Row w A (ecs l)) (hm : l.length ≤ 100000) :
    Calls Try.prog 30 #[.slice A l.length cap, .int .u8 kind0, .int .i64 id0] w fun r w' => r = .returned (.int .i64 (cnt kind0 id0 l : Int)) ∧ w' = w := by
  have HL := Lib.hid hR
  clear hR
  go_enter Try.func30, Try.ntmps30
  go_wp2_with fail
  go_loopw [7, 8] (fun c i wr => ∃ kk : Nat, kk ≤ l.length ∧ i = .int .i64 (kk : Int) ∧ c = .int .i64 (cnt kind0 id0 (l.take kk) : Int) ∧ wr = w) (fun _ i _ => l.length - (RowKit.intOf i).toNat)
  case atStart => exact ⟨0, Nat.zero_le _, rfl, rfl, rfl⟩
  case round =>
    obtain ⟨kk, hk, rfl, rfl, rfl⟩ := hrel
    by_cases hlt : kk < l.length
    · obtain ⟨e, he⟩ : ∃ e, l[kk]? = some e := ⟨l[kk], List.getElem?_eq_getElem hlt⟩
      obtain ⟨b, off, hA, hb0, hx⟩ := HL.out.ev he
      have x0 : wr.cell? ⟨b, off + kk * 13, none⟩ = some (.int .u8 e.kind) := hx 0 _ rfl
      have x1 : wr.cell? ⟨b, off + kk * 13 + 1, none⟩ = some (.int .i64 e.id) := hx 1 _ rfl
      have HE := Lib.hid he
      have hcl := cnt_le kind0 id0 (l.take kk)
      rw [List.length_take] at hcl
      subst hA
      clear hx hb0 he
      by_cases h1 : e.kind = kind0
      · have q1 : (e.kind == kind0) = true := by simpa using h1
        by_cases h2 : e.id = id0
        · have q2 : (e.id == id0) = true := by simpa using h2
          have hp := cnt_yes HE.out (isAt_iff.2 ⟨h1, h2⟩)
          have HP := Lib.hid hp
          clear h1 h2 hp
          generalize cnt kind0 id0 (l.take kk) = q at hcl HP ⊢
          go_wp2_with fail
          exact ⟨⟨kk + 1, by omega, by go_num, by rw [HP.out]; go_num, (by first | rfl | trivial)⟩, by simp [RowKit.intOf]; omega⟩
        · have q2 : (e.id == id0) = false := by simpa using h2
          have hp := cnt_no (kind := kind0) (id := id0) HE.out (by unfold isAt; rw [q1, q2]; rfl)
          have HP := Lib.hid hp
          clear h1 h2 hp
          go_wp2_with fail
          exact ⟨⟨kk + 1, by omega, by go_num, by rw [HP.out], (by first | rfl | trivial)⟩, by simp [RowKit.intOf]; omega⟩
      · have q1 : (e.kind == kind0) = false := by simpa using h1
        have hp := cnt_no (kind := kind0) (id := id0) HE.out (by unfold isAt; rw [q1]; rfl)
        have HP := Lib.hid hp
        clear h1 hp
        go_wp2_with fail
        exact ⟨⟨kk + 1, by omega, by go_num, by rw [HP.out], (by first | rfl | trivial)⟩, by simp [RowKit.intOf]; omega⟩
    · obtain rfl : kk = l.length := by omega
      go_wp2_with fail
      go_ret
      refine ⟨?_, rfl⟩
      rw [List.take_length]; rfl

set_option maxHeartbeats 2000000 in
theorem refans_any (id0 : Int) (l : List Ev) (A : Option Addr) (cap : Nat) (w : World) (hR : Row w A (ecs l)) (hm : l.length ≤ 100000) :
    Calls Try.prog 14 #[.slice A l.length cap, .int .i64 id0] w fun r w' => r = .returned (stA l id0).val ∧ Turn No w w' := by
  have HL := Lib.hid hR
  clear hR
  have HB : Hid (Turn No w (w.alloc (.cells #[.int .i64 0, .bool false, .string ⟨#[]⟩, .string ⟨#[]⟩] 32)) ∧ At (w.alloc (.cells #[.int .i64 0, .bool false, .string ⟨#[]⟩, .string ⟨#[]⟩] 32)) w.heap.size (.cells #[.int .i64 0, .bool false, .string ⟨#[]⟩, .string ⟨#[]⟩] 32 (0, 0))) := Lib.hid ⟨(Turn.refl _ _).alloc _, At.new _ _⟩
  go_enter Try.func14, Try.ntmps14
  go_upto_region 1 with fail
  generalize w.alloc (.cells #[.int .i64 0, .bool false, .string ⟨#[]⟩, .string ⟨#[]⟩] 32) = w1 at HB ⊢
  obtain ⟨g, hg⟩ : ∃ g, w.heap.size = g := ⟨_, rfl⟩
  have HG := Lib.hid hg
  rw [hg] at HB ⊢
  clear hg
  go_wp2_with fail
  go_loopw [5] (fun i wr => ∃ kk : Nat, kk ≤ l.length ∧ i = .int .i64 (kk : Int) ∧ wr = w1 ∧ Hid (∀ e ∈ l.take kk, isAt 2 id0 e = false)) (fun i _ => l.length - (RowKit.intOf i).toNat)
  case atStart => exact ⟨0, Nat.zero_le _, rfl, rfl, Lib.hid (by simp)⟩
  case round =>
    obtain ⟨kk, hk, rfl, rfl, HP⟩ := hrel
    have hth : wr.there g 0 4 := fun j hj => by
      rw [Nat.zero_add, HB.out.2.cell]
      exact ⟨by rw [Array.getElem?_eq_getElem (by simpa using hj)]; rfl, HB.out.2.thawed j⟩
    have hput : ∀ a : Ans, At (wr.setCells g 0 a.cs) g (.cells a.cs.toArray 32 (0, 0)) ∧ Turn No w (wr.setCells g 0 a.cs) := fun a => by
      rw [setCells_puts]
      refine ⟨?_, HB.out.1.then (turn_puts g a.cs 0 wr) fun i hi e => by have := HG.out; omega⟩
      have := At.puts a.cs 0 HB.out.2
      rwa [show cputs #[.int .i64 0, .bool false, .string ⟨#[]⟩, .string ⟨#[]⟩] 0 a.cs = a.cs.toArray from cputs4] at this
    have HPut := Lib.hid hput
    clear hput
    by_cases hlt : kk < l.length
    · obtain ⟨e, he⟩ : ∃ e, l[kk]? = some e := ⟨l[kk], List.getElem?_eq_getElem hlt⟩
      have hRw := HL.out.turn HB.out.1 fun _ _ _ h => h
      obtain ⟨b, off, hA, hb0, hx⟩ := hRw.ev he
      obtain ⟨kind, id, op, ⟨code, found, ak, av⟩⟩ := e
      have x0 : wr.cell? ⟨b, off + kk * 13, none⟩ = some (.int .u8 kind) := hx 0 _ rfl
      have x1 : wr.cell? ⟨b, off + kk * 13 + 1, none⟩ = some (.int .i64 id) := hx 1 _ rfl
      have hra : wr.rangeAt b (off + kk * 13 + 9) [.int .i64 code, .bool found, .string ak, .string av] := range_an hx
      have HE := Lib.hid he
      subst hA
      clear hx hb0 he hRw
      by_cases h1 : kind = 2
      · subst h1
        by_cases h2 : id = id0
        · subst h2
          have hs := answer_of (firstAt_some HE.out (isAt_iff.2 ⟨rfl, rfl⟩) HP.out) HE.out
          have HS := Lib.hid hs
          clear hs
          go_upto_region 5 with fail
          have h1c := all_one (vs := [.int .i64 code, .bool found, .string ak, .string av]) (one_an ⟨code, found, ak, av⟩)
          go_wp2_with (first | (refine wpList_load_mid rfl 32 _ rfl b (off + kk * 13 + 9) rfl [.int .i64 code, .bool found, .string ak, .string av] _ hra Try.underlying32 rfl inf32 ?_) | (refine wpList_store_mid rfl 32 _ _ rfl g 0 #[.int .i64 code, .bool found, .string ak, .string av] rfl rfl hth inf32 h1c ?_))
          (try simp only [Exit.inBlock, Exit.then])
          have hz := HPut.out ⟨code, found, ak, av⟩
          refine bodyPost_ret (results_cell_row rfl _ _ g 32 _ (0, 0) _ (by rfl) hz.1 Try.underlying32 rfl inf32) rfl ?_
          rw [HS.out]
          exact ⟨rfl, hz.2⟩
        · have q2 : (id == id0) = false := by simpa using h2
          have hp : Hid (isAt 2 id0 ⟨2, id, op, ⟨code, found, ak, av⟩⟩ = false) := Lib.hid (by unfold isAt; simp [q2])
          clear h2
          go_wp2_with fail
          have HQ := Lib.hid (not_snoc HP.out HE.out hp.out)
          exact ⟨⟨kk + 1, by omega, by go_num, (by first | rfl | trivial), HQ⟩, by simp [RowKit.intOf]; omega⟩
      · have q1 : (kind == 2) = false := by simpa using h1
        have hp : Hid (isAt 2 id0 ⟨kind, id, op, ⟨code, found, ak, av⟩⟩ = false) := Lib.hid (by unfold isAt; rw [show (Ev.kind ⟨kind, id, op, ⟨code, found, ak, av⟩⟩ == 2) = false from q1]; rfl)
        clear h1
        go_wp2_with fail
        have HQ := Lib.hid (not_snoc HP.out HE.out hp.out)
        exact ⟨⟨kk + 1, by omega, by go_num, (by first | rfl | trivial), HQ⟩, by simp [RowKit.intOf]; omega⟩
    · obtain rfl : kk = l.length := by omega
      have hr := HP.out
      rw [List.take_length] at hr
      have HS := Lib.hid (answer_no (firstAt_none hr))
      clear hr
      have h1c := all_one (vs := [.int .i64 0, .bool false, .string ⟨#[]⟩, .string ⟨#[]⟩]) (one_an ans00)
      go_wp2_with (refine wpList_store_mid rfl 32 _ _ rfl g 0 #[.int .i64 0, .bool false, .string ⟨#[]⟩, .string ⟨#[]⟩] rfl rfl hth inf32 h1c ?_)
      (try simp only [Exit.inBlock, Exit.then])
      have hz := HPut.out ans00
      refine bodyPost_ret (results_cell_row rfl _ _ g 32 _ (0, 0) _ (by rfl) hz.1 Try.underlying32 rfl inf32) rfl ?_
      rw [HS.out]
      exact ⟨rfl, hz.2⟩
end Go.Proofs.Ythopiamiipmobaa
