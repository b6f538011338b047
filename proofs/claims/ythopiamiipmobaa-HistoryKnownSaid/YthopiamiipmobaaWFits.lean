/-
  fits: whether an event may stand behind a right row.
-/
import Derived.Test.YthopiamiipmobaaMp
import Derived.Test.YthopiamiipmobaaWZero
import Derived.Test.YthopiamiipmobaaEq
import Derived.IntWalk
namespace Go.Proofs.Ythopiamiipmobaa
open Go.RowKit Go.Lib
set_option linter.unusedVariables false
set_option linter.unusedSimpArgs false

@[reducible] def Ev.val (e : Ev) : Value := .agg #[.int .u8 e.kind, .int .i64 e.id, .int .u8 e.op.kind, .string e.op.k, .string e.op.v, .string e.op.o, .bool e.op.had, .bool e.op.aft, .slice e.op.A e.op.len e.op.cap, .int .i64 e.an.code, .bool e.an.found, .string e.an.k, .string e.an.v]

set_option maxHeartbeats 1000000 in
set_option maxRecDepth 100000 in
theorem fits_any (l : List Ev) (hr : Right l) (m : Option Nat) (e : Ev) (hid : In64 e.id) (w : World) (hm : Mp w m l) :
    Calls Try.prog 33 #[.map m, e.val] w fun r w' => r = .returned (.bool (fits l e)) ∧ Turn No w w' := by
  obtain ⟨kind, id, ⟨ok, k, v, o, had, aft, A, len, cap⟩, ⟨code, found, ak, av⟩⟩ := e
  have hlk : (Instr.lookup 57 (.map m) (.int .i64 id) false).run Try.prog (w.alloc (.cells #[.int .u8 kind, .int .i64 id, .int .u8 ok, .string k, .string v, .string o, .bool had, .bool aft, .slice A len cap, .int .i64 code, .bool found, .string ak, .string av] 34)) = _ := (hm.no ((Turn.refl _ _).alloc _)).look hr id hid
  have hlast := hr.last id
  simp only [Kn.val] at hlk
  unfold fits
  dsimp only
  generalize kn l id = K at hlk hlast ⊢
  obtain ⟨last, kc, kf, kk, kv⟩ := K
  dsimp only at hlk hlast
  go_enter Try.func33, Try.ntmps33
  by_cases h1 : id < 1
  · have hR : fitsK ⟨last, ⟨kc, kf, kk, kv⟩⟩ ⟨kind, id, ⟨ok, k, v, o, had, aft, A, len, cap⟩, ⟨code, found, ak, av⟩⟩ = false := by unfold fitsK; rw [if_pos (show id < 1 from h1)]
    rw [hR]
    go_wp2_with fail
    go_ret
    exact ⟨rfl, ((Turn.refl _ _).alloc _).alloc _⟩
  have hw : IntKind.u8.wrap (last + 1) = last + 1 := IntWalk.u8_in _ (by omega)
  by_cases h2 : kind = last + 1
  · by_cases k1 : kind = 1
    · have hR : fitsK ⟨last, ⟨kc, kf, kk, kv⟩⟩ ⟨kind, id, ⟨ok, k, v, o, had, aft, A, len, cap⟩, ⟨code, found, ak, av⟩⟩ = decide ((⟨code, found, ak, av⟩ : Ans) = ⟨0, false, ⟨#[]⟩, ⟨#[]⟩⟩) := by unfold fitsK; rw [if_neg (show ¬ id < 1 from h1), if_neg (by simpa using h2), if_pos (show kind = 1 from k1)]; rfl
      rw [hR]
      have q := eql_ans code 0 found false ak ⟨#[]⟩ av ⟨#[]⟩
      generalize decide ((⟨code, found, ak, av⟩ : Ans) = ⟨0, false, ⟨#[]⟩, ⟨#[]⟩⟩) = b at q ⊢
      clear hR
      obtain rfl : last = 0 := by omega
      subst k1
      clear h2 hw hlast
      have hw : IntKind.u8.wrap (0 + 1) = 1 := rfl
      go_wp2_with fail
      go_ret
      exact ⟨rfl, ((Turn.refl _ _).alloc _).alloc _⟩
    have HB : Hid (At ((w.alloc (.cells #[.int .u8 kind, .int .i64 id, .int .u8 ok, .string k, .string v, .string o, .bool had, .bool aft, .slice A len cap, .int .i64 code, .bool found, .string ak, .string av] 34)).alloc (.cells #[.int .u8 last, .int .i64 kc, .bool kf, .string kk, .string kv] 62)) w.heap.size (.cells #[.int .u8 kind, .int .i64 id, .int .u8 ok, .string k, .string v, .string o, .bool had, .bool aft, .slice A len cap, .int .i64 code, .bool found, .string ak, .string av] 34 (0, 0)) ∧
        At ((w.alloc (.cells #[.int .u8 kind, .int .i64 id, .int .u8 ok, .string k, .string v, .string o, .bool had, .bool aft, .slice A len cap, .int .i64 code, .bool found, .string ak, .string av] 34)).alloc (.cells #[.int .u8 last, .int .i64 kc, .bool kf, .string kk, .string kv] 62)) (w.heap.size + 1) (.cells #[.int .u8 last, .int .i64 kc, .bool kf, .string kk, .string kv] 62 (0, 0)) ∧
        Turn No w ((w.alloc (.cells #[.int .u8 kind, .int .i64 id, .int .u8 ok, .string k, .string v, .string o, .bool had, .bool aft, .slice A len cap, .int .i64 code, .bool found, .string ak, .string av] 34)).alloc (.cells #[.int .u8 last, .int .i64 kc, .bool kf, .string kk, .string kv] 62))) :=
      Lib.hid ⟨(At.new _ _).turn ((Turn.refl No _).alloc _) (fun h => h), by simpa using At.new (w.alloc (.cells #[.int .u8 kind, .int .i64 id, .int .u8 ok, .string k, .string v, .string o, .bool had, .bool aft, .slice A len cap, .int .i64 code, .bool found, .string ak, .string av] 34)) (.cells #[.int .u8 last, .int .i64 kc, .bool kf, .string kk, .string kv] 62), ((Turn.refl _ _).alloc _).alloc _⟩
    have CZ : Hid (∀ W, Calls Try.prog 38 #[.agg #[.int .u8 ok, .string k, .string v, .string o, .bool had, .bool aft, .slice A len cap]] W fun e w' => e = .returned (.bool (zeroB ok k v o had aft len)) ∧ Turn No W w') := Lib.hid fun W => iszero_any ok k v o had aft A len cap W
    by_cases k2 : kind = 2
    · have hR : fitsK ⟨last, ⟨kc, kf, kk, kv⟩⟩ ⟨kind, id, ⟨ok, k, v, o, had, aft, A, len, cap⟩, ⟨code, found, ak, av⟩⟩ = zeroB ok k v o had aft len := by unfold fitsK; rw [if_neg (show ¬ id < 1 from h1), if_neg (by simpa using h2), if_neg (show ¬ kind = 1 from k1), if_pos (show kind = 2 from k2)]; rfl
      rw [hR]
      clear hR
      obtain rfl : last = 1 := by omega
      subst k2
      clear h2 hw hlast k1
      have hw : IntKind.u8.wrap (1 + 1) = 2 := rfl
      go_wp2_with (go_at_call 38; refine (CZ.out _).mono ?_; rintro e w2 ⟨rfl, ht2⟩; replace ht2 := Lib.hid ht2)
      go_ret
      exact ⟨rfl, HB.out.2.2.trans ht2.out⟩
    by_cases k3 : kind = 3
    · have hR : fitsK ⟨last, ⟨kc, kf, kk, kv⟩⟩ ⟨kind, id, ⟨ok, k, v, o, had, aft, A, len, cap⟩, ⟨code, found, ak, av⟩⟩ = (zeroB ok k v o had aft len && decide ((⟨code, found, ak, av⟩ : Ans) = ⟨kc, kf, kk, kv⟩)) := by unfold fitsK; rw [if_neg (show ¬ id < 1 from h1), if_neg (by simpa using h2), if_neg (show ¬ kind = 1 from k1), if_neg (show ¬ kind = 2 from k2), if_pos (show kind = 3 from k3)]; rfl
      rw [hR]
      have q := eql_ans code kc found kf ak kk av kv
      generalize decide ((⟨code, found, ak, av⟩ : Ans) = ⟨kc, kf, kk, kv⟩) = b at q ⊢
      clear hR
      obtain rfl : last = 2 := by omega
      subst k3
      clear h2 hw hlast k1 k2
      have hw : IntKind.u8.wrap (2 + 1) = 3 := rfl
      generalize zeroB ok k v o had aft len = z at CZ ⊢
      cases z
      · go_wp2_with (go_at_call 38; refine (CZ.out _).mono ?_; rintro e w2 ⟨rfl, ht2⟩; replace ht2 := Lib.hid ht2)
        go_ret
        exact ⟨rfl, HB.out.2.2.trans ht2.out⟩
      · go_wp2_with (go_at_call 38; refine (CZ.out _).mono ?_; rintro e w2 ⟨rfl, ht2⟩; replace ht2 := Lib.hid ht2; have f9 := (HB.out.1.no ht2.out).cell 9; have f10 := (HB.out.1.no ht2.out).cell 10; have f11 := (HB.out.1.no ht2.out).cell 11; have f12 := (HB.out.1.no ht2.out).cell 12; have g1 := (HB.out.2.1.no ht2.out).cell 1; have g2 := (HB.out.2.1.no ht2.out).cell 2; have g3 := (HB.out.2.1.no ht2.out).cell 3; have g4 := (HB.out.2.1.no ht2.out).cell 4; simp at f9 f10 f11 f12 g1 g2 g3 g4)
        go_ret
        exact ⟨by simp, HB.out.2.2.trans ht2.out⟩
    · have hR : fitsK ⟨last, ⟨kc, kf, kk, kv⟩⟩ ⟨kind, id, ⟨ok, k, v, o, had, aft, A, len, cap⟩, ⟨code, found, ak, av⟩⟩ = false := by unfold fitsK; rw [if_neg (show ¬ id < 1 from h1), if_neg (by simpa using h2), if_neg (show ¬ kind = 1 from k1), if_neg (show ¬ kind = 2 from k2), if_neg (show ¬ kind = 3 from k3)]
      rw [hR]
      clear hR
      obtain rfl : last = 3 := by omega
      obtain rfl : kind = 4 := by omega
      clear h2 hw hlast k1 k2 k3
      have hw : IntKind.u8.wrap (3 + 1) = 4 := rfl
      go_wp2_with fail
      go_ret
      exact ⟨rfl, HB.out.2.2⟩
  · have hR : fitsK ⟨last, ⟨kc, kf, kk, kv⟩⟩ ⟨kind, id, ⟨ok, k, v, o, had, aft, A, len, cap⟩, ⟨code, found, ak, av⟩⟩ = false := by unfold fitsK; rw [if_neg (show ¬ id < 1 from h1), if_pos (show kind ≠ last + 1 from h2)]
    rw [hR]
    have h2' : (kind != last + 1) = true := by simpa using h2
    go_wp2_with fail
    go_ret
    exact ⟨rfl, ((Turn.refl _ _).alloc _).alloc _⟩
end Go.Proofs.Ythopiamiipmobaa
