/-
  HistoryOrder's walk.
-/
import Derived.Test.YthopiamiipmobaaRt
import Derived.Test.YthopiamiipmobaaWGreat
import Derived.Test.YthopiamiipmobaaArgs
namespace Go.Proofs.Ythopiamiipmobaa
open Go.RowKit Go.Lib
set_option linter.unusedVariables false
set_option linter.unusedSimpArgs false

set_option maxHeartbeats 1000000 in
theorem place_any (kind0 id0 : Int) (l : List Ev) (A : Option Addr) (cap : Nat) (w : World) (hR : Row w A (ecs l)) (hm : l.length ≤ 100000) :
    Calls Try.prog 28 #[.slice A l.length cap, .int .u8 kind0, .int .i64 id0] w fun r w' => r = .returned (.int .i64 (placeI (firstAt kind0 id0 l))) ∧ w' = w := by
  have HL := Lib.hid hR
  clear hR
  go_enter Try.func28, Try.ntmps28
  go_wp2_with fail
  go_loopw [7] (fun i wr => ∃ kk : Nat, kk ≤ l.length ∧ i = .int .i64 (kk : Int) ∧ wr = w ∧ Hid (∀ e ∈ l.take kk, isAt kind0 id0 e = false)) (fun i _ => l.length - (RowKit.intOf i).toNat)
  case atStart => exact ⟨0, Nat.zero_le _, rfl, rfl, Lib.hid (by simp)⟩
  case round =>
    obtain ⟨kk, hk, rfl, rfl, HP⟩ := hrel
    by_cases hlt : kk < l.length
    · obtain ⟨e, he⟩ : ∃ e, l[kk]? = some e := ⟨l[kk], List.getElem?_eq_getElem hlt⟩
      obtain ⟨b, off, hA, hb0, hx⟩ := HL.out.ev he
      have x0 : wr.cell? ⟨b, off + kk * 13, none⟩ = some (.int .u8 e.kind) := hx 0 _ rfl
      have x1 : wr.cell? ⟨b, off + kk * 13 + 1, none⟩ = some (.int .i64 e.id) := hx 1 _ rfl
      have HE := Lib.hid he
      subst hA
      clear hx hb0 he
      by_cases h1 : e.kind = kind0
      · have q1 : (e.kind == kind0) = true := by simpa using h1
        by_cases h2 : e.id = id0
        · have q2 : (e.id == id0) = true := by simpa using h2
          have hp : Hid (isAt kind0 id0 e = true) := Lib.hid (isAt_iff.2 ⟨h1, h2⟩)
          clear h1 h2
          go_wp2_with fail
          go_ret
          rw [firstAt_some HE.out hp.out HP.out]
          exact ⟨rfl, rfl⟩
        · have q2 : (e.id == id0) = false := by simpa using h2
          have hp : Hid (isAt kind0 id0 e = false) := Lib.hid (by unfold isAt; rw [q1, q2]; rfl)
          clear h1 h2
          go_wp2_with fail
          have HQ := Lib.hid (not_snoc HP.out HE.out hp.out)
          exact ⟨⟨kk + 1, by omega, by go_num, (by first | rfl | trivial), HQ⟩, by simp [RowKit.intOf]; omega⟩
      · have q1 : (e.kind == kind0) = false := by simpa using h1
        have hp : Hid (isAt kind0 id0 e = false) := Lib.hid (by unfold isAt; rw [q1]; rfl)
        clear h1
        go_wp2_with fail
        have HQ := Lib.hid (not_snoc HP.out HE.out hp.out)
        exact ⟨⟨kk + 1, by omega, by go_num, (by first | rfl | trivial), HQ⟩, by simp [RowKit.intOf]; omega⟩
    · obtain rfl : kk = l.length := by omega
      go_wp2_with fail
      go_ret
      have hr := HP.out
      rw [List.take_length] at hr
      rw [firstAt_none hr]
      exact ⟨rfl, rfl⟩

/-- The row that HistoryOrder goes on with: right, and read. -/
structure Or (w wr : World) (A : Option Addr) (r : List Ev) : Prop where
  tu : Turn No w wr
  row : Row wr A (ecs r)
  ids : ∀ e ∈ r, In64 e.id
  right : Right r
  few : r.length ≤ 200
theorem Or.no {w wr w2 : World} {A : Option Addr} {r : List Ev} (h : Or w wr A r) (t : Turn No wr w2) : Or w w2 A r := ⟨h.tu.trans t, h.row.turn t fun _ _ _ h => h, h.ids, h.right, h.few⟩
theorem Or.check {w wr : World} {A : Option Addr} {r : List Ev} (h : Or w wr A r) (n : Nat) (hn : n ≤ r.length) (A2 : Option Addr) (c2 : Nat) (hA : n = 0 ∨ A2 = A) :
    Calls Try.prog 18 #[.slice A2 n c2] wr fun e w' => e = .returned (.tuple #[.int .i64 (-1), .int .i64 0]) ∧ Or w w' A r := by
  have hl : (r.take n).length = n := by rw [List.length_take]; omega
  have hrow : Row wr A2 (ecs (r.take n)) := by
    rcases hA with rfl | rfl
    · simpa [ecs] using Row.nil wr A2
    · exact h.row.take n
  have C := check_any (r.take n) A2 c2 wr hrow (fun e he => h.ids e (List.mem_of_mem_take he)) (by have := h.few; omega)
  rw [hl] at C
  refine C.mono ?_
  rintro e w' ⟨a, c, rfl, hc, ht⟩
  obtain ⟨rfl, rfl⟩ := hc.of_right (h.right.take n)
  exact ⟨rfl, h.no ht⟩

/-- With the row of its marks. -/
structure Os (w wx wr : World) (A : Option Addr) (r : List Ev) (B : Option Addr) (c : Nat) : Prop where
  o : Or w wr A r
  m : Ints wx wr (marks r) B c
theorem Os.no {w wx wr w2 : World} {A : Option Addr} {r : List Ev} {B : Option Addr} {c : Nat} (h : Os w wx wr A r B c) (t : Turn No wr w2) : Os w wx w2 A r B c := ⟨h.o.no t, h.m.no t⟩
theorem Os.cell {w wx wr : World} {A : Option Addr} {r : List Ev} {B : Option Addr} {c : Nat} (h : Os w wx wr A r B c) {i : Nat} {a : Int} (ha : (marks r)[i]? = some a) : ∃ rb, B = some ⟨rb, 0, none⟩ ∧ wr.cell? ⟨rb, i, none⟩ = some (.int .i64 a) := by
  obtain ⟨hl, ⟨hv, hn⟩ | ⟨g, cap, cur, hv, hb, hg, hn, hc, hs, ht⟩⟩ := h.m.row
  · have := (List.getElem?_eq_some_iff.1 ha).1; omega
  · injection hv with hA _ _
    refine ⟨g, hA, ?_⟩
    rw [cell_of_row wr g i cur 3 (0, 0) hg]
    have h1 : (ics (marks r))[i]? = some (.int .i64 a) := by simp [ics, ha]
    rw [← ht, List.getElem?_take] at h1
    split at h1
    · simpa using h1
    · cases h1

set_option maxHeartbeats 4000000 in
set_option maxRecDepth 100000 in
theorem order_row (b0 off : Nat) (len cap : Nat) (l : List Ev) (ps : List (List Wr)) (w : World) (h : Inp w (some ⟨b0, off, none⟩) len cap l ps) :
    Calls Try.prog 5 #[.slice (some ⟨b0, off, none⟩) len cap] w fun r w' => r = .returned (.bool true) ∧ Turn No w w' := by
  have hlen := h.hlen
  subst hlen
  have CG := Lib.hid (great_any l _ cap w h.row h.hmax h.wlen)
  have CW := Lib.hid wakes_any
  have HI := Lib.hid h
  have hcap := h.hcap
  clear h
  go_enter Try.func5, Try.ntmps5
  go_upto_if 15 with (go_at_call 8; refine CG.out.mono ?_; rintro e w1 ⟨rfl, hg⟩; rcases hg with rfl | ⟨rfl, hg⟩)
  · go_wp2_with (go_at_call 9; refine (CW.out _).mono ?_; rintro e w2 ⟨rfl, ht⟩; have HT := Lib.hid ht; clear ht)
    go_ret
    exact ⟨rfl, HT.out⟩
  have HG := Lib.hid hg
  clear hg CG
  have C1 := Lib.hid (check_any l _ cap w1 HI.out.row HI.out.ids (by have := HG.out.1; omega))
  go_upto_if 23 with (go_at_call 18; refine C1.out.mono ?_; rintro e w2 ⟨at_, code, rfl, hc, ht⟩; have HC := Lib.hid (And.intro hc ht); clear hc ht)
  clear C1
  go_cut [0] (fun s wx => ∃ r, s = .slice (some ⟨b0, off, none⟩) r.length cap ∧ Hid (Or w1 wx (some ⟨b0, off, none⟩) r ∧ r.length ≤ cap ∧ r.length ≤ l.length))
  case first =>
    obtain ⟨hc, ht⟩ := HC.out
    have h200 := HG.out.1
    rcases hc with ⟨hr, rfl, rfl⟩ | ⟨n, hb, rfl, rfl⟩
    · have HO : Hid (Or w1 w2 (some ⟨b0, off, none⟩) l ∧ l.length ≤ cap ∧ l.length ≤ l.length) := Lib.hid ⟨⟨ht, HI.out.row.turn ht fun _ _ _ h => h, HI.out.ids, hr, h200⟩, hcap, Nat.le_refl _⟩
      clear hr ht h200
      go_wp2_with fail
      go_meet
      case rel => exact ⟨l, rfl, HO⟩
    · obtain ⟨hr, e, he, hf⟩ := hb
      have hn : n < l.length := (List.getElem?_eq_some_iff.1 he).1
      have hlt : (l.take n).length = n := by rw [List.length_take]; omega
      have HO : Hid (Or w1 w2 (some ⟨b0, off, none⟩) (l.take n) ∧ (l.take n).length ≤ cap ∧ (l.take n).length ≤ l.length) := Lib.hid ⟨⟨ht, (HI.out.row.take n).turn ht fun _ _ _ h => h, fun e he => HI.out.ids e (List.mem_of_mem_take he), hr, by omega⟩, by omega, by omega⟩
      obtain ⟨lt, hltn⟩ : ∃ lt, l.take n = lt := ⟨_, rfl⟩
      rw [hltn] at HO hlt
      have HE := Lib.hid hlt
      clear hr he hf ht hltn hlt h200
      go_wp2_with fail
      go_meet
      case rel => exact ⟨lt, by rw [HE.out], HO⟩
  case rest =>
    obtain ⟨r, rfl, HO⟩ := hcut
    have hrc := HO.out.2.1
    have hrl := HO.out.2.2
    have HO := Lib.hid HO.out.1
    go_wp2_with fail
    go_loopw [5] (fun i wr => ∃ kk : Nat, kk ≤ r.length + 1 ∧ i = .int .i64 (kk : Int) ∧ Hid (Or w1 wr (some ⟨b0, off, none⟩) r)) (fun i _ => r.length + 1 - (RowKit.intOf i).toNat)
    case atStart => exact ⟨0, Nat.zero_le _, rfl, HO⟩
    case round =>
      obtain ⟨kk, hk, rfl, HP⟩ := hrel
      have h200 := HP.out.few
      by_cases hlt : kk ≤ r.length
      · skip
        go_wp2_with (go_at_call 18; refine (HP.out.check kk hlt _ _ (.inr rfl)).mono ?_; rintro e w8 ⟨rfl, ho⟩; have HQ := Lib.hid ho; clear ho)
        exact ⟨⟨kk + 1, by omega, by go_num, HQ⟩, by simp [RowKit.intOf]; omega⟩
      · obtain rfl : kk = r.length + 1 := by omega
        obtain ⟨wx, hwx⟩ : ∃ x, x = wr := ⟨_, rfl⟩
        subst hwx
        have C2 := Lib.hid (marks_any r _ cap wx HP.out.row (by omega))
        go_upto_region 15 with (go_at_call 23; refine C2.out.mono ?_; rintro e w9 ⟨B, c, rfl, hi⟩; have HM : Hid (Os w1 wx w9 (some ⟨b0, off, none⟩) r B c) := Lib.hid ⟨HP.out.no hi.tu, hi⟩; clear hi)
        have hml := marks_length r
        clear C2 HP
        go_wp2_with fail
        go_loopw [9] (fun i wz => ∃ ii : Nat, ii ≤ (marks r).length ∧ i = .int .i64 (ii : Int) ∧ Hid (Os w1 wx wz (some ⟨b0, off, none⟩) r B c)) (fun i _ => (marks r).length - (RowKit.intOf i).toNat)
        case atStart => exact ⟨0, Nat.zero_le _, rfl, HM⟩
        case round =>
          obtain ⟨ii, hii, rfl, HP⟩ := hrel
          clear HM
          by_cases hi2 : ii < (marks r).length
          · obtain ⟨b, hb⟩ : ∃ b, (marks r)[ii]? = some b := ⟨(marks r)[ii], List.getElem?_eq_getElem hi2⟩
            obtain ⟨rb, hB, _⟩ := HP.out.cell hb
            subst hB
            have HBM := Lib.hid hb
            have hcb : Hid (∀ W, Os w1 wx W (some ⟨b0, off, none⟩) r (some ⟨rb, 0, none⟩) c → W.cell? ⟨rb, ii, none⟩ = some (.int .i64 b)) := Lib.hid fun W ho => by
              obtain ⟨rb2, e, hcell⟩ := ho.cell HBM.out
              injection e with e; injection e with e
              subst e
              exact hcell
            clear hb
            obtain ⟨wv, hwv⟩ : ∃ x, x = wr := ⟨_, rfl⟩
            subst hwv
            go_wp2_with fail
            go_loopw [10] (fun i wy => ∃ k2 : Nat, k2 ≤ ii ∧ i = .int .i64 (k2 : Int) ∧ Hid (Os w1 wx wy (some ⟨b0, off, none⟩) r (some ⟨rb, 0, none⟩) c)) (fun i _ => ii - (RowKit.intOf i).toNat)
            case atStart => exact ⟨0, Nat.zero_le _, rfl, HP⟩
            case round =>
              obtain ⟨k2, hk2, rfl, HQ⟩ := hrel
              by_cases hlt2 : k2 < ii
              · obtain ⟨a, ha⟩ : ∃ a, (marks r)[k2]? = some a := ⟨(marks r)[k2]'(by omega), List.getElem?_eq_getElem (by omega)⟩
                have hca : Hid (∀ W, Os w1 wx W (some ⟨b0, off, none⟩) r (some ⟨rb, 0, none⟩) c → W.cell? ⟨rb, k2, none⟩ = some (.int .i64 a)) := Lib.hid fun W ho => by
                  obtain ⟨rb2, e, hcell⟩ := ho.cell ha
                  injection e with e; injection e with e
                  subst e
                  exact hcell
                have hne : (b == a) = false := by simpa using HQ.out.o.right.marks_ne hlt2 ha HBM.out
                have CA : Hid (∀ W, Os w1 wx W (some ⟨b0, off, none⟩) r (some ⟨rb, 0, none⟩) c → Calls Try.prog 26 #[.slice (some ⟨b0, off, none⟩) r.length cap, .int .i64 b, .int .i64 a] W fun r2 w' => r2 = .returned (.bool false) ∧ Os w1 wx w' (some ⟨b0, off, none⟩) r (some ⟨rb, 0, none⟩) c) := Lib.hid fun W ho => by
                  have := ahead_any b a r _ cap W ho.o.row (by omega) hrc
                  rw [ho.o.right.not_ahead hlt2 ha HBM.out] at this
                  exact this.mono fun e w' h => ⟨h.1, ho.no h.2⟩
                have hk3 : k2 < (marks r).length := by omega
                clear ha
                have HQd := Lib.hid (HQ.out.no (Turn.refl No _).drew)
                go_upto_region 21 with fail
                have hS0 : wr.drew.cell? ⟨rb, ii, none⟩ = some (.int .i64 b) ∧ wr.drew.cell? ⟨rb, k2, none⟩ = some (.int .i64 a) := ⟨hcb.out _ HQd.out, hca.out _ HQd.out⟩
                go_region_held3 (fun W => W.cell? ⟨rb, ii, none⟩ = some (.int .i64 b) ∧ W.cell? ⟨rb, k2, none⟩ = some (.int .i64 a)) (first | (with_reducible exact hS0) | (with_reducible exact ⟨hcb.out _ ho.out, hca.out _ ho.out⟩)) (first | (go_at_call 26; (with_reducible refine (CA.out _ HQd.out).mono ?_); rintro e w12 ⟨rfl, ho0⟩; have ho := Lib.hid ho0; clear ho0))
                go_wp2_with fail
                exact ⟨⟨k2 + 1, by omega, by go_num, ho⟩, by simp [RowKit.intOf]; omega⟩
              · obtain rfl : k2 = ii := by omega
                obtain ⟨u, v, hu, hv, huv, hz⟩ := HQ.out.o.right.places HBM.out
                have CP : Hid (∀ W kind, Os w1 wx W (some ⟨b0, off, none⟩) r (some ⟨rb, 0, none⟩) c → Calls Try.prog 28 #[.slice (some ⟨b0, off, none⟩) r.length cap, .int .u8 kind, .int .i64 b] W fun r2 w' => r2 = .returned (.int .i64 (placeI (firstAt kind b r))) ∧ w' = W) := Lib.hid fun W kind ho => place_any kind b r _ cap W ho.o.row (by omega)
                have CP1 := CP.out wr 1 HQ.out
                have CP2 := CP.out wr 2 HQ.out
                have CP3 := CP.out wr 3 HQ.out
                rw [hu] at CP1
                rw [hv] at CP2
                simp only [placeI] at CP1 CP2
                have hcell := hcb.out _ HQ.out
                have hzz : ∀ d : Int, d = placeI (firstAt 3 b r) → d = -1 ∨ ((v : Int) < d) := fun d hd => by
                  cases hf : firstAt 3 b r with
                  | none => rw [hf] at hd; exact .inl hd
                  | some z => rw [hf] at hd; have := hz z hf; right; rw [hd]; show (v : Int) < (z : Int); omega
                obtain ⟨d, hd⟩ : ∃ d, placeI (firstAt 3 b r) = d := ⟨_, rfl⟩
                rw [hd] at CP3
                have hdz := hzz d hd.symm
                have CP1 := Lib.hid CP1
                have CP2 := Lib.hid CP2
                have CP3 := Lib.hid CP3
                clear hzz hd hz hu hv CP
                have b1 : decide ((u : Int) < 0) = false := decide_eq_false (by omega)
                have b2 : decide ((v : Int) < (u : Int)) = false := decide_eq_false (by omega)
                have b1' : ¬ ((u : Int) < 0) := by omega
                have b2' : ¬ ((v : Int) < (u : Int)) := by omega
                by_cases hd0 : (0 : Int) ≤ d
                · have b3 : decide ((0 : Int) ≤ d) = true := decide_eq_true hd0
                  have b4 : decide (d < (v : Int)) = false := decide_eq_false (by omega)
                  have b4' : ¬ (d < (v : Int)) := by omega
                  clear hdz
                  go_wp2_with (first | (go_at_call 28; (with_reducible refine CP1.out.mono ?_); rintro e w13 ⟨rfl, rfl⟩) | (go_at_call 28; (with_reducible refine CP2.out.mono ?_); rintro e w13 ⟨rfl, rfl⟩) | (go_at_call 28; (with_reducible refine CP3.out.mono ?_); rintro e w13 ⟨rfl, rfl⟩))
                  exact ⟨⟨k2 + 1, by omega, by go_num, HQ⟩, by simp [RowKit.intOf]; omega⟩
                · have b3 : decide ((0 : Int) ≤ d) = false := decide_eq_false hd0
                  clear hdz
                  go_wp2_with (first | (go_at_call 28; (with_reducible refine CP1.out.mono ?_); rintro e w13 ⟨rfl, rfl⟩) | (go_at_call 28; (with_reducible refine CP2.out.mono ?_); rintro e w13 ⟨rfl, rfl⟩) | (go_at_call 28; (with_reducible refine CP3.out.mono ?_); rintro e w13 ⟨rfl, rfl⟩))
                  exact ⟨⟨k2 + 1, by omega, by go_num, HQ⟩, by simp [RowKit.intOf]; omega⟩
          · obtain rfl : ii = (marks r).length := by omega
            go_wp2_with (go_at_call 9; refine (CW.out _).mono ?_; rintro e w20 ⟨rfl, ht⟩; have HT := Lib.hid ht; clear ht)
            go_ret
            exact ⟨rfl, HP.out.o.tu.trans HT.out⟩

end Go.Proofs.Ythopiamiipmobaa
