/-
  A node's Drop.
-/
import Derived.Test.YtijlcehjlacihaaNsI
namespace Go.Proofs.Ytijlcehjlacihaa
open Go.RowKit Go.Lib
set_option linter.unusedVariables false
set_option maxRecDepth 20000
set_option linter.unusedSimpArgs false

namespace NI

section
variable {w : World} {Z : Dom} {a k : Nat} {L : List (Nat × Int)}
set_option maxHeartbeats 4000000 in
theorem drop_any (h : Nd w Z a k L) (hz : Z ≤ w.heap.size) (b : Nat) (hb : b < 256) :
    Calls Try.prog 13 #[.pointer (some ⟨a, 0, none⟩), .int .u8 (b : Int)] w fun e w' => e = .returned (.bool (getC L b).isSome) ∧ Nd w' Z a (if (getC L b).isSome then kdn L k b else k) (delC L b) ∧ Nz Z w w' := by
  have HND := Lib.hid h
  have hkind := h.kind
  obtain ⟨t, g, hza, hat, hs, hk⟩ := h
  have CN := Lib.hid (now_any hs.kt hat)
  obtain ⟨KG, MG, CG⟩ := hs.get
  have hmG := MG.m
  have heG : ∀ (args : Array Value) (w : World), (callFunc KG args).run Try.prog w = .ok (.enter KG args) w := MG.ent
  have C0 := Lib.hid (CG w (Turn.refl _ _) b hb)
  obtain ⟨KD, MD, CD⟩ := hs.drop
  have hmD := MD.m
  have heD : ∀ (args : Array Value) (w : World), (callFunc KD args).run Try.prog w = .ok (.enter KD args) w := MD.ent
  have HS := Lib.hid hs
  have HAT := Lib.hid (And.intro hza hat)
  have HK := Lib.hid hk
  have HKN := Lib.hid hkind
  have HZZ := Lib.hid hz
  have hasc := hs.asc
  have HST : Hid (∀ (W : World) (t' : TypeId) (g' k' : Nat) (L' : List (Nat × Int)), Nz Z w W → At W a (.cells #[.iface t (.pointer (some ⟨g, 0, none⟩))] 61 (0, 0)) → Sh W Z L' k' t' g' → Kok k' L'.length →
      Nd (W.setCell ⟨a, 0, none⟩ (.iface t' (.pointer (some ⟨g', 0, none⟩)))) Z a k' L' ∧ Nz Z w (W.setCell ⟨a, 0, none⟩ (.iface t' (.pointer (some ⟨g', 0, none⟩))))) := Lib.hid fun W t' g' k' L' T hat' hs' hk' =>
    ⟨⟨t', g', hza, by simpa using hat'.set 0 (.iface t' (.pointer (some ⟨g', 0, none⟩))), hs'.put1 hat' _, hk'⟩, T.trans (Nz.of (Turn.set1 _ _ _ _) fun k _ e => by subst e; exact ⟨hza, _, _, _, hat', .inr rfl⟩)⟩
  clear MG CG MD hk hkind hza hz
  cases hg : getC L b with
  | none =>
    have HDN := Lib.hid (del_none hasc hg)
    rw [hg] at C0
    have C0' : Hid (Calls Try.prog KG #[.pointer (some ⟨g, 0, none⟩), .int .u8 (b : Int)] w fun e w' => e = .returned (.tuple #[Value.int .i64 0, .bool false]) ∧ Turn No w w') := C0
    clear CD hat hs hasc hg C0 hmD heD
    go_enter Try.func13, Try.ntmps13
    go_wp2_with (first | (go_at_call 29; (with_reducible refine CN.out.mono ?_); rintro e w1 ⟨rfl, rfl⟩) | (go_at_fn KG; (with_reducible refine C0'.out.mono ?_); rintro e w1 ⟨rfl, h1⟩; replace h1 := Lib.hid h1))
    go_ret
    refine ⟨rfl, ?_, Nz.no h1.out⟩
    rw [HDN.out]
    exact HND.out.no h1.out
  | some y =>
    rw [hg] at C0
    have C0' : Hid (Calls Try.prog KG #[.pointer (some ⟨g, 0, none⟩), .int .u8 (b : Int)] w fun e w' => e = .returned (.tuple #[Value.int .i64 y, .bool true]) ∧ Turn No w w') := C0
    have C2 := Lib.hid fun W T => CD W T b y hb hg
    have hld := len_del hasc hg
    obtain ⟨n, hn⟩ : ∃ n, (delC L b).length = n := ⟨_, rfl⟩
    rw [hn] at hld
    have HN := Lib.hid (And.intro hn hld)
    have CLE := Lib.hid fun W => leastf_any hs.kt (.pointer (some ⟨g, 0, none⟩)) W
    have HKT := Lib.hid hs.kt
    have HKD : Hid (kdn L k b = if (n : Int) ≤ leastK k then lastK k else k) := Lib.hid (by unfold kdn; rw [hn])
    have HCD : Hid (((n : Int) ≤ leastK k → n ≤ lastK k ∧ Kok (lastK k) n) ∧ (¬ (n : Int) ≤ leastK k → Kok k n)) := Lib.hid (by
      have hle := HK.out.le
      have ha := HK.out.a
      have hb2 := HK.out.b
      have hc := HK.out.c
      rcases HKN.out with e | e | e | e
      · subst e
        refine ⟨fun h => ?_, fun h => ⟨by omega, fun e => absurd e (by decide), fun e => absurd e (by decide), fun e => absurd e (by decide)⟩⟩
        have : leastK 4 = -1 := rfl
        omega
      · subst e
        have : leastK 16 = 3 := rfl
        have h16 := ha rfl
        refine ⟨fun h => ⟨by show n ≤ 4; omega, ⟨by show n ≤ 4; omega, fun e => absurd e (by decide), fun e => absurd e (by decide), fun e => absurd e (by decide)⟩⟩, fun h => ⟨by omega, fun _ => by omega, fun e => absurd e (by decide), fun e => absurd e (by decide)⟩⟩
      · subst e
        have : leastK 48 = 12 := rfl
        have h16 := hb2 rfl
        refine ⟨fun h => ⟨by show n ≤ 16; omega, ⟨by show n ≤ 16; omega, fun _ => by omega, fun e => absurd e (by decide), fun e => absurd e (by decide)⟩⟩, fun h => ⟨by omega, fun e => absurd e (by decide), fun _ => by omega, fun e => absurd e (by decide)⟩⟩
      · subst e
        have : leastK 256 = 36 := rfl
        have h16 := hc rfl
        refine ⟨fun h => ⟨by show n ≤ 48; omega, ⟨by show n ≤ 48; omega, fun e => absurd e (by decide), fun _ => by omega, fun e => absurd e (by decide)⟩⟩, fun h => ⟨by omega, fun e => absurd e (by decide), fun e => absurd e (by decide), fun _ => by omega⟩⟩)
    clear CD hat hs hasc hg C0 hn hld
    go_enter Try.func13, Try.ntmps13
    go_upto_region 6 with (first | (go_at_call 29; (with_reducible refine CN.out.mono ?_); rintro e w1 ⟨rfl, rfl⟩) | (go_at_fn KG; (with_reducible refine C0'.out.mono ?_); rintro e w1 ⟨rfl, h1⟩; replace h1 := Lib.hid h1) | (go_at_fn KD; (with_reducible refine (C2.out _ h1.out).mono ?_); rintro e w2 ⟨rfl, h2⟩; replace h2 := Lib.hid h2))
    obtain ⟨KL, ML, CL⟩ := h2.out.1.len
    have hmL := ML.m
    have heL : ∀ (args : Array Value) (w : World), (callFunc KL args).run Try.prog w = .ok (.enter KL args) w := ML.ent
    have C1 := Lib.hid (CL w2 (Turn.refl _ _))
    rw [HN.out.1] at C1
    have A2 : Hid (At w2 a (.cells #[.iface t (.pointer (some ⟨g, 0, none⟩))] 61 (0, 0))) := Lib.hid (at_node (HAT.out.2.no h1.out) h2.out.2)
    have HZ2 := Lib.hid (Nat.le_trans HZZ.out (Nat.le_trans h1.out.size h2.out.2.size))
    clear ML CL
    by_cases hc : (n : Int) ≤ leastK k
    · have hc1 : decide ((n : Int) ≤ leastK k) = true := decide_eq_true hc
      have CNX := Lib.hid fun W => lastf_any HKT.out (.pointer (some ⟨g, 0, none⟩)) W
      have CMV := Lib.hid fun (W2 : World) (t' : TypeId) (g' : Nat) (hs' : Sh W2 (Dom.of w2.heap.size) [] (lastK k) t' g') (T2 : Turn No w2 W2) => moved_any h2.out.1 hs' T2 (by rw [HN.out.1]; exact (HCD.out.1 hc).1)
      obtain ⟨lk, hlk⟩ : ∃ lk, leastK k = lk := ⟨_, rfl⟩
      rw [hlk] at hc hc1 CLE
      have HLK := Lib.hid hlk
      clear hlk
      go_upto_region 8 with (first | (go_at_fn KL; (with_reducible refine C1.out.mono ?_); rintro e w3 ⟨rfl, rfl⟩) | (go_at_call 33; (with_reducible refine (CLE.out _).mono ?_); rintro e w3 ⟨rfl, rfl⟩) | (go_at_call 34; (with_reducible refine (CNX.out _).mono ?_); rintro e w3 ⟨t', g', rfl, hs', ht'⟩; replace hs' := Lib.hid hs'; replace ht' := Lib.hid ht') | (go_at_call 31; (with_reducible refine (CMV.out _ _ _ hs'.out ht'.out).mono ?_); rintro e w4 ⟨rfl, h4⟩; replace h4 := Lib.hid h4))
      have A4 : Hid (At w4 a (.cells #[.iface t (.pointer (some ⟨g, 0, none⟩))] 61 (0, 0))) := Lib.hid (A2.out.no h4.out.2)
      obtain ⟨c2, f2⟩ := at1 A4.out
      go_wp2_with fail
      go_ret
      have := HST.out w4 t' g' (lastK k) (delC L b) (((Nz.no h1.out).trans (Nz.tz h2.out.2)).trans (Nz.no h4.out.2)) A4.out (Sh.mono h4.out.1 (Dom.le_of HZ2.out)) (by rw [HN.out.1]; exact (HCD.out.1 (by rw [HLK.out]; exact hc)).2)
      refine ⟨rfl, ?_, this.2⟩
      rw [show kdn L k b = lastK k by rw [HKD.out, if_pos (by rw [HLK.out]; exact hc)]]
      exact this.1
    · have hc1 : decide ((n : Int) ≤ leastK k) = false := decide_eq_false hc
      obtain ⟨lk, hlk⟩ : ∃ lk, leastK k = lk := ⟨_, rfl⟩
      rw [hlk] at hc hc1 CLE
      have HLK := Lib.hid hlk
      clear hlk
      go_upto_region 8 with (first | (go_at_fn KL; (with_reducible refine C1.out.mono ?_); rintro e w3 ⟨rfl, rfl⟩) | (go_at_call 33; (with_reducible refine (CLE.out _).mono ?_); rintro e w3 ⟨rfl, rfl⟩))
      obtain ⟨c2, f2⟩ := at1 A2.out
      go_wp2_with fail
      go_ret
      have := HST.out _ t g k (delC L b) ((Nz.no h1.out).trans (Nz.tz h2.out.2)) A2.out h2.out.1 (by rw [HN.out.1]; exact HCD.out.2 (by rw [HLK.out]; omega))
      refine ⟨rfl, ?_, this.2⟩
      rw [show kdn L k b = k by rw [HKD.out, if_neg (by rw [HLK.out]; omega)]]
      exact this.1
end
end NI
end Go.Proofs.Ytijlcehjlacihaa
