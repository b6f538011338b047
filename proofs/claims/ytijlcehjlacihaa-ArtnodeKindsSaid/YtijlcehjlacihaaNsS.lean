/-
  A node's Set and Drop.
-/
import Derived.Test.YtijlcehjlacihaaNoS
namespace Go.Proofs.Ytijlcehjlacihaa
open Go.RowKit Go.Lib
set_option linter.unusedVariables false
set_option maxRecDepth 20000
set_option linter.unusedSimpArgs false

namespace NS

/-- The kind behind a Set, a Drop. -/
def kup (L : List (Nat × ByteArray)) (k b : Nat) : Nat := if getC L b = none ∧ L.length = k then nextK k else k
def kdn (L : List (Nat × ByteArray)) (k b : Nat) : Nat := if ((delC L b).length : Int) ≤ leastK k then lastK k else k
/-- A block from Z on that can be a node's, or its shape's. -/
def MineN (Z : Dom) (w : World) (g : Nat) : Prop := Z.ok g ∧ ∃ c t f, At w g (.cells c t f) ∧ (t ∈ tys ∨ t = 82)
def Nz (Z : Dom) (w w' : World) : Prop := Turn (MineN Z w) w w'
theorem Nz.refl (Z : Dom) (w : World) : Nz Z w w := Turn.refl _ w
theorem Nz.of {X : Nat → Prop} {Z : Dom} {w w' : World} (h : Turn X w w') (hX : ∀ k, k < w.heap.size → X k → MineN Z w k) : Nz Z w w' := h.mono hX
theorem Nz.trans {Z : Dom} {a b c : World} (h : Nz Z a b) (k : Nz Z b c) : Nz Z a c := by
  refine Turn.then (Y := MineN Z b) h k fun i hi hm => Classical.byContradiction fun hn => hn ?_
  have := h.block i hi hn
  obtain ⟨hz, cc, t, f, hat, ht⟩ := hm
  exact ⟨hz, cc, t, f, by unfold At at hat ⊢; rw [← this]; exact hat, ht⟩
theorem Nz.no {Z : Dom} {w w' : World} (h : Turn No w w') : Nz Z w w' := Nz.of h fun _ _ hk => hk.elim
theorem Nz.tz {Z : Dom} {w w' : World} (h : Tz Z w w') : Nz Z w w' := Nz.of h fun _ _ ⟨h1, c, t, f, h2, h3⟩ => ⟨h1, c, t, f, h2, .inl h3⟩
theorem At.nz {Z : Dom} {w w' : World} {g : Nat} {o : Obj} (h : At w g o) (k : Nz Z w w') (hn : ¬ MineN Z w g) : At w' g o := h.turn k hn
theorem notn_lt {Z : Dom} {w : World} {g : Nat} (h : ¬ Z.ok g) : ¬ MineN Z w g := fun m => h m.1
theorem notn_ty {Z : Dom} {w : World} {g : Nat} {c : Array Value} {t : TypeId} {f : Nat × Nat} (h : At w g (.cells c t f)) (ht : t ∉ tys) (hn : t ≠ 82) : ¬ MineN Z w g := fun m => by
  obtain ⟨_, c', t', f', h', ht'⟩ := m
  have := h.eq h'
  injection this with _ e _
  subst e
  rcases ht' with ht' | ht'
  · exact ht ht'
  · exact hn ht'
theorem notn_map {Z : Dom} {w : World} {g : Nat} {o : Obj} (h : At w g o) (ho : ∀ c t f, o ≠ .cells c t f) : ¬ MineN Z w g := fun m => by
  obtain ⟨_, c', t', f', h', _⟩ := m
  exact ho _ _ _ (h.eq h')
theorem at_node {w W : World} {Z : Dom} {a : Nat} {c : Array Value} (h : At w a (.cells c 82 (0, 0))) (T : Tz Z w W) : At W a (.cells c 82 (0, 0)) := At.tz h T (not_mine_ty h (by decide))
theorem Sh.put1 {w : World} {Z : Dom} {k g a : Nat} {t : TypeId} {L : List (Nat × ByteArray)} (h : Sh w Z L k t g) {c : Array Value} (hat : At w a (.cells c 82 (0, 0))) (v : Value) : Sh (w.setCell ⟨a, 0, none⟩ v) Z L k t g := by
  have T := Turn.set1 w a 0 v
  have ne : ∀ {g' : Nat} {c' : Array Value} {t' : TypeId}, At w g' (.cells c' t' (0, 0)) → t' ≠ 82 → g' ≠ a := fun h1 hn => h1.ne hat (by intro e; injection e with _ e _; exact hn e)
  have rk : ∀ {A : Option Addr} {n c' : Nat} {xs : List Value} {e : TypeId}, w.ownsRow Z e 1 (.slice A n c') n xs → 82 ≠ e → (w.setCell ⟨a, 0, none⟩ v).ownsRow Z e 1 (.slice A n c') n xs := fun h1 hn => row_keep h1 T fun k hk e => ablk_ne h1 hat hn (e ▸ hk)
  rcases h with ⟨h1, h2, A, B, ca, cb, h⟩ | ⟨h1, h2, A, B, ca, cb, h⟩ | ⟨h1, h2, P, K, A, B, ca, cb, c, h⟩ | ⟨h1, h2, c, h⟩
  · exact .inl ⟨h1, h2, A, B, ca, cb, h.asc, h.byt, h.zg, h.ty, h.at_.turn T (ne h.at_ (by decide)), rk h.bs (by decide), rk h.xs (by decide)⟩
  · exact .inr (.inl ⟨h1, h2, A, B, ca, cb, h.asc, h.byt, h.zg, h.ty, h.at_.turn T (ne h.at_ (by decide)), rk h.bs (by decide), rk h.xs (by decide)⟩)
  · exact .inr (.inr (.inl ⟨h1, h2, P, K, A, B, ca, cb, c, h.asc, h.byt, h.zg, h.at_.turn T (ne h.at_ (by decide)), h.size, h.pl, h.rb, h.rx, rk h.bs (by decide), rk h.xs (by decide), h.len, h.le, h.zero, h.some_, h.back⟩))
  · exact .inr (.inr (.inr ⟨h1, h2, c, h.asc, h.byt, h.zg, h.at_.turn T (ne h.at_ (by decide)), h.size, h.has, h.thg, h.cnt⟩))
section
variable {w : World} {Z : Dom} {a k : Nat} {L : List (Nat × ByteArray)}
set_option maxHeartbeats 4000000 in
theorem set_any (h : Nd w Z a k L) (hz : Z ≤ w.heap.size) (b : Nat) (x : ByteArray) (hb : b < 256) :
    Calls Try.prog 24 #[.pointer (some ⟨a, 0, none⟩), .int .u8 (b : Int), Value.string x] w fun e w' => e = .returned (.bool (getC L b).isNone) ∧ Nd w' Z a (kup L k b) (putC L b x) ∧ Nz Z w w' := by
  have hkind := h.kind
  obtain ⟨t, g, hza, hat, hs, hk⟩ := h
  have CN := Lib.hid (now_any hs.kt hat)
  obtain ⟨KG, MG, CG⟩ := hs.get
  have hmG := MG.m
  have heG : ∀ (args : Array Value) (w : World), (callFunc KG args).run Try.prog w = .ok (.enter KG args) w := MG.ent
  have C0 := Lib.hid (CG w (Turn.refl _ _) b hb)
  obtain ⟨KL, ML, CL⟩ := hs.len
  have hmL := ML.m
  have heL : ∀ (args : Array Value) (w : World), (callFunc KL args).run Try.prog w = .ok (.enter KL args) w := ML.ent
  have C1 := Lib.hid CL
  have CK := Lib.hid fun W => kindf_any hs.kt (.pointer (some ⟨g, 0, none⟩)) W
  obtain ⟨KS, MS, CS⟩ := hs.set hz
  have hmS := MS.m
  have heS : ∀ (args : Array Value) (w : World), (callFunc KS args).run Try.prog w = .ok (.enter KS args) w := MS.ent
  have HS := Lib.hid hs
  have HZZ := Lib.hid hz
  have HAT := Lib.hid (And.intro hza hat)
  have HK := Lib.hid hk
  have HKN := Lib.hid hkind
  have hasc := hs.asc
  -- what the store into the node leaves
  have HST : Hid (∀ (W : World) (t' : TypeId) (g' k' : Nat) (L' : List (Nat × ByteArray)), Nz Z w W → At W a (.cells #[.iface t (.pointer (some ⟨g, 0, none⟩))] 82 (0, 0)) → Sh W Z L' k' t' g' → Kok k' L'.length →
      Nd (W.setCell ⟨a, 0, none⟩ (.iface t' (.pointer (some ⟨g', 0, none⟩)))) Z a k' L' ∧ Nz Z w (W.setCell ⟨a, 0, none⟩ (.iface t' (.pointer (some ⟨g', 0, none⟩))))) := Lib.hid fun W t' g' k' L' T hat' hs' hk' =>
    ⟨⟨t', g', hza, by simpa using hat'.set 0 (.iface t' (.pointer (some ⟨g', 0, none⟩))), hs'.put1 hat' _, hk'⟩, T.trans (Nz.of (Turn.set1 _ _ _ _) fun k _ e => by subst e; exact ⟨hza, _, _, _, hat', .inr rfl⟩)⟩
  clear MG CG ML CL MS hk hkind hza hz
  cases hg : getC L b with
  | some y =>
    have C2 := Lib.hid fun W T => CS W T b x hb (fun e => by rw [hg] at e; cases e)
    have HKU : Hid (kup L k b = k ∧ (putC L b x).length = L.length) := Lib.hid ⟨by unfold kup; rw [if_neg (fun e => by rw [hg] at e; cases e.1)], len_put_old hasc x hg⟩
    rw [hg] at C0
    have C0' : Hid (Calls Try.prog KG #[.pointer (some ⟨g, 0, none⟩), .int .u8 (b : Int)] w fun e w' => e = .returned (.tuple #[Value.string y, .bool true]) ∧ Turn No w w') := C0
    clear CS hat hs hasc hg C0
    go_enter Try.func24, Try.ntmps24
    go_upto_region 8 with (first | (go_at_call 40; (with_reducible refine CN.out.mono ?_); rintro e w1 ⟨rfl, rfl⟩) | (go_at_fn KG; (with_reducible refine C0'.out.mono ?_); rintro e w1 ⟨rfl, h1⟩; replace h1 := Lib.hid h1) | (go_at_fn KS; (with_reducible refine (C2.out _ h1.out).mono ?_); rintro e w2 ⟨rfl, h2⟩; replace h2 := Lib.hid h2))
    have A2 : Hid (At w2 a (.cells #[.iface t (.pointer (some ⟨g, 0, none⟩))] 82 (0, 0))) := Lib.hid (at_node (HAT.out.2.no h1.out) h2.out.2)
    obtain ⟨c2, f2⟩ := at1 A2.out
    go_wp2_with fail
    go_ret
    have := HST.out w2 t g k (putC L b x) ((Nz.no h1.out).trans (Nz.tz h2.out.2)) A2.out h2.out.1 (by rw [HKU.out.2]; exact HK.out)
    rw [HKU.out.1]
    exact ⟨rfl, this⟩
  | none =>
    rw [hg] at C0
    have C0' : Hid (Calls Try.prog KG #[.pointer (some ⟨g, 0, none⟩), .int .u8 (b : Int)] w fun e w' => e = .returned (.tuple #[Value.string ⟨#[]⟩, .bool false]) ∧ Turn No w w') := C0
    have hlp := len_put_new hasc x hg
    by_cases hf : L.length = k
    · have HKU : Hid (kup L k b = nextK k ∧ (putC L b x).length = k + 1) := Lib.hid ⟨by unfold kup; rw [if_pos ⟨hg, hf⟩], by rw [hlp, hf]⟩
      have hk256 : k ≠ 256 := fun e => by
        have := len_byt (asc_put hasc b x) (byt_put hs.byt hb x)
        omega
      have HNK : Hid (k ≤ nextK k ∧ k + 1 ≤ nextK k ∧ Kok (nextK k) (k + 1)) := Lib.hid (by
        rcases HKN.out with e | e | e | e
        · subst e; exact ⟨by decide, by decide, ⟨by decide, by decide, by decide, by decide⟩⟩
        · subst e; exact ⟨by decide, by decide, ⟨by decide, by decide, by decide, by decide⟩⟩
        · subst e; exact ⟨by decide, by decide, ⟨by decide, by decide, by decide, by decide⟩⟩
        · exact absurd e hk256)
      have CNX := Lib.hid fun W => nextf_any hs.kt (.pointer (some ⟨g, 0, none⟩)) W
      have CMV := Lib.hid fun (W : World) (T : Turn No w W) (W2 : World) (t' : TypeId) (g' : Nat) (hs' : Sh W2 (Dom.of W.heap.size) [] (nextK k) t' g') (T2 : Turn No W W2) => moved_any (hs.no T) hs' T2 (by rw [hf]; exact HNK.out.1)
      have HHG : Hid (getC L b = none ∧ L.length = k) := Lib.hid ⟨hg, hf⟩
      rw [hf] at C1
      clear CS hat hs hasc hg C0 hlp hf hk256 hmS heS
      go_enter Try.func24, Try.ntmps24
      go_upto_region 7 with (first | (go_at_call 40; (with_reducible refine CN.out.mono ?_); rintro e w1 ⟨rfl, rfl⟩) | (go_at_fn KG; (with_reducible refine C0'.out.mono ?_); rintro e w1 ⟨rfl, h1⟩; replace h1 := Lib.hid h1) | (go_at_fn KL; (with_reducible refine (C1.out _ h1.out).mono ?_); rintro e w2 ⟨rfl, rfl⟩) | (go_at_call 39; (with_reducible refine (CK.out _).mono ?_); rintro e w2 ⟨rfl, rfl⟩) | (go_at_call 42; (with_reducible refine (CNX.out _).mono ?_); rintro e w2 ⟨t', g', rfl, hs', ht'⟩; replace hs' := Lib.hid hs'; replace ht' := Lib.hid ht') | (go_at_call 41; (with_reducible refine (CMV.out _ h1.out _ _ _ hs'.out ht'.out).mono ?_); rintro e w3 ⟨rfl, h3⟩; replace h3 := Lib.hid h3))
      have HZ := Lib.hid (Nat.le_trans HZZ.out h1.out.size)
      obtain ⟨KS, MS, CS⟩ := Sh.set h3.out.1 h3.out.2.size
      have hmS := MS.m
      have heS : ∀ (args : Array Value) (w : World), (callFunc KS args).run Try.prog w = .ok (.enter KS args) w := MS.ent
      have C2 := Lib.hid (CS _ (Turn.refl _ _) b x hb (fun _ => by rw [HHG.out.2]; exact HNK.out.2.1))
      clear MS CS
      go_upto_region 8 with (go_at_fn KS; (with_reducible refine C2.out.mono ?_); rintro e w4 ⟨rfl, h4⟩; replace h4 := Lib.hid h4)
      have A4 : Hid (At w4 a (.cells #[.iface t (.pointer (some ⟨g, 0, none⟩))] 82 (0, 0))) := Lib.hid (by
        have h := HAT.out.2.no (h1.out.trans h3.out.2)
        exact At.tz h h4.out.2 (not_mine_lt (Dom.not_ok (HAT.out.2.no h1.out).lt)))
      obtain ⟨c2, f2⟩ := at1 A4.out
      go_wp2_with fail
      go_ret
      have := HST.out w4 t' g' (nextK k) (putC L b x) ((Nz.no (h1.out.trans h3.out.2)).trans (Nz.tz (Tz.mono h4.out.2 (Dom.le_of HZ.out)))) A4.out (Sh.mono h4.out.1 (Dom.le_of HZ.out)) (by rw [HKU.out.2]; exact HNK.out.2.2)
      rw [HKU.out.1]
      exact ⟨rfl, this⟩
    · have hf2 : ¬ ((L.length : Int) = (k : Int)) := by omega
      have hlk := HK.out.le
      have C2 := Lib.hid fun W T => CS W T b x hb (fun _ => by omega)
      have HKU : Hid (kup L k b = k ∧ Kok k (putC L b x).length) := Lib.hid ⟨by unfold kup; rw [if_neg (fun e => hf e.2)], by
        rw [hlp]
        exact ⟨by omega, fun e => by have := HK.out.a e; omega, fun e => by have := HK.out.b e; omega, fun e => by have := HK.out.c e; omega⟩⟩
      clear CS hat hs hasc hg C0 hlp hf hlk
      obtain ⟨n, hn⟩ : ∃ n, L.length = n := ⟨_, rfl⟩
      rw [hn] at C1 hf2
      clear hn
      go_enter Try.func24, Try.ntmps24
      go_upto_region 8 with (first | (go_at_call 40; (with_reducible refine CN.out.mono ?_); rintro e w1 ⟨rfl, rfl⟩) | (go_at_fn KG; (with_reducible refine C0'.out.mono ?_); rintro e w1 ⟨rfl, h1⟩; replace h1 := Lib.hid h1) | (go_at_fn KL; (with_reducible refine (C1.out _ h1.out).mono ?_); rintro e w2 ⟨rfl, rfl⟩) | (go_at_call 39; (with_reducible refine (CK.out _).mono ?_); rintro e w2 ⟨rfl, rfl⟩) | (go_at_fn KS; (with_reducible refine (C2.out _ h1.out).mono ?_); rintro e w2 ⟨rfl, h2⟩; replace h2 := Lib.hid h2))
      have A2 : Hid (At w2 a (.cells #[.iface t (.pointer (some ⟨g, 0, none⟩))] 82 (0, 0))) := Lib.hid (at_node (HAT.out.2.no h1.out) h2.out.2)
      obtain ⟨c2, f2⟩ := at1 A2.out
      go_wp2_with fail
      go_ret
      have := HST.out w2 t g k (putC L b x) ((Nz.no h1.out).trans (Nz.tz h2.out.2)) A2.out h2.out.1 HKU.out.2
      rw [HKU.out.1]
      exact ⟨rfl, this⟩
end
end NS
end Go.Proofs.Ytijlcehjlacihaa
