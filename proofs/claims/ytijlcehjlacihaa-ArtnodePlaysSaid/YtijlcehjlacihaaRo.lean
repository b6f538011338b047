/-
  ArtnodeRows: what a node that was only given children is.
-/
import Derived.Test.YtijlcehjlacihaaNtI
import Derived.Test.YtijlcehjlacihaaWk
import Derived.Test.YtijlcehjlacihaaAg
namespace Go.Proofs.Ytijlcehjlacihaa
open Go.RowKit Go.Lib
set_option linter.unusedVariables false
set_option maxRecDepth 20000
set_option linter.unusedSimpArgs false


theorem tmod_fitN (x : Int) {n : Int} (hn : 0 < n) : -n < x.tmod n ∧ x.tmod n < n := by
  refine ⟨?_, Int.tmod_lt_of_pos x hn⟩
  have := Int.tmod_lt_of_pos (-x) hn
  rw [Int.neg_tmod] at this
  omega
/-- The kind of a node that was only given children. -/
def kfit (n : Nat) : Nat := if n ≤ 4 then 4 else if n ≤ 16 then 16 else if n ≤ 48 then 48 else 256
theorem kfit_next {n : Nat} (hn : n ≤ 256) : kfit (n + 1) = if n = kfit n then NI.nextK (kfit n) else kfit n := by
  unfold kfit NI.nextK
  by_cases h1 : n ≤ 4
  · by_cases h2 : n = 4
    · subst h2; decide
    · rw [if_pos h1, if_pos (show n + 1 ≤ 4 by omega), if_neg h2]
  · rw [if_neg h1, if_neg (show ¬ n + 1 ≤ 4 by omega)]
    by_cases h3 : n ≤ 16
    · by_cases h2 : n = 16
      · subst h2; decide
      · rw [if_pos h3, if_pos (show n + 1 ≤ 16 by omega), if_neg h2]
    · rw [if_neg h3, if_neg (show ¬ n + 1 ≤ 16 by omega)]
      by_cases h4 : n ≤ 48
      · by_cases h2 : n = 48
        · subst h2; decide
        · rw [if_pos h4, if_pos (show n + 1 ≤ 48 by omega), if_neg h2]
      · rw [if_neg h4, if_neg (show ¬ n + 1 ≤ 48 by omega)]
        by_cases h2 : n = 256
        · rw [if_pos h2]; rfl
        · rw [if_neg h2]
/-- A node that has three times the byte for just the bytes of S, and that was only given children. -/
structure Tri (w : World) (Z : Dom) (a : Nat) (L : List (Nat × Int)) (S : Nat → Prop) : Prop where
  nd : NI.Nd w Z a (kfit L.length) L
  val : ∀ b x, getC L b = some x → x = (b : Int) * 3
  dom : ∀ b, (getC L b).isSome = true ↔ S b
theorem Tri.no {w w' : World} {Z : Dom} {a : Nat} {L : List (Nat × Int)} {S : Nat → Prop} (h : Tri w Z a L S) (t : Turn No w w') : Tri w' Z a L S := ⟨h.nd.no t, h.val, h.dom⟩
theorem Tri.put {w : World} {Z : Dom} {a : Nat} {L : List (Nat × Int)} {S : Nat → Prop} (h : Tri w Z a L S) (hz : Z ≤ w.heap.size) (b : Nat) (hb : b < 256) :
    Calls Try.prog 11 #[.pointer (some ⟨a, 0, none⟩), .int .u8 (b : Int), .int .i64 ((b : Int) * 3)] w fun e w' => e = .returned (.bool (getC L b).isNone) ∧ Tri w' Z a (putC L b ((b : Int) * 3)) (fun c => c = b ∨ S c) ∧ NI.Nz Z w w' := by
  refine (NI.set_any h.nd hz b ((b : Int) * 3) hb).mono fun e w' q => ⟨q.1, ⟨?_, ?_, ?_⟩, q.2.2⟩
  · have e : NI.kup L (kfit L.length) b = kfit (putC L b ((b : Int) * 3)).length := by
      unfold NI.kup
      cases hg : getC L b with
      | none =>
        rw [len_put_new h.nd.asc _ hg, kfit_next (len_byt h.nd.asc h.nd.byt)]
        by_cases hf : L.length = kfit L.length
        · rw [if_pos ⟨rfl, hf⟩, if_pos hf]
        · rw [if_neg (fun e => hf e.2), if_neg hf]
      | some y => rw [len_put_old h.nd.asc _ hg, if_neg (fun e => by cases e.1)]
    rw [← e]
    exact q.2.1
  · intro c x hc
    rw [get_put h.nd.asc] at hc
    by_cases hbc : b = c
    · rw [if_pos hbc] at hc
      injection hc with hc
      rw [← hc, hbc]
    · rw [if_neg hbc] at hc
      exact h.val c x hc
  · intro c
    rw [get_put h.nd.asc]
    by_cases hbc : b = c
    · rw [if_pos hbc]
      exact ⟨fun _ => .inl hbc.symm, fun _ => rfl⟩
    · rw [if_neg hbc]
      exact ⟨fun e => .inr ((h.dom c).1 e), fun e => (h.dom c).2 (e.resolve_left fun e => hbc e.symm)⟩
theorem Tri.of {w : World} {Z : Dom} {a : Nat} {L : List (Nat × Int)} {S S' : Nat → Prop} (h : Tri w Z a L S) (hs : ∀ b, S b ↔ S' b) : Tri w Z a L S' := ⟨h.nd, h.val, fun b => (h.dom b).trans (hs b)⟩
/-- Two such nodes with the same bytes have the same children. -/
theorem Tri.same {w w' : World} {Z Z' : Dom} {a a' : Nat} {L L' : List (Nat × Int)} {S S' : Nat → Prop} (h : Tri w Z a L S) (h' : Tri w' Z' a' L' S') (hs : ∀ b, S b ↔ S' b) : L = L' := by
  refine asc_ext h.nd.asc h'.nd.asc fun b => ?_
  have e := (h.dom b).trans ((hs b).trans (h'.dom b).symm)
  cases hg : getC L b with
  | none =>
    cases hg' : getC L' b with
    | none => rfl
    | some y => rw [hg, hg'] at e; exact absurd (e.2 rfl) (by simp)
  | some x =>
    cases hg' : getC L' b with
    | none => rw [hg, hg'] at e; exact absurd (e.1 rfl) (by simp)
    | some y => rw [h.val b x hg, h'.val b y hg']
theorem Nd_keep {w w' : World} {Z : Dom} {a k : Nat} {L : List (Nat × Int)} (h : NI.Nd w Z a k L) {X : Nat → Prop} (t : Turn X w w') (hX : ∀ g, g < w.heap.size → Z.ok g → ¬ X g) : NI.Nd w' Z a k L := by
  obtain ⟨t', g, hz, hat, hs, hk⟩ := h
  have rk : ∀ {A : Option Addr} {n c' : Nat} {xs : List Value} {e : TypeId}, w.ownsRow Z e 1 (.slice A n c') n xs → w'.ownsRow Z e 1 (.slice A n c') n xs := fun h1 => NI.row_keep h1 t fun k hk => hX k (NI.own_lt h1 hk) (.inl (own_at h1 hk).1)
  refine ⟨t', g, hz, hat.turn t (hX _ hat.lt hz), ?_, hk⟩
  rcases hs with ⟨h1, h2, A, B, ca, cb, h⟩ | ⟨h1, h2, A, B, ca, cb, h⟩ | ⟨h1, h2, P, K, A, B, ca, cb, c, h⟩ | ⟨h1, h2, c, h⟩
  · exact .inl ⟨h1, h2, A, B, ca, cb, h.asc, h.byt, h.zg, h.ty, h.at_.turn t (hX _ h.at_.lt h.zg), rk h.bs, rk h.xs⟩
  · exact .inr (.inl ⟨h1, h2, A, B, ca, cb, h.asc, h.byt, h.zg, h.ty, h.at_.turn t (hX _ h.at_.lt h.zg), rk h.bs, rk h.xs⟩)
  · exact .inr (.inr (.inl ⟨h1, h2, P, K, A, B, ca, cb, c, h.asc, h.byt, h.zg, h.at_.turn t (hX _ h.at_.lt h.zg), h.size, h.pl, h.rb, h.rx, rk h.bs, rk h.xs, h.len, h.le, h.zero, h.some_, h.back⟩))
  · exact .inr (.inr (.inr ⟨h1, h2, c, h.asc, h.byt, h.zg, h.at_.turn t (hX _ h.at_.lt h.zg), h.size, h.has, h.thg, h.cnt⟩))
theorem Tri.keep {w w' : World} {Z : Dom} {a : Nat} {L : List (Nat × Int)} {S : Nat → Prop} (h : Tri w Z a L S) {X : Nat → Prop} (t : Turn X w w') (hX : ∀ g, g < w.heap.size → Z.ok g → ¬ X g) : Tri w' Z a L S := ⟨Nd_keep h.nd t hX, h.val, h.dom⟩
theorem nz_noR {w0 w w' : World} (h : Turn No w0 w) (t : NI.Nz (Dom.of w0.heap.size) w w') : Turn No w0 w' := no_of h t fun i hi => Dom.of_ok hi.1
end Go.Proofs.Ytijlcehjlacihaa
