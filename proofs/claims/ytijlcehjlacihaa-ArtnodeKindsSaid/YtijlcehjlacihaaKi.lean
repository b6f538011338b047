/-
  ArtnodeKinds: the node beside the map of what each byte was given last.
-/
import Derived.Test.YtijlcehjlacihaaNtI
import Derived.Test.YtijlcehjlacihaaUm
import Derived.Test.YtijlcehjlacihaaWk
import Derived.Test.YtijlcehjlacihaaAg
namespace Go.Proofs.Ytijlcehjlacihaa
open Go.RowKit Go.Lib
set_option linter.unusedVariables false
set_option maxRecDepth 20000
set_option linter.unusedSimpArgs false


theorem u8_keyed : Go.Maps.Keyed Try.prog 5 := Go.Maps.int_keyed Try.underlying5
/-- The law's state: the node, and beside it the map of what each byte was given last. -/
structure KiS (w0 w : World) (a mb k : Nat) (L : List (Nat × Int)) (f : Int → Option Value) : Prop where
  nd : NI.Nd w (Dom.of w0.heap.size) a k L
  mp : IMap Try.prog 5 w mb f L.length
  zm : w0.heap.size ≤ mb
  ag : ∀ b : Nat, b < 256 → f (b : Int) = (getC L b).map fun x => Value.int .i64 x
  tu : Turn No w0 w
theorem nz_noI {w0 w w' : World} (h : Turn No w0 w) (t : NI.Nz (Dom.of w0.heap.size) w w') : Turn No w0 w' := no_of h t fun i hi => Dom.of_ok hi.1
theorem KiS.no {w0 w w' : World} {a mb k : Nat} {L : List (Nat × Int)} {f : Int → Option Value} (h : KiS w0 w a mb k L f) (t : Turn No w w') : KiS w0 w' a mb k L f :=
  ⟨h.nd.no t, h.mp.turn t (fun h => h), h.zm, h.ag, h.tu.trans t⟩
theorem IMap.nz {w w' : World} {Z : Dom} {mb n : Nat} {f : Int → Option Value} (h : IMap Try.prog 5 w mb f n) (t : NI.Nz Z w w') : IMap Try.prog 5 w' mb f n := by
  obtain ⟨es, cl, hat⟩ := h.obj
  exact h.turn t (NI.notn_map hat (fun c t f e => by cases e))
/-- A node beside a map that alone has turned. -/
theorem Nd_map {w w' : World} {Z : Dom} {a k mb : Nat} {L : List (Nat × Int)} (h : NI.Nd w Z a k L) {es : Array MapEntry} {cl : Nat} (hm : At w mb (.map es cl)) (t : Turn (· = mb) w w') : NI.Nd w' Z a k L := by
  obtain ⟨t', g, hz, hat, hs, hk⟩ := h
  have ne : ∀ {g' : Nat} {c : Array Value} {ty : TypeId}, At w g' (.cells c ty (0, 0)) → g' ≠ mb := fun h1 => h1.ne hm (by intro e; cases e)
  have rk : ∀ {A : Option Addr} {n c' : Nat} {xs : List Value} {e : TypeId}, w.ownsRow Z e 1 (.slice A n c') n xs → w'.ownsRow Z e 1 (.slice A n c') n xs := fun h1 => NI.row_keep h1 t fun k hk e => by
    obtain ⟨_, cur, hc⟩ := own_at h1 hk
    exact ne hc e
  refine ⟨t', g, hz, hat.turn t (ne hat), ?_, hk⟩
  rcases hs with ⟨h1, h2, A, B, ca, cb, h⟩ | ⟨h1, h2, A, B, ca, cb, h⟩ | ⟨h1, h2, P, K, A, B, ca, cb, c, h⟩ | ⟨h1, h2, c, h⟩
  · exact .inl ⟨h1, h2, A, B, ca, cb, h.asc, h.byt, h.zg, h.ty, h.at_.turn t (ne h.at_), rk h.bs, rk h.xs⟩
  · exact .inr (.inl ⟨h1, h2, A, B, ca, cb, h.asc, h.byt, h.zg, h.ty, h.at_.turn t (ne h.at_), rk h.bs, rk h.xs⟩)
  · exact .inr (.inr (.inl ⟨h1, h2, P, K, A, B, ca, cb, c, h.asc, h.byt, h.zg, h.at_.turn t (ne h.at_), h.size, h.pl, h.rb, h.rx, rk h.bs, rk h.xs, h.len, h.le, h.zero, h.some_, h.back⟩))
  · exact .inr (.inr (.inr ⟨h1, h2, c, h.asc, h.byt, h.zg, h.at_.turn t (ne h.at_), h.size, h.has, h.thg, h.cnt⟩))
section
variable {w0 w : World} {a mb k : Nat} {L : List (Nat × Int)} {f : Int → Option Value}
/-- Set, and what the map is then told. -/
theorem KiS.set (h : KiS w0 w a mb k L f) (b : Nat) (x : Int) (hb : b < 256) :
    Calls Try.prog 11 #[.pointer (some ⟨a, 0, none⟩), .int .u8 (b : Int), .int .i64 x] w fun e w' => e = .returned (.bool (getC L b).isNone) ∧
      ∃ w2 k', (Instr.mapUpdate 43 (.map (some mb)) (.int .u8 (b : Int)) (.int .i64 x)).run Try.prog w' = .ok () w2 ∧ KiS w0 w2 a mb k' (putC L b x) (put f (b : Int) (.int .i64 x)) := by
  refine (NI.set_any h.nd h.tu.size b x hb).mono fun e w' q => ⟨q.1, ?_⟩
  have hm := IMap.nz h.mp q.2.2
  have hlen : L.length < 1000000 := by have := len_byt h.nd.asc h.nd.byt; omega
  obtain ⟨w2, hr, hm2, t2⟩ := hm.store u8_keyed Try.underlying5 Try.underlying43 (i := (b : Int)) hlen (by simp [Lit.wf]; show IntKind.u8.min ≤ (b : Int) ∧ (b : Int) ≤ IntKind.u8.max; rw [show IntKind.u8.min = 0 by decide, show IntKind.u8.max = 255 by decide]; omega) (.int .i64 x)
  obtain ⟨es, cl, hat⟩ := hm.obj
  have hag := h.ag b hb
  refine ⟨w2, _, hr, Nd_map q.2.1 hat t2, ?_, h.zm, ?_, (nz_noI h.tu q.2.2).then t2 fun i hi e => ?_⟩
  · have e : (putC L b x).length = if (f (b : Int)).isSome then L.length else L.length + 1 := by
      rw [hag]
      cases hg : getC L b with
      | none => exact len_put_new h.nd.asc x hg
      | some y => exact len_put_old h.nd.asc x hg
    rw [e]; exact hm2
  · intro c hc
    rw [get_put h.nd.asc]
    unfold put
    by_cases hcb : c = b
    · rw [if_pos (by omega), if_pos hcb.symm]; rfl
    · rw [if_neg (by omega), if_neg (fun e => hcb e.symm)]; exact h.ag c hc
  · have := h.zm; omega
theorem KiS.drop (h : KiS w0 w a mb k L f) (b : Nat) (hb : b < 256) (ty : TypeId) :
    Calls Try.prog 13 #[.pointer (some ⟨a, 0, none⟩), .int .u8 (b : Int)] w fun e w' => e = .returned (.bool (getC L b).isSome) ∧
      ∃ w2 k', (Builtin.delete_ #[43, 5] ty #[.map (some mb), .int .u8 (b : Int)]).run Try.prog w' = .ok (.tuple #[]) w2 ∧ KiS w0 w2 a mb k' (delC L b) (del f (b : Int)) := by
  refine (NI.drop_any h.nd h.tu.size b hb).mono fun e w' q => ⟨q.1, ?_⟩
  have hm := IMap.nz h.mp q.2.2
  obtain ⟨w2, hr, hm2, t2⟩ := hm.drop u8_keyed Try.underlying5 Try.underlying43 (i := (b : Int)) (by simp [Lit.wf]; show IntKind.u8.min ≤ (b : Int) ∧ (b : Int) ≤ IntKind.u8.max; rw [show IntKind.u8.min = 0 by decide, show IntKind.u8.max = 255 by decide]; omega) ty
  obtain ⟨es, cl, hat⟩ := hm.obj
  have hag := h.ag b hb
  refine ⟨w2, _, hr, Nd_map q.2.1 hat t2, ?_, h.zm, ?_, (nz_noI h.tu q.2.2).then t2 fun i hi e => ?_⟩
  · have e : (delC L b).length = if (f (b : Int)).isSome then L.length - 1 else L.length := by
      rw [hag]
      cases hg : getC L b with
      | none => rw [del_none h.nd.asc hg]; rfl
      | some y => have := len_del h.nd.asc hg; show (delC L b).length = L.length - 1; omega
    rw [e]; exact hm2
  · intro c hc
    rw [get_del h.nd.asc]
    unfold del
    by_cases hcb : c = b
    · rw [if_pos (by omega), if_pos hcb.symm]; rfl
    · rw [if_neg (by omega), if_neg (fun e => hcb e.symm)]; exact h.ag c hc
  · have := h.zm; omega
theorem KiS.look (h : KiS w0 w a mb k L f) (b : Nat) (hb : b < 256) :
    (Instr.lookup 43 (.map (some mb)) (.int .u8 (b : Int)) true).run Try.prog w = .ok (.tuple #[.int .i64 ((getC L b).getD 0), .bool (getC L b).isSome]) w := by
  have := h.mp.look u8_keyed Try.underlying5 Try.underlying43 (i := (b : Int)) (Try.zeroValue3 w) (by simp [Lit.wf]; show IntKind.u8.min ≤ (b : Int) ∧ (b : Int) ≤ IntKind.u8.max; rw [show IntKind.u8.min = 0 by decide, show IntKind.u8.max = 255 by decide]; omega)
  rw [this, h.ag b hb]
  cases getC L b <;> rfl
end
end Go.Proofs.Ytijlcehjlacihaa
