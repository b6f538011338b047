/-
  What the methods of a pool come to: setFree, giveBack, take (and math/bits.TrailingZeros64, whose table is where it was laid).
-/
import Derived.Test.YtbdfbgkfhaiccaaDoorProg
import Derived.Test.YtbdfbgkfhaiccaaDoorMem
import Derived.Test.YtbdfbgkfhaiccaaDoorBits
import Derived.WalkKit
import Derived.WalkSpells
import Derived.WalkLawsBesides
import Derived.Deep.QuietTactic
import Derived.BigQuiet
import Derived.RegionTactic
import Derived.BigRegion
import Derived.ChangeAlike
import Derived.Laws.Bits64b
import Derived.Lib.Hide
import Derived.Outline
namespace Go.Proofs.YtbdfbgkfhaiccaaDoor
open Go.RowKit
set_option linter.unusedVariables false

def u64s (l : List Nat) : Array Value := (l.map fun (x : Nat) => Value.int .u64 (x : Int)).toArray
theorem u64s_at (l : List Nat) (i : Nat) (h : i < l.length) : (u64s l)[i]? = some (.int .u64 (l.getD i 0 : Nat)) := by
  simp [u64s, h]
theorem u64s_set (l : List Nat) (i x : Nat) : (u64s l).setIfInBounds i (.int .u64 (x : Int)) = u64s (l.set i x) := by
  simp [u64s, List.map_set]

/-- A pool: its two slices' blocks, its slots' generations, and which slots are free. -/
def Pool (w : World) (pb gb fb : Nat) (G : List Nat) (fr : Nat → Bool) : Prop :=
  ∃ F : List Nat, At w pb (.cells #[.slice (some ⟨gb, 0, none⟩) G.length G.length, .slice (some ⟨fb, 0, none⟩) F.length F.length] 85 (0, 0)) ∧
    At w gb (.cells (u64s G) 30 (0, 0)) ∧ At w fb (.cells (u64s F) 30 (0, 0)) ∧ gb ≠ fb ∧
    (∀ x ∈ G, x < 18446744073709551616) ∧ (∀ x ∈ F, x < 18446744073709551616) ∧ F.length = (G.length + 63) / 64 ∧ 1 ≤ G.length ∧ G.length ≤ 4096 ∧ (∀ x, bitAt F x = fr x) ∧ ∀ x, fr x = true → x < G.length

theorem getD_lt {l : List Nat} (h : ∀ x ∈ l, x < 18446744073709551616) (i : Nat) : l.getD i 0 < 18446744073709551616 := by
  rw [List.getD_eq_getElem?_getD]
  rcases Nat.lt_or_ge i l.length with h1 | h1
  · rw [List.getElem?_eq_getElem h1]; exact h _ (List.getElem_mem h1)
  · rw [List.getElem?_eq_none h1]; simp
theorem set_all {l : List Nat} (h : ∀ x ∈ l, x < 18446744073709551616) (i u : Nat) (hu : u < 18446744073709551616) : ∀ x ∈ l.set i u, x < 18446744073709551616 := by
  intro x hx
  rcases List.mem_or_eq_of_mem_set hx with h1 | h1
  · exact h x h1
  · rw [h1]; exact hu

theorem Pool.lt {w : World} {pb gb fb : Nat} {G : List Nat} {fr : Nat → Bool} (h : Pool w pb gb fb G fr) : pb < w.heap.size ∧ gb < w.heap.size ∧ fb < w.heap.size := by
  obtain ⟨F, hp, hg, hf, _⟩ := h
  exact ⟨hp.lt, hg.lt, hf.lt⟩
theorem Pool.turn {X : Nat → Prop} {w w' : World} {pb gb fb : Nat} {G : List Nat} {fr : Nat → Bool} (h : Pool w pb gb fb G fr) (t : Turn X w w') (h1 : ¬ X pb) (h2 : ¬ X gb) (h3 : ¬ X fb) : Pool w' pb gb fb G fr := by
  obtain ⟨F, hp, hg, hf, r⟩ := h
  exact ⟨F, hp.turn t h1, hg.turn t h2, hf.turn t h3, r⟩

theorem setFree_w (pb fb s nf v : Nat) (w : World) (hs : s < 4096) (hn : s / 64 < nf) (hnf : nf ≤ 64)
    (h1 : w.cell? ⟨pb, 1, none⟩ = some (.slice (some ⟨fb, 0, none⟩) nf nf)) (h2 : w.cell? ⟨fb, s / 64, none⟩ = some (.int .u64 v)) (h3 : w.frozen? ⟨fb, s / 64, none⟩ = false) :
    Calls Tryd.prog 34 #[.pointer (some ⟨pb, 0, none⟩), .int .i64 s] w fun e w' => e = .returned (.tuple #[]) ∧ w' = (w.setCell ⟨fb, s / 64, none⟩ (.int .u64 (bits BinOp.or IntKind.u64 (v : Int) (IntKind.u64.wrap (2 ^ (s % 64)))))).drew := by
  have b1 : (0 : Int) ≤ (s : Int) := by omega
  have b2 : (0 : Int) ≤ (s : Int) / 64 := by omega
  have b3 : (s : Int) / 64 < (nf : Int) := by omega
  have b4 : (0 : Int) ≤ (s : Int) % 64 := by omega
  have b5 : (s : Int) % 64 < 64 := by omega
  go_enter Tryd.func34, Tryd.ntmps34
  go_wp2
  go_region
  all_goals go_wp2
  go_end0
  exact ⟨rfl, rfl⟩

theorem or_val (v t : Nat) (hv : v < 18446744073709551616) (ht : t < 64) : bits BinOp.or IntKind.u64 (v : Int) (IntKind.u64.wrap (2 ^ t)) = ((v ||| 2 ^ t : Nat) : Int) := by
  have h : 2 ^ t < 18446744073709551616 := by
    have := Nat.pow_lt_pow_right (a := 2) (by omega) ht
    simpa using this
  have e : IntKind.u64.wrap (2 ^ t) = ((2 ^ t : Nat) : Int) := by
    rw [IntKind.wrap_u64]
    have : ((2 : Int) ^ t) = ((2 ^ t : Nat) : Int) := by simp
    rw [this]
    generalize 2 ^ t = q at h
    omega
  rw [e, bits_or_u64_nat v _ hv h]

theorem setFree_any {pb gb fb s : Nat} {G : List Nat} {fr : Nat → Bool} {w : World} (h : Pool w pb gb fb G fr) (hs : s < G.length) :
    Calls Tryd.prog 34 #[.pointer (some ⟨pb, 0, none⟩), .int .i64 s] w fun e w' => e = .returned (.tuple #[]) ∧ Pool w' pb gb fb G (fun x => fr x || x == s) ∧ Turn (· = fb) w w' := by
  obtain ⟨F, hp, hg, hf, hne, hG, hF, hlen, h1, h2, hb, hlt⟩ := h
  have hn : s / 64 < F.length := by omega
  have hpf : pb ≠ fb := hp.ne hf (by intro e; injection e with _ e; cases e)
  refine (setFree_w pb fb s F.length (F.getD (s / 64) 0) w (by omega) hn (by omega) (hp.cell 1) ((hf.cell _).trans (u64s_at F _ hn)) (hf.thawed _)).mono ?_
  rintro e w' ⟨rfl, rfl⟩
  rw [or_val _ _ (getD_lt hF _) (by omega)]
  have t : Turn (· = fb) w (w.setCell ⟨fb, s / 64, none⟩ (.int .u64 (F.getD (s / 64) 0 ||| 2 ^ (s % 64) : Nat))).drew := ((Turn.refl (· = fb) w).setCell (p := ⟨fb, s / 64, none⟩) (Or.inl rfl) _).drew
  refine ⟨rfl, ⟨F.set (s / 64) (F.getD (s / 64) 0 ||| 2 ^ (s % 64)), ?_, hg.turn t hne, ?_, hne, hG, set_all hF _ _ (set_lt _ _ (getD_lt hF _) (by omega)), by simpa using hlen, h1, h2, ?_, ?_⟩, t⟩
  · have := hp.turn t hpf
    simpa using this
  · have := hf.set (s / 64) (.int .u64 (F.getD (s / 64) 0 ||| 2 ^ (s % 64) : Nat))
    rw [u64s_set] at this
    exact this
  · intro x
    rw [bitAt_set F s x hn, hb x]
  · intro x hx
    rcases Bool.or_eq_true_iff.1 hx with h | h
    · exact hlt x h
    · have : x = s := by simpa using h
      omega

theorem Pool.setGen {w : World} {pb gb fb : Nat} {G : List Nat} {fr : Nat → Bool} (h : Pool w pb gb fb G fr) (s u : Nat) (hu : u < 18446744073709551616) : Pool (w.setCell ⟨gb, s, none⟩ (.int .u64 (u : Int))) pb gb fb (G.set s u) fr := by
  obtain ⟨F, hp, hg, hf, hne, hG, hF, hlen, h1, h2, hb, hlt⟩ := h
  have t : Turn (· = gb) w (w.setCell ⟨gb, s, none⟩ (.int .u64 (u : Int))) := (Turn.refl (· = gb) w).setCell (p := ⟨gb, s, none⟩) (Or.inl rfl) _
  have hpg : pb ≠ gb := hp.ne hg (by intro e; injection e with _ e; cases e)
  refine ⟨F, ?_, ?_, hf.turn t (Ne.symm hne), hne, set_all hG _ _ hu, hF, by simpa using hlen, by simpa using h1, by simpa using h2, hb, by simpa using hlt⟩
  · have := hp.turn t hpg
    simpa using this
  · have := hg.set s (.int .u64 (u : Int))
    rw [u64s_set] at this
    exact this

theorem gen_val (g : Nat) : IntKind.u64.wrap ((g : Int) + 1) = (((g + 1) % 18446744073709551616 : Nat) : Int) := by
  rw [IntKind.wrap_u64]
  omega

theorem giveBack_any {pb gb fb s : Nat} {G : List Nat} {fr : Nat → Bool} {w : World} (h : Pool w pb gb fb G fr) (hs : s < G.length) :
    Calls Tryd.prog 37 #[.pointer (some ⟨pb, 0, none⟩), .int .i64 s] w fun e w' => e = .returned (.tuple #[]) ∧ Pool w' pb gb fb (G.set s ((G.getD s 0 + 1) % 18446744073709551616)) (fun x => fr x || x == s) ∧ Turn (fun i => i = gb ∨ i = fb) w w' := by
  have h' := h.setGen s ((G.getD s 0 + 1) % 18446744073709551616) (Nat.mod_lt _ (by omega))
  have HS := setFree_any h' (s := s) (by simpa using hs)
  rw [← gen_val] at HS
  obtain ⟨F, hp, hg, hf, hne, hG, hF, hlen, h1, h2, hb, hlt⟩ := h
  have c0 := hp.cell 0
  have c1 := (hg.cell s).trans (u64s_at G s hs)
  have c2 := hg.thawed s
  have hpg : pb ≠ gb := hp.ne hg (by intro e; injection e with _ e; cases e)
  have b1 : (0 : Int) ≤ (s : Int) := by omega
  have b2 : (s : Int) < (G.length : Int) := by omega
  simp at c0
  generalize G.getD s 0 = g at *
  generalize hgl : G.length = ng at *
  have HN := Lib.hid hgl
  clear hgl hlen hb hlt hG hF hp hg hf h'
  have HH := Lib.hid HS
  clear HS
  go_enter Tryd.func37, Tryd.ntmps37
  go_wp2_with fail
  refine HH.out.mono ?_
  rintro e w' ⟨rfl, hp, ht⟩
  go_wp2
  go_end0
  refine ⟨rfl, hp, ?_⟩
  exact ((Turn.refl (fun i => i = gb ∨ i = fb) w).setCell (p := ⟨gb, s, none⟩) (Or.inl (Or.inl rfl)) _).then ht (fun i _ hi => Or.inr hi)

theorem tz_core (v k idx : Nat) (w : World) (h0 : ((v : Int) == 0) = false)
    (key : IntKind.u64.wrap (bits BinOp.and IntKind.u64 (v : Int) (IntKind.u64.wrap (-(v : Int))) * 285870213051353865) / 288230376151711744 = (idx : Int))
    (hi : idx < 64) (hk : k < 64) (hc : w.cell? ⟨0, idx, none⟩ = some (.int .u8 k)) :
    Calls Tryd.prog 53 #[.int .u64 v] w fun e w' => e = .returned (.int .i64 k) ∧ w = w' := by
  go_enter Tryd.func53, Tryd.ntmps53
  go_wp2_with (simp only [key])
  go_ret
  exact ⟨rfl, rfl⟩

/-- The table of math/bits lies where it was laid. -/
def Tab (w : World) : Prop := ∀ j, j < 64 → w.cell? ⟨0, j, none⟩ = some (.int .u8 (Lib.deBruijn64tab.getD j 0 : Nat))
theorem Tab.turn {X : Nat → Prop} {w w' : World} (h : Tab w) (t : Turn X w w') (h0 : ¬ X 0) (hs : 0 < w.heap.size) : Tab w' := fun j hj => (World.cell?_of_block (w := w) (t.block 0 hs h0)).trans (h j hj)
theorem Tab.pos {w : World} (h : Tab w) : 0 < w.heap.size := by
  have := h 0 (by omega)
  unfold World.cell? at this
  rcases Nat.eq_zero_or_pos w.heap.size with h0 | h0
  · rw [Array.getElem?_eq_none (by simp [h0])] at this
    cases this
  · exact h0

theorem tz_any (v : Nat) (w : World) (h0 : v ≠ 0) (hv : v < 18446744073709551616) (hT : Tab w) :
    Calls Tryd.prog 53 #[.int .u64 v] w fun e w' => e = .returned (.int .i64 (Lib.ctz 64 v : Nat)) ∧ w = w' := by
  obtain ⟨hl, hk⟩ := Lib.lowest_bit 64 v h0 (by simpa using hv)
  obtain ⟨hi, ht⟩ := Lib.deBruijn64_at _ hk
  have hc := hT _ hi
  rw [ht] at hc
  refine tz_core v _ _ w (by simpa using h0) ?_ hi hk hc
  have e1 : IntKind.u64.wrap (-(v : Int)) = ((18446744073709551616 - v : Nat) : Int) := by rw [IntKind.wrap_u64]; omega
  rw [e1, bits_and_u64_nat v _ hv (by omega), show v &&& (18446744073709551616 - v) = 2 ^ Lib.ctz 64 v by simpa using hl, IntKind.wrap_u64]
  generalize 2 ^ Lib.ctz 64 v = q
  omega
end Go.Proofs.YtbdfbgkfhaiccaaDoor
