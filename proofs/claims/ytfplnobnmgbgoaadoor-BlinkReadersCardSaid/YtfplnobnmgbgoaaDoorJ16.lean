/-
  Rows of what the level above tells of a node; its kids.
  The next level's stands.
  What Check asks of one node.
  fits.
  isLevel.
  Rows of stands that fit a level.
-/
import Derived.Test.YtfplnobnmgbgoaaDoorJ15
import Derived.Test.YtfplnobnmgbgoaaDoorJ14
import Derived.Test.YtfplnobnmgbgoaaDoorJ7
namespace Go.Proofs.YtfplnobnmgbgoaaDoor
open Go.RowKit Go.Lib
set_option linter.unusedVariables false
set_option maxRecDepth 20000
set_option linter.unusedSimpArgs false

/-- A node as the level above tells of it. -/
structure Std where
  at_ : Hn
  low : ByteArray
  high : ByteArray
  bnd : Bool
def Std.cs (s : Std) : List Value := [.int .i64 s.at_.slot, .int .u64 s.at_.gen, .string s.low, .string s.high, .bool s.bnd]
def scs (l : List Std) : List Value := l.flatMap Std.cs
theorem scs_length (l : List Std) : (scs l).length = l.length * 5 := by
  induction l with
  | nil => rfl
  | cons s t ih => unfold scs at ih ⊢; rw [List.flatMap_cons, List.length_append, ih, List.length_cons]; show 5 + _ = _; omega
theorem scs_append (A B : List Std) : scs (A ++ B) = scs A ++ scs B := List.flatMap_append ..
theorem scs_at {l : List Std} {j : Nat} {s : Std} (h : l[j]? = some s) (i : Nat) (hi : i < 5) : (scs l)[j * 5 + i]? = s.cs[i]? := flat_at _ 5 (fun _ => rfl) l j i s h hi
theorem infoST : (Tryd.prog.info? 98).map (fun i => (i.zero, i.size, i.bytes)) = some (some (.agg #[.int .i64 0, .int .u64 0, .string ⟨#[]⟩, .string ⟨#[]⟩, .bool false]), 5, 56) := by kernel_rfl
theorem inf98 : (Tryd.prog.info? 98).map (·.size) = some 5 := by kernel_rfl
/-- A row of such, of one's own. -/
structure Srw (w0 wx : World) (l : List Std) (B : Option Addr) (c : Nat) : Prop where
  tu : Turn No w0 wx
  row : wx.ownsRow w0.heap.size 98 5 (.slice B l.length c) l.length (scs l)
theorem Srw.nil (w : World) : Srw w w [] none 0 := ⟨Turn.refl _ _, rfl, .inl ⟨rfl, rfl⟩⟩
theorem Srw.no {w0 wx w2 : World} {l : List Std} {B : Option Addr} {c : Nat} (h : Srw w0 wx l B c) (t : Turn No wx w2) : Srw w0 w2 l B c := ⟨h.tu.trans t, own_grown h.row t fun _ _ h => h⟩
theorem Srw.append {w0 wx : World} {l : List Std} {B : Option Addr} {c : Nat} (h : Srw w0 wx l B c) (hl : l.length < 100000) (p : Std) :
    ∃ B' c' w2, AppRun 96 96 (.slice B l.length c) (.slice (some ⟨wx.heap.size, 0, none⟩) 1 1) (.slice B' (l.length + 1) c') (wx.alloc (.cells #[.int .i64 p.at_.slot, .int .u64 p.at_.gen, .string p.low, .string p.high, .bool p.bnd] 98)) w2 ∧ Srw w0 w2 (l ++ [p]) B' c' ∧ Turn (fun i => ablk B = some i) wx w2 := by
  have tj : Turn No wx (wx.alloc (.cells #[.int .i64 p.at_.slot, .int .u64 p.at_.gen, .string p.low, .string p.high, .bool p.bnd] 98)) := (Turn.refl _ _).alloc _
  have h2 := h.no tj
  have hn := At.new wx (.cells #[.int .i64 p.at_.slot, .int .u64 p.at_.gen, .string p.low, .string p.high, .bool p.bnd] 98)
  obtain ⟨B', c', w2, qq, ho, ht, hB⟩ := app_gen Tryd.underlying96 infoST rfl (by decide) (by decide) h2.row ⟨wx.heap.size, 0, none⟩ 1 1 p.cs rfl
    (fun j u hj => by rw [Addr.add_lit, Nat.zero_add, hn.cell]; unfold Std.cs at hj; simpa using hj) (by
      intro u hu
      unfold Std.cs at hu
      simp at hu
      rcases hu with rfl | rfl | rfl | rfl | rfl <;> rfl) (by omega) h2.tu.size 96
  have ht2 : Turn (fun i => ablk B = some i) (wx.alloc (.cells #[.int .i64 p.at_.slot, .int .u64 p.at_.gen, .string p.low, .string p.high, .bool p.bnd] 98)) w2 := ht.mono fun k _ hk => by rw [own_ablk] at hk; exact hk
  refine ⟨B', c', w2, qq, ⟨h2.tu.then ht2 fun i hi hb => ?_, ?_⟩, (tj.mono fun _ _ h => h.elim).trans ht2⟩
  · have := (own_at h2.row hb).1
    omega
  · rw [List.length_append, scs_append]
    show w2.ownsRow _ _ _ _ _ (scs l ++ scs [p])
    rw [show scs [p] = p.cs by unfold scs; simp]
    exact ho
/-- A node's kids, as it tells of them. -/
def kidAt (s : Std) (n : Nd) (i : Nat) (k : Hn) : Std := ⟨k, if i = 0 then s.low else n.keys.getD (i - 1) ⟨#[]⟩, if i < n.keys.length then n.keys.getD i ⟨#[]⟩ else s.high, if i < n.keys.length then true else s.bnd⟩
def kidsOf (s : Std) (n : Nd) (m : Nat) : List Std := (List.range m).map fun i => kidAt s n i (n.kids.getD i ⟨0, 0⟩)
theorem kidsOf_succ (s : Std) (n : Nd) (m : Nat) : kidsOf s n (m + 1) = kidsOf s n m ++ [kidAt s n m (n.kids.getD m ⟨0, 0⟩)] := by unfold kidsOf; rw [List.range_succ, List.map_append]; rfl
theorem kidsOf_length (s : Std) (n : Nd) (m : Nat) : (kidsOf s n m).length = m := by unfold kidsOf; simp
theorem at5 {w : World} {g : Nat} {v0 v1 v2 v3 v4 : Value} {t : TypeId} {f : Nat × Nat} (h : At w g (.cells #[v0, v1, v2, v3, v4] t f)) :
    w.cell? ⟨g, 0, none⟩ = some v0 ∧ w.cell? ⟨g, 1, none⟩ = some v1 ∧ w.cell? ⟨g, 2, none⟩ = some v2 ∧ w.cell? ⟨g, 3, none⟩ = some v3 ∧ w.cell? ⟨g, 4, none⟩ = some v4 :=
  ⟨h.cell 0, h.cell 1, h.cell 2, h.cell 3, h.cell 4⟩
theorem pset {wr W : World} {b : Nat} (T : Turn No wr W) (hb : wr.heap.size ≤ b) (i : Nat) (v : Value) : Turn No wr (W.setCell ⟨b, i, none⟩ v) := T.then (Turn.set1 _ b i _) fun k hk e => by omega
theorem hcs_hold {w : World} {A : Option Addr} {l : List Hn} (h : Row w A (hcs l)) {j : Nat} {x : Hn} (hj : l[j]? = some x) :
    ∃ b o, A = some ⟨b, o, none⟩ ∧ ∀ W, Turn No w W → W.cell? ⟨b, o + j * 2, none⟩ = some (.int .i64 x.slot) ∧ W.cell? ⟨b, o + j * 2 + 1, none⟩ = some (.int .u64 x.gen) ∧ b < W.heap.size := by
  obtain ⟨b, o, hA, hc⟩ := Row.hn h hj
  refine ⟨b, o, hA, fun W t => ?_⟩
  obtain ⟨b2, o2, hA2, hc2⟩ := Row.hn (h.no t) hj
  obtain ⟨b3, o3, hA3, hb3, _⟩ := (h.no t) (j * 2 + 0) (.int .i64 x.slot) (by rw [hcs_at hj 0 (by decide)]; rfl)
  rw [hA] at hA2 hA3
  injection hA2 with hA2
  injection hA2 with e1 e2
  injection hA3 with hA3
  injection hA3 with e3 e4
  subst e1 e2 e3 e4
  exact ⟨hc2.1, hc2.2, hb3⟩
set_option maxRecDepth 100000 in
set_option maxHeartbeats 4000000 in
/-- kids. -/
theorem skids_any {w : World} (s : Std) (n : Nd) {q g : Nat} {AK : Option Addr} {ck : Nat} {AV : Option Addr} {cv : Nat} {AD : Option Addr} {cd : Nat} (hat : At w q (.cells (#[.int .u64 (g : Int)] ++ ndc n AK ck AV cv AD cd) 121 (0, 0))) (hi : Inn w n AK AV AD) (hkk : n.leaf = false → n.kids.length = n.keys.length + 1) (hkl : n.leaf = true → n.kids.length = 0) (h5 : n.keys.length ≤ 100) :
    Calls Tryd.prog 64 #[.agg #[.int .i64 s.at_.slot, .int .u64 s.at_.gen, .string s.low, .string s.high, .bool s.bnd], .pointer (some ⟨q, 1, none⟩)] w fun e w' => ∃ B c, e = .returned (.slice B n.kids.length c) ∧ Srw w w' (kidsOf s n n.kids.length) B c := by
  have HALL := Lib.hid (And.intro hat (And.intro hi (And.intro hkk hkl)))
  have tj := (Turn.refl No w).alloc (.cells #[.int .i64 s.at_.slot, .int .u64 s.at_.gen, .string s.low, .string s.high, .bool s.bnd] 98)
  have ha2 := At.new w (.cells #[.int .i64 s.at_.slot, .int .u64 s.at_.gen, .string s.low, .string s.high, .bool s.bnd] 98)
  obtain ⟨b2, hb2⟩ : ∃ x, w.heap.size = x := ⟨_, rfl⟩
  rw [hb2] at ha2
  obtain ⟨w1, hw1⟩ : ∃ w1, w.alloc (.cells #[.int .i64 s.at_.slot, .int .u64 s.at_.gen, .string s.low, .string s.high, .bool s.bnd] 98) = w1 := ⟨_, rfl⟩
  rw [hw1] at tj ha2
  have HW := Lib.hid (And.intro hw1 hb2)
  have HB := Lib.hid (And.intro tj ha2)
  have hkn : n.kids.length ≤ 101 := by
    cases hl : n.leaf with
    | true => rw [hkl hl]; omega
    | false => rw [hkk hl]; omega
  have c4 := (node_cells (hat.no tj)).2.2.2.1
  have lq := (hat.no tj).lt
  rw [← hw1] at c4 lq
  clear hat hi hkk hkl tj ha2 hw1 hb2
  obtain ⟨nk, hnk⟩ : ∃ x, n.kids.length = x := ⟨_, rfl⟩
  have HNK := Lib.hid hnk
  rw [hnk] at c4 hkn ⊢
  clear hnk
  go_enter Tryd.func64, Tryd.ntmps64
  go_upto_region 6 with fail
  rw [HW.out.1, HW.out.2]
  go_loopw [5, 14] (fun x y wr => ∃ (i : Nat) (B : Option Addr) (c : Nat), i ≤ nk ∧ x = .slice B (kidsOf s n i).length c ∧ y = .int .i64 (i : Int) ∧ Hid (Srw w1 wr (kidsOf s n i) B c)) (fun _ y _ => nk - (RowKit.intOf y).toNat)
  case atStart => exact ⟨0, none, 0, Nat.zero_le _, rfl, rfl, Lib.hid (Srw.nil w1)⟩
  case round =>
    obtain ⟨i, B, c, hi, rfl, rfl, HR⟩ := hrel
    by_cases hlt : i < nk
    · obtain ⟨k, hk⟩ : ∃ k, n.kids[i]? = some k := ⟨n.kids[i]'(by rw [HNK.out]; exact hlt), List.getElem?_eq_getElem (by rw [HNK.out]; exact hlt)⟩
      obtain ⟨bd, od, hAD, hcd⟩ := hcs_hold (HALL.out.2.1.i.d.no HB.out.1) hk
      subst hAD
      obtain ⟨d1, d2, d3⟩ := hcd wr HR.out.tu
      have b1 : (0 : Int) ≤ (i : Int) := by omega
      have b2' : (i : Int) < (nk : Int) := by omega
      obtain ⟨PL, hPL⟩ : ∃ x, kidsOf s n i = x := ⟨_, rfl⟩
      rw [hPL] at HR ⊢
      have HPL := Lib.hid hPL
      have HK := Lib.hid hk
      clear hcd hk hPL
      have f2 := (HB.out.2.no (HR.out.tu.trans ((Turn.refl No wr).alloc (.cells #[.int .i64 k.slot, .int .u64 k.gen] 77))))
      obtain ⟨g0, g1, g2, g3, g4⟩ := at5 f2
      have g9 := f2.lt
      clear f2 g0 g1
      go_upto_region 6 with fail
      have T2 := ((Turn.refl No wr).alloc (.cells #[.int .i64 k.slot, .int .u64 k.gen] 77)).alloc (.cells #[.int .i64 k.slot, .int .u64 k.gen, .string s.low, .string s.high, .bool s.bnd] 98)
      have A2 := At.new (wr.alloc (.cells #[.int .i64 k.slot, .int .u64 k.gen] 77)) (.cells #[.int .i64 k.slot, .int .u64 k.gen, .string s.low, .string s.high, .bool s.bnd] 98)
      have L2 : wr.heap.size ≤ (wr.alloc (.cells #[.int .i64 k.slot, .int .u64 k.gen] 77)).heap.size := ((Turn.refl No wr).alloc (.cells #[.int .i64 k.slot, .int .u64 k.gen] 77)).size
      clear g2 g3 g4 g9 d1 d2 d3
      have hsz : (wr.alloc (.cells #[.int .i64 k.slot, .int .u64 k.gen] 77)).heap.size = wr.heap.size + 1 := by unfold World.alloc; exact Array.size_push ..
      rw [hsz] at A2 L2
      obtain ⟨b3, hb3⟩ : ∃ x, wr.heap.size + 1 = x := ⟨_, rfl⟩
      rw [hb3] at A2 L2 ⊢
      clear hb3 hsz
      generalize (wr.alloc (.cells #[.int .i64 k.slot, .int .u64 k.gen] 77)).alloc (.cells #[.int .i64 k.slot, .int .u64 k.gen, .string s.low, .string s.high, .bool s.bnd] 98) = W2 at T2 A2 ⊢
      have hlf : n.leaf = false := by
        cases hl : n.leaf with
        | false => rfl
        | true => have := HALL.out.2.2.2 hl; have := HNK.out; omega
      have hkk := HALL.out.2.2.1 hlf
      rw [HNK.out] at hkk
      obtain ⟨kl, hkl⟩ : ∃ x, n.keys.length = x := ⟨_, rfl⟩
      rw [hkl] at hkk
      have HKL := Lib.hid hkl
      have HKK := Lib.hid hkk
      have HT2 := Lib.hid (And.intro T2 A2)
      have HL2 := Lib.hid L2
      have HL0 : Hid (PL.length < 100000) := Lib.hid (by rw [← HPL.out, kidsOf_length]; omega)
      clear hkl hkk T2 A2 L2 hlf c4 lq
      by_cases h0 : (0 : Int) < (i : Int)
      · by_cases h1 : i < kl
        · skip
          have T3 := HT2.out.1
          have A3 := HT2.out.2
          have c2 := (node_cells ((HALL.out.1.no HB.out.1).no (HR.out.tu.trans T3))).2.1
          have lq2 := ((HALL.out.1.no HB.out.1).no (HR.out.tu.trans T3)).lt
          rw [HKL.out] at c2
          have hkk := HKK.out
          obtain ⟨m, hm⟩ : ∃ m, i = m + 1 := ⟨i - 1, by omega⟩
          have hw : IntKind.i64.wrap ((i : Int) - 1) = (m : Int) := (IntWalk.i64_in _ ⟨by omega, by omega⟩).trans (by omega)
          have p1 : (0 : Int) ≤ (m : Int) := by omega
          have p2 : (m : Int) < (kl : Int) := by omega
          obtain ⟨x, hx⟩ : ∃ x, n.keys[m]? = some x := ⟨n.keys[m]'(by rw [HKL.out]; omega), List.getElem?_eq_getElem (by rw [HKL.out]; omega)⟩
          obtain ⟨bk, ok, hAK, hck⟩ := kcs_hold (HALL.out.2.1.i.k.no HB.out.1) hx
          subst hAK
          have e9 := hck W2 (HR.out.tu.trans T3)
          have a2 := A3.cell 2
          have z2 := A3.thawed 2
          simp at a2
          have HX := Lib.hid (And.intro hx hm)
          have HCK := Lib.hid hck
          clear hx hck hm hkk T3 A3
          go_upto_region 8 with fail
          have T4 := pset HT2.out.1 HL2.out 2 (.string x)
          have A4 : At _ b3 (.cells #[.int .i64 k.slot, .int .u64 k.gen, .string x, .string s.high, .bool s.bnd] 98 (0, 0)) := HT2.out.2.set 2 (.string x)
          clear c2 lq2 e9 a2 z2 hw p1 p2
          generalize W2.setCell ⟨b3, 2, none⟩ (.string x) = W3 at T4 A4 ⊢
          have c2 := (node_cells ((HALL.out.1.no HB.out.1).no (HR.out.tu.trans T4))).2.1
          have lq2 := ((HALL.out.1.no HB.out.1).no (HR.out.tu.trans T4)).lt
          rw [HKL.out] at c2
          have p1 : (0 : Int) ≤ (i : Int) := by omega
          have p2 : (i : Int) < (kl : Int) := by omega
          obtain ⟨y, hy⟩ : ∃ y, n.keys[i]? = some y := ⟨n.keys[i]'(by rw [HKL.out]; omega), List.getElem?_eq_getElem (by rw [HKL.out]; omega)⟩
          obtain ⟨bk', ok', hAK', hck'⟩ := kcs_hold (HALL.out.2.1.i.k.no HB.out.1) hy
          injection hAK' with hAK'
          injection hAK' with q1 q2
          subst q1 q2
          have e9 := hck' W3 (HR.out.tu.trans T4)
          have a3 := A4.cell 3
          have a4 := A4.cell 4
          have z3 := A4.thawed 3
          have z4 := A4.thawed 4
          simp at a3 a4
          have HY := Lib.hid hy
          have HT4 := Lib.hid (And.intro T4 A4)
          clear hy hck' T4 A4
          go_upto_region 10 with fail
          have T5 := pset (pset HT4.out.1 HL2.out 3 (.string y)) HL2.out 4 (.bool true)
          have A5 : At _ b3 (.cells #[.int .i64 k.slot, .int .u64 k.gen, .string x, .string y, .bool true] 98 (0, 0)) := (HT4.out.2.set 3 (.string y)).set 4 (.bool true)
          clear c2 lq2 e9 a3 a4 z3 z4 p1 p2
          generalize (W3.setCell ⟨b3, 3, none⟩ (.string y)).setCell ⟨b3, 4, none⟩ (.bool true) = W4 at T5 A5 ⊢
          obtain ⟨v0, v1, v2, v3, v4⟩ := at5 A5
          have v9 := A5.lt
          have hkk := HKK.out
          have HKA : Hid (kidAt s n i k = ⟨k, x, y, true⟩) := Lib.hid (by
            unfold kidAt
            rw [HKL.out, if_neg (by omega), if_pos (by omega), if_pos (by omega), List.getD_eq_getElem?_getD, show i - 1 = m by (have := HX.out.2; omega), HX.out.1, List.getD_eq_getElem?_getD, HY.out]
            rfl)
          obtain ⟨B7, c7, w7, q7, h7, _⟩ := (HR.out.no T5).append HL0.out ⟨k, x, y, true⟩
          have HQ7 := Lib.hid h7
          clear hkk h7 T5 A5
          go_wp2_with (at_builtin; refine wpList_append_run rfl _ _ 96 rfl _ _ _ rfl rfl q7 ?_)
          have hkk := HKK.out
          have HKS : kidsOf s n (i + 1) = PL ++ [⟨k, x, y, true⟩] := by rw [kidsOf_succ, HPL.out, List.getD_eq_getElem?_getD, HK.out]; exact congrArg (fun z => PL ++ [z]) HKA.out
          refine ⟨⟨i + 1, B7, c7, by omega, by rw [HKS, List.length_append]; rfl, congrArg _ (by omega), Lib.hid (by rw [HKS]; exact HQ7.out)⟩, ?_⟩
          show nk - ((i : Int) + 1).toNat < nk - ((i : Int)).toNat
          omega
        · skip
          have T3 := HT2.out.1
          have A3 := HT2.out.2
          have c2 := (node_cells ((HALL.out.1.no HB.out.1).no (HR.out.tu.trans T3))).2.1
          have lq2 := ((HALL.out.1.no HB.out.1).no (HR.out.tu.trans T3)).lt
          rw [HKL.out] at c2
          have hkk := HKK.out
          obtain ⟨m, hm⟩ : ∃ m, i = m + 1 := ⟨i - 1, by omega⟩
          have hw : IntKind.i64.wrap ((i : Int) - 1) = (m : Int) := (IntWalk.i64_in _ ⟨by omega, by omega⟩).trans (by omega)
          have p1 : (0 : Int) ≤ (m : Int) := by omega
          have p2 : (m : Int) < (kl : Int) := by omega
          obtain ⟨x, hx⟩ : ∃ x, n.keys[m]? = some x := ⟨n.keys[m]'(by rw [HKL.out]; omega), List.getElem?_eq_getElem (by rw [HKL.out]; omega)⟩
          obtain ⟨bk, ok, hAK, hck⟩ := kcs_hold (HALL.out.2.1.i.k.no HB.out.1) hx
          subst hAK
          have e9 := hck W2 (HR.out.tu.trans T3)
          have a2 := A3.cell 2
          have z2 := A3.thawed 2
          simp at a2
          have HX := Lib.hid (And.intro hx hm)
          have HCK := Lib.hid hck
          clear hx hck hm hkk T3 A3
          go_upto_region 8 with fail
          have T4 := pset HT2.out.1 HL2.out 2 (.string x)
          have A4 : At _ b3 (.cells #[.int .i64 k.slot, .int .u64 k.gen, .string x, .string s.high, .bool s.bnd] 98 (0, 0)) := HT2.out.2.set 2 (.string x)
          clear c2 lq2 e9 a2 z2 hw p1 p2
          generalize W2.setCell ⟨b3, 2, none⟩ (.string x) = W3 at T4 A4 ⊢
          have c2 := (node_cells ((HALL.out.1.no HB.out.1).no (HR.out.tu.trans T4))).2.1
          have lq2 := ((HALL.out.1.no HB.out.1).no (HR.out.tu.trans T4)).lt
          rw [HKL.out] at c2
          have p2 : ¬ (i : Int) < (kl : Int) := by omega
          have HT4 := Lib.hid (And.intro T4 A4)
          clear T4 A4
          go_upto_region 10 with fail
          have T5 := HT4.out.1
          have A5 := HT4.out.2
          clear c2 lq2 p2
          obtain ⟨W4, hW4⟩ : ∃ x, W3 = x := ⟨_, rfl⟩
          rw [hW4] at T5 A5 ⊢
          clear hW4
          obtain ⟨v0, v1, v2, v3, v4⟩ := at5 A5
          have v9 := A5.lt
          have hkk := HKK.out
          have HKA : Hid (kidAt s n i k = ⟨k, x, s.high, s.bnd⟩) := Lib.hid (by
            unfold kidAt
            rw [HKL.out, if_neg (by omega), if_neg (by omega), if_neg (by omega), List.getD_eq_getElem?_getD, show i - 1 = m by (have := HX.out.2; omega), HX.out.1]
            rfl)
          obtain ⟨B7, c7, w7, q7, h7, _⟩ := (HR.out.no T5).append HL0.out ⟨k, x, s.high, s.bnd⟩
          have HQ7 := Lib.hid h7
          clear hkk h7 T5 A5
          go_wp2_with (at_builtin; refine wpList_append_run rfl _ _ 96 rfl _ _ _ rfl rfl q7 ?_)
          have hkk := HKK.out
          have HKS : kidsOf s n (i + 1) = PL ++ [⟨k, x, s.high, s.bnd⟩] := by rw [kidsOf_succ, HPL.out, List.getD_eq_getElem?_getD, HK.out]; exact congrArg (fun z => PL ++ [z]) HKA.out
          refine ⟨⟨i + 1, B7, c7, by omega, by rw [HKS, List.length_append]; rfl, congrArg _ (by omega), Lib.hid (by rw [HKS]; exact HQ7.out)⟩, ?_⟩
          show nk - ((i : Int) + 1).toNat < nk - ((i : Int)).toNat
          omega
      · by_cases h1 : i < kl
        · skip
          have T3 := HT2.out.1
          have A3 := HT2.out.2
          have c2 := (node_cells ((HALL.out.1.no HB.out.1).no (HR.out.tu.trans T3))).2.1
          have lq2 := ((HALL.out.1.no HB.out.1).no (HR.out.tu.trans T3)).lt
          rw [HKL.out] at c2
          clear T3 A3
          go_upto_region 8 with fail
          have T4 := HT2.out.1
          have A4 := HT2.out.2
          clear c2 lq2
          obtain ⟨W3, hW3⟩ : ∃ x, W2 = x := ⟨_, rfl⟩
          rw [hW3] at T4 A4 ⊢
          clear hW3
          have c2 := (node_cells ((HALL.out.1.no HB.out.1).no (HR.out.tu.trans T4))).2.1
          have lq2 := ((HALL.out.1.no HB.out.1).no (HR.out.tu.trans T4)).lt
          rw [HKL.out] at c2
          have p1 : (0 : Int) ≤ (i : Int) := by omega
          have p2 : (i : Int) < (kl : Int) := by omega
          obtain ⟨y, hy⟩ : ∃ y, n.keys[i]? = some y := ⟨n.keys[i]'(by rw [HKL.out]; omega), List.getElem?_eq_getElem (by rw [HKL.out]; omega)⟩
          obtain ⟨bk', ok', hAK', hck'⟩ := kcs_hold (HALL.out.2.1.i.k.no HB.out.1) hy
          subst hAK'
          have e9 := hck' W3 (HR.out.tu.trans T4)
          have a3 := A4.cell 3
          have a4 := A4.cell 4
          have z3 := A4.thawed 3
          have z4 := A4.thawed 4
          simp at a3 a4
          have HY := Lib.hid hy
          have HT4 := Lib.hid (And.intro T4 A4)
          clear hy hck' T4 A4
          go_upto_region 10 with fail
          have T5 := pset (pset HT4.out.1 HL2.out 3 (.string y)) HL2.out 4 (.bool true)
          have A5 : At _ b3 (.cells #[.int .i64 k.slot, .int .u64 k.gen, .string s.low, .string y, .bool true] 98 (0, 0)) := (HT4.out.2.set 3 (.string y)).set 4 (.bool true)
          clear c2 lq2 e9 a3 a4 z3 z4 p1 p2
          generalize (W3.setCell ⟨b3, 3, none⟩ (.string y)).setCell ⟨b3, 4, none⟩ (.bool true) = W4 at T5 A5 ⊢
          obtain ⟨v0, v1, v2, v3, v4⟩ := at5 A5
          have v9 := A5.lt
          have hkk := HKK.out
          have HKA : Hid (kidAt s n i k = ⟨k, s.low, y, true⟩) := Lib.hid (by
            unfold kidAt
            rw [HKL.out, if_pos (by omega), if_pos (by omega), if_pos (by omega), List.getD_eq_getElem?_getD, HY.out]
            rfl)
          obtain ⟨B7, c7, w7, q7, h7, _⟩ := (HR.out.no T5).append HL0.out ⟨k, s.low, y, true⟩
          have HQ7 := Lib.hid h7
          clear hkk h7 T5 A5
          go_wp2_with (at_builtin; refine wpList_append_run rfl _ _ 96 rfl _ _ _ rfl rfl q7 ?_)
          have hkk := HKK.out
          have HKS : kidsOf s n (i + 1) = PL ++ [⟨k, s.low, y, true⟩] := by rw [kidsOf_succ, HPL.out, List.getD_eq_getElem?_getD, HK.out]; exact congrArg (fun z => PL ++ [z]) HKA.out
          refine ⟨⟨i + 1, B7, c7, by omega, by rw [HKS, List.length_append]; rfl, congrArg _ (by omega), Lib.hid (by rw [HKS]; exact HQ7.out)⟩, ?_⟩
          show nk - ((i : Int) + 1).toNat < nk - ((i : Int)).toNat
          omega
        · skip
          have T3 := HT2.out.1
          have A3 := HT2.out.2
          have c2 := (node_cells ((HALL.out.1.no HB.out.1).no (HR.out.tu.trans T3))).2.1
          have lq2 := ((HALL.out.1.no HB.out.1).no (HR.out.tu.trans T3)).lt
          rw [HKL.out] at c2
          clear T3 A3
          go_upto_region 8 with fail
          have T4 := HT2.out.1
          have A4 := HT2.out.2
          clear c2 lq2
          obtain ⟨W3, hW3⟩ : ∃ x, W2 = x := ⟨_, rfl⟩
          rw [hW3] at T4 A4 ⊢
          clear hW3
          have c2 := (node_cells ((HALL.out.1.no HB.out.1).no (HR.out.tu.trans T4))).2.1
          have lq2 := ((HALL.out.1.no HB.out.1).no (HR.out.tu.trans T4)).lt
          rw [HKL.out] at c2
          have p2 : ¬ (i : Int) < (kl : Int) := by omega
          have HT4 := Lib.hid (And.intro T4 A4)
          clear T4 A4
          go_upto_region 10 with fail
          have T5 := HT4.out.1
          have A5 := HT4.out.2
          clear c2 lq2 p2
          obtain ⟨W4, hW4⟩ : ∃ x, W3 = x := ⟨_, rfl⟩
          rw [hW4] at T5 A5 ⊢
          clear hW4
          obtain ⟨v0, v1, v2, v3, v4⟩ := at5 A5
          have v9 := A5.lt
          have hkk := HKK.out
          have HKA : Hid (kidAt s n i k = ⟨k, s.low, s.high, s.bnd⟩) := Lib.hid (by
            unfold kidAt
            rw [HKL.out, if_pos (by omega), if_neg (by omega), if_neg (by omega)]
            skip)
          obtain ⟨B7, c7, w7, q7, h7, _⟩ := (HR.out.no T5).append HL0.out ⟨k, s.low, s.high, s.bnd⟩
          have HQ7 := Lib.hid h7
          clear hkk h7 T5 A5
          go_wp2_with (at_builtin; refine wpList_append_run rfl _ _ 96 rfl _ _ _ rfl rfl q7 ?_)
          have hkk := HKK.out
          have HKS : kidsOf s n (i + 1) = PL ++ [⟨k, s.low, s.high, s.bnd⟩] := by rw [kidsOf_succ, HPL.out, List.getD_eq_getElem?_getD, HK.out]; exact congrArg (fun z => PL ++ [z]) HKA.out
          refine ⟨⟨i + 1, B7, c7, by omega, by rw [HKS, List.length_append]; rfl, congrArg _ (by omega), Lib.hid (by rw [HKS]; exact HQ7.out)⟩, ?_⟩
          show nk - ((i : Int) + 1).toNat < nk - ((i : Int)).toNat
          omega
    · obtain rfl : i = nk := by omega
      have b2' : ¬ (i : Int) < (i : Int) := by omega
      have HQ := HR
      clear HR
      obtain ⟨PL, hPL⟩ : ∃ x, kidsOf s n i = x := ⟨_, rfl⟩
      rw [hPL] at HQ ⊢
      have HPL := Lib.hid (And.intro (show PL.length = i by rw [← hPL, kidsOf_length]) hPL)
      clear hPL
      go_wp2_with fail
      go_ret
      exact ⟨B, c, by rw [HPL.out.1]; rfl, HB.out.1.trans HQ.out.tu, by rw [HPL.out.2]; exact own_base HQ.out.row HB.out.1.size⟩
end Go.Proofs.YtfplnobnmgbgoaaDoor
namespace Go.Proofs.YtfplnobnmgbgoaaDoor
open Go.RowKit Go.Lib
set_option linter.unusedVariables false
set_option maxRecDepth 20000
set_option linter.unusedSimpArgs false

theorem tower_right : ∀ {T : List Lvl}, Tower T → ∀ l ∈ T, ∀ x ∈ l, NdRight x.2
  | [], h, _, _, _, _ => h.elim
  | [ls], h, l, hl, x, hx => by
    simp at hl
    subst hl
    exact (ch_leaf h.1 x.2 (List.mem_map_of_mem hx)).2
  | up :: down :: r, h, l, hl, x, hx => by
    rcases List.mem_cons.1 hl with rfl | hl
    · exact (h.1.inner x hx).2
    · exact tower_right h.2.2 l hl x hx
theorem good_right {T : List Lvl} {root : Hn} (g : Good T root) {x : Hn × Nd} (hx : x ∈ T.flatten) : NdRight x.2 ∧ x.2.keys.length ≤ 4 := by
  obtain ⟨l, hl, hz⟩ := List.mem_flatten.1 hx
  exact ⟨tower_right g.tw l hl x hz, g.sl l hl x hz⟩
theorem Srw.appendL {w0 wx : World} {l : List Std} {B : Option Addr} {c : Nat} (h : Srw w0 wx l B c) {k : List Std} {A : Option Addr} (ck : Nat) (hk : Row wx A (scs k)) (hl : l.length + k.length ≤ 100000) :
    ∃ B' c' w2, AppRun 96 96 (.slice B l.length c) (.slice A k.length ck) (.slice B' (l.length + k.length) c') wx w2 ∧ Srw w0 w2 (l ++ k) B' c' := by
  cases A with
  | none =>
    have hk0 : k = [] := by
      cases k with
      | nil => rfl
      | cons s t => obtain ⟨b, o, hA, _⟩ := hk 0 (.int .i64 s.at_.slot) (by unfold scs; rw [List.flatMap_cons]; rfl); cases hA
    subst hk0
    obtain ⟨i0, hi, _, hs, _⟩ := info_parts infoST
    have hle : l.length ≤ c := by
      rcases h.row.2 with ⟨hv, hn⟩ | ⟨g2, cap, cur, hv, hb, hg, hn, hc, hs, ht⟩
      · injection hv with _ h1 h2; omega
      · injection hv with _ h1 h2; omega
    exact ⟨B, c, wx, ⟨run_append_nothing (P := Tryd.prog) wx 96 96 96 98 i0 Tryd.underlying96 hi B l.length c hle _ (Src.ofNil (w := wx) Tryd.underlying96 ck)⟩, by rw [List.append_nil]; exact h⟩
  | some a =>
    obtain ⟨B', c', w2, qq, ho, ht, hB⟩ := app_gen Tryd.underlying96 infoST rfl (by decide) (by decide) h.row a k.length ck (scs k) (scs_length k)
      (fun j u hj => by
        obtain ⟨b, o, hA, _, hc⟩ := hk j u hj
        injection hA with hA
        subst hA
        rwa [Addr.add_lit]) (by
        intro u hu
        unfold scs at hu
        obtain ⟨s, _, hu⟩ := List.mem_flatMap.1 hu
        unfold Std.cs at hu
        simp at hu
        rcases hu with rfl | rfl | rfl | rfl | rfl <;> rfl) (by omega) h.tu.size 96
    have ht2 : Turn (fun i => ablk B = some i) wx w2 := ht.mono fun k _ hk => by rw [own_ablk] at hk; exact hk
    refine ⟨B', c', w2, qq, h.tu.then ht2 fun i hi hb => ?_, ?_⟩
    · have := (own_at h.row hb).1
      omega
    · rw [List.length_append, scs_append]
      exact ho
theorem scs_hold {w : World} {A : Option Addr} {l : List Std} (h : Row w A (scs l)) {j : Nat} {s : Std} (hj : l[j]? = some s) :
    ∃ b o, A = some ⟨b, o, none⟩ ∧ ∀ W, Turn No w W → (W.cell? ⟨b, o + j * 5, none⟩ = some (.int .i64 s.at_.slot) ∧ W.cell? ⟨b, o + j * 5 + 1, none⟩ = some (.int .u64 s.at_.gen) ∧ W.cell? ⟨b, o + j * 5 + 2, none⟩ = some (.string s.low) ∧ W.cell? ⟨b, o + j * 5 + 3, none⟩ = some (.string s.high) ∧ W.cell? ⟨b, o + j * 5 + 4, none⟩ = some (.bool s.bnd)) ∧ b < W.heap.size := by
  obtain ⟨b, o, hA, _, _⟩ := h (j * 5 + 0) (.int .i64 s.at_.slot) (by rw [scs_at hj 0 (by decide)]; rfl)
  refine ⟨b, o, hA, fun W t => ?_⟩
  have key : ∀ i u, i < 5 → s.cs[i]? = some u → W.cell? ⟨b, o + (j * 5 + i), none⟩ = some u ∧ b < W.heap.size := fun i u hi hu => by
    obtain ⟨b3, o3, hA3, hb3, hc3⟩ := (h.no t) (j * 5 + i) u (by rw [scs_at hj i hi]; exact hu)
    rw [hA] at hA3
    injection hA3 with hA3
    injection hA3 with e3 e4
    subst e3 e4
    exact ⟨hc3, hb3⟩
  exact ⟨⟨(key 0 _ (by decide) rfl).1, (key 1 _ (by decide) rfl).1, (key 2 _ (by decide) rfl).1, (key 3 _ (by decide) rfl).1, (key 4 _ (by decide) rfl).1⟩, (key 0 _ (by decide) rfl).2⟩
/-- What the next level is told. -/
def bel (Y : List (Std × Nd)) : List Std := Y.flatMap fun y => kidsOf y.1 y.2 y.2.kids.length
theorem bel_take {Y : List (Std × Nd)} {j : Nat} {y : Std × Nd} (h : Y[j]? = some y) : bel (Y.take (j + 1)) = bel (Y.take j) ++ kidsOf y.1 y.2 y.2.kids.length := by
  unfold bel
  rw [List.take_add_one, h, List.flatMap_append]
  simp
theorem bel_le (Y : List (Std × Nd)) (j : Nat) : (bel (Y.take j)).length ≤ (bel Y).length := by
  have : bel Y = bel (Y.take j) ++ bel (Y.drop j) := by unfold bel; rw [← List.flatMap_append, List.take_append_drop]
  rw [this, List.length_append]
  omega
set_option maxRecDepth 100000 in
set_option maxHeartbeats 4000000 in
/-- below. -/
theorem below_any {w : World} {I : Ids} {N : Nat → Option Ent} {T : List Lvl} {root : Hn} (hT : Tr w I N T root) (Y : List (Std × Nd)) {Bq : Option Addr} {cq : Nat} (hrow : Row w Bq (scs (Y.map Prod.fst))) (hY : ∀ y ∈ Y, (y.1.at_, y.2) ∈ T.flatten) (hYl : Y.length ≤ 10000) (hbl : (bel Y).length ≤ 50000) :
    Calls Tryd.prog 44 #[.pointer (some ⟨I.tb, 0, none⟩), .slice Bq Y.length cq] w fun e w' => ∃ B c, e = .returned (.slice B (bel Y).length c) ∧ Srw w w' (bel Y) B c := by
  have HT := Lib.hid (And.intro hT (And.intro hrow (And.intro hY (And.intro hYl hbl))))
  have HS : Hid (∀ W, Turn No w W → W.cell? ⟨I.tb, 1, none⟩ = some (.pointer (some ⟨I.ab, 0, none⟩)) ∧ I.tb < W.heap.size) := Lib.hid fun W t => ⟨by simpa using At.cell (At.no hT.t t) 1, At.lt (At.no hT.t t)⟩
  obtain ⟨ny, hny⟩ : ∃ x, Y.length = x := ⟨_, rfl⟩
  have HNY := Lib.hid hny
  rw [hny] at hYl ⊢
  clear hT hrow hY hbl hny
  go_enter Tryd.func44, Tryd.ntmps44
  go_wp2_with fail
  go_loopw [5, 12] (fun x y wr => ∃ (j : Nat) (B : Option Addr) (c : Nat), j ≤ ny ∧ x = .slice B (bel (Y.take j)).length c ∧ y = .int .i64 (j : Int) ∧ Hid (Srw w wr (bel (Y.take j)) B c)) (fun _ y _ => ny - (RowKit.intOf y).toNat)
  case atStart => exact ⟨0, none, 0, Nat.zero_le _, rfl, rfl, Lib.hid (Srw.nil w)⟩
  case round =>
    obtain ⟨j, B, c, hj, rfl, rfl, HR⟩ := hrel
    by_cases hlt : j < ny
    · obtain ⟨y, hy⟩ : ∃ y, Y[j]? = some y := ⟨Y[j]'(by rw [HNY.out]; exact hlt), List.getElem?_eq_getElem (by rw [HNY.out]; exact hlt)⟩
      have hym := List.mem_of_getElem? hy
      have hyt := HT.out.2.2.1 y hym
      obtain ⟨hnr, hk4⟩ := good_right HT.out.1.g hyt
      obtain ⟨b, o, hB, hc⟩ := scs_hold HT.out.2.1 (show (Y.map Prod.fst)[j]? = some y.1 by rw [List.getElem?_map, hy]; rfl)
      subst hB
      obtain ⟨⟨d0, d1, d2, d3, d4⟩, d9⟩ := hc wr HR.out.tu
      obtain ⟨g, AK, ck, AV, cv, AD, cd, hat, hin⟩ := HT.out.1.node hyt
      obtain ⟨q, hq⟩ : ∃ x, blkOf N (y.1.at_, y.2) = x := ⟨_, rfl⟩
      have GY := Lib.hid fun W (t : Turn No w W) => HT.out.1.getY hyt W t
      rw [hq] at hat GY
      unfold pq at GY
      have b1 : (0 : Int) ≤ (j : Int) := by omega
      have b2 : (j : Int) < (ny : Int) := by omega
      obtain ⟨s, n⟩ := y
      have HBT := Lib.hid (bel_take hy)
      have HBL := Lib.hid (bel_le Y (j + 1))
      have HNN : Hid (∀ W, Turn No w W → Calls Tryd.prog 64 #[.agg #[.int .i64 s.at_.slot, .int .u64 s.at_.gen, .string s.low, .string s.high, .bool s.bnd], .pointer (some ⟨q, 1, none⟩)] W fun e w' => ∃ B c, e = .returned (.slice B n.kids.length c) ∧ Srw W w' (kidsOf s n n.kids.length) B c) := Lib.hid fun W t => skids_any s n (hat.no t) (hin.no t) (fun h => (hnr.2.2.2.2 h).2) (fun h => (hnr.2.2.2.1 h).2) (by have : n.keys.length ≤ 4 := hk4; omega)
      obtain ⟨PL, hPL⟩ : ∃ x, bel (Y.take j) = x := ⟨_, rfl⟩
      rw [hPL] at HR HBT ⊢
      obtain ⟨t0, t9⟩ := HS.out wr HR.out.tu
      simp only at *
      clear hy hym hyt hnr hk4 hc hat hin hq hPL
      go_upto_region 5 with fail
      have T2 := (Turn.refl No wr).alloc (.cells #[.int .i64 s.at_.slot, .int .u64 s.at_.gen, .string s.low, .string s.high, .bool s.bnd] 98)
      have A2 := At.new wr (.cells #[.int .i64 s.at_.slot, .int .u64 s.at_.gen, .string s.low, .string s.high, .bool s.bnd] 98)
      obtain ⟨b3, hb3⟩ : ∃ x, wr.heap.size = x := ⟨_, rfl⟩
      rw [hb3] at A2 ⊢
      clear hb3 d0 d1 d2 d3 d4 d9 t0 t9
      generalize wr.alloc (.cells #[.int .i64 s.at_.slot, .int .u64 s.at_.gen, .string s.low, .string s.high, .bool s.bnd] 98) = W2 at T2 A2 ⊢
      have H2 := Lib.hid (And.intro (HR.out.tu.trans T2) (And.intro T2 A2))
      obtain ⟨y0, y1, _⟩ := at5 A2
      have y9 := A2.lt
      obtain ⟨t1, t9⟩ := HS.out W2 H2.out.1
      have HS8 : Hid (∀ W, Turn No W2 W → W.cell? ⟨I.tb, 1, none⟩ = some (.pointer (some ⟨I.ab, 0, none⟩)) ∧ W.cell? ⟨b3, 0, none⟩ = some (.int .i64 s.at_.slot) ∧ W.cell? ⟨b3, 1, none⟩ = some (.int .u64 s.at_.gen)) := Lib.hid fun W t => ⟨(HS.out W (H2.out.1.trans t)).1, (at5 (H2.out.2.2.no t)).1, (at5 (H2.out.2.2.no t)).2.1⟩
      clear T2 A2
      go_region_held3 (fun W => W.cell? ⟨I.tb, 1, none⟩ = some (.pointer (some ⟨I.ab, 0, none⟩)) ∧ W.cell? ⟨b3, 0, none⟩ = some (.int .i64 s.at_.slot) ∧ W.cell? ⟨b3, 1, none⟩ = some (.int .u64 s.at_.gen)) (first | (with_reducible exact ⟨t1, y0, y1⟩) | (exact HS8.out _ (by first | exact (Turn.refl No _).drew | assumption))) (first | (go_at_call 61; (with_reducible refine (GY.out _ H2.out.1.drew).mono ?_); rintro e w5 ⟨rfl, ht⟩; have ht : Turn No W2 w5 := (Turn.refl No W2).drew.trans ht))
      obtain ⟨v0, v1, v2, v3, v4⟩ := at5 (H2.out.2.2.no ht)
      have v9 := (H2.out.2.2.no ht).lt
      have CK := Lib.hid (HNN.out w5 (H2.out.1.trans ht))
      have H5 := Lib.hid (H2.out.2.1.trans ht)
      clear ht t1 y0 y1 y9 t9
      go_upto_region 7 with (first | (at_builtin; refine wpList_append_run rfl _ _ 96 rfl _ _ _ rfl rfl q7 ?_) | (go_at_call 64; (with_reducible refine CK.out.mono ?_); rintro e w6 ⟨BK, ek, rfl, HK⟩; obtain ⟨B7, c7, w7, q7, h7⟩ := ((HR.out.no H5.out).no HK.tu).appendL ek (row_of_own HK.row) (by have := HBL.out; rw [HBT.out, List.length_append] at this; have := HT.out.2.2.2.2; omega); have HQ7 := Lib.hid h7; clear h7 HK; rw [kidsOf_length] at q7))
      go_wp2_with fail
      refine ⟨⟨j + 1, B7, c7, by omega, by rw [HBT.out, List.length_append, kidsOf_length], congrArg _ (by omega), Lib.hid (by rw [HBT.out]; exact HQ7.out)⟩, ?_⟩
      show ny - ((j : Int) + 1).toNat < ny - ((j : Int)).toNat
      omega
    · obtain rfl : j = ny := by omega
      have b2 : ¬ (j : Int) < (j : Int) := by omega
      have HQ := HR
      clear HR
      have e0 : bel (Y.take j) = bel Y := by rw [← HNY.out, List.take_length]
      rw [e0] at HQ ⊢
      obtain ⟨PL, hPL⟩ : ∃ x, bel Y = x := ⟨_, rfl⟩
      rw [hPL] at HQ ⊢
      have HPL := Lib.hid hPL
      clear e0 hPL
      go_wp2_with fail
      go_ret
      exact ⟨B, c, by rw [HPL.out]; rfl, by rw [HPL.out]; exact HQ.out⟩
end Go.Proofs.YtfplnobnmgbgoaaDoor
namespace Go.Proofs.YtfplnobnmgbgoaaDoor
open Go.RowKit Go.Lib
set_option linter.unusedVariables false
set_option maxRecDepth 20000
set_option linter.unusedSimpArgs false

/-- isAbove. -/
theorem isab_any (s : Std) (key : ByteArray) (w : World) : Calls Tryd.prog 82 #[.agg #[.int .i64 s.at_.slot, .int .u64 s.at_.gen, .string s.low, .string s.high, .bool s.bnd], .string key] w fun e w' => BRes (kl key s.low) w e w' := by
  obtain ⟨z, hz⟩ : ∃ z, kcmp key s.low = z := ⟨_, rfl⟩
  have CL := Lib.hid fun (W : World) => cmpT key s.low W
  rw [hz] at CL
  have HZ := Lib.hid hz
  clear hz
  have T0 := Lib.hid ((Turn.refl No w).alloc (.cells #[.int .i64 s.at_.slot, .int .u64 s.at_.gen, .string s.low, .string s.high, .bool s.bnd] 98))
  go_enter Tryd.func82, Tryd.ntmps82
  go_wp2_with (go_at_call 59; (with_reducible refine (CL.out _).mono ?_); rintro e w2 ⟨rfl, ht⟩; have H2 := Lib.hid ht; clear ht)
  go_ret
  refine BRes.of (decide (z < 0)) rfl ?_ (T0.out.trans H2.out)
  rw [decide_eq_true_iff, ← HZ.out]
  rfl
set_option maxHeartbeats 4000000 in
theorem indexS (s : Std) (K : List ByteArray) (AK : Option Addr) (ck : Nat) (w : World) (hK : Row w AK (kcs K)) (hn : K.length ≤ 100000) :
    Calls Tryd.prog 95 #[.slice AK K.length ck, .func (.func 82) #[.agg #[.int .i64 s.at_.slot, .int .u64 s.at_.gen, .string s.low, .string s.high, .bool s.bnd]] #[]] w fun e w' => ∃ i : Int, e = .returned (.int .i64 i) ∧ (i = -1 ∨ 0 ≤ i) ∧ (i = -1 ↔ ∀ k ∈ K, ¬ kl k s.low) ∧ Turn No w w' := by
  have HA := Lib.hid hK
  clear hK
  go_enter Tryd.func95, Tryd.ntmps95
  go_wp2_with fail
  go_loopw [8] (fun i wr => ∃ kk : Nat, kk ≤ K.length ∧ i = .int .i64 (kk : Int) ∧ Hid (Turn No w wr ∧ ∀ k ∈ K.take kk, ¬ kl k s.low)) (fun i _ => K.length - (RowKit.intOf i).toNat)
  case atStart => exact ⟨0, Nat.zero_le _, rfl, Lib.hid ⟨Turn.refl _ _, by simp⟩⟩
  case round =>
    obtain ⟨kk, hm, rfl, HP⟩ := hrel
    by_cases hlt : kk < K.length
    · obtain ⟨k, hk⟩ : ∃ p, K[kk]? = some p := ⟨K[kk], List.getElem?_eq_getElem hlt⟩
      obtain ⟨b, o, hB, hc⟩ := kcs_hold (HA.out.no HP.out.1) hk
      have x0 := hc wr (Turn.refl _ _)
      have CC := Lib.hid (isab_any s k wr)
      have HM := Lib.hid (List.mem_of_getElem? hk)
      have HS := Lib.hid (all_snoc (Q := fun k => ¬ kl k s.low) hk)
      subst hB
      clear hk hc
      have hq1 : (0 : Int) ≤ (kk : Int) := by omega
      have hq2 : (kk : Int) < (K.length : Int) := by omega
      go_wp2_with (go_at_call 82; (with_reducible refine CC.out.mono ?_); rintro e w2 ⟨(_ | _), rfl, hb, ht⟩ <;> have H2 := Lib.hid (And.intro hb ht) <;> clear hb ht)
      · exact ⟨⟨kk + 1, by omega, by go_num, Lib.hid ⟨HP.out.1.trans H2.out.2, HS.out.2 ⟨HP.out.2, fun h => by have := H2.out.1.2 h; cases this⟩⟩⟩, by simp [RowKit.intOf]; omega⟩
      · go_ret
        exact ⟨kk, rfl, .inr (by omega), ⟨fun h => by omega, fun h => absurd (by first | exact H2.out.1.1 rfl | exact H2.out.1.1 trivial) (h k HM.out)⟩, HP.out.1.trans H2.out.2⟩
    · obtain rfl : kk = K.length := by omega
      have HT := HP.out.2
      rw [List.take_length] at HT
      have HT := Lib.hid HT
      go_wp2_with fail
      go_ret
      exact ⟨-1, rfl, .inl rfl, ⟨fun _ => HT.out, fun _ => rfl⟩, HP.out.1⟩
theorem containsS (s : Std) (K : List ByteArray) (AK : Option Addr) (ck : Nat) (w : World) (hK : Row w AK (kcs K)) (hn : K.length ≤ 100000) :
    Calls Tryd.prog 81 #[.slice AK K.length ck, .func (.func 82) #[.agg #[.int .i64 s.at_.slot, .int .u64 s.at_.gen, .string s.low, .string s.high, .bool s.bnd]] #[]] w fun e w' => BRes (¬ ∀ k ∈ K, ¬ kl k s.low) w e w' := by
  have CI := Lib.hid (indexS s K AK ck w hK hn)
  clear hK
  go_enter Tryd.func81, Tryd.ntmps81
  go_wp2_with (go_at_call 95; (with_reducible refine CI.out.mono ?_); rintro e w2 ⟨i, rfl, h1, h2, ht⟩; have H2 := Lib.hid (And.intro h1 (And.intro h2 ht)); clear h1 h2 ht)
  go_ret
  refine BRes.of (decide (0 ≤ i)) rfl ?_ H2.out.2.2
  rw [← H2.out.2.1, decide_eq_true_iff]
  have := H2.out.1
  omega
/-- The right neighbour's handle. -/
def nxtH (R : List Std) (j : Nat) : Hn := (R[j + 1]?).elim ⟨0, 0⟩ Std.at_
/-- nextOf. -/
theorem nextof_any (R : List Std) {A : Option Addr} (c : Nat) {j : Nat} (hj : j < R.length) (hl : R.length ≤ 100000) (w : World) (hR : Row w A (scs R)) :
    Calls Tryd.prog 63 #[.slice A R.length c, .int .i64 (j : Int)] w fun e w' => e = .returned (.agg #[.int .i64 (nxtH R j).slot, .int .u64 (nxtH R j).gen]) ∧ Turn No w w' := by
  have hw : IntKind.i64.wrap ((j : Int) + 1) = (j : Int) + 1 := IntWalk.i64_in _ ⟨by omega, by omega⟩
  have T0 := (Turn.refl No w).alloc (.cells #[.int .i64 0, .int .u64 0] 77)
  have A0 := At.new w (.cells #[.int .i64 0, .int .u64 0] 77)
  have H0 := Lib.hid (And.intro T0 (And.intro A0 (hR.no T0)))
  obtain ⟨n, hn⟩ : ∃ x, R.length = x := ⟨_, rfl⟩
  rw [hn] at hj hl ⊢
  have HN := Lib.hid hn
  clear T0 A0 hR hn
  go_enter Tryd.func63, Tryd.ntmps63
  go_upto_region 1 with fail
  generalize w.alloc (.cells #[.int .i64 0, .int .u64 0] 77) = w1 at H0 ⊢
  obtain ⟨g, hg⟩ : ∃ x, w.heap.size = x := ⟨_, rfl⟩
  have HG := Lib.hid hg
  rw [hg] at H0 ⊢
  clear hg
  by_cases he : j + 1 = n
  · have q2 : ((j : Int) + 1 == (n : Int)) = true := by simp; omega
    have HE : Hid (R[j + 1]? = none) := Lib.hid (List.getElem?_eq_none (by rw [HN.out]; omega))
    obtain ⟨y0, y1⟩ := at2 H0.out.2.1
    have z0 := H0.out.2.1.thawed 0
    have z1 := H0.out.2.1.thawed 1
    have y9 := H0.out.2.1.lt
    clear he
    go_wp2_with fail
    obtain ⟨hA, tA⟩ := set2 (v0 := .int .i64 0) (v1 := .int .u64 0) H0.out.2.1
    have HZ := Lib.hid (And.intro hA (H0.out.1.then tA fun k hk e => by have := HG.out; omega))
    generalize (w1.setCell ⟨g, 0, none⟩ (.int .i64 0)).setCell ⟨g, 1, none⟩ (.int .u64 0) = w9 at HZ ⊢
    (try simp only [Exit.inBlock, Exit.then])
    refine bodyPost_ret (results_cell_row rfl _ _ g 77 _ (0, 0) _ (by rfl) HZ.out.1 Tryd.underlying77 rfl (by kernel_rfl)) rfl ?_
    have e9 : nxtH R j = ⟨0, 0⟩ := by unfold nxtH; rw [HE.out]; rfl
    rw [e9]
    exact ⟨rfl, HZ.out.2⟩
  · have q2 : ((j : Int) + 1 == (n : Int)) = false := by simp; omega
    obtain ⟨s, hs⟩ : ∃ s, R[j + 1]? = some s := ⟨R[j + 1]'(by rw [HN.out]; omega), List.getElem?_eq_getElem (by rw [HN.out]; omega)⟩
    obtain ⟨b, o, hA, hc⟩ := scs_hold H0.out.2.2 hs
    subst hA
    obtain ⟨⟨d0, d1, _⟩, d9⟩ := hc w1 (Turn.refl _ _)
    have HE := Lib.hid hs
    obtain ⟨y0, y1⟩ := at2 H0.out.2.1
    have z0 := H0.out.2.1.thawed 0
    have z1 := H0.out.2.1.thawed 1
    have y9 := H0.out.2.1.lt
    have p1 : (0 : Int) ≤ (j : Int) + 1 := by omega
    have p2 : (j : Int) + 1 < (n : Int) := by omega
    have p3 : ((j : Int) + 1).toNat = j + 1 := by omega
    clear he hs hc
    go_wp2_with fail
    obtain ⟨hA, tA⟩ := set2 (v0 := .int .i64 s.at_.slot) (v1 := .int .u64 s.at_.gen) H0.out.2.1
    have HZ := Lib.hid (And.intro hA (H0.out.1.then tA fun k hk e => by have := HG.out; omega))
    generalize (w1.setCell ⟨g, 0, none⟩ (.int .i64 s.at_.slot)).setCell ⟨g, 1, none⟩ (.int .u64 s.at_.gen) = w9 at HZ ⊢
    (try simp only [Exit.inBlock, Exit.then])
    refine bodyPost_ret (results_cell_row rfl _ _ g 77 _ (0, 0) _ (by rfl) HZ.out.1 Tryd.underlying77 rfl (by kernel_rfl)) rfl ?_
    have e9 : nxtH R j = s.at_ := by unfold nxtH; rw [HE.out]; rfl
    rw [e9]
    exact ⟨rfl, HZ.out.2⟩
end Go.Proofs.YtfplnobnmgbgoaaDoor
namespace Go.Proofs.YtfplnobnmgbgoaaDoor
open Go.RowKit Go.Lib
set_option linter.unusedVariables false
set_option maxRecDepth 20000
set_option linter.unusedSimpArgs false

set_option maxRecDepth 100000 in
set_option maxHeartbeats 8000000 in
/-- fits. -/
theorem fits_any {w : World} (s : Std) (n : Nd) {q gg : Nat} {AK : Option Addr} {ck : Nat} {AV : Option Addr} {cv : Nat} {AD : Option Addr} {cd : Nat} (hat : At w q (.cells (#[.int .u64 (gg : Int)] ++ ndc n AK ck AV cv AD cd) 121 (0, 0))) (hi : Inn w n AK AV AD) (hr : NdRight n) (h4 : n.keys.length ≤ 4) (hb : s.bnd = n.bnd) (hh : s.high = n.high) (hk : ∀ k ∈ n.keys, ¬ kl k s.low) :
    Calls Tryd.prog 62 #[.agg #[.int .i64 s.at_.slot, .int .u64 s.at_.gen, .string s.low, .string s.high, .bool s.bnd], .pointer (some ⟨q, 1, none⟩)] w fun e w' => e = .returned (.bool true) ∧ Turn No w w' := by
  rw [hb, hh]
  have T0 := (Turn.refl No w).alloc (.cells #[.int .i64 s.at_.slot, .int .u64 s.at_.gen, .string s.low, .string n.high, .bool n.bnd] 98)
  have A0 := At.new w (.cells #[.int .i64 s.at_.slot, .int .u64 s.at_.gen, .string s.low, .string n.high, .bool n.bnd] 98)
  have CR : Hid (∀ W, Turn No w W → Calls Tryd.prog 80 #[.agg #[.bool n.leaf, .slice AK n.keys.length ck, .slice AV n.vals.length cv, .slice AD n.kids.length cd, .string n.high, .bool n.bnd, .int .i64 n.nx.slot, .int .u64 n.nx.gen]] W fun e w' => e = .returned (.bool true) ∧ Turn No W w') := Lib.hid fun W t => (right_c n AK AV AD ck cv cd W (hi.no t).i).mono fun e w' ⟨b, h1, h2, h3⟩ => ⟨by rw [h1, h2.2 hr], h3⟩
  have CF : Hid (∀ W, Turn No w W → Calls Tryd.prog 70 #[.agg #[.bool n.leaf, .slice AK n.keys.length ck, .slice AV n.vals.length cv, .slice AD n.kids.length cd, .string n.high, .bool n.bnd, .int .i64 n.nx.slot, .int .u64 n.nx.gen]] W fun e w' => e = .returned (.bool false) ∧ Turn No W w') := Lib.hid fun W t => (full_c n AK AV AD ck cv cd W (hi.no t).i).mono fun e w' ⟨b, h1, h2, h3⟩ => ⟨by
    have : b = false := by
      cases b with
      | false => rfl
      | true => have := h2.1 rfl; omega
    rw [h1, this], h3⟩
  have CC : Hid (∀ W, Turn No w W → Calls Tryd.prog 81 #[.slice AK n.keys.length ck, .func (.func 82) #[.agg #[.int .i64 s.at_.slot, .int .u64 s.at_.gen, .string s.low, .string n.high, .bool n.bnd]] #[]] W fun e w' => e = .returned (.bool false) ∧ Turn No W w') := Lib.hid fun W t => by
    have := containsS s n.keys AK ck W (hi.no t).i.k (by omega)
    rw [hb, hh] at this
    exact this.mono fun e w' ⟨b, h1, h2, h3⟩ => ⟨by
      have : b = false := by
        cases b with
        | false => rfl
        | true => exact absurd hk (h2.1 rfl)
      rw [h1, this], h3⟩
  obtain ⟨g, hg⟩ : ∃ x, w.heap.size = x := ⟨_, rfl⟩
  have HS8 : Hid (∀ W, Turn No (w.alloc (.cells #[.int .i64 s.at_.slot, .int .u64 s.at_.gen, .string s.low, .string n.high, .bool n.bnd] 98)) W → W.cell? ⟨q, 1, none⟩ = some (.bool n.leaf) ∧ W.cell? ⟨q, 2, none⟩ = some (.slice AK n.keys.length ck) ∧ W.cell? ⟨q, 3, none⟩ = some (.slice AV n.vals.length cv) ∧ W.cell? ⟨q, 4, none⟩ = some (.slice AD n.kids.length cd) ∧ W.cell? ⟨q, 5, none⟩ = some (.string n.high) ∧ W.cell? ⟨q, 6, none⟩ = some (.bool n.bnd) ∧ W.cell? ⟨q, 7, none⟩ = some (.int .i64 n.nx.slot) ∧ W.cell? ⟨q, 8, none⟩ = some (.int .u64 n.nx.gen) ∧ W.cell? ⟨g, 0, none⟩ = some (.int .i64 s.at_.slot) ∧ W.cell? ⟨g, 1, none⟩ = some (.int .u64 s.at_.gen) ∧ W.cell? ⟨g, 2, none⟩ = some (.string s.low) ∧ W.cell? ⟨g, 3, none⟩ = some (.string n.high) ∧ W.cell? ⟨g, 4, none⟩ = some (.bool n.bnd)) := Lib.hid fun W t => by
    obtain ⟨a1, a2, a3, a4, a5, a6, a7, a8⟩ := node_cells (hat.no (T0.trans t))
    obtain ⟨b0, b1, b2, b3, b4⟩ := at5 (A0.no t)
    rw [hg] at b0 b1 b2 b3 b4
    exact ⟨a1, a2, a3, a4, a5, a6, a7, a8, b0, b1, b2, b3, b4⟩
  have HT0 := Lib.hid T0
  have HG := Lib.hid hg
  clear hat hi hr h4 hb hh hk T0 A0 hg
  go_enter Tryd.func62, Tryd.ntmps62
  go_upto_region 1 with fail
  rw [HG.out]
  generalize w.alloc (.cells #[.int .i64 s.at_.slot, .int .u64 s.at_.gen, .string s.low, .string n.high, .bool n.bnd] 98) = w1 at HT0 HS8 ⊢
  have HS0 := HS8.out w1 (Turn.refl _ _)
  go_region_held3 (fun W => W.cell? ⟨q, 1, none⟩ = some (.bool n.leaf) ∧ W.cell? ⟨q, 2, none⟩ = some (.slice AK n.keys.length ck) ∧ W.cell? ⟨q, 3, none⟩ = some (.slice AV n.vals.length cv) ∧ W.cell? ⟨q, 4, none⟩ = some (.slice AD n.kids.length cd) ∧ W.cell? ⟨q, 5, none⟩ = some (.string n.high) ∧ W.cell? ⟨q, 6, none⟩ = some (.bool n.bnd) ∧ W.cell? ⟨q, 7, none⟩ = some (.int .i64 n.nx.slot) ∧ W.cell? ⟨q, 8, none⟩ = some (.int .u64 n.nx.gen) ∧ W.cell? ⟨g, 0, none⟩ = some (.int .i64 s.at_.slot) ∧ W.cell? ⟨g, 1, none⟩ = some (.int .u64 s.at_.gen) ∧ W.cell? ⟨g, 2, none⟩ = some (.string s.low) ∧ W.cell? ⟨g, 3, none⟩ = some (.string n.high) ∧ W.cell? ⟨g, 4, none⟩ = some (.bool n.bnd)) (first | (with_reducible exact HS0) | (exact HS8.out _ (by first | assumption | exact (Turn.refl No _).drew))) (first | (go_at_call 80; (with_reducible refine (CR.out _ (HT0.out.trans (by first | assumption | exact (Turn.refl No _).drew))).mono ?_); rintro e w5 ⟨rfl, ht⟩; have ht : Turn No w1 w5 := Turn.trans (by first | assumption | exact (Turn.refl No _).drew) ht) | (go_at_call 70; (with_reducible refine (CF.out _ (HT0.out.trans (by first | assumption | exact (Turn.refl No _).drew))).mono ?_); rintro e w5 ⟨rfl, ht⟩; have ht : Turn No w1 w5 := Turn.trans (by first | assumption | exact (Turn.refl No _).drew) ht) | (go_at_call 81; (with_reducible refine (CC.out _ (HT0.out.trans (by first | assumption | exact (Turn.refl No _).drew))).mono ?_); rintro e w5 ⟨rfl, ht⟩; have ht : Turn No w1 w5 := Turn.trans (by first | assumption | exact (Turn.refl No _).drew) ht))
  have HF := Lib.hid (HT0.out.trans ht)
  clear HS0
  go_wp2_with fail
  go_ret
  exact ⟨rfl, HF.out⟩
end Go.Proofs.YtfplnobnmgbgoaaDoor
namespace Go.Proofs.YtfplnobnmgbgoaaDoor
open Go.RowKit Go.Lib
set_option linter.unusedVariables false
set_option maxRecDepth 20000
set_option linter.unusedSimpArgs false

/-- What Check asks of a level's stands. -/
structure LevOk (T : List Lvl) (Y : List (Std × Nd)) (lf : Bool) : Prop where
  mem : ∀ y ∈ Y, (y.1.at_, y.2) ∈ T.flatten
  fit : ∀ y ∈ Y, y.1.bnd = y.2.bnd ∧ y.1.high = y.2.high ∧ ∀ k ∈ y.2.keys, ¬ kl k y.1.low
  leaf : ∀ y ∈ Y, y.2.leaf = lf
  nx : ∀ j y, Y[j]? = some y → nxtH (Y.map Prod.fst) j = y.2.nx
set_option maxRecDepth 100000 in
set_option maxHeartbeats 8000000 in
/-- isLevel. -/
theorem islev_any {w : World} {I : Ids} {N : Nat → Option Ent} {T : List Lvl} {root : Hn} (hT : Tr w I N T root) (Y : List (Std × Nd)) {lf : Bool} (hL : LevOk T Y lf) {Bq : Option Addr} {cq : Nat} (hrow : Row w Bq (scs (Y.map Prod.fst))) (hY0 : Y ≠ []) (hYl : Y.length ≤ 10000) :
    Calls Tryd.prog 43 #[.pointer (some ⟨I.tb, 0, none⟩), .slice Bq Y.length cq] w fun e w' => e = .returned (.bool true) ∧ Turn No w w' := by
  have HT := Lib.hid (And.intro hT (And.intro hrow hL))
  have HS : Hid (∀ W, Turn No w W → W.cell? ⟨I.tb, 1, none⟩ = some (.pointer (some ⟨I.ab, 0, none⟩)) ∧ I.tb < W.heap.size) := Lib.hid fun W t => ⟨by simpa using At.cell (At.no hT.t t) 1, At.lt (At.no hT.t t)⟩
  obtain ⟨ny, hny⟩ : ∃ x, Y.length = x := ⟨_, rfl⟩
  have HNY := Lib.hid hny
  rw [hny] at hYl ⊢
  have hn0 : 0 < ny := by rw [← hny]; exact List.length_pos_iff.2 hY0
  obtain ⟨y, hy⟩ : ∃ y, Y[0]? = some y := ⟨Y[0]'(by rw [hny]; exact hn0), List.getElem?_eq_getElem (by rw [hny]; exact hn0)⟩
  have hym := List.mem_of_getElem? hy
  have hyt := hL.mem y hym
  have hyl := hL.leaf y hym
  obtain ⟨b, o, hB, hc⟩ := scs_hold hrow (show (Y.map Prod.fst)[0]? = some y.1 by rw [List.getElem?_map, hy]; rfl)
  subst hB
  obtain ⟨g, AK, ck, AV, cv, AD, cd, hat, hin⟩ := hT.node hyt
  obtain ⟨q0, hq⟩ : ∃ x, blkOf N (y.1.at_, y.2) = x := ⟨_, rfl⟩
  have GY := Lib.hid fun W (t : Turn No w W) => hT.getY hyt W t
  rw [hq] at hat GY
  unfold pq at GY
  obtain ⟨s, n⟩ := y
  have HQ0 : Hid (∀ W, Turn No w W → W.cell? ⟨q0, 1, none⟩ = some (.bool lf)) := Lib.hid fun W t => by rw [(node_cells (hat.no t)).1]; exact congrArg (fun x => some (Value.bool x)) hyl
  have HS1 : Hid (∀ W, Turn No w W → W.cell? ⟨I.tb, 1, none⟩ = some (.pointer (some ⟨I.ab, 0, none⟩)) ∧ W.cell? ⟨b, o, none⟩ = some (.int .i64 s.at_.slot) ∧ W.cell? ⟨b, o + 1, none⟩ = some (.int .u64 s.at_.gen)) := Lib.hid fun W t => ⟨(HS.out W t).1, by simpa using (hc W t).1.1, by simpa using (hc W t).1.2.1⟩
  have b0 : (0 : Int) < (ny : Int) := by omega
  simp only at *
  clear hT hrow hL hny hY0 hy hym hyt hyl hc hat hin hq
  go_enter Tryd.func43, Tryd.ntmps43
  go_upto_region 1 with fail
  have hs0 := HS1.out w (Turn.refl _ _)
  go_region_held3 (fun W => W.cell? ⟨I.tb, 1, none⟩ = some (.pointer (some ⟨I.ab, 0, none⟩)) ∧ W.cell? ⟨b, o, none⟩ = some (.int .i64 s.at_.slot) ∧ W.cell? ⟨b, o + 1, none⟩ = some (.int .u64 s.at_.gen)) (first | (with_reducible exact hs0) | (exact HS1.out _ (by first | assumption | exact (Turn.refl No _).drew))) (first | (go_at_call 61; (with_reducible refine (GY.out _ (Turn.refl No _).drew).mono ?_); rintro e w5 ⟨rfl, ht⟩; have ht : Turn No w w5 := (Turn.refl No w).drew.trans ht))
  have HW5 := Lib.hid ht
  clear ht hs0
  clear GY HS1 b0
  go_wp2_with fail
  go_loopw [25] (fun x wr => ∃ j : Nat, j ≤ ny ∧ x = .int .i64 (j : Int) ∧ Hid (Turn No w wr)) (fun x _ => ny - (RowKit.intOf x).toNat)
  case atStart => exact ⟨0, Nat.zero_le _, rfl, HW5⟩
  case round =>
    obtain ⟨j, hj, rfl, HR⟩ := hrel
    by_cases hlt : j < ny
    · obtain ⟨y, hy⟩ : ∃ y, Y[j]? = some y := ⟨Y[j]'(by rw [HNY.out]; exact hlt), List.getElem?_eq_getElem (by rw [HNY.out]; exact hlt)⟩
      have hL := HT.out.2.2
      have hym := List.mem_of_getElem? hy
      have hyt := hL.mem y hym
      have hyl := hL.leaf y hym
      have hyf := hL.fit y hym
      have hyn := hL.nx j y hy
      obtain ⟨hnr, hk4⟩ := good_right HT.out.1.g hyt
      have hysj : (Y.map Prod.fst)[j]? = some y.1 := by rw [List.getElem?_map, hy]; rfl
      have hcj : ∀ W, Turn No w W → _ := fun W t => scs_hold (HT.out.2.1.no t) hysj
      obtain ⟨b', o', hB', hc⟩ := scs_hold HT.out.2.1 hysj
      injection hB' with hB'
      injection hB' with q1 q2
      subst q1 q2
      obtain ⟨⟨d0, d1, d2, d3, d4⟩, d9⟩ := hc wr HR.out
      obtain ⟨g, AK, ck, AV, cv, AD, cd, hat, hin⟩ := HT.out.1.node hyt
      obtain ⟨q, hq⟩ : ∃ x, blkOf N (y.1.at_, y.2) = x := ⟨_, rfl⟩
      have GY := Lib.hid fun W (t : Turn No w W) => HT.out.1.getY hyt W t
      rw [hq] at hat GY
      unfold pq at GY
      have CF := Lib.hid fun W (t : Turn No w W) => fits_any y.1 y.2 (hat.no t) (hin.no t) hnr hk4 hyf.1 hyf.2.1 hyf.2.2
      have CN := Lib.hid fun W (t : Turn No w W) => nextof_any (Y.map Prod.fst) cq (j := j) (by rw [List.length_map, HNY.out]; exact hlt) (by rw [List.length_map, HNY.out]; omega) W (HT.out.2.1.no t)
      rw [List.length_map, HNY.out, hyn] at CN
      have b1 : (0 : Int) ≤ (j : Int) := by omega
      have b2 : (j : Int) < (ny : Int) := by omega
      obtain ⟨s, n⟩ := y
      obtain ⟨sl, hsl⟩ : ∃ x, n.nx.slot = x := ⟨_, rfl⟩
      obtain ⟨ge, hge⟩ : ∃ x, n.nx.gen = x := ⟨_, rfl⟩
      simp only at *
      rw [hsl, hge] at CN
      have HQ : Hid (∀ W, Turn No w W → W.cell? ⟨q, 1, none⟩ = some (.bool lf) ∧ W.cell? ⟨q, 7, none⟩ = some (.int .i64 sl) ∧ W.cell? ⟨q, 8, none⟩ = some (.int .u64 ge)) := Lib.hid fun W t => by
        obtain ⟨a1, _, _, _, _, _, a7, a8⟩ := node_cells (hat.no t)
        exact ⟨by rw [a1]; exact congrArg (fun x => some (Value.bool x)) hyl, by rw [a7, ← hsl], by rw [a8, ← hge]⟩
      have hns := neq_same sl ge
      obtain ⟨t0, t9⟩ := HS.out wr HR.out
      clear hy hL hym hyt hyl hyf hyn hnr hk4 hysj hcj hc hat hin hq hsl hge
      go_upto_region 5 with fail
      have T2 := (Turn.refl No wr).alloc (.cells #[.int .i64 s.at_.slot, .int .u64 s.at_.gen, .string s.low, .string s.high, .bool s.bnd] 98)
      have A2 := At.new wr (.cells #[.int .i64 s.at_.slot, .int .u64 s.at_.gen, .string s.low, .string s.high, .bool s.bnd] 98)
      obtain ⟨b3, hb3⟩ : ∃ x, wr.heap.size = x := ⟨_, rfl⟩
      rw [hb3] at A2 ⊢
      clear hb3 d0 d1 d2 d3 d4 d9 t0 t9
      generalize wr.alloc (.cells #[.int .i64 s.at_.slot, .int .u64 s.at_.gen, .string s.low, .string s.high, .bool s.bnd] 98) = W2 at T2 A2 ⊢
      have H2 := Lib.hid (And.intro (HR.out.trans T2) A2)
      have HS5 : Hid (∀ W, Turn No W2 W → W.cell? ⟨I.tb, 1, none⟩ = some (.pointer (some ⟨I.ab, 0, none⟩)) ∧ W.cell? ⟨b3, 0, none⟩ = some (.int .i64 s.at_.slot) ∧ W.cell? ⟨b3, 1, none⟩ = some (.int .u64 s.at_.gen)) := Lib.hid fun W t => ⟨(HS.out W (H2.out.1.trans t)).1, (at5 (H2.out.2.no t)).1, (at5 (H2.out.2.no t)).2.1⟩
      have HS6 : Hid (∀ W, Turn No W2 W → W.cell? ⟨q, 1, none⟩ = some (.bool lf) ∧ W.cell? ⟨q0, 1, none⟩ = some (.bool lf) ∧ W.cell? ⟨q, 7, none⟩ = some (.int .i64 sl) ∧ W.cell? ⟨q, 8, none⟩ = some (.int .u64 ge) ∧ W.cell? ⟨b3, 0, none⟩ = some (.int .i64 s.at_.slot) ∧ W.cell? ⟨b3, 1, none⟩ = some (.int .u64 s.at_.gen) ∧ W.cell? ⟨b3, 2, none⟩ = some (.string s.low) ∧ W.cell? ⟨b3, 3, none⟩ = some (.string s.high) ∧ W.cell? ⟨b3, 4, none⟩ = some (.bool s.bnd)) := Lib.hid fun W t => by
        obtain ⟨a1, a7, a8⟩ := HQ.out W (H2.out.1.trans t)
        obtain ⟨e0, e1, e2, e3, e4⟩ := at5 (H2.out.2.no t)
        exact ⟨a1, HQ0.out W (H2.out.1.trans t), a7, a8, e0, e1, e2, e3, e4⟩
      clear T2 A2
      have hs5 := HS5.out W2 (Turn.refl _ _)
      go_region_held3 (fun W => W.cell? ⟨I.tb, 1, none⟩ = some (.pointer (some ⟨I.ab, 0, none⟩)) ∧ W.cell? ⟨b3, 0, none⟩ = some (.int .i64 s.at_.slot) ∧ W.cell? ⟨b3, 1, none⟩ = some (.int .u64 s.at_.gen)) (first | (with_reducible exact hs5) | (exact HS5.out _ (by first | assumption | exact (Turn.refl No _).drew))) (first | (go_at_call 61; (with_reducible refine (GY.out _ (H2.out.1.trans (Turn.refl No _).drew)).mono ?_); rintro e w6 ⟨rfl, ht⟩; have ht : Turn No W2 w6 := (Turn.refl No W2).drew.trans ht))
      have H6 := Lib.hid ht
      clear ht hs5 HS5
      go_upto_region 6 with fail
      have hs6 := HS6.out w6 H6.out
      have HS7 : Hid (∀ W, Turn No w6 W → W.cell? ⟨q, 1, none⟩ = some (.bool lf) ∧ W.cell? ⟨q0, 1, none⟩ = some (.bool lf) ∧ W.cell? ⟨q, 7, none⟩ = some (.int .i64 sl) ∧ W.cell? ⟨q, 8, none⟩ = some (.int .u64 ge) ∧ W.cell? ⟨b3, 0, none⟩ = some (.int .i64 s.at_.slot) ∧ W.cell? ⟨b3, 1, none⟩ = some (.int .u64 s.at_.gen) ∧ W.cell? ⟨b3, 2, none⟩ = some (.string s.low) ∧ W.cell? ⟨b3, 3, none⟩ = some (.string s.high) ∧ W.cell? ⟨b3, 4, none⟩ = some (.bool s.bnd)) := Lib.hid fun W t => HS6.out W (H6.out.trans t)
      clear HS6
      go_region_held3 (fun W => W.cell? ⟨q, 1, none⟩ = some (.bool lf) ∧ W.cell? ⟨q0, 1, none⟩ = some (.bool lf) ∧ W.cell? ⟨q, 7, none⟩ = some (.int .i64 sl) ∧ W.cell? ⟨q, 8, none⟩ = some (.int .u64 ge) ∧ W.cell? ⟨b3, 0, none⟩ = some (.int .i64 s.at_.slot) ∧ W.cell? ⟨b3, 1, none⟩ = some (.int .u64 s.at_.gen) ∧ W.cell? ⟨b3, 2, none⟩ = some (.string s.low) ∧ W.cell? ⟨b3, 3, none⟩ = some (.string s.high) ∧ W.cell? ⟨b3, 4, none⟩ = some (.bool s.bnd)) (first | (with_reducible exact hs6) | (exact HS7.out _ (by first | assumption | exact (Turn.refl No _).drew))) (first | (go_at_call 62; (with_reducible refine (CF.out _ ((H2.out.1.trans H6.out).trans (by first | assumption | exact (Turn.refl No _).drew))).mono ?_); rintro e w7 ⟨rfl, ht⟩; have ht : Turn No w6 w7 := Turn.trans (by first | assumption | exact (Turn.refl No _).drew) ht) | (go_at_call 63; (with_reducible refine (CN.out _ ((H2.out.1.trans H6.out).trans (by first | assumption | exact (Turn.refl No _).drew))).mono ?_); rintro e w7 ⟨rfl, ht⟩; have ht : Turn No w6 w7 := Turn.trans (by first | assumption | exact (Turn.refl No _).drew) ht))
      have HF := Lib.hid (H2.out.1.trans (H6.out.trans ht))
      clear hs6 HS7
      go_wp2_with fail
      refine ⟨⟨j + 1, by omega, congrArg _ (by omega), HF⟩, ?_⟩
      show ny - ((j : Int) + 1).toNat < ny - ((j : Int)).toNat
      omega
    · obtain rfl : j = ny := by omega
      have b2 : ¬ (j : Int) < (j : Int) := by omega
      go_wp2_with fail
      go_ret
      exact ⟨rfl, HR.out⟩
end Go.Proofs.YtfplnobnmgbgoaaDoor
namespace Go.Proofs.YtfplnobnmgbgoaaDoor
open Go.RowKit Go.Lib
set_option linter.unusedVariables false
set_option maxRecDepth 20000
set_option linter.unusedSimpArgs false

/-- Each stand begins where the one ahead of it ends. -/
def LwS : ByteArray → List Std → Prop
  | _, [] => True
  | lo, s :: t => s.low = lo ∧ LwS s.high t
def lastH : ByteArray → List Std → ByteArray
  | lo, [] => lo
  | _, s :: t => lastH s.high t
theorem lws_append : ∀ {A B : List Std} {lo : ByteArray}, LwS lo A → LwS (lastH lo A) B → LwS lo (A ++ B)
  | [], _, _, _, h => h
  | _ :: _, _, _, ⟨h1, h2⟩, h => ⟨h1, lws_append h2 h⟩
theorem lastH_append : ∀ (A B : List Std) (lo : ByteArray), lastH lo (A ++ B) = lastH (lastH lo A) B
  | [], _, _ => rfl
  | s :: A, B, _ => lastH_append A B s.high
def E1 (s : Std) : Option ByteArray := if s.bnd = true then some s.high else none
theorem e1_some {s : Std} {a : ByteArray} (h : E1 s = some a) : s.high = a := by
  unfold E1 at h
  split at h
  · injection h
  · cases h
/-- Stands that fit a level. -/
structure RowOk (R : List Std) (l : Lvl) : Prop where
  hs : R.map Std.at_ = l.map Prod.fst
  en : R.map E1 = l.map fun x => En1 x.2
  nb : ∀ s ∈ R, s.bnd = false → s.high = ⟨#[]⟩
  lw : LwS ⟨#[]⟩ R
theorem RowOk.len {R : List Std} {l : Lvl} (h : RowOk R l) : R.length = l.length := by have := congrArg List.length h.hs; simpa using this
def KC : ByteArray → Lvl → Prop
  | _, [] => True
  | lo, x :: t => (∀ k ∈ x.2.keys, ¬ kl k lo) ∧ (t = [] ∨ ∃ a, En1 x.2 = some a ∧ KC a t)
theorem kc_leaf : ∀ {l : Lvl} {lo : ByteArray}, Ch (some lo) (l.map Prod.snd) → KC lo l
  | [], _, _ => trivial
  | [x], lo, h => ⟨h.1.2.2.1 lo rfl, .inl rfl⟩
  | x :: y :: t, lo, h => ⟨h.1.2.2.1 lo rfl, .inr ⟨x.2.high, by unfold En1; rw [if_pos h.2.1], kc_leaf h.2.2⟩⟩
theorem kc_in : ∀ {l : Lvl} {lo : ByteArray}, (l.flatMap fun x => endsOf x.2).Pairwise EnR → (∀ x ∈ l, ∀ k ∈ x.2.keys, ¬ kl k lo) → KC lo l
  | [], _, _, _ => trivial
  | [x], lo, _, h => ⟨h x (List.mem_cons_self ..), .inl rfl⟩
  | x :: y :: t, lo, hp, h => by
    refine ⟨h x (List.mem_cons_self ..), .inr ?_⟩
    rw [List.flatMap_cons] at hp
    obtain ⟨_, hp2, hp3⟩ := List.pairwise_append.1 hp
    have hx : En1 x.2 ∈ endsOf x.2 := by unfold endsOf; simp
    have hy : En1 y.2 ∈ (y :: t).flatMap fun x => endsOf x.2 := List.mem_flatMap.2 ⟨y, List.mem_cons_self .., by unfold endsOf; simp⟩
    obtain ⟨a, ha, _⟩ := hp3 _ hx _ hy
    refine ⟨a, ha, kc_in hp2 fun z hz k hk h2 => ?_⟩
    obtain ⟨a', ha', hb⟩ := hp3 _ hx (some k) (List.mem_flatMap.2 ⟨z, hz, by unfold endsOf; exact List.mem_append.2 (.inl (List.mem_map_of_mem hk))⟩)
    rw [ha] at ha'
    injection ha' with ha'
    subst ha'
    exact kl_asymm (hb k rfl) h2
theorem tower_kc {l : Lvl} {R : List Lvl} (h : Tower (l :: R)) : KC ⟨#[]⟩ l := by
  cases R with
  | nil => exact kc_leaf h.1
  | cons d R =>
    refine kc_in ?_ fun x _ k _ => kl_empty k
    rw [h.1.ends]
    exact tower_ends h.2.2
theorem fit_low : ∀ {l : Lvl} {R : List Std} {lo : ByteArray}, LwS lo R → R.map E1 = l.map (fun x => En1 x.2) → KC lo l → ∀ y ∈ R.zip (l.map Prod.snd), ∀ k ∈ y.2.keys, ¬ kl k y.1.low
  | [], R, _, _, _, _, y, hy, _, _ => by simp at hy
  | x :: t, [], _, _, _, _, y, hy, _, _ => by simp at hy
  | x :: t, s :: R, lo, hw, he, hk, y, hy, k, hkk => by
    rw [List.map_cons, List.zip_cons_cons] at hy
    rw [List.map_cons, List.map_cons] at he
    injection he with e1 e2
    rcases List.mem_cons.1 hy with rfl | hy
    · rw [hw.1]
      exact hk.1 k hkk
    · rcases hk.2 with ht | ⟨a, ha, hc⟩
      · subst ht
        simp at hy
      · have h2 := hw.2
        rw [e1_some (e1.trans ha)] at h2
        exact fit_low h2 e2 hc y hy k hkk
theorem en_eq {s : Std} {n : Nd} (h : E1 s = En1 n) (hs : s.bnd = false → s.high = ⟨#[]⟩) (hn : n.bnd = false → n.high = ⟨#[]⟩) : s.bnd = n.bnd ∧ s.high = n.high := by
  unfold E1 En1 at h
  cases h1 : s.bnd <;> cases h2 : n.bnd <;> rw [h1, h2] at h <;> simp at h
  · exact ⟨rfl, by rw [hs h1, hn h2]⟩
  · exact ⟨rfl, h⟩
theorem kidAt_in {s : Std} {n : Nd} {i : Nat} {k : Hn} (h : i < n.keys.length) : (kidAt s n i k).bnd = true ∧ (kidAt s n i k).high = n.keys.getD i ⟨#[]⟩ := ⟨if_pos h, if_pos h⟩
theorem kidAt_out {s : Std} {n : Nd} {i : Nat} {k : Hn} (h : ¬ i < n.keys.length) : (kidAt s n i k).bnd = s.bnd ∧ (kidAt s n i k).high = s.high := ⟨if_neg h, if_neg h⟩
theorem kidAt_low {s : Std} {n : Nd} {i : Nat} {k : Hn} : (kidAt s n i k).low = if i = 0 then s.low else n.keys.getD (i - 1) ⟨#[]⟩ := rfl
theorem kidAt_high {s : Std} {n : Nd} {i : Nat} {k : Hn} : (kidAt s n i k).high = if i < n.keys.length then n.keys.getD i ⟨#[]⟩ else s.high := rfl
theorem kids_at (s : Std) (n : Nd) : ∀ m, m ≤ n.kids.length → (kidsOf s n m).map Std.at_ = n.kids.take m
  | 0, _ => by unfold kidsOf; rfl
  | m + 1, h => by
    obtain ⟨k, hk⟩ : ∃ k, n.kids[m]? = some k := ⟨n.kids[m], List.getElem?_eq_getElem (by omega)⟩
    rw [kidsOf_succ, List.map_append, kids_at s n m (by omega), List.take_add_one, hk, List.getD_eq_getElem?_getD, hk]
    rfl
theorem kids_e1 (s : Std) (n : Nd) : ∀ m, m ≤ n.keys.length → (kidsOf s n m).map E1 = (n.keys.take m).map some
  | 0, _ => by unfold kidsOf; rfl
  | m + 1, h => by
    obtain ⟨k, hk⟩ : ∃ k, n.keys[m]? = some k := ⟨n.keys[m], List.getElem?_eq_getElem (by omega)⟩
    rw [kidsOf_succ, List.map_append, kids_e1 s n m (by omega), List.take_add_one, hk, List.map_append]
    refine congrArg _ ?_
    rw [List.map_cons, List.map_nil]
    unfold E1
    rw [(kidAt_in (by omega)).1, (kidAt_in (by omega)).2, if_pos rfl, List.getD_eq_getElem?_getD, hk]
    rfl
theorem kids_ends (s : Std) (n : Nd) : (kidsOf s n (n.keys.length + 1)).map E1 = n.keys.map some ++ [E1 s] := by
  rw [kidsOf_succ, List.map_append, kids_e1 s n _ (Nat.le_refl _), List.take_length]
  refine congrArg _ ?_
  rw [List.map_cons, List.map_nil]
  unfold E1
  rw [(kidAt_out (Nat.lt_irrefl _)).1, (kidAt_out (Nat.lt_irrefl _)).2]
theorem kids_lw (s : Std) (n : Nd) : ∀ m, m ≤ n.keys.length + 1 → LwS s.low (kidsOf s n m) ∧ lastH s.low (kidsOf s n m) = if m = 0 then s.low else if m - 1 < n.keys.length then n.keys.getD (m - 1) ⟨#[]⟩ else s.high
  | 0, _ => by unfold kidsOf; exact ⟨trivial, rfl⟩
  | m + 1, h => by
    obtain ⟨h1, h2⟩ := kids_lw s n m (by omega)
    rw [kidsOf_succ, lastH_append, if_neg (by omega)]
    refine ⟨lws_append h1 ⟨?_, trivial⟩, ?_⟩
    · rw [h2]
      rw [kidAt_low]
      by_cases hm : m = 0
      · rw [if_pos hm, if_pos hm]
      · rw [if_neg hm, if_neg hm, if_pos (by omega)]
    · show (kidAt s n m _).high = _
      rw [kidAt_high, Nat.add_sub_cancel]
theorem kids_nb (s : Std) (n : Nd) (hs : s.bnd = false → s.high = ⟨#[]⟩) (m : Nat) : ∀ t ∈ kidsOf s n m, t.bnd = false → t.high = ⟨#[]⟩ := fun t ht hb => by
  unfold kidsOf at ht
  obtain ⟨i, _, rfl⟩ := List.mem_map.1 ht
  by_cases hi : i < n.keys.length
  · rw [(kidAt_in hi).1] at hb; exact absurd hb (by decide)
  · rw [(kidAt_out hi).1] at hb; rw [(kidAt_out hi).2]; exact hs hb
theorem bel_zip : ∀ {l : Lvl} {R : List Std} {lo : ByteArray}, R.map Std.at_ = l.map Prod.fst → R.map E1 = l.map (fun x => En1 x.2) → (∀ s ∈ R, s.bnd = false → s.high = ⟨#[]⟩) → LwS lo R → (∀ x ∈ l, x.2.kids.length = x.2.keys.length + 1) →
    (bel (R.zip (l.map Prod.snd))).map Std.at_ = l.flatMap (fun x => x.2.kids) ∧ (bel (R.zip (l.map Prod.snd))).map E1 = l.flatMap (fun x => endsOf x.2) ∧ (∀ s ∈ bel (R.zip (l.map Prod.snd)), s.bnd = false → s.high = ⟨#[]⟩) ∧ LwS lo (bel (R.zip (l.map Prod.snd))) ∧ lastH lo (bel (R.zip (l.map Prod.snd))) = lastH lo R
  | [], [], _, _, _, _, _, _ => ⟨rfl, rfl, fun s hs => by simp [bel] at hs, trivial, rfl⟩
  | [], s :: R, _, h, _, _, _, _ => by simp at h
  | x :: t, [], _, h, _, _, _, _ => by simp at h
  | x :: t, s :: R, lo, h1, h2, h3, h4, h5 => by
    rw [List.map_cons, List.map_cons] at h1 h2
    injection h1 with a1 a2
    injection h2 with b1 b2
    obtain ⟨i1, i2, i3, i4, i5⟩ := bel_zip (lo := s.high) a2 b2 (fun z hz => h3 z (List.mem_cons_of_mem _ hz)) h4.2 fun z hz => h5 z (List.mem_cons_of_mem _ hz)
    have hk := h5 x (List.mem_cons_self ..)
    have e : bel ((s :: R).zip ((x :: t).map Prod.snd)) = kidsOf s x.2 x.2.kids.length ++ bel (R.zip (t.map Prod.snd)) := by
      rw [List.map_cons, List.zip_cons_cons]
      unfold bel
      rw [List.flatMap_cons]
    have hlw := kids_lw s x.2 (x.2.keys.length + 1) (Nat.le_refl _)
    rw [if_neg (by omega), if_neg (by omega)] at hlw
    rw [e]
    refine ⟨?_, ?_, ?_, ?_, ?_⟩
    · rw [List.map_append, i1, kids_at s x.2 _ (Nat.le_refl _), List.take_length, List.flatMap_cons]
    · rw [List.map_append, i2, hk, kids_ends, List.flatMap_cons, b1]
      rfl
    · intro z hz
      rcases List.mem_append.1 hz with hz | hz
      · exact kids_nb s x.2 (h3 s (List.mem_cons_self ..)) _ z hz
      · exact i3 z hz
    · rw [← h4.1]
      refine lws_append (by rw [hk]; exact hlw.1) ?_
      rw [hk, hlw.2]
      exact i4
    · rw [← h4.1, lastH_append, hk, hlw.2, i5]
      rfl
/-- The next level fits what this one tells of it. -/
theorem RowOk.below {R : List Std} {up down : Lvl} (h : RowOk R up) (hL : Lev up down) : RowOk (bel (R.zip (up.map Prod.snd))) down := by
  obtain ⟨h1, h2, h3, h4, _⟩ := bel_zip h.hs h.en h.nb h.lw fun x hx => by
    obtain ⟨a, b⟩ := hL.inner x hx
    exact (b.2.2.2.2 a).2
  exact ⟨h1.trans hL.kids, h2.trans hL.ends, h3, h4⟩
end Go.Proofs.YtfplnobnmgbgoaaDoor
