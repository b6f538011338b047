/-
  An act of ArenaPlays.
-/
import Derived.Test.YtbdfbgkfhaiccaaDoorDoes
import Derived.Deep.DeepCutAuto
import Derived.Deep.CutBlock
import Derived.Deep.RegionHeld3
import Derived.Deep.RegionLaw
import Derived.BigQuiet
import Derived.Lib.Hide
namespace Go.Proofs.YtbdfbgkfhaiccaaDoor
open Go.RowKit Go.Maps
set_option linter.unusedVariables false

structure AppR (t ty : TypeId) (vs vx r : Value) (w w' : World) : Prop where
  out : (Builtin.append_ #[t, t] ty #[vs, vx]).run Tryd.prog w = .ok r w'
theorem step_app {w w' : World} {ops : Array Oper} {o : Oper} {a : Act} {K : Act → World → Prop} {Q : Exit → Act → World → Prop} {E : Prop} (hgd : o.guard = none) (s x : Operand) (t : TypeId)
    (ho : o.op = .call { callee := .builtin .append, args := #[s, x], argTypes := #[t, t] }) (vs vx r : Value) (hs : a.eval s = vs) (hx : a.eval x = vx) (hrun : AppR t o.type vs vx r w w')
    (h : K (a.put o.dst r) w') : if Region.wanted o (yielded ops a.tmps) = true then Oper.wp Tryd.prog o a w K Q else E := by
  have hw : Region.wanted o (yielded ops a.tmps) = true := by simp [Region.wanted, hgd]
  rw [if_pos hw]
  unfold Oper.wp execOp
  simp only [ho, resolve, invoke, builtin, Sem.run_bind, Sem.run_pure, Result.andThen_ok, List.map_toArray, List.map_cons, List.map_nil, hs, hx, hrun.out]
  exact h
theorem held_alloc {W : World} {a b : Addr} {u v : Value} (o : Obj) (h : W.cell? a = some u ∧ W.cell? b = some v) : (W.alloc o).cell? a = some u ∧ (W.alloc o).cell? b = some v := by
  rw [World.cell?_alloc_some W a o (by rw [h.1]; rfl), World.cell?_alloc_some W b o (by rw [h.2]; rfl)]
  exact h
theorem held_set {W : World} {a b : Addr} {u v : Value} {m : Nat} (ha : a.block ≠ m) (hb : b.block ≠ m) (p q : Value) (h : W.cell? a = some u ∧ W.cell? b = some v) :
    ((W.setCell ⟨m, 0, none⟩ p).setCell ⟨m, 1, none⟩ q).cell? a = some u ∧ ((W.setCell ⟨m, 0, none⟩ p).setCell ⟨m, 1, none⟩ q).cell? b = some v := by
  have e : ∀ (c : Addr) (hc : c.block ≠ m), ((W.setCell ⟨m, 0, none⟩ p).setCell ⟨m, 1, none⟩ q).cell? c = W.cell? c := fun c hc => by
    rw [World.cell?_setCell_other _ _ _ _ (by intro e; subst e; exact hc rfl), World.cell?_setCell_other _ _ _ _ (by intro e; subst e; exact hc rfl)]
  rw [e a ha, e b hb]
  exact h
/-- What Alloc tells, in words. -/
theorem ares_form (L : List Sl) (hg : ∀ q ∈ L, q.g < 18446744073709551616) : ∃ (rs rg : Nat) (er : Int), ares L = .agg #[.int .i64 (rs : Int), .int .u64 (rg : Int)] ∧ aerr L = er ∧ ((er = 0 ∧ rs < L.length ∧ rg < 18446744073709551616) ∨ er = 5) := by
  unfold ares aerr
  cases hf : ffree L with
  | none => exact ⟨0, 0, 5, rfl, rfl, Or.inr rfl⟩
  | some p =>
    obtain ⟨s, q⟩ := p
    have hq := (ffree_some hf).1
    exact ⟨s, q.g, 0, rfl, rfl, Or.inl ⟨rfl, (List.getElem?_eq_some_iff.1 hq).1, hg q (List.mem_of_getElem? hq)⟩⟩
theorem alv_set {L : List Sl} {i k g : Nat} {q : Sl} (h : alv L i (k : Int) g = some (k, q)) (x : ByteArray) : alv (L.set k ⟨q.g, q.who, x⟩) i (k : Int) g = some (k, ⟨q.g, q.who, x⟩) := by
  obtain ⟨_, hq, hw, hg⟩ := alv_some h
  have hk : k < L.length := (List.getElem?_eq_some_iff.1 hq).1
  unfold alv
  rw [if_neg (by omega), Int.toNat_natCast, List.getElem?_set_self hk]
  simp [hw, hg]
theorem putL_len (L : List Sl) (i : Nat) (x : ByteArray) : (putL L i x).length = L.length := by
  unfold putL
  split
  · rw [List.length_set]
  · rfl
/-- A row of two words that has come behind what S knows. -/
def Two (W : World) (k : Nat) (rs rg : Nat) : Prop := At W k (.cells #[.int .i64 (rs : Int), .int .u64 (rg : Int)] 32 (0, 0))
theorem Two.keeps {W W' : World} {k rs rg : Nat} (h : Two W k rs rg) (t : Keeps W W') : Two W' k rs rg := t k _ 32 (Or.inl rfl) h

set_option maxRecDepth 100000 in
set_option maxHeartbeats 4000000 in
theorem doesB_any {w0 w : World} {xb : Nat} {qv c0 c1 c2 c3 vt : Value} {S : World → Value → List Sl → List (Nat × Nat) → Prop} {L : List Sl} {hs : List (Nat × Nat)} (I : DoesI w0 xb qv c0 c1 c2 c3 S) (h : S w vt L hs) (d : Int) (iu : Nat) (x : ByteArray) (s : Int) (g ago : Nat) (hb : I64 s) (hg : g < 18446744073709551616) (hiu : iu < 256) (hago : ago < 256) (hlen : hs.length < 1000) (hd4 : d ≠ 4) :
    Calls Tryd.prog 25 #[.pointer (some ⟨xb, 0, none⟩), .agg #[.int .i64 d, .int .u8 (iu : Int), .string x, .int .i64 s, .int .u64 (g : Int), .int .u8 (ago : Int)]] w fun e w' => e = .returned (.bool true) ∧ ∃ vt' L' hs', S w' vt' L' hs' ∧ hs'.length ≤ hs.length + 1 := by
  obtain ⟨i, hi⟩ : ∃ i : Nat, i = 1 + iu % 3 := ⟨_, rfl⟩
  have hii : 1 + (iu : Int) % 3 = (i : Int) := by omega
  have hi1 : 1 ≤ i := by omega
  have hi3 : i ≤ 3 := by omega
  obtain ⟨nh, hnh⟩ : ∃ nh, nh = hs.length := ⟨_, rfl⟩
  obtain ⟨tA, tc, rfl⟩ := (I.told h).form
  have lx := (I.hd h).lt
  have HI := Lib.hid I
  have t0 : Turn (fun _ => False) w ((w.alloc (.cells #[.int .i64 d, .int .u8 (iu : Int), .string x, .int .i64 s, .int .u64 (g : Int), .int .u8 (ago : Int)] 63)).alloc (.cells #[.int .i64 s, .int .u64 (g : Int)] 32)) := ((Turn.refl _ w).alloc _).alloc _
  have HS : Hid (S ((w.alloc (.cells #[.int .i64 d, .int .u8 (iu : Int), .string x, .int .i64 s, .int .u64 (g : Int), .int .u8 (ago : Int)] 63)).alloc (.cells #[.int .i64 s, .int .u64 (g : Int)] 32)) (.slice tA hs.length tc) L hs ∧
      At ((w.alloc (.cells #[.int .i64 d, .int .u8 (iu : Int), .string x, .int .i64 s, .int .u64 (g : Int), .int .u8 (ago : Int)] 63)).alloc (.cells #[.int .i64 s, .int .u64 (g : Int)] 32)) w.heap.size (.cells #[.int .i64 d, .int .u8 (iu : Int), .string x, .int .i64 s, .int .u64 (g : Int), .int .u8 (ago : Int)] 63 (0, 0)) ∧
      At ((w.alloc (.cells #[.int .i64 d, .int .u8 (iu : Int), .string x, .int .i64 s, .int .u64 (g : Int), .int .u8 (ago : Int)] 63)).alloc (.cells #[.int .i64 s, .int .u64 (g : Int)] 32)) (w.heap.size + 1) (.cells #[.int .i64 s, .int .u64 (g : Int)] 32 (0, 0))) := by
    refine Lib.hid ⟨I.same h t0, (At.new w _).turn ((Turn.refl (fun _ => False) _).alloc _) (fun h => h), ?_⟩
    have := At.new (w.alloc (.cells #[.int .i64 d, .int .u8 (iu : Int), .string x, .int .i64 s, .int .u64 (g : Int), .int .u8 (ago : Int)] 63)) (.cells #[.int .i64 s, .int .u64 (g : Int)] 32)
    rwa [show (w.alloc (.cells #[.int .i64 d, .int .u8 (iu : Int), .string x, .int .i64 s, .int .u64 (g : Int), .int .u8 (ago : Int)] 63)).heap.size = w.heap.size + 1 by simp] at this
  have HN : Hid (∀ j, (Value.slice tA hs.length tc).ownBlock = some j → j < w.heap.size) := Lib.hid fun j hj => ((I.told h).own hj).2.2
  have HY : Hid (w0.heap.size ≤ w.heap.size) := Lib.hid (I.le h).2
  clear I h t0
  rw [← hnh] at HS HN hlen ⊢
  have HNH := Lib.hid hnh
  clear hnh hi
  go_enter Tryd.func25, Tryd.ntmps25
  go_upto_region 3 with (fail)
  generalize ((w.alloc (.cells #[.int .i64 d, .int .u8 (iu : Int), .string x, .int .i64 s, .int .u64 (g : Int), .int .u8 (ago : Int)] 63)).alloc (.cells #[.int .i64 s, .int .u64 (g : Int)] 32)) = w4 at HS ⊢
  have HL : Hid (w.heap.size < w4.heap.size) := Lib.hid (HS.out.2.1.lt)
  obtain ⟨yb, hyb⟩ : ∃ yb, yb = w.heap.size := ⟨_, rfl⟩
  rw [← hyb] at HS HN HY ⊢
  clear hyb hii HL lx
  have kx := HI.out.hd HS.out.1
  have cx5 := kx.cell 5
  have lx := kx.lt
  have y0 := HS.out.2.1.cell 0
  have y4 := HS.out.2.1.cell 5
  have ly := HS.out.2.1.lt
  have zh0 := HS.out.2.2.thawed 0
  have zh1 := HS.out.2.2.thawed 1
  have ch0 := HS.out.2.2.cell 0
  have ch1 := HS.out.2.2.cell 1
  have lh := HS.out.2.2.lt
  simp at cx5 y0 y4 ch0 ch1
  clear kx
  have j4 : (d == 4) = false := by simpa using hd4
  have cx4 := (HI.out.hd HS.out.1).cell 4
  simp at cx4
  have AL : Hid (∀ W, Turn (fun _ => False) w4 W → Calls Tryd.prog 40 #[qv, .int .i64 (i : Int), .agg #[.int .i64 s, .int .u64 (g : Int)]] W fun e w' => e = .returned (.bool (alv L i s g).isSome) ∧ Turn (fun _ => False) w4 w') :=
    Lib.hid fun W t => (HI.out.alive (HI.out.same HS.out.1 t) i g s).mono fun e w' ⟨he, t2⟩ => ⟨he, t.trans t2⟩
  have hS0 : w4.drew.cell? ⟨xb, 4, none⟩ = some qv ∧ w4.drew.cell? ⟨yb + 1, 0, none⟩ = some (.int .i64 s) ∧ w4.drew.cell? ⟨yb + 1, 1, none⟩ = some (.int .u64 (g : Int)) := ⟨cx4, ch0, ch1⟩
  have hS1 : ∀ w5, Turn (fun _ => False) w4 w5 → w5.cell? ⟨xb, 4, none⟩ = some qv ∧ w5.cell? ⟨yb + 1, 0, none⟩ = some (.int .i64 s) ∧ w5.cell? ⟨yb + 1, 1, none⟩ = some (.int .u64 (g : Int)) := fun w5 t => by
    have h1 := (HI.out.hd (HI.out.same HS.out.1 t)).cell 4
    have h2 := (HS.out.2.2.turn t (fun h => h)).cell 0
    have h3 := (HS.out.2.2.turn t (fun h => h)).cell 1
    simp at h1 h2 h3
    exact ⟨h1, h2, h3⟩
  replace hS1 := Lib.hid hS1
  go_wp2_with fail
  go_region_held3 (fun W => W.cell? ⟨xb, 4, none⟩ = some qv ∧ W.cell? ⟨yb + 1, 0, none⟩ = some (.int .i64 s) ∧ W.cell? ⟨yb + 1, 1, none⟩ = some (.int .u64 (g : Int))) (first | exact hS0 | exact hS1.out _ ht5.out) (first | (go_at_call 40; refine (AL.out _ ((Turn.refl _ _).drewN _)).mono ?_; rintro e w5 ⟨rfl, ht5⟩; replace ht5 := Lib.hid ht5))
  have HS5 : Hid (S w5 (.slice tA nh tc) L hs ∧ At w5 yb (.cells #[.int .i64 d, .int .u8 (iu : Int), .string x, .int .i64 s, .int .u64 (g : Int), .int .u8 (ago : Int)] 63 (0, 0)) ∧ At w5 (yb + 1) (.cells #[.int .i64 s, .int .u64 (g : Int)] 32 (0, 0))) :=
    Lib.hid ⟨HI.out.same HS.out.1 ht5.out, HS.out.2.1.turn ht5.out (fun h => h), HS.out.2.2.turn ht5.out (fun h => h)⟩
  have hHeld5 := hS1.out _ ht5.out
  clear AL hS0 hS1 HS cx4 cx5 lx y0 y4 ly zh0 zh1 ch0 ch1 lh ht5
  have y0 := HS5.out.2.1.cell 0
  simp at y0
  have ly := HS5.out.2.1.lt
  have lny : Hid (∀ j, (Value.slice tA nh tc).ownBlock = some j → j < yb) := HN
  obtain ⟨al, hal⟩ : ∃ al, (alv L i s g).isSome = al := ⟨_, rfl⟩
  rw [hal]
  have HAL := Lib.hid hal
  clear hal
  by_cases k0 : d = 0
  · subst k0
    have y2 := HS5.out.2.1.cell 2
    simp at y2
    obtain ⟨rs, rg, er, har, her, hcase⟩ := ares_form L (HI.out.gens HS5.out.1)
    have A1 := Lib.hid (HI.out.alloc HS5.out.1 i x hi1 hi3)
    rw [har, her] at A1
    have HCase := Lib.hid hcase
    clear har her hcase
    go_wp2_with fail
    refine A1.out.mono ?_
    rintro e w6 ⟨rfl, cx6, lx6, K6, A2⟩
    have A2 := Lib.hid A2
    have H6 := Lib.hid K6
    have y26 := (K6 yb _ 63 (Or.inr rfl) HS5.out.2.1).cell 2
    have ly6 := (K6 yb _ 63 (Or.inr rfl) HS5.out.2.1).lt
    simp at y26
    clear A1 K6
    go_upto_region 9 with (fail)
    have t67 : Turn (fun _ => False) w6 (w6.alloc (.cells #[.int .i64 (rs : Int), .int .u64 (rg : Int)] 32)) := (Turn.refl _ w6).alloc _
    have k7 : Two (w6.alloc (.cells #[.int .i64 (rs : Int), .int .u64 (rg : Int)] 32)) w6.heap.size rs rg := At.new w6 _
    generalize (w6.alloc (.cells #[.int .i64 (rs : Int), .int .u64 (rg : Int)] 32)) = w7 at t67 k7 ⊢
    have lk6 : yb < w6.heap.size := ly6
    have HL6 : Hid (∀ j, (Value.slice tA nh tc).ownBlock = some j → j < w6.heap.size) := Lib.hid fun j hj => by have := HN.out j hj; omega
    generalize w6.heap.size = kb at k7 lk6 HL6 ⊢
    have cx7 := cell_keepT t67 lx6 cx6
    have cy7 := cell_keepT t67 ly6 y26
    have lx7 : xb < w7.heap.size := Nat.lt_of_lt_of_le lx6 t67.size
    have ly7 : yb < w7.heap.size := Nat.lt_of_lt_of_le ly6 t67.size
    have HT7 := Lib.hid t67
    have HK7 := Lib.hid k7
    have lk7 := k7.lt
    clear t67 k7 cx6 y26 lx6 ly6
    go_cut [10, 11] (fun m10 f11 wx => ∃ mb, m10 = .pointer (some ⟨mb, 0, none⟩) ∧ f11 = .int .i64 er ∧ Hid (S wx (.slice tA nh tc) (putL L i x) hs ∧ Two wx kb rs rg ∧ Two wx mb rs rg ∧ kb < mb))
    case first =>
      have nx7 : (⟨xb, 4, none⟩ : Addr).block ≠ w7.heap.size := Nat.ne_of_lt lx7
      have ny7 : (⟨yb, 2, none⟩ : Addr).block ≠ w7.heap.size := Nat.ne_of_lt ly7
      have hS7 : w7.drew.cell? ⟨xb, 4, none⟩ = some qv ∧ w7.drew.cell? ⟨yb, 2, none⟩ = some (.string x) := ⟨cx7, cy7⟩
      have KK : Hid (∀ W w8, Turn (fun _ => False) w7 W → Keeps W w8 → S w8 (.slice tA nh tc) (putL L i x) hs → (w8.cell? ⟨xb, 4, none⟩ = some qv ∧ w8.cell? ⟨yb, 2, none⟩ = some (.string x))) := Lib.hid fun W w8 t hk h8 => by
        have h1 := (HI.out.hd h8).cell 4
        have h2 := (hk yb _ 63 (Or.inr rfl) ((H6.out yb _ 63 (Or.inr rfl) HS5.out.2.1).turn (HT7.out.trans t) (fun h => h))).cell 2
        simp at h1 h2
        exact ⟨h1, h2⟩
      go_region_held3 (fun W => W.cell? ⟨xb, 4, none⟩ = some qv ∧ W.cell? ⟨yb, 2, none⟩ = some (.string x)) (first | exact hS7 | exact KK.out _ _ (HTT) hk8.out h8.out | exact held_alloc _ (KK.out _ _ (HTT) hk8.out h8.out) | exact held_alloc _ hS7 | exact held_set nx7 ny7 _ _ (KK.out _ _ (HTT) hk8.out h8.out) | go_keep) (first | (go_at_call 42; have HTT := (Turn.refl (fun _ => False) w7).drew; refine (A2.out _ (HT7.out.trans HTT)).mono ?_; rintro e w8 ⟨rfl, hk8, h8⟩; replace hk8 := Lib.hid hk8; replace h8 := Lib.hid h8) | (go_at_call 42; have HTT := ((Turn.refl (fun _ => False) w7).drew).alloc (.cells #[.int .i64 0, .int .u64 0] 32); refine (A2.out _ (HT7.out.trans HTT)).mono ?_; rintro e w8 ⟨rfl, hk8, h8⟩; have hbm := hk8 w7.heap.size _ 32 (Or.inl rfl) (At.new (w7.drew) (.cells #[.int .i64 0, .int .u64 0] 32)); have bm0 := hbm.cell 0; have bm1 := hbm.cell 1; have bz0 := hbm.thawed 0; have bz1 := hbm.thawed 1; have bl := hbm.lt; simp at bm0 bm1; replace hbm := Lib.hid hbm; replace hk8 := Lib.hid hk8; replace h8 := Lib.hid h8))
      all_goals
        go_wp2_with fail
        go_meet
        case rel =>
          have hkb : Two w8 kb rs rg := hk8.out kb _ 32 (Or.inl rfl) (HK7.out.turn HTT (fun h => h))
          first
            | exact ⟨_, rfl, rfl, HI.out.same h8.out ((Turn.refl _ _).alloc _), hkb.turn ((Turn.refl (fun _ => False) _).alloc _) (fun h => h), At.new w8 _, hkb.lt⟩
            | exact ⟨_, rfl, rfl, HI.out.own h8.out ⟨_, hbm.out⟩ (fun e => by have := HL6.out _ e; omega) (by have := HY.out; omega) (((Turn.refl (fun i => i = w7.heap.size) w8).setCell (p := ⟨w7.heap.size, 0, none⟩) (Or.inl rfl) _).setCell (p := ⟨w7.heap.size, 1, none⟩) (Or.inl rfl) _),
                At.turn hkb (((Turn.refl (fun i => i = w7.heap.size) w8).setCell (p := ⟨w7.heap.size, 0, none⟩) (Or.inl rfl) _).setCell (p := ⟨w7.heap.size, 1, none⟩) (Or.inl rfl) _) (by omega), by have := (hbm.out.set 0 (.int .i64 (rs : Int))).set 1 (.int .u64 (rg : Int)); simpa [Two] using this, lk7⟩
    case rest =>
      obtain ⟨mb, rfl, rfl, H9⟩ := hcut
      have kc0 := H9.out.2.1.cell 0
      have kc1 := H9.out.2.1.cell 1
      have lk := H9.out.2.1.lt
      have mc0 := H9.out.2.2.1.cell 0
      have mc1 := H9.out.2.2.1.cell 1
      have lm := H9.out.2.2.1.lt
      simp at kc0 kc1 mc0 mc1
      clear cx7 cy7 lx7 ly7 lk7 HK7 HT7 A2 H6 y0 y2 ly HS5
      rcases HCase.out with ⟨e0, hrs, hrg⟩ | e5
      · subst e0
        have kx := HI.out.hd H9.out.1
        have cx5 := kx.cell 5
        have lx := kx.lt
        simp at cx5
        have tW : Turn (fun _ => False) wc ((wc.alloc (.cells #[.int .i64 (rs : Int), .int .u64 (rg : Int)] 32)).drew) := ((Turn.refl _ wc).alloc _).drew
        have gW : At ((wc.alloc (.cells #[.int .i64 (rs : Int), .int .u64 (rg : Int)] 32)).drew) wc.heap.size (.cells #[.int .i64 (rs : Int), .int .u64 (rg : Int)] 32 (0, 0)) := At.new wc _
        have sW := HI.out.same H9.out.1 tW
        obtain ⟨A', cap', w9, hrun, htold, ht9⟩ := (HI.out.told sW).append rs rg wc.heap.size gW (by rw [← HNH.out]; omega) (HI.out.le sW).2 44
        rw [← HNH.out] at hrun
        have HR : AppR 44 44 (.slice tA nh tc) (.slice (some ⟨wc.heap.size, 0, none⟩) 1 1) (.slice A' (nh + 1) cap') ((wc.alloc (.cells #[.int .i64 (rs : Int), .int .u64 (rg : Int)] 32)).drew) w9 := ⟨hrun⟩
        have hlo : ∀ j, (Value.slice tA nh tc).ownBlock = some j → j < kb := HL6.out
        have x9 := (kx.turn tW (fun h => h)).turn ht9 (fun e => by
          obtain ⟨⟨c, hc⟩, _⟩ := (HI.out.told sW).own e
          have := (kx.turn tW (fun h => h)).eq hc
          injection this with _ this _
          cases this)
        have y9 := x9.cell 5
        have z9 := x9.thawed 5
        have l9 := x9.lt
        simp at y9
        have k9 := (H9.out.2.1.turn tW (fun h => h)).turn ht9 (fun e => by have := hlo _ e; omega)
        have m9 := (H9.out.2.2.1.turn tW (fun h => h)).turn ht9 (fun e => by have := hlo _ e; have := H9.out.2.2.2; omega)
        have tz : Turn (· = xb) w9 (w9.setCell ⟨xb, 5, none⟩ (.slice A' (nh + 1) cap')) := (Turn.refl (fun i => i = xb) w9).setCell (p := ⟨xb, 5, none⟩) (Or.inl rfl) _
        have nx : ∀ k', Two w9 k' rs rg → ¬ k' = xb := fun k' hk' e => by
          subst e
          have := At.eq hk' x9
          injection this with _ this _
          cases this
        rw [← HNH.out] at htold
        have HF : Hid (S (w9.setCell ⟨xb, 5, none⟩ (.slice A' (nh + 1) cap')) (.slice A' (nh + 1) cap') (putL L i x) (hs ++ [(rs, rg)]) ∧ Two (w9.setCell ⟨xb, 5, none⟩ (.slice A' (nh + 1) cap')) kb rs rg ∧ Two (w9.setCell ⟨xb, 5, none⟩ (.slice A' (nh + 1) cap')) mb rs rg) :=
          Lib.hid ⟨HI.out.ext sW (by rw [putL_len]; exact hrs) hrg htold ht9, At.turn k9 tz (nx _ k9), At.turn m9 tz (nx _ m9)⟩
        clear kx tW gW sW hrun htold ht9 hlo x9 k9 m9 tz nx hrs hrg HCase
        go_upto_region 11 with (fail)
        go_cut [] (fun wx => ∃ vt', Hid (S wx vt' (putL L i x) (hs ++ [(rs, rg)]) ∧ Two wx kb rs rg ∧ Two wx mb rs rg))
        case first =>
          go_region_law ((refine step_app (by rfl) _ _ 44 (by rfl) _ _ _ (by rfl) (by rfl) HR ?_))
          all_goals
            go_wp2_with fail
            go_meet
            case rel => exact ⟨_, HF⟩
        case rest =>
          obtain ⟨vt', HG⟩ := hcut
          have kc0' := HG.out.2.1.cell 0
          have kc1' := HG.out.2.1.cell 1
          have lk' := HG.out.2.1.lt
          have mc0' := HG.out.2.2.cell 0
          have mc1' := HG.out.2.2.cell 1
          have lm' := HG.out.2.2.lt
          simp at kc0' kc1' mc0' mc1'
          go_wp2_with fail
          go_ret
          exact ⟨rfl, _, _, _, HG.out.1, by rw [List.length_append, ← HNH.out]; exact Nat.le_refl _⟩
      · subst e5
        go_wp2_with fail
        go_ret
        exact ⟨rfl, _, _, _, H9.out.1, by rw [← HNH.out]; omega⟩
  have j0 : (d == 0) = false := by simpa using k0
  have hS5 : w5.drew.cell? ⟨xb, 4, none⟩ = some qv ∧ w5.drew.cell? ⟨yb + 1, 0, none⟩ = some (.int .i64 s) ∧ w5.drew.cell? ⟨yb + 1, 1, none⟩ = some (.int .u64 (g : Int)) := hHeld5
  by_cases k2 : d = 2
  · subst k2
    have R1 : Hid (∀ W, Turn (fun _ => False) w5 W → Calls Tryd.prog 43 #[.pointer (some ⟨xb, 0, none⟩), .int .i64 (i : Int), .agg #[.int .i64 s, .int .u64 (g : Int)]] W fun e w1 => e = .returned (.bool (alv L i s g).isSome) ∧ w1.cell? ⟨xb, 4, none⟩ = some qv ∧ xb < w1.heap.size ∧ Keeps w5 w1 ∧
        ∀ W', Turn (fun _ => False) w1 W' → Calls Tryd.prog 44 #[qv, .int .i64 (i : Int), .agg #[.int .i64 s, .int .u64 (g : Int)]] W' fun e w2 => e = .returned (.bool (alv L i s g).isSome) ∧ Keeps W' w2 ∧ S w2 (.slice tA nh tc) (relL L i s g) hs) :=
      Lib.hid fun W t => (HI.out.rel (HI.out.same HS5.out.1 t) i g s hi1 hi3 hb).mono fun e w1 ⟨he, h1, h2, h3, h4⟩ => ⟨he, h1, h2, (Keeps.same t).trans h3, h4⟩
    have KK : Hid (∀ w6, w6.cell? ⟨xb, 4, none⟩ = some qv → Keeps w5 w6 → w6.cell? ⟨xb, 4, none⟩ = some qv ∧ w6.cell? ⟨yb + 1, 0, none⟩ = some (.int .i64 s) ∧ w6.cell? ⟨yb + 1, 1, none⟩ = some (.int .u64 (g : Int))) := Lib.hid fun w6 c k => by
      have h2 := (k _ _ 32 (Or.inl rfl) HS5.out.2.2).cell 0
      have h3 := (k _ _ 32 (Or.inl rfl) HS5.out.2.2).cell 1
      simp at h2 h3
      exact ⟨c, h2, h3⟩
    have KX : Hid (∀ w7, S w7 (.slice tA nh tc) (relL L i s g) hs → w7.cell? ⟨xb, 4, none⟩ = some qv) := Lib.hid fun w7 h7 => by
      have h1 := (HI.out.hd h7).cell 4
      simpa using h1
    go_wp2_with fail
    go_region_held3 (fun W => W.cell? ⟨xb, 4, none⟩ = some qv ∧ W.cell? ⟨yb + 1, 0, none⟩ = some (.int .i64 s) ∧ W.cell? ⟨yb + 1, 1, none⟩ = some (.int .u64 (g : Int))) (first | exact hS5 | exact KK.out _ (KX.out _ h7.out) (hk6.out.trans hk7.out) | exact KK.out _ c6 hk6.out) (first | (go_at_call 43; refine (R1.out _ ((Turn.refl _ _).drew)).mono ?_; rintro e w6 ⟨rfl, c6, l6, hk6, R2⟩; replace hk6 := Lib.hid hk6; replace R2 := Lib.hid R2) | (go_at_call 44; refine (R2.out _ (Turn.refl _ _)).mono ?_; rintro e w7 ⟨rfl, hk7, h7⟩; replace hk7 := Lib.hid hk7; replace h7 := Lib.hid h7))
    all_goals
      go_wp2_with fail
      go_ret
      exact ⟨rfl, _, _, _, h7.out, by rw [← HNH.out]; omega⟩
  have j2 : (d == 2) = false := by simpa using k2
  have jn : (d != 4) = true := by simpa using hd4
  have HB := Lib.hid hb
  go_upto_block 0 with (fail)
  go_cut [] (fun wx => ∃ L', Hid (S wx (.slice tA nh tc) L' hs ∧ At wx yb (.cells #[.int .i64 d, .int .u8 (iu : Int), .string x, .int .i64 s, .int .u64 (g : Int), .int .u8 (ago : Int)] 63 (0, 0)) ∧ At wx (yb + 1) (.cells #[.int .i64 s, .int .u64 (g : Int)] 32 (0, 0)) ∧ (alv L' i s g).isSome = al))
  case first =>
    by_cases k3 : d = 3
    · subst k3
      have y2 := HS5.out.2.1.cell 2
      have ly2 := HS5.out.2.1.lt
      have lh2 := HS5.out.2.2.lt
      simp at y2
      have W1 := Lib.hid (HI.out.write HS5.out.1 i g s x hi1 hi3 hb)
      obtain ⟨hx4, hh0, hh1⟩ := hHeld5
      clear hb
      go_wp2_with fail
      refine W1.out.mono ?_
      rintro e w6 ⟨rfl, hk6, hno, hyes⟩
      have Hy6 := hk6 _ _ 63 (Or.inr rfl) HS5.out.2.1
      have Hh6 := hk6 _ _ 32 (Or.inl rfl) HS5.out.2.2
      cases ha : alv L i s g with
      | none =>
        have HF : Hid (S w6 (.slice tA nh tc) L hs) := Lib.hid (hno ha)
        obtain rfl : al = false := by rw [← HAL.out, ha]; rfl
        replace Hy6 := Lib.hid Hy6
        replace Hh6 := Lib.hid Hh6
        replace ha := Lib.hid ha
        clear hno hyes hk6 hS5 hx4 hh0 hh1 W1
        go_wp2_with fail
        go_meet
        case rel => exact ⟨L, HF.out, Hy6.out, Hh6.out, HAL.out⟩
      | some p =>
        obtain ⟨k, q⟩ := p
        obtain ⟨rfl, hLk, hw, hgq⟩ := alv_some ha
        obtain ⟨qb, lb, cap, rfl, hdoc, hx6, hst⟩ := hyes k q ha
        have hkl : k < L.length := (List.getElem?_eq_some_iff.1 hLk).1
        have b0 : (0 : Int) ≤ (k : Int) := by omega
        have b1 : (k : Int) < (L.length : Int) := by omega
        have q1 := hx6.cell 4
        have q2 := hdoc.head
        have q3 := Hh6.cell 0
        have q4 := Hy6.cell 2
        have q5 := (hdoc.at hLk).2.2
        have q6 := hdoc.thaw (k * 3 + 2)
        have q7 := hx6.lt
        have q8 := hdoc.hd.lt
        have q9 := Hh6.lt
        have q10 := Hy6.lt
        obtain ⟨lc, hlc, _⟩ := hdoc.row
        have q11 := hlc.lt
        simp at q1 q3 q4
        have tl := (hdoc.same ((Turn.refl (fun _ => False) w6).drew)).text hLk x
        have HF : Hid (S ((w6.drew).setCell ⟨lb, k * 3 + 2, none⟩ (.string x)) (.slice tA nh tc) (L.set k ⟨q.g, q.who, x⟩) hs ∧ At ((w6.drew).setCell ⟨lb, k * 3 + 2, none⟩ (.string x)) yb (.cells #[.int .i64 3, .int .u8 (iu : Int), .string x, .int .i64 (k : Int), .int .u64 (g : Int), .int .u8 (ago : Int)] 63 (0, 0)) ∧ At ((w6.drew).setCell ⟨lb, k * 3 + 2, none⟩ (.string x)) (yb + 1) (.cells #[.int .i64 (k : Int), .int .u64 (g : Int)] 32 (0, 0)) ∧ (alv (L.set k ⟨q.g, q.who, x⟩) i (k : Int) g).isSome = true) := by
          refine Lib.hid ⟨hst _ ((Turn.refl (fun _ => False) w6).drew), (Hy6.turn ((Turn.refl (fun _ => False) w6).drew) (fun h => h)).turn tl.2 ?_, (Hh6.turn ((Turn.refl (fun _ => False) w6).drew) (fun h => h)).turn tl.2 ?_, by rw [alv_set ha]; rfl⟩
          · intro e
            subst e
            have := Hy6.eq hlc
            injection this with _ this _
            cases this
          · intro e
            rw [← e] at hlc
            have := Hh6.eq hlc
            injection this with _ this _
            cases this
        obtain rfl : al = true := by rw [← HAL.out, ha]; rfl
        clear hno hyes hk6 hS5 hx4 hh0 hh1 W1 hdoc hx6 hst Hy6 Hh6 tl hLk hw hgq hkl hlc ha
        go_wp2_with fail
        go_region
        all_goals
          go_wp2_with fail
          go_meet
          case rel => exact ⟨_, HF.out.1, HF.out.2.1, HF.out.2.2.1, HF.out.2.2.2⟩
    · have j3 : (d == 3) = false := by simpa using k3
      go_wp2_with fail
      go_meet
      case rel => exact ⟨L, HS5.out.1, HS5.out.2.1, HS5.out.2.2, HAL.out⟩
  case rest =>
    obtain ⟨L', H6⟩ := hcut
    clear HS5 hS5 hHeld5
    have y60 := H6.out.2.1.cell 0
    have ly6 := H6.out.2.1.lt
    have h60 := H6.out.2.2.1.cell 0
    have h61 := H6.out.2.2.1.cell 1
    have lh6 := H6.out.2.2.1.lt
    simp at y60 h60 h61
    have G1 := HI.out.get H6.out.1 i g s hi1 hi3 hb
    have AE := H6.out.2.2.2
    cases ha : alv L' i s g with
    | none =>
      rw [ha] at G1 AE
      obtain rfl : al = false := AE.symm
      have HG := Lib.hid G1
      have HA := Lib.hid ha
      clear G1 AE ha hb
      go_wp2_with fail
      refine HG.out.mono ?_
      rintro e w7 ⟨rfl, t7⟩
      have y70 := cell_keepT t7 ly6 y60
      have ly7 : yb < w7.heap.size := Nat.lt_of_lt_of_le ly6 t7.size
      have HT := Lib.hid t7
      clear t7 HG
      go_wp2_with fail
      go_quiet (fail)
      go_wp2_with fail
      go_quiet (fail)
      go_wp2_with fail
      go_ret
      exact ⟨rfl, _, _, _, HI.out.same H6.out.1 ((HT.out.drewN _).drewN _), by rw [← HNH.out]; omega⟩
    | some p =>
      obtain ⟨k, q⟩ := p
      rw [ha] at G1 AE
      obtain rfl : al = true := AE.symm
      obtain ⟨qb, lb, cap, rfl, hdoc⟩ := HI.out.look H6.out.1 i g s k q ha
      obtain ⟨rfl, hLk, hw, hgq⟩ := alv_some ha
      have hkl : k < L'.length := (List.getElem?_eq_some_iff.1 hLk).1
      have b0 : (0 : Int) ≤ (k : Int) := by omega
      have b1 : (k : Int) < (L'.length : Int) := by omega
      have HG : Hid (Calls Tryd.prog 46 #[.pointer (some ⟨xb, 0, none⟩), .int .i64 (i : Int), .agg #[.int .i64 (k : Int), .int .u64 (g : Int)]] wc fun e w' => e = .returned (.tuple #[.string q.x, .bool true]) ∧ Turn (fun _ => False) wc w') := Lib.hid G1
      have HD := Lib.hid (And.intro hdoc hLk)
      clear G1 AE ha hb hdoc hLk hw hgq hkl
      go_wp2_with fail
      refine HG.out.mono ?_
      rintro e w7 ⟨rfl, t7⟩
      have y70 := cell_keepT t7 ly6 y60
      have ly7 : yb < w7.heap.size := Nat.lt_of_lt_of_le ly6 t7.size
      have h70 := cell_keepT t7 lh6 h60
      have lh7 : yb + 1 < w7.heap.size := Nat.lt_of_lt_of_le lh6 t7.size
      have x74 := (HI.out.hd (HI.out.same H6.out.1 t7)).cell 4
      have lx7 := (HI.out.hd (HI.out.same H6.out.1 t7)).lt
      simp at x74
      have d7 := HD.out.1.same t7
      have q2 := d7.head
      have q5 := (d7.at HD.out.2).2.2
      have q8 := d7.hd.lt
      obtain ⟨lc, hlc, _⟩ := d7.row
      have q11 := hlc.lt
      have HT := Lib.hid t7
      clear t7 HG d7 hlc
      go_wp2_with fail
      go_quiet (fail)
      go_wp2_with fail
      go_quiet (fail)
      go_wp2_with fail
      go_ret
      exact ⟨rfl, _, _, _, HI.out.same H6.out.1 ((HT.out.drewN _).drewN _), by rw [← HNH.out]; omega⟩
end Go.Proofs.YtbdfbgkfhaiccaaDoor
