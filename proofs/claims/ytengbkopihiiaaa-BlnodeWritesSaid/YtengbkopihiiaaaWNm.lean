/-
  The law's of: a leaf with pairs.
-/
import Derived.Test.YtengbkopihiiaaaWNl
namespace Go.Proofs.Ytengbkopihiiaaa
open Go.RowKit Go.Lib
set_option linter.unusedVariables false
set_option maxRecDepth 20000
set_option maxRecDepth 20000
set_option linter.unusedSimpArgs false

theorem kcs_snoc (K : List ByteArray) (x : ByteArray) : kcs (K ++ [x]) = kcs K ++ [.string x] := by simp [kcs]
/-- A leaf in the making: two rows of its own. -/
structure Ofs (w wr : World) (g g2 : Nat) (leaf : Bool) (high : ByteArray) (bnd : Bool) (slot gen : Int) (AD : Option Addr) (nd cd : Nat) (nk : Nat) (K : List ByteArray) (A : Option Addr) (ca : Nat) (nv : Nat) (V : List ByteArray) (B : Option Addr) (cb : Nat) : Prop where
  tu : Turn No w wr
  ob : At wr g (.cells #[.bool leaf, .slice A nk ca, .slice B nv cb, .slice AD nd cd, .string high, .bool bnd, .int .i64 slot, .int .u64 gen] 29 (0, 0))
  res : At wr g2 (.cells #[.bool false, .slice none 0 0, .slice none 0 0, .slice none 0 0, .string ⟨#[]⟩, .bool false, .int .i64 0, .int .u64 0] 29 (0, 0))
  k : wr.ownsRow w.heap.size 9 1 (.slice A nk ca) nk (kcs K)
  v : wr.ownsRow w.heap.size 9 1 (.slice B nv cb) nv (kcs V)
  df : ∀ b, ablk A = some b → ablk B = some b → False
  fr : w.heap.size ≤ g ∧ g ≠ g2
theorem Ofs.appK {w wr : World} {g g2 : Nat} {leaf : Bool} {high : ByteArray} {bnd : Bool} {slot gen : Int} {AD : Option Addr} {nd cd nk nv ca cb : Nat} {K V : List ByteArray} {A B : Option Addr} (h : Ofs w wr g g2 leaf high bnd slot gen AD nd cd nk K A ca nv V B cb) (hl : nk ≤ 100000) (x : ByteArray) :
    ∃ A2 c2 w1, AppRun 23 23 (.slice A nk ca) (.slice (some ⟨wr.heap.size, 0, none⟩) 1 1) (.slice A2 (nk + 1) c2) (wr.alloc (.cells #[.string x] 9)).drew w1 ∧ At w1 g (.cells #[.bool leaf, .slice A nk ca, .slice B nv cb, .slice AD nd cd, .string high, .bool bnd, .int .i64 slot, .int .u64 gen] 29 (0, 0)) ∧ Ofs w (w1.setCell ⟨g, 1, none⟩ (.slice A2 (nk + 1) c2)) g g2 leaf high bnd slot gen AD nd cd (nk + 1) (K ++ [x]) A2 c2 nv V B cb := by
  have tn : Turn No wr (wr.alloc (.cells #[.string x] 9)).drew := ((Turn.refl No wr).alloc _).drew
  have hk := own_grown h.k tn fun _ _ h => h
  have hv := own_grown h.v tn fun _ _ h => h
  have hn := (At.new wr (.cells #[.string x] 9)).no (Turn.refl No _).drew
  obtain ⟨A2, c2, w1, q, ho, ht, hB⟩ := app_gen Try.underlying23 infw9 rfl (by decide) (by decide) hk ⟨wr.heap.size, 0, none⟩ 1 1 [.string x] rfl
    (fun j u hj => by rw [Addr.add_lit, Nat.zero_add, hn.cell]; simpa using hj) (fun u hu => by simp only [List.mem_cons, List.not_mem_nil, or_false] at hu; subst hu; rfl) (by omega) (Nat.le_trans h.tu.size tn.size) 23
  have h2 := (h.ob.no tn).turn ht fun e => own_neG hk (h.ob.no tn) (by decide) e
  have h3 := (h.res.no tn).turn ht fun e => own_neG hk (h.res.no tn) (by decide) e
  have s1 := Turn.set1 w1 g 1 (.slice A2 (nk + 1) c2)
  have hf := h.fr
  have tw : Turn No w w1 := (h.tu.trans tn).then ht fun k hk1 e => by
    rw [own_ablk] at e
    have := (own_at hk e).1
    omega
  have hvw : w1.ownsRow w.heap.size 9 1 (.slice B nv cb) nv (kcs V) := own_grown hv ht fun k e1 e2 => by
    rw [own_ablk] at e1 e2
    exact h.df k e2 e1
  refine ⟨A2, c2, w1, q, h2, ⟨tw.then s1 fun k hk1 e => by omega, by simpa using h2.set 1 (.slice A2 (nk + 1) c2), h3.turn s1 fun e => hf.2 e.symm, ?_, ?_, fun b hb hb2 => ?_, hf⟩⟩
  · rw [kcs_snoc]
    exact own_grown ho s1 fun k hk1 e => own_neG ho h2 (by decide) (by rw [← e]; exact hk1)
  · skip
    exact own_grown hvw s1 fun k hk1 e => own_neG hvw h2 (by decide) (by rw [← e]; exact hk1)
  · rw [own_ablk, own_ablk] at hB
    rcases hB with e | e
    · exact h.df b (by rw [← e]; exact hb) hb2
    · rw [e] at hb
      injection hb with hb
      obtain ⟨cur, hc⟩ := (own_at hv hb2).2
      have := hc.lt
      omega
theorem Ofs.appV {w wr : World} {g g2 : Nat} {leaf : Bool} {high : ByteArray} {bnd : Bool} {slot gen : Int} {AD : Option Addr} {nd cd nk nv ca cb : Nat} {K V : List ByteArray} {A B : Option Addr} (h : Ofs w wr g g2 leaf high bnd slot gen AD nd cd nk K A ca nv V B cb) (hl : nv ≤ 100000) (x : ByteArray) :
    ∃ A2 c2 w1, AppRun 23 23 (.slice B nv cb) (.slice (some ⟨wr.heap.size, 0, none⟩) 1 1) (.slice A2 (nv + 1) c2) (wr.alloc (.cells #[.string x] 9)).drew w1 ∧ At w1 g (.cells #[.bool leaf, .slice A nk ca, .slice B nv cb, .slice AD nd cd, .string high, .bool bnd, .int .i64 slot, .int .u64 gen] 29 (0, 0)) ∧ Ofs w (w1.setCell ⟨g, 2, none⟩ (.slice A2 (nv + 1) c2)) g g2 leaf high bnd slot gen AD nd cd nk K A ca (nv + 1) (V ++ [x]) A2 c2 := by
  have tn : Turn No wr (wr.alloc (.cells #[.string x] 9)).drew := ((Turn.refl No wr).alloc _).drew
  have hk := own_grown h.v tn fun _ _ h => h
  have hv := own_grown h.k tn fun _ _ h => h
  have hn := (At.new wr (.cells #[.string x] 9)).no (Turn.refl No _).drew
  obtain ⟨A2, c2, w1, q, ho, ht, hB⟩ := app_gen Try.underlying23 infw9 rfl (by decide) (by decide) hk ⟨wr.heap.size, 0, none⟩ 1 1 [.string x] rfl
    (fun j u hj => by rw [Addr.add_lit, Nat.zero_add, hn.cell]; simpa using hj) (fun u hu => by simp only [List.mem_cons, List.not_mem_nil, or_false] at hu; subst hu; rfl) (by omega) (Nat.le_trans h.tu.size tn.size) 23
  have h2 := (h.ob.no tn).turn ht fun e => own_neG hk (h.ob.no tn) (by decide) e
  have h3 := (h.res.no tn).turn ht fun e => own_neG hk (h.res.no tn) (by decide) e
  have s1 := Turn.set1 w1 g 2 (.slice A2 (nv + 1) c2)
  have hf := h.fr
  have tw : Turn No w w1 := (h.tu.trans tn).then ht fun k hk1 e => by
    rw [own_ablk] at e
    have := (own_at hk e).1
    omega
  have hvw : w1.ownsRow w.heap.size 9 1 (.slice A nk ca) nk (kcs K) := own_grown hv ht fun k e1 e2 => by
    rw [own_ablk] at e1 e2
    exact h.df k e1 e2
  refine ⟨A2, c2, w1, q, h2, ⟨tw.then s1 fun k hk1 e => by omega, by simpa using h2.set 2 (.slice A2 (nv + 1) c2), h3.turn s1 fun e => hf.2 e.symm, ?_, ?_, fun b hb2 hb => ?_, hf⟩⟩
  · skip
    exact own_grown hvw s1 fun k hk1 e => own_neG hvw h2 (by decide) (by rw [← e]; exact hk1)
  · rw [kcs_snoc]
    exact own_grown ho s1 fun k hk1 e => own_neG ho h2 (by decide) (by rw [← e]; exact hk1)
  · rw [own_ablk, own_ablk] at hB
    rcases hB with e | e
    · exact h.df b hb2 (by rw [← e]; exact hb)
    · rw [e] at hb
      injection hb with hb
      obtain ⟨cur, hc⟩ := (own_at hv hb2).2
      have := hc.lt
      omega
/-- What of answers. -/
def OfRes (leaf : Bool) (high : ByteArray) (bnd : Bool) (slot gen : Int) (AD : Option Addr) (nd cd : Nat) (L : List Pr) (w : World) (e : Ending) (w' : World) : Prop :=
  ∃ A ca B cb, e = .returned (.agg #[.bool leaf, .slice A L.length ca, .slice B L.length cb, .slice AD nd cd, .string high, .bool bnd, .int .i64 slot, .int .u64 gen]) ∧ w'.ownsRow w.heap.size 9 1 (.slice A L.length ca) L.length (kcs (L.map Pr.k)) ∧ w'.ownsRow w.heap.size 9 1 (.slice B L.length cb) L.length (kcs (L.map Pr.v)) ∧ Turn No w w'
theorem Ofs.fin {w wr : World} {g g2 : Nat} {leaf : Bool} {high : ByteArray} {bnd : Bool} {slot gen : Int} {AD : Option Addr} {nd cd ca cb : Nat} {L : List Pr} {A B : Option Addr} (h : Ofs w wr g g2 leaf high bnd slot gen AD nd cd L.length (L.map Pr.k) A ca L.length (L.map Pr.v) B cb) (hg2 : w.heap.size ≤ g2) :
    At ((((((((wr.setCell ⟨g2, 0, none⟩ (.bool leaf)).setCell ⟨g2, 1, none⟩ (.slice A L.length ca)).setCell ⟨g2, 2, none⟩ (.slice B L.length cb)).setCell ⟨g2, 3, none⟩ (.slice AD nd cd)).setCell ⟨g2, 4, none⟩ (.string high)).setCell ⟨g2, 5, none⟩ (.bool bnd)).setCell ⟨g2, 6, none⟩ (.int .i64 slot)).setCell ⟨g2, 7, none⟩ (.int .u64 gen)) g2 (.cells #[.bool leaf, .slice A L.length ca, .slice B L.length cb, .slice AD nd cd, .string high, .bool bnd, .int .i64 slot, .int .u64 gen] 29 (0, 0)) ∧ ((((((((wr.setCell ⟨g2, 0, none⟩ (.bool leaf)).setCell ⟨g2, 1, none⟩ (.slice A L.length ca)).setCell ⟨g2, 2, none⟩ (.slice B L.length cb)).setCell ⟨g2, 3, none⟩ (.slice AD nd cd)).setCell ⟨g2, 4, none⟩ (.string high)).setCell ⟨g2, 5, none⟩ (.bool bnd)).setCell ⟨g2, 6, none⟩ (.int .i64 slot)).setCell ⟨g2, 7, none⟩ (.int .u64 gen)).ownsRow w.heap.size 9 1 (.slice A L.length ca) L.length (kcs (L.map Pr.k)) ∧ ((((((((wr.setCell ⟨g2, 0, none⟩ (.bool leaf)).setCell ⟨g2, 1, none⟩ (.slice A L.length ca)).setCell ⟨g2, 2, none⟩ (.slice B L.length cb)).setCell ⟨g2, 3, none⟩ (.slice AD nd cd)).setCell ⟨g2, 4, none⟩ (.string high)).setCell ⟨g2, 5, none⟩ (.bool bnd)).setCell ⟨g2, 6, none⟩ (.int .i64 slot)).setCell ⟨g2, 7, none⟩ (.int .u64 gen)).ownsRow w.heap.size 9 1 (.slice B L.length cb) L.length (kcs (L.map Pr.v)) ∧ Turn No w ((((((((wr.setCell ⟨g2, 0, none⟩ (.bool leaf)).setCell ⟨g2, 1, none⟩ (.slice A L.length ca)).setCell ⟨g2, 2, none⟩ (.slice B L.length cb)).setCell ⟨g2, 3, none⟩ (.slice AD nd cd)).setCell ⟨g2, 4, none⟩ (.string high)).setCell ⟨g2, 5, none⟩ (.bool bnd)).setCell ⟨g2, 6, none⟩ (.int .i64 slot)).setCell ⟨g2, 7, none⟩ (.int .u64 gen)) := by
  have tw : Turn (fun k => k = g2) wr ((((((((wr.setCell ⟨g2, 0, none⟩ (.bool leaf)).setCell ⟨g2, 1, none⟩ (.slice A L.length ca)).setCell ⟨g2, 2, none⟩ (.slice B L.length cb)).setCell ⟨g2, 3, none⟩ (.slice AD nd cd)).setCell ⟨g2, 4, none⟩ (.string high)).setCell ⟨g2, 5, none⟩ (.bool bnd)).setCell ⟨g2, 6, none⟩ (.int .i64 slot)).setCell ⟨g2, 7, none⟩ (.int .u64 gen)) := (((((((((Turn.refl (fun k => k = g2) wr).trans (Turn.set1 _ g2 0 (.bool leaf))).trans (Turn.set1 _ g2 1 (.slice A L.length ca))).trans (Turn.set1 _ g2 2 (.slice B L.length cb))).trans (Turn.set1 _ g2 3 (.slice AD nd cd))).trans (Turn.set1 _ g2 4 (.string high))).trans (Turn.set1 _ g2 5 (.bool bnd))).trans (Turn.set1 _ g2 6 (.int .i64 slot))).trans (Turn.set1 _ g2 7 (.int .u64 gen)))
  refine ⟨by simpa using ((((((((h.res.set 0 (.bool leaf)).set 1 (.slice A L.length ca)).set 2 (.slice B L.length cb)).set 3 (.slice AD nd cd)).set 4 (.string high)).set 5 (.bool bnd)).set 6 (.int .i64 slot)).set 7 (.int .u64 gen)), ?_, ?_, h.tu.then tw fun k hk e => by omega⟩
  · exact own_grown h.k tw fun k hk e => own_neG h.k h.res (by decide) (by rw [← e]; exact hk)
  · exact own_grown h.v tw fun k hk e => own_neG h.v h.res (by decide) (by rw [← e]; exact hk)
set_option maxRecDepth 100000 in
set_option maxHeartbeats 8000000 in
theorem of_any (leaf : Bool) (nk nv nd : Nat) (high : ByteArray) (bnd : Bool) (slot gen : Int) (AK AV AD : Option Addr) (ck cv cd : Nat) (L : List Pr) (Bl : Option Addr) (cl : Nat) (w : World) (hR : Row w Bl (pcs L)) (hL : L.length ≤ 100000) :
    Calls Try.prog 32 #[.agg #[.bool leaf, .slice AK nk ck, .slice AV nv cv, .slice AD nd cd, .string high, .bool bnd, .int .i64 slot, .int .u64 gen], .slice Bl L.length cl] w fun e w' => OfRes leaf high bnd slot gen AD nd cd L w e w' := by
  have HB : Hid (Ofs w ((((w.alloc (.cells #[.bool leaf, .slice AK nk ck, .slice AV nv cv, .slice AD nd cd, .string high, .bool bnd, .int .i64 slot, .int .u64 gen] 29)).alloc (.cells #[.bool false, .slice none 0 0, .slice none 0 0, .slice none 0 0, .string ⟨#[]⟩, .bool false, .int .i64 0, .int .u64 0] 29)).setCell ⟨w.heap.size, 1, none⟩ (.slice none 0 0)).setCell ⟨w.heap.size, 2, none⟩ (.slice none 0 0)) w.heap.size (w.heap.size + 1) leaf high bnd slot gen AD nd cd 0 [] none 0 0 [] none 0) := Lib.hid (by
    have t2 : Turn No w ((w.alloc (.cells #[.bool leaf, .slice AK nk ck, .slice AV nv cv, .slice AD nd cd, .string high, .bool bnd, .int .i64 slot, .int .u64 gen] 29)).alloc (.cells #[.bool false, .slice none 0 0, .slice none 0 0, .slice none 0 0, .string ⟨#[]⟩, .bool false, .int .i64 0, .int .u64 0] 29)) := ((Turn.refl No w).alloc _).alloc _
    have s1 := Turn.set1 ((w.alloc (.cells #[.bool leaf, .slice AK nk ck, .slice AV nv cv, .slice AD nd cd, .string high, .bool bnd, .int .i64 slot, .int .u64 gen] 29)).alloc (.cells #[.bool false, .slice none 0 0, .slice none 0 0, .slice none 0 0, .string ⟨#[]⟩, .bool false, .int .i64 0, .int .u64 0] 29)) w.heap.size 1 (.slice none 0 0)
    have s2 := Turn.set1 (((w.alloc (.cells #[.bool leaf, .slice AK nk ck, .slice AV nv cv, .slice AD nd cd, .string high, .bool bnd, .int .i64 slot, .int .u64 gen] 29)).alloc (.cells #[.bool false, .slice none 0 0, .slice none 0 0, .slice none 0 0, .string ⟨#[]⟩, .bool false, .int .i64 0, .int .u64 0] 29)).setCell ⟨w.heap.size, 1, none⟩ (.slice none 0 0)) w.heap.size 2 (.slice none 0 0)
    have a1 := (At.new w (.cells #[.bool leaf, .slice AK nk ck, .slice AV nv cv, .slice AD nd cd, .string high, .bool bnd, .int .i64 slot, .int .u64 gen] 29)).no ((Turn.refl No _).alloc (.cells #[.bool false, .slice none 0 0, .slice none 0 0, .slice none 0 0, .string ⟨#[]⟩, .bool false, .int .i64 0, .int .u64 0] 29))
    have a2 := At.new (w.alloc (.cells #[.bool leaf, .slice AK nk ck, .slice AV nv cv, .slice AD nd cd, .string high, .bool bnd, .int .i64 slot, .int .u64 gen] 29)) (.cells #[.bool false, .slice none 0 0, .slice none 0 0, .slice none 0 0, .string ⟨#[]⟩, .bool false, .int .i64 0, .int .u64 0] 29)
    rw [World.size_alloc] at a2
    refine ⟨(t2.then s1 fun k hk e => by omega).then s2 fun k hk e => by omega, by simpa using (a1.set 1 (.slice none 0 0)).set 2 (.slice none 0 0), (a2.turn s1 fun e => by omega).turn s2 fun e => by omega, World.ownsRow_nil _ _ _ _, World.ownsRow_nil _ _ _ _, fun b hb => (by cases hb), Nat.le_refl _, by omega⟩)
  have HC : Hid (((w.alloc (.cells #[.bool leaf, .slice AK nk ck, .slice AV nv cv, .slice AD nd cd, .string high, .bool bnd, .int .i64 slot, .int .u64 gen] 29)).alloc (.cells #[.bool false, .slice none 0 0, .slice none 0 0, .slice none 0 0, .string ⟨#[]⟩, .bool false, .int .i64 0, .int .u64 0] 29)).cell? ⟨w.heap.size, 1, none⟩ = some (.slice AK nk ck) ∧ ((w.alloc (.cells #[.bool leaf, .slice AK nk ck, .slice AV nv cv, .slice AD nd cd, .string high, .bool bnd, .int .i64 slot, .int .u64 gen] 29)).alloc (.cells #[.bool false, .slice none 0 0, .slice none 0 0, .slice none 0 0, .string ⟨#[]⟩, .bool false, .int .i64 0, .int .u64 0] 29)).frozen? ⟨w.heap.size, 1, none⟩ = false ∧ (((w.alloc (.cells #[.bool leaf, .slice AK nk ck, .slice AV nv cv, .slice AD nd cd, .string high, .bool bnd, .int .i64 slot, .int .u64 gen] 29)).alloc (.cells #[.bool false, .slice none 0 0, .slice none 0 0, .slice none 0 0, .string ⟨#[]⟩, .bool false, .int .i64 0, .int .u64 0] 29)).setCell ⟨w.heap.size, 1, none⟩ (.slice none 0 0)).cell? ⟨w.heap.size, 2, none⟩ = some (.slice AV nv cv) ∧ (((w.alloc (.cells #[.bool leaf, .slice AK nk ck, .slice AV nv cv, .slice AD nd cd, .string high, .bool bnd, .int .i64 slot, .int .u64 gen] 29)).alloc (.cells #[.bool false, .slice none 0 0, .slice none 0 0, .slice none 0 0, .string ⟨#[]⟩, .bool false, .int .i64 0, .int .u64 0] 29)).setCell ⟨w.heap.size, 1, none⟩ (.slice none 0 0)).frozen? ⟨w.heap.size, 2, none⟩ = false) := Lib.hid (by
    have a1 := (At.new w (.cells #[.bool leaf, .slice AK nk ck, .slice AV nv cv, .slice AD nd cd, .string high, .bool bnd, .int .i64 slot, .int .u64 gen] 29)).no ((Turn.refl No _).alloc (.cells #[.bool false, .slice none 0 0, .slice none 0 0, .slice none 0 0, .string ⟨#[]⟩, .bool false, .int .i64 0, .int .u64 0] 29))
    have a2 := a1.set 1 (.slice none 0 0)
    exact ⟨a1.cell 1, a1.thawed 1, by simpa using a2.cell 2, a2.thawed 2⟩)
  have HR := Lib.hid hR
  clear hR
  go_enter Try.func32, Try.ntmps32
  go_upto_region 1 with fail
  try rw [World.size_alloc]
  obtain ⟨wb, hwb⟩ : ∃ x, ((w.alloc (.cells #[.bool leaf, .slice AK nk ck, .slice AV nv cv, .slice AD nd cd, .string high, .bool bnd, .int .i64 slot, .int .u64 gen] 29)).alloc (.cells #[.bool false, .slice none 0 0, .slice none 0 0, .slice none 0 0, .string ⟨#[]⟩, .bool false, .int .i64 0, .int .u64 0] 29)) = x := ⟨_, rfl⟩
  rw [hwb] at HB HC ⊢
  clear hwb
  obtain ⟨g2, hg2⟩ : ∃ x, w.heap.size + 1 = x := ⟨_, rfl⟩
  obtain ⟨g, hg⟩ : ∃ x, w.heap.size = x := ⟨_, rfl⟩
  rw [hg2] at HB ⊢
  rw [hg] at HB HC ⊢
  have HG : Hid (w.heap.size ≤ g2) := Lib.hid (by omega)
  obtain ⟨c1, c1f, c2, c2f⟩ := HC.out
  clear HC hg hg2
  go_upto_region 3 with fail
  clear c1 c1f c2 c2f
  obtain ⟨wc, hwc⟩ : ∃ x, ((wb.setCell ⟨g, 1, none⟩ (.slice none 0 0)).setCell ⟨g, 2, none⟩ (.slice none 0 0)) = x := ⟨_, rfl⟩
  rw [hwc] at HB ⊢
  clear hwc
  go_wp2_with fail
  go_loopw [5] (fun x wr => ∃ (i : Nat) (A : Option Addr) (ca : Nat) (B : Option Addr) (cb : Nat), i ≤ L.length ∧ x = .int .i64 (i : Int) ∧ Hid (Ofs w wr g g2 leaf high bnd slot gen AD nd cd i ((L.take i).map Pr.k) A ca i ((L.take i).map Pr.v) B cb)) (fun x _ => L.length - (RowKit.intOf x).toNat)
  case atStart => exact ⟨0, none, 0, none, 0, Nat.zero_le _, rfl, HB⟩
  case round =>
    obtain ⟨i, A, ca, B, cb, hi, rfl, HP⟩ := hrel
    by_cases hlt : i < L.length
    · obtain ⟨p, hp⟩ : ∃ p, L[i]? = some p := ⟨L[i], List.getElem?_eq_getElem hlt⟩
      obtain ⟨b, o, hBl, hb, x0, x1⟩ := HR.out.pair hp
      have HH : Hid (∀ W, Turn No w W → W.cell? ⟨b, o + i * 2, none⟩ = some (.string p.k) ∧ W.cell? ⟨b, o + i * 2 + 1, none⟩ = some (.string p.v)) := Lib.hid fun W t => ⟨(World.cell?_of_block (w := w) (t.block b hb (fun h => h))).trans x0, (World.cell?_of_block (w := w) (t.block b hb (fun h => h))).trans x1⟩
      have HE := Lib.hid (take_get hp)
      have hq1 : (0 : Int) ≤ (i : Int) := by omega
      have hq2 : (i : Int) < (L.length : Int) := by omega
      obtain ⟨pk, pv⟩ := p
      subst hBl
      simp only at HH
      clear hp hb x0 x1
      have x0 := (HH.out wr HP.out.tu).1
      obtain ⟨A2, c2, wk, q, hk1, hk2⟩ := HP.out.appK (by omega) pk
      have d1 := HP.out.ob.cell 1
      have y1 := hk1.cell 1
      have z1 := hk1.thawed 1
      have d2 := (HP.out.ob.no ((Turn.refl No wr).alloc (.cells #[.string pk] 9))).cell 1
      simp at d1 d2 y1
      have HK := Lib.hid hk2
      clear hk1 hk2 HP
      go_upto_region 6 with fail
      go_region_law ((refine step_append_run (by rfl) _ _ 23 (by rfl) _ _ _ (by rfl) (by rfl) q ?_))
      all_goals clear q d1 d2 y1 z1 x0
      all_goals
        obtain ⟨wm, hwm⟩ : ∃ x, wk.setCell ⟨g, 1, none⟩ (.slice A2 (i + 1) c2) = x := ⟨_, rfl⟩
        rw [hwm] at HK ⊢
        clear hwm
        have x0 := (HH.out wm HK.out.tu).2
        obtain ⟨B2, c3, wv, q, hk1, hk2⟩ := HK.out.appV (by omega) pv
        have d1 := HK.out.ob.cell 2
        have y1 := hk1.cell 2
        have z1 := hk1.thawed 2
        have d2 := (HK.out.ob.no ((Turn.refl No wm).alloc (.cells #[.string pv] 9))).cell 2
        simp at d1 d2 y1
        have HV := Lib.hid hk2
        clear hk1 hk2 HK
        go_upto_region 7 with fail
        go_region_law ((refine step_append_run (by rfl) _ _ 23 (by rfl) _ _ _ (by rfl) (by rfl) q ?_))
      all_goals clear q d1 d2 y1 z1 x0
      all_goals go_wp2_with fail
      all_goals exact ⟨⟨i + 1, A2, c2, B2, c3, by omega, by go_num, Lib.hid (by rw [HE.out, List.map_append, List.map_append]; exact HV.out)⟩, by simp [RowKit.intOf]; omega⟩
    · obtain rfl : i = L.length := by omega
      have hq2 : ¬ (L.length : Int) < (L.length : Int) := by omega
      have HP0 := HP.out
      rw [List.take_length] at HP0
      have HQ := Lib.hid HP0
      clear HP HP0 hlt hi
      have c0' := HQ.out.ob.cell 0
      have c1' := HQ.out.ob.cell 1
      have c2' := HQ.out.ob.cell 2
      have c3' := HQ.out.ob.cell 3
      have c4' := HQ.out.ob.cell 4
      have c5' := HQ.out.ob.cell 5
      have c6' := HQ.out.ob.cell 6
      have c7' := HQ.out.ob.cell 7
      have d0' := HQ.out.res.cell 0
      have d1' := HQ.out.res.cell 1
      have d2' := HQ.out.res.cell 2
      have d3' := HQ.out.res.cell 3
      have d4' := HQ.out.res.cell 4
      have d5' := HQ.out.res.cell 5
      have d6' := HQ.out.res.cell 6
      have d7' := HQ.out.res.cell 7
      have e0' := HQ.out.res.thawed 0
      have e1' := HQ.out.res.thawed 1
      have e2' := HQ.out.res.thawed 2
      have e3' := HQ.out.res.thawed 3
      have e4' := HQ.out.res.thawed 4
      have e5' := HQ.out.res.thawed 5
      have e6' := HQ.out.res.thawed 6
      have e7' := HQ.out.res.thawed 7
      simp at c0' c1' c2' c3' c4' c5' c6' c7' d0' d1' d2' d3' d4' d5' d6' d7'
      have HZ := Lib.hid (HQ.out.fin HG.out)
      clear HQ
      go_wp2_with fail
      generalize ((((((((wr.setCell ⟨g2, 0, none⟩ (.bool leaf)).setCell ⟨g2, 1, none⟩ (.slice A L.length ca)).setCell ⟨g2, 2, none⟩ (.slice B L.length cb)).setCell ⟨g2, 3, none⟩ (.slice AD nd cd)).setCell ⟨g2, 4, none⟩ (.string high)).setCell ⟨g2, 5, none⟩ (.bool bnd)).setCell ⟨g2, 6, none⟩ (.int .i64 slot)).setCell ⟨g2, 7, none⟩ (.int .u64 gen)) = w9 at HZ ⊢
      (try simp only [Exit.inBlock, Exit.then])
      refine bodyPost_ret (results_cell_row rfl _ _ g2 29 _ (0, 0) _ (by rfl) HZ.out.1 Try.underlying29 rfl (by kernel_rfl)) rfl ?_
      exact ⟨A, ca, B, cb, rfl, HZ.out.2⟩
end Go.Proofs.Ytengbkopihiiaaa
