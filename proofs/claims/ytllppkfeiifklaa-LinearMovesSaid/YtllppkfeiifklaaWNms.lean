/-
  The law's names and apart.
-/
import Derived.Test.YtllppkfeiifklaaJ36
namespace Go.Proofs.Ytllppkfeiifklaa
open Go.RowKit Go.Lib
set_option linter.unusedVariables false
set_option maxRecDepth 20000
set_option linter.unusedSimpArgs false

/-- The keys that the law's names gives. -/
def nmsO (ok : Int) (k : ByteArray) (ws : List Wr) : List ByteArray := if ok = 5 then [] else if ok = 6 then ws.map Wr.k else [k]
theorem nmsO_len (ok : Int) (k : ByteArray) (ws : List Wr) : (nmsO ok k ws).length ≤ ws.length + 1 := by
  unfold nmsO
  split
  · simp
  · split <;> simp
theorem own_neG {w : World} {Z n : Nat} {v : Value} {xs : List Value} {t0 : TypeId} {s : Nat} (h : w.ownsRow Z t0 s v n xs) {g : Nat} {c : Array Value} {t : TypeId} {f : Nat × Nat} (hg : At w g (.cells c t f)) (ht : t ≠ t0) : v.ownBlock ≠ some g := by
  intro e
  rcases h.2 with ⟨hv, _⟩ | ⟨g', c', cur, hv, _, hg', _⟩
  · rw [hv] at e; cases e
  · rw [hv] at e
    injection e with e
    subst e
    have := hg.eq hg'
    injection this with _ e2 _
    exact ht e2
theorem Ks.append2 {w0 w : World} {K : List ByteArray} {B : Option Addr} {c : Nat} (h : Ks w0 w K B c) (hl : K.length < 1000000) (k : ByteArray) :
    ∃ B' c' w', AppRun 87 87 (.slice B K.length c) (.slice (some ⟨w.heap.size, 0, none⟩) 1 1) (.slice B' (K.length + 1) c') (w.alloc (.cells #[.string k] 9)) w' ∧ Ks w0 w' (K ++ [k]) B' c' ∧ ∀ g cs, At w g (.cells cs 34 (0, 0)) → At w' g (.cells cs 34 (0, 0)) := by
  have tn : Turn No w (w.alloc (.cells #[.string k] 9)) := (Turn.refl No w).alloc (.cells #[.string k] 9)
  have h2 := h.no tn
  have hn := At.new w (.cells #[.string k] 9)
  obtain ⟨B', c', w', q, ho, ht, hB⟩ := app_gen Try.underlying87 infw9 rfl (by decide) (by decide) h2.row ⟨w.heap.size, 0, none⟩ 1 1 [.string k] rfl
    (fun j u hj => by rw [Addr.add_lit, Nat.zero_add, hn.cell]; simpa using hj) (by intro u hu; simp at hu; subst hu; rfl) (by omega) h2.tu.size 87
  refine ⟨B', c', w', q, ⟨h2.tu.then ht fun k hk hb => ?_, ?_⟩, fun g cs hg => (hg.no tn).turn ht fun e => own_neG h2.row (hg.no tn) (by decide) e⟩
  · rw [own_ablk] at hb
    have := (own_at h2.row hb).1
    omega
  · have e : kcs (K ++ [k]) = kcs K ++ [.string k] := by simp [kcs]
    rw [List.length_append, e]
    exact ho
set_option maxRecDepth 100000 in
set_option maxHeartbeats 8000000 in
theorem names_any (ok : Int) (k v o : ByteArray) (had aft : Bool) (A : Option Addr) (cap : Nat) (ws : List Wr) (w : World) (hw : ws.length ≤ 100000) (hR : Row w A (wcs ws)) :
    Calls Try.prog 55 #[.agg #[.int .u8 ok, .string k, .string v, .string o, .bool had, .bool aft, .slice A ws.length cap]] w fun e w' => ∃ (K : List ByteArray) (B : Option Addr) (c : Nat), e = .returned (.tuple #[.slice B K.length c, .bool (decide (ok ≠ 5))]) ∧ K = nmsO ok k ws ∧ Ks w w' K B c := by
  have HB : Hid (Turn No w (w.alloc (.cells #[.int .u8 ok, .string k, .string v, .string o, .bool had, .bool aft, .slice A ws.length cap] 34)) ∧ At (w.alloc (.cells #[.int .u8 ok, .string k, .string v, .string o, .bool had, .bool aft, .slice A ws.length cap] 34)) w.heap.size (.cells #[.int .u8 ok, .string k, .string v, .string o, .bool had, .bool aft, .slice A ws.length cap] 34 (0, 0))) := Lib.hid ⟨(Turn.refl _ _).alloc _, At.new _ _⟩
  have HR := Lib.hid hR
  obtain ⟨dk, hdk⟩ : ∃ x, decide (ok ≠ 5) = x := ⟨_, rfl⟩
  rw [hdk]
  clear hR
  go_enter Try.func55, Try.ntmps55
  go_upto_region 1 with fail
  obtain ⟨w1, hw1⟩ : ∃ x, w.alloc (.cells #[.int .u8 ok, .string k, .string v, .string o, .bool had, .bool aft, .slice A ws.length cap] 34) = x := ⟨_, rfl⟩
  obtain ⟨g, hg⟩ : ∃ x, w.heap.size = x := ⟨_, rfl⟩
  have HG := Lib.hid hg
  rw [hw1, hg] at HB
  rw [hw1, hg]
  clear hw1 hg
  have CSS : Hid (∀ W, At W g (.cells #[.int .u8 ok, .string k, .string v, .string o, .bool had, .bool aft, .slice A ws.length cap] 34 (0, 0)) → W.cell? ⟨g, 0, none⟩ = some (.int .u8 ok) ∧ W.cell? ⟨g, 1, none⟩ = some (.string k) ∧ W.cell? ⟨g, 6, none⟩ = some (.slice A ws.length cap)) := Lib.hid fun W h => ⟨h.cell 0, h.cell 1, h.cell 6⟩
  obtain ⟨e0, e1, e6⟩ := CSS.out w1 HB.out.2
  by_cases h5 : ok = 5
  · have hn : nmsO ok k ws = [] := by unfold nmsO; rw [if_pos h5]
    have HN := Lib.hid hn
    have hd : dk = false := by rw [← hdk]; exact decide_eq_false (fun h => h h5)
    subst hd
    clear hdk
    subst h5
    clear hn
    go_wp2_with fail
    go_ret2
    exact ⟨[], none, 0, rfl, HN.out.symm, HB.out.1, World.ownsRow_nil _ _ _ _⟩
  · have hd : dk = true := by rw [← hdk]; exact decide_eq_true h5
    subst hd
    clear hdk
    by_cases h6 : ok = 6
    · have hn : nmsO ok k ws = ws.map Wr.k := by unfold nmsO; rw [if_neg h5, if_pos h6]
      have HN := Lib.hid hn
      clear hn h5
      subst h6
      go_upto_region 7 with fail
      have H0 : Hid (QN [] ws 0 [] ∧ Ks w w1 [] none 0) := Lib.hid ⟨by simp [QN], HB.out.1, World.ownsRow_nil _ _ _ _⟩
      clear e0 e1 e6
      go_loopw [4, 5] (fun s i wx => ∃ (m : Nat) (Q : List ByteArray) (Bq : Option Addr) (cq : Nat), m ≤ ws.length ∧ i = .int .i64 (m : Int) ∧ s = .slice Bq Q.length cq ∧ Hid (QN [] ws m Q ∧ Ks w wx Q Bq cq ∧ At wx g (.cells #[.int .u8 6, .string k, .string v, .string o, .bool had, .bool aft, .slice A ws.length cap] 34 (0, 0)))) (fun _ i _ => ws.length - (RowKit.intOf i).toNat)
      case atStart => exact ⟨0, [], none, 0, Nat.zero_le _, rfl, rfl, Lib.hid ⟨H0.out.1, H0.out.2, HB.out.2⟩⟩
      case round =>
        obtain ⟨m, Q, Bq, cq, hmm, rfl, rfl, HQ⟩ := hrel
        obtain ⟨e0, e1, e6⟩ := CSS.out wr HQ.out.2.2
        clear e0 e1
        by_cases hlm : m < ws.length
        · obtain ⟨y, hy⟩ : ∃ e, ws[m]? = some e := ⟨ws[m], List.getElem?_eq_getElem hlm⟩
          obtain ⟨b2, o2, hA2, hb2, x0, x1, x2⟩ := (HR.out.no HQ.out.2.1.tu).wr hy
          have HY : Hid (QN [] ws (m + 1) (Q ++ [y.k])) := Lib.hid (by have h1 := HQ.out.1; unfold QN at h1 ⊢; rw [h1, List.take_add_one, hy]; simp)
          have hln : Q.length ≤ 100000 := by have h1 := HQ.out.1; unfold QN at h1; rw [h1, List.length_append, List.length_map, List.length_take]; simp; omega
          obtain ⟨yk, yv, yg⟩ := y
          simp only at x0 x1 x2 HY
          obtain ⟨B9, c9, w9, q, hq⟩ := HQ.out.2.1.append2 (by omega) yk
          have HQ9 := Lib.hid (And.intro hq.1 (hq.2 _ _ HQ.out.2.2))
          have hq1 : (0 : Int) ≤ (m : Int) := by omega
          have hq2 : (m : Int) < (ws.length : Int) := by omega
          subst hA2
          clear hb2 HQ hy hln hq x1 x2
          go_wp2_with (at_builtin; refine wpList_append_run rfl _ _ 87 rfl _ _ _ rfl rfl q ?_)
          exact ⟨⟨m + 1, Q ++ [yk], B9, c9, by omega, by go_num, by simp, Lib.hid ⟨HY.out, HQ9.out⟩⟩, by simp [RowKit.intOf]; omega⟩
        · obtain rfl : m = ws.length := by omega
          have HQ2 : Hid (Q = ws.map Wr.k ∧ Ks w wr Q Bq cq) := Lib.hid ⟨by have h1 := HQ.out.1; unfold QN at h1; rw [h1, List.take_length]; rfl, HQ.out.2.1⟩
          clear HQ
          go_wp2_with fail
          go_ret2
          exact ⟨Q, Bq, cq, rfl, HQ2.out.1.trans HN.out.symm, HQ2.out.2⟩
    · have hn : nmsO ok k ws = [k] := by unfold nmsO; rw [if_neg h5, if_neg h6]
      have HN := Lib.hid hn
      have k5 : (ok == 5) = false := by simpa using h5
      have k6 : (ok == 6) = false := by simpa using h6
      clear hn h5 h6
      go_wp2_with fail
      go_ret2
      exact ⟨[k], _, _, rfl, HN.out.symm, HB.out.1.alloc _, (World.ownsRow_lit w1 #[.string k] 1 HB.out.1.size (by decide) rfl)⟩
end Go.Proofs.Ytllppkfeiifklaa
