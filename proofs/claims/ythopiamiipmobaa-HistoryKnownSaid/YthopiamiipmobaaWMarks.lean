/-
  Marks: the Ids of the marks, in their row.
-/
import Derived.Test.YthopiamiipmobaaWAhead
namespace Go.Proofs.Ythopiamiipmobaa
open Go.RowKit Go.Lib
set_option linter.unusedVariables false
set_option linter.unusedSimpArgs false

def marks (l : List Ev) : List Int := (l.filter (fun e => e.kind == 2)).map (·.id)
def ics (l : List Int) : List Value := l.map (fun i => Value.int .i64 i)
theorem marks_length (l : List Ev) : (marks l).length ≤ l.length := by unfold marks; rw [List.length_map]; exact List.length_filter_le ..
theorem marks_yes {l : List Ev} {k : Nat} {e : Ev} (he : l[k]? = some e) (h : e.kind = 2) : marks (l.take (k + 1)) = marks (l.take k) ++ [e.id] := by
  rw [List.take_add_one, he]; simp [marks, h]
theorem marks_no {l : List Ev} {k : Nat} {e : Ev} (he : l[k]? = some e) (h : ¬ e.kind = 2) : marks (l.take (k + 1)) = marks (l.take k) := by
  rw [List.take_add_one, he]; simp [marks, h]
/-- A row of ints of the program's own. -/
structure Ints (w0 w : World) (l : List Int) (B : Option Addr) (c : Nat) : Prop where
  tu : Turn No w0 w
  row : w.ownsRow w0.heap.size 3 1 (.slice B l.length c) l.length (ics l)
theorem Ints.no {w0 w w' : World} {l : List Int} {B : Option Addr} {c : Nat} (h : Ints w0 w l B c) (t : Turn No w w') : Ints w0 w' l B c := ⟨h.tu.trans t, own_grown h.row t fun _ _ h => h⟩
theorem Ints.append {w0 w : World} {l : List Int} {B : Option Addr} {c : Nat} (h : Ints w0 w l B c) (hl : l.length < 1000000) (i : Int) :
    ∃ B' c' w', AppRun 47 47 (.slice B l.length c) (.slice (some ⟨w.heap.size, 0, none⟩) 1 1) (.slice B' (l.length + 1) c') (w.alloc (.cells #[.int .i64 i] 3)) w' ∧ Ints w0 w' (l ++ [i]) B' c' := by
  have h2 := h.no ((Turn.refl No w).alloc (.cells #[.int .i64 i] 3))
  have hn := At.new w (.cells #[.int .i64 i] 3)
  obtain ⟨B', c', w', q, ho, ht, hB⟩ := app_gen Try.underlying47 info3 rfl (by decide) (by decide) h2.row ⟨w.heap.size, 0, none⟩ 1 1 [.int .i64 i] rfl
    (fun j u hj => by rw [Addr.add_lit, Nat.zero_add, hn.cell]; simpa using hj) (by intro u hu; simp at hu; subst hu; rfl) (by omega) h2.tu.size 47
  refine ⟨B', c', w', q, h2.tu.then ht fun k hk hb => ?_, ?_⟩
  · rw [own_ablk] at hb
    have := (own_at h2.row hb).1
    omega
  · have e : ics (l ++ [i]) = ics l ++ [.int .i64 i] := by simp [ics]
    rw [List.length_append, e]
    exact ho
set_option maxHeartbeats 4000000 in
theorem marks_any (l : List Ev) (A : Option Addr) (cap : Nat) (w : World) (hR : Row w A (ecs l)) (hl : l.length ≤ 100000) :
    Calls Try.prog 23 #[.slice A l.length cap] w fun r w' => ∃ B c, r = .returned (.slice B (marks l).length c) ∧ Ints w w' (marks l) B c := by
  have HL := Lib.hid hR
  clear hR
  go_enter Try.func23, Try.ntmps23
  go_wp2_with fail
  go_loopw [3, 8] (fun s i wr => ∃ (kk : Nat) (B : Option Addr) (c : Nat), kk ≤ l.length ∧ i = .int .i64 (kk : Int) ∧ s = .slice B (marks (l.take kk)).length c ∧ Hid (Ints w wr (marks (l.take kk)) B c)) (fun _ i _ => l.length - (RowKit.intOf i).toNat)
  case atStart => exact ⟨0, none, 0, Nat.zero_le _, rfl, rfl, Lib.hid ⟨Turn.refl _ _, World.ownsRow_nil _ _ _ _⟩⟩
  case round =>
    obtain ⟨kk, B, c, hm, rfl, rfl, HP⟩ := hrel
    by_cases hlt : kk < l.length
    · obtain ⟨e, he⟩ : ∃ e, l[kk]? = some e := ⟨l[kk], List.getElem?_eq_getElem hlt⟩
      obtain ⟨b, off, hA, hb, hx⟩ := (HL.out.turn HP.out.tu fun _ _ _ h => h).range he
      have HE := Lib.hid he
      have hml : (marks (l.take kk)).length ≤ kk := Nat.le_trans (marks_length _) (by rw [List.length_take]; omega)
      obtain ⟨kind, id, ⟨ok, k, v, o, had, aft, A0, len, cap0⟩, ⟨code, found, ak, av⟩⟩ := e
      have hr1 : wr.rangeAt b (off + kk * 13) [.int .u8 kind, .int .i64 id, .int .u8 ok, .string k, .string v, .string o, .bool had, .bool aft, .slice A0 len cap0, .int .i64 code, .bool found, .string ak, .string av] := hx
      subst hA
      clear hx hb he
      have tn : Turn No wr (wr.alloc (.cells #[.int .u8 kind, .int .i64 id, .int .u8 ok, .string k, .string v, .string o, .bool had, .bool aft, .slice A0 len cap0, .int .i64 code, .bool found, .string ak, .string av] 34)) := (Turn.refl _ _).alloc _
      have HN := Lib.hid (And.intro (HP.out.no tn) (At.new wr (.cells #[.int .u8 kind, .int .i64 id, .int .u8 ok, .string k, .string v, .string o, .bool had, .bool aft, .slice A0 len cap0, .int .i64 code, .bool found, .string ak, .string av] 34)))
      clear HP tn
      go_upto_region 5 with (refine wpList_load_mid rfl 34 _ rfl b (off + kk * 13) rfl [.int .u8 kind, .int .i64 id, .int .u8 ok, .string k, .string v, .string o, .bool had, .bool aft, .slice A0 len cap0, .int .i64 code, .bool found, .string ak, .string av] _ hr1 Try.underlying34 rfl inf34 ?_)
      clear hr1
      generalize wr.alloc (.cells #[.int .u8 kind, .int .i64 id, .int .u8 ok, .string k, .string v, .string o, .bool had, .bool aft, .slice A0 len cap0, .int .i64 code, .bool found, .string ak, .string av] 34) = w6 at HN ⊢
      generalize wr.heap.size = g at HN ⊢
      have c0 : w6.cell? ⟨g, 0, none⟩ = some (.int .u8 kind) := by simpa using HN.out.2.cell 0
      have c1 : w6.cell? ⟨g, 1, none⟩ = some (.int .i64 id) := by simpa using HN.out.2.cell 1
      by_cases hk : kind = 2
      · subst hk
        have hy := marks_yes HE.out rfl
        obtain ⟨B2, c2, w8, q, hI⟩ := HN.out.1.append (by omega) id
        have HI := Lib.hid hI
        have HY := Lib.hid hy
        clear hI hy
        go_wp2_with (at_builtin; refine wpList_append_run rfl _ _ 47 rfl _ _ _ rfl rfl q ?_)
        refine ⟨⟨kk + 1, B2, c2, by omega, by go_num, ?_, ?_⟩, by simp [RowKit.intOf]; omega⟩
        · rw [HY.out, List.length_append]; rfl
        · rw [HY.out]; exact HI
      · have hy := marks_no HE.out hk
        have HY := Lib.hid hy
        clear hy
        go_wp2_with fail
        refine ⟨⟨kk + 1, B, c, by omega, by go_num, ?_, ?_⟩, by simp [RowKit.intOf]; omega⟩
        · rw [HY.out]
        · rw [HY.out]; exact Lib.hid HN.out.1
    · obtain rfl : kk = l.length := by omega
      go_wp2_with fail
      go_ret
      rw [List.take_length] at HP
      refine ⟨B, c, ?_, HP.out⟩
      rw [List.take_length]
      rfl
end Go.Proofs.Ythopiamiipmobaa
