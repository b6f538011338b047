/-
  linear.ended; slices.Contains of texts.
  linear.named: the keys that the calls name.
  near's filter: slices.DeleteFunc over a row of pairs of one's own, by what the keys name.
-/
import Derived.Test.YtllppkfeiifklaaJ33
import Derived.Test.YtllppkfeiifklaaJ18
import Derived.Test.YtllppkfeiifklaaJ5
import Derived.Test.YtllppkfeiifklaaJ16
namespace Go.Proofs.Ytllppkfeiifklaa
open Go.RowKit Go.Lib
set_option linter.unusedVariables false
set_option maxRecDepth 20000
set_option linter.unusedSimpArgs false

/-- Which of the first n calls are ended, as bits. -/
def endB (l : List Ev) (J : List Int) : Nat → Nat
  | 0 => 0
  | n + 1 => if ((J[n]?).map fun a => decide (stN l a = 3)) = some true then endB l J n ||| 2 ^ n else endB l J n
theorem endB_lt (l : List Ev) (J : List Int) : ∀ n, endB l J n < 2 ^ n
  | 0 => by simp [endB]
  | n + 1 => by
    have ih := endB_lt l J n
    have h2 : 2 ^ (n + 1) = 2 ^ n + 2 ^ n := by rw [Nat.pow_succ]; omega
    unfold endB
    split
    · exact Nat.or_lt_two_pow (by omega) (by have : 0 < 2 ^ n := Nat.two_pow_pos n; omega)
    · omega
theorem endB_succ {l : List Ev} {J : List Int} {a : Int} {m : Nat} (hm : J[m]? = some a) : endB l J (m + 1) = if stN l a = 3 then endB l J m ||| 2 ^ m else endB l J m := by
  conv => lhs; unfold endB
  rw [hm]
  simp
set_option maxHeartbeats 8000000 in
theorem ended_any {Z : Nat} {w : World} {l : List Ev} {ps : List (List Wr)} {J : List Int} {f : Nat → Nat} {C : List Cl} {B : Option Addr} {c : Nat} (h : Cs Z w l ps J f C B c) (hn : J.length ≤ 7) :
    Calls Try.prog 43 #[.slice B C.length c] w fun r w' => r = .returned (.int .u8 ((endB l J J.length : Nat) : Int)) ∧ Turn No w w' := by
  have HL := Lib.hid h
  have HLN := Lib.hid h.len
  rw [h.len]
  clear h
  go_enter Try.func43, Try.ntmps43
  go_wp2_with fail
  go_loopw [3, 8] (fun s i wr => ∃ kk : Nat, kk ≤ J.length ∧ i = .int .i64 (kk : Int) ∧ s = .int .u8 ((endB l J kk : Nat) : Int) ∧ Hid (Turn No w wr)) (fun _ i _ => J.length - (RowKit.intOf i).toNat)
  case atStart => exact ⟨0, Nat.zero_le _, rfl, rfl, Lib.hid (Turn.refl _ _)⟩
  case round =>
    obtain ⟨kk, hm, rfl, rfl, HP⟩ := hrel
    by_cases hlt : kk < J.length
    · obtain ⟨x, hx⟩ : ∃ e, C[kk]? = some e := ⟨C[kk]'(by rw [HLN.out]; exact hlt), List.getElem?_eq_getElem _⟩
      obtain ⟨id, hi⟩ : ∃ e, J[kk]? = some e := ⟨J[kk], List.getElem?_eq_getElem hlt⟩
      obtain ⟨b, off, hA, _, hr⟩ := (HL.out.no HP.out).cl hx
      have hen := (HL.out.get kk x id hx hi).2.2.2.2.1
      have tn : Turn No wr (wr.alloc (.cells x.cs.toArray 77)) := (Turn.refl _ _).alloc _
      have HN : Hid (Turn No w (wr.alloc (.cells x.cs.toArray 77)) ∧ At (wr.alloc (.cells x.cs.toArray 77)) wr.heap.size (.cells x.cs.toArray 77 (0, 0))) := Lib.hid ⟨HP.out.trans tn, At.new _ _⟩
      have hsu := endB_succ (l := l) hi
      have hb1 : endB l J kk < 256 := by have := endB_lt l J kk; have h2 : 2 ^ kk ≤ 2 ^ 7 := Nat.pow_le_pow_right (by decide) (by omega); omega
      obtain ⟨p, hp⟩ : ∃ p, 2 ^ kk = p := ⟨_, rfl⟩
      have hb2 : p < 256 := by rw [← hp]; have h2 : 2 ^ kk ≤ 2 ^ 7 := Nat.pow_le_pow_right (by decide) (by omega); omega
      have CO := Lib.hid fun W => only_any kk (by omega) W
      rw [hp] at CO hsu
      have HSU := Lib.hid hsu
      have HEN := Lib.hid hen
      clear hsu hen tn hx hi hp
      obtain ⟨xid, ⟨ok, k, v, o, had, aft, A0, len, cap0⟩, en, ⟨code, found, ak, av⟩, ah⟩ := x
      have hr1 : wr.rangeAt b (off + kk * 14) [.int .i64 xid, .int .u8 ok, .string k, .string v, .string o, .bool had, .bool aft, .slice A0 len cap0, .bool en, .int .i64 code, .bool found, .string ak, .string av, .int .u8 ah] := hr
      simp only [Cl.cs, Opx.cs, Ans.cs, List.cons_append, List.nil_append] at HN
      simp only at HEN
      subst hA
      clear hr HP
      go_upto_region 5 with (refine wpList_load_mid rfl 77 _ rfl b (off + kk * 14) rfl [.int .i64 xid, .int .u8 ok, .string k, .string v, .string o, .bool had, .bool aft, .slice A0 len cap0, .bool en, .int .i64 code, .bool found, .string ak, .string av, .int .u8 ah] _ hr1 Try.underlying77 rfl info77 ?_)
      clear hr1
      generalize wr.alloc (.cells #[.int .i64 xid, .int .u8 ok, .string k, .string v, .string o, .bool had, .bool aft, .slice A0 len cap0, .bool en, .int .i64 code, .bool found, .string ak, .string av, .int .u8 ah] 77) = w6 at HN ⊢
      generalize wr.heap.size = g at HN ⊢
      have y8 := HN.out.2.cell 8
      simp at y8
      cases en with
      | true =>
        have HS2 : Hid (endB l J (kk + 1) = endB l J kk ||| p) := Lib.hid (by rw [HSU.out, if_pos (of_decide_eq_true HEN.out.symm)])
        have qo := b_or8 (endB l J kk) p hb1 hb2
        go_wp2_with (go_at_call 46; (with_reducible refine (CO.out _).mono ?_); rintro e wz ⟨rfl, hw⟩; replace hw := hw.symm; subst hw)
        exact ⟨⟨kk + 1, by omega, by go_num, by rw [HS2.out], Lib.hid HN.out.1⟩, by simp [RowKit.intOf]; omega⟩
      | false =>
        have HS2 : Hid (endB l J (kk + 1) = endB l J kk) := Lib.hid (by rw [HSU.out, if_neg (of_decide_eq_false HEN.out.symm)])
        go_wp2_with fail
        exact ⟨⟨kk + 1, by omega, by go_num, by rw [HS2.out], Lib.hid HN.out.1⟩, by simp [RowKit.intOf]; omega⟩
    · obtain rfl : kk = J.length := by omega
      go_wp2_with fail
      go_ret
      exact ⟨rfl, HP.out⟩
/-- Texts in a row. -/
def kcs (K : List ByteArray) : List Value := K.map .string
theorem kcs_length (K : List ByteArray) : (kcs K).length = K.length := by simp [kcs]
theorem kcs_at {K : List ByteArray} {j : Nat} {k : ByteArray} (h : K[j]? = some k) : (kcs K)[j]? = some (.string k) := by simp [kcs, h]
theorem kcs_append (K L : List ByteArray) : kcs (K ++ L) = kcs K ++ kcs L := by simp [kcs]
theorem kcs_get {w : World} {B : Option Addr} {K : List ByteArray} (h : Row w B (kcs K)) {j : Nat} {k : ByteArray} (hj : K[j]? = some k) : ∃ b o, B = some ⟨b, o, none⟩ ∧ w.cell? ⟨b, o + j, none⟩ = some (.string k) := by
  obtain ⟨b, o, hA, _, hc⟩ := h j _ (kcs_at hj)
  exact ⟨b, o, hA, hc⟩
def placeK (K : List ByteArray) (key : ByteArray) : Int := placeI (K.findIdx? fun k => decide (key = k))
set_option maxHeartbeats 4000000 in
theorem indexk_any (K : List ByteArray) (B : Option Addr) (c : Nat) (key : ByteArray) (w : World) (h : Row w B (kcs K)) (hn : K.length ≤ 100000) :
    Calls Try.prog 103 #[.slice B K.length c, .string key] w fun r w' => r = .returned (.int .i64 (placeK K key)) ∧ w' = w := by
  have HL := Lib.hid h
  clear h
  go_enter Try.func103, Try.ntmps103
  go_wp2_with fail
  go_loopw [8] (fun i wr => ∃ kk : Nat, kk ≤ K.length ∧ i = .int .i64 (kk : Int) ∧ wr = w ∧ Hid (∀ k ∈ K.take kk, ¬ key = k)) (fun i _ => K.length - (RowKit.intOf i).toNat)
  case atStart => exact ⟨0, Nat.zero_le _, rfl, rfl, Lib.hid (by simp)⟩
  case round =>
    obtain ⟨kk, hm, rfl, hwr, HP⟩ := hrel
    subst hwr
    by_cases hlt : kk < K.length
    · obtain ⟨k, hk⟩ : ∃ e, K[kk]? = some e := ⟨K[kk], List.getElem?_eq_getElem hlt⟩
      obtain ⟨b, off, hA, x0⟩ := kcs_get HL.out hk
      have HK := Lib.hid hk
      subst hA
      clear hk
      have qe := bytes_beq key k
      have hq1 : (0 : Int) ≤ (kk : Int) := by omega
      have hq2 : (kk : Int) < (K.length : Int) := by omega
      by_cases he : key = k
      · rw [decide_eq_true he] at qe
        have HF : Hid (placeK K key = kk) := Lib.hid (by
          unfold placeK
          have : K.findIdx? (fun k => decide (key = k)) = some kk := by
            rw [List.findIdx?_eq_some_iff_getElem]
            obtain ⟨h1, h2⟩ := List.getElem?_eq_some_iff.1 HK.out
            refine ⟨h1, by rw [h2]; exact decide_eq_true he, fun j hj => ?_⟩
            have := HP.out K[j] (List.mem_of_getElem? (i := j) (by rw [List.getElem?_take, if_pos hj, List.getElem?_eq_getElem]))
            simpa using this
          rw [this]
          rfl)
        clear he
        go_wp2_with fail
        go_ret
        rw [HF.out]
        exact ⟨rfl, rfl⟩
      · rw [decide_eq_false he] at qe
        have HF : Hid (∀ k ∈ K.take (kk + 1), ¬ key = k) := Lib.hid (by
          intro y hy
          rw [List.take_add_one, HK.out] at hy
          rcases List.mem_append.1 hy with h1 | h1
          · exact HP.out y h1
          · simp at h1
            subst h1
            exact he)
        clear he
        go_wp2_with fail
        exact ⟨⟨kk + 1, by omega, by go_num, (by first | rfl | trivial), HF⟩, by simp [RowKit.intOf]; omega⟩
    · obtain rfl : kk = K.length := by omega
      have HF : Hid (placeK K key = -1) := Lib.hid (by
        have := HP.out
        rw [List.take_length] at this
        unfold placeK
        have h0 : K.findIdx? (fun k => decide (key = k)) = none := by
          rw [List.findIdx?_eq_none_iff]
          intro y hy
          exact decide_eq_false (this y hy)
        rw [h0]
        rfl)
      go_wp2_with fail
      go_ret
      rw [HF.out]
      exact ⟨rfl, rfl⟩
def hasK (K : List ByteArray) (key : ByteArray) : Bool := K.any fun k => decide (key = k)
theorem hasK_iff {K : List ByteArray} {key : ByteArray} : hasK K key = true ↔ key ∈ K := by
  unfold hasK
  rw [List.any_eq_true]
  constructor
  · rintro ⟨k, hk, h⟩
    rw [of_decide_eq_true h]
    exact hk
  · intro h
    exact ⟨key, h, decide_eq_true rfl⟩
theorem placeK_iff (K : List ByteArray) (key : ByteArray) : decide (0 ≤ placeK K key) = hasK K key := by
  unfold placeK
  rw [Bool.eq_iff_iff, hasK_iff]
  cases h : K.findIdx? (fun k => decide (key = k)) with
  | none =>
    rw [List.findIdx?_eq_none_iff] at h
    constructor
    · intro h1
      exact absurd (of_decide_eq_true h1) (by show ¬ (0 : Int) ≤ -1; decide)
    · intro hm
      have := h key hm
      simp at this
  | some n =>
    rw [List.findIdx?_eq_some_iff_getElem] at h
    obtain ⟨h1, h2, _⟩ := h
    constructor
    · intro _
      have := of_decide_eq_true h2
      rw [this]
      exact List.getElem_mem _
    · intro _
      exact decide_eq_true (by show (0 : Int) ≤ (n : Int); omega)
theorem contains_any (K : List ByteArray) (B : Option Addr) (c : Nat) (key : ByteArray) (w : World) (h : Row w B (kcs K)) (hn : K.length ≤ 100000) :
    Calls Try.prog 84 #[.slice B K.length c, .string key] w fun r w' => r = .returned (.bool (hasK K key)) ∧ w' = w := by
  have C1 := Lib.hid (indexk_any K B c key w h hn)
  have HI := Lib.hid (placeK_iff K key)
  clear h
  generalize placeK K key = z at C1 HI
  go_enter Try.func84, Try.ntmps84
  go_wp2_with (go_at_call 103; (with_reducible refine C1.out.mono ?_); rintro e wz ⟨rfl, hw⟩; replace hw := hw.symm; subst hw)
  go_ret
  exact ⟨by rw [← HI.out]; rfl, rfl⟩
end Go.Proofs.Ytllppkfeiifklaa
namespace Go.Proofs.Ytllppkfeiifklaa
open Go.RowKit Go.Lib
set_option linter.unusedVariables false
set_option maxRecDepth 20000
set_option linter.unusedSimpArgs false

/-- The keys that an operation names; what is refused names none. -/
def keysO (o : Opx) (ws : List Wr) : List ByteArray := if refO o.kind o.k o.v o.o o.had ws ≠ 0 ∨ o.kind = 5 then [] else if o.kind = 6 then ws.map Wr.k else [o.k]
def namL (l : List Ev) (ps : List (List Wr)) (J : List Int) : List ByteArray := J.flatMap fun id => keysO (stO l id) (stW l ps id)
theorem keysO_length (o : Opx) (ws : List Wr) : (keysO o ws).length ≤ ws.length + 1 := by
  unfold keysO
  split
  · simp
  · split
    · simp
    · simp
theorem namL_snoc {l : List Ev} {ps : List (List Wr)} {J : List Int} {k : Nat} {id : Int} (h : J[k]? = some id) : namL l ps (J.take (k + 1)) = namL l ps (J.take k) ++ keysO (stO l id) (stW l ps id) := by
  rw [List.take_add_one, h]; simp [namL]
theorem namL_len {l : List Ev} {ps : List (List Wr)} (hf : FewE l ps) (hl : ps.length = l.length) (J : List Int) : (namL l ps J).length ≤ 41 * J.length := by
  unfold namL
  induction J with
  | nil => simp
  | cons a t ih =>
    rw [List.flatMap_cons, List.length_append, List.length_cons]
    have h1 := keysO_length (stO l a) (stW l ps a)
    have h2 := (hf.st hl a).n
    omega
theorem infw9 : (Try.prog.info? 9).map (fun i => (i.zero, i.size, i.bytes)) = some (some (.string ⟨#[]⟩), 1, 16) := by kernel_rfl
/-- A row of texts of the program's own. -/
structure Ks (w0 w : World) (K : List ByteArray) (B : Option Addr) (c : Nat) : Prop where
  tu : Turn No w0 w
  row : w.ownsRow w0.heap.size 9 1 (.slice B K.length c) K.length (kcs K)
theorem Ks.no {w0 w w' : World} {K : List ByteArray} {B : Option Addr} {c : Nat} (h : Ks w0 w K B c) (t : Turn No w w') : Ks w0 w' K B c := ⟨h.tu.trans t, own_grown h.row t fun _ _ h => h⟩
theorem Ks.append {w0 w : World} {K : List ByteArray} {B : Option Addr} {c : Nat} (h : Ks w0 w K B c) (hl : K.length < 1000000) (k : ByteArray) :
    ∃ B' c' w', AppRun 87 87 (.slice B K.length c) (.slice (some ⟨w.heap.size, 0, none⟩) 1 1) (.slice B' (K.length + 1) c') (w.alloc (.cells #[.string k] 9)) w' ∧ Ks w0 w' (K ++ [k]) B' c' := by
  have h2 := h.no ((Turn.refl No w).alloc (.cells #[.string k] 9))
  have hn := At.new w (.cells #[.string k] 9)
  obtain ⟨B', c', w', q, ho, ht, hB⟩ := app_gen Try.underlying87 infw9 rfl (by decide) (by decide) h2.row ⟨w.heap.size, 0, none⟩ 1 1 [.string k] rfl
    (fun j u hj => by rw [Addr.add_lit, Nat.zero_add, hn.cell]; simpa using hj) (by intro u hu; simp at hu; subst hu; rfl) (by omega) h2.tu.size 87
  refine ⟨B', c', w', q, h2.tu.then ht fun k hk hb => ?_, ?_⟩
  · rw [own_ablk] at hb
    have := (own_at h2.row hb).1
    omega
  · have e : kcs (K ++ [k]) = kcs K ++ [.string k] := by simp [kcs]
    rw [List.length_append, e]
    exact ho
/-- In the inner loop: the keys of the first m writes are behind P. -/
def QN (P : List ByteArray) (ws : List Wr) (m : Nat) (Q : List ByteArray) : Prop := Q = P ++ (ws.take m).map Wr.k
set_option maxRecDepth 100000 in
set_option maxHeartbeats 16000000 in
theorem named_any {Z : Nat} {w : World} {l : List Ev} {ps : List (List Wr)} {J : List Int} {f : Nat → Nat} {C : List Cl} {B : Option Addr} {c : Nat} (h : Cs Z w l ps J f C B c) (hn : J.length ≤ 7) (hf : FewE l ps) (hps : ps.length = l.length) :
    Calls Try.prog 81 #[.slice B C.length c] w fun r w' => ∃ Bk ck, r = .returned (.slice Bk (namL l ps J).length ck) ∧ Ks w w' (namL l ps J) Bk ck := by
  have HL := Lib.hid h
  have HLN := Lib.hid h.len
  rw [h.len]
  have HF := Lib.hid (And.intro hf hps)
  clear h hf hps
  go_enter Try.func81, Try.ntmps81
  go_wp2_with fail
  go_loopw [3, 10] (fun s i wr => ∃ (kk : Nat) (Bk : Option Addr) (ck : Nat), kk ≤ J.length ∧ i = .int .i64 (kk : Int) ∧ s = .slice Bk (namL l ps (J.take kk)).length ck ∧ Hid (Ks w wr (namL l ps (J.take kk)) Bk ck)) (fun _ i _ => J.length - (RowKit.intOf i).toNat)
  case atStart => exact ⟨0, none, 0, Nat.zero_le _, rfl, rfl, Lib.hid ⟨Turn.refl _ _, World.ownsRow_nil _ _ _ _⟩⟩
  case round =>
    obtain ⟨kk, Bk, ck, hm, rfl, rfl, HP⟩ := hrel
    by_cases hlt : kk < J.length
    · obtain ⟨x, hx⟩ : ∃ e, C[kk]? = some e := ⟨C[kk]'(by rw [HLN.out]; exact hlt), List.getElem?_eq_getElem _⟩
      obtain ⟨id, hi⟩ : ∃ e, J[kk]? = some e := ⟨J[kk], List.getElem?_eq_getElem hlt⟩
      obtain ⟨b, off, hA, _, hr⟩ := (HL.out.no HP.out.tu).cl hx
      obtain ⟨_, hpu, hlen, how, _⟩ := HL.out.get kk x id hx hi
      have tn : Turn No wr (wr.alloc (.cells x.cs.toArray 77)) := (Turn.refl _ _).alloc _
      have HN : Hid (Ks w (wr.alloc (.cells x.cs.toArray 77)) (namL l ps (J.take kk)) Bk ck ∧ At (wr.alloc (.cells x.cs.toArray 77)) wr.heap.size (.cells x.cs.toArray 77 (0, 0))) := Lib.hid ⟨HP.out.no tn, At.new _ _⟩
      have HNS := Lib.hid (namL_snoc (l := l) (ps := ps) hi)
      have hfw := HF.out.1.st HF.out.2 id
      have hnl : (namL l ps (J.take kk)).length ≤ 300 := by
        have := namL_len HF.out.1 HF.out.2 (J.take kk)
        rw [List.length_take] at this
        omega
      rw [← hpu] at hfw
      have hff := few_fit hfw
      have hwn := hfw.n
      have HKO : Hid (keysO (stO l id) (stW l ps id) = keysO x.op (stW l ps id)) := Lib.hid (by rw [← hpu]; rfl)
      rw [HKO.out] at HNS
      clear HKO hpu
      obtain ⟨ws, hws⟩ : ∃ ws, stW l ps id = ws := ⟨_, rfl⟩
      rw [hws] at hlen how HNS hff hwn
      clear hws hfw
      obtain ⟨xid, ⟨ok, k, v, o, had, aft, A0, len, cap0⟩, en, ⟨code, found, ak, av⟩, ah⟩ := x
      simp only at hlen how hff
      subst hlen
      have HOW := Lib.hid how
      have CR := Lib.hid fun (W : World) (t : Turn No w W) => refused_any ok k v o had aft A0 cap0 ws W ((row_of_own how).no t) hff.1.1 hff.1.2.1 hff.1.2.2 hff.2 (by omega)
      have hr1 : wr.rangeAt b (off + kk * 14) [.int .i64 xid, .int .u8 ok, .string k, .string v, .string o, .bool had, .bool aft, .slice A0 ws.length cap0, .bool en, .int .i64 code, .bool found, .string ak, .string av, .int .u8 ah] := hr
      simp only [Cl.cs, Opx.cs, Ans.cs, List.cons_append, List.nil_append] at HN
      obtain ⟨rf, hrf⟩ : ∃ e, refO ok k v o had ws = e := ⟨_, rfl⟩
      have HRF := Lib.hid hrf
      rw [hrf] at CR
      subst hA
      clear hr HP tn hx hi how hff hrf
      go_upto_region 6 with (refine wpList_load_mid rfl 77 _ rfl b (off + kk * 14) rfl [.int .i64 xid, .int .u8 ok, .string k, .string v, .string o, .bool had, .bool aft, .slice A0 ws.length cap0, .bool en, .int .i64 code, .bool found, .string ak, .string av, .int .u8 ah] _ hr1 Try.underlying77 rfl info77 ?_)
      clear hr1
      generalize wr.alloc (.cells #[.int .i64 xid, .int .u8 ok, .string k, .string v, .string o, .bool had, .bool aft, .slice A0 ws.length cap0, .bool en, .int .i64 code, .bool found, .string ak, .string av, .int .u8 ah] 77) = w6 at HN ⊢
      generalize wr.heap.size = g at HN ⊢
      have CR6 := Lib.hid (CR.out w6 HN.out.1.tu)
      clear CR
      have CSS : Hid (∀ W, At W g (.cells #[.int .i64 xid, .int .u8 ok, .string k, .string v, .string o, .bool had, .bool aft, .slice A0 ws.length cap0, .bool en, .int .i64 code, .bool found, .string ak, .string av, .int .u8 ah] 77 (0, 0)) → W.cell? ⟨g, 1, none⟩ = some (.int .u8 ok) ∧ W.cell? ⟨g, 2, none⟩ = some (.string k) ∧ W.cell? ⟨g, 3, none⟩ = some (.string v) ∧ W.cell? ⟨g, 4, none⟩ = some (.string o) ∧ W.cell? ⟨g, 5, none⟩ = some (.bool had) ∧ W.cell? ⟨g, 6, none⟩ = some (.bool aft) ∧ W.cell? ⟨g, 7, none⟩ = some (.slice A0 ws.length cap0)) := Lib.hid fun W h => ⟨h.cell 1, h.cell 2, h.cell 3, h.cell 4, h.cell 5, h.cell 6, h.cell 7⟩
      obtain ⟨e1, e2, e3, e4, e5, e6, e7⟩ := CSS.out w6 HN.out.2
      by_cases hz : rf = 0
      · subst hz
        by_cases h5 : ok = 5
        · have hke : keysO ⟨ok, k, v, o, had, aft, A0, ws.length, cap0⟩ ws = [] := by unfold keysO; rw [if_pos (.inr h5)]
          have HK2 : Hid (namL l ps (J.take (kk + 1)) = namL l ps (J.take kk)) := Lib.hid (by rw [HNS.out, hke, List.append_nil])
          clear hke
          subst h5
          go_wp2_with (go_at_call 64; (with_reducible refine CR6.out.mono ?_); rintro e w7 ⟨rfl, ht⟩; have H7 := Lib.hid (And.intro (HN.out.1.no ht) (HN.out.2.no ht)); clear ht e1 e2 e3 e4 e5 e6 e7; obtain ⟨e1, e2, e3, e4, e5, e6, e7⟩ := CSS.out w7 H7.out.2)
          exact ⟨⟨kk + 1, Bk, ck, by omega, by go_num, by rw [HK2.out], by rw [HK2.out]; exact Lib.hid H7.out.1⟩, by simp [RowKit.intOf]; omega⟩
        · by_cases h6 : ok = 6
          · have hke : keysO ⟨ok, k, v, o, had, aft, A0, ws.length, cap0⟩ ws = ws.map Wr.k := by unfold keysO; rw [if_neg (by rintro (h | h); exact h HRF.out; exact h5 h), if_pos h6]
            rw [hke] at HNS
            clear hke h5
            subst h6
            go_upto_region 8 with (go_at_call 64; (with_reducible refine CR6.out.mono ?_); rintro e w7 ⟨rfl, ht⟩; have H7 := Lib.hid (And.intro (HN.out.1.no ht) (HN.out.2.no ht)); clear ht e1 e2 e3 e4 e5 e6 e7; obtain ⟨e1, e2, e3, e4, e5, e6, e7⟩ := CSS.out w7 H7.out.2)
            have HR7 := Lib.hid ((row_of_own HOW.out).no H7.out.1.tu)
            go_upto_region 9 with fail
            have H0 : Hid (QN (namL l ps (J.take kk)) ws 0 (namL l ps (J.take kk)) ∧ Ks w w7 (namL l ps (J.take kk)) Bk ck) := Lib.hid ⟨by simp [QN], H7.out.1⟩
            clear e1 e2 e3 e4 e5 e6 e7 HR7
            go_loopw [3, 40] (fun s i wx => ∃ (m : Nat) (Q : List ByteArray) (Bq : Option Addr) (cq : Nat), m ≤ ws.length ∧ i = .int .i64 (m : Int) ∧ s = .slice Bq Q.length cq ∧ Hid (QN (namL l ps (J.take kk)) ws m Q ∧ Ks w wx Q Bq cq)) (fun _ i _ => ws.length - (RowKit.intOf i).toNat)
            case atStart => exact ⟨0, _, _, _, Nat.zero_le _, rfl, rfl, H0⟩
            case round =>
              obtain ⟨m, Q, Bq, cq, hmm, rfl, rfl, HQ⟩ := hrel
              clear H0
              by_cases hlm : m < ws.length
              · obtain ⟨y, hy⟩ : ∃ e, ws[m]? = some e := ⟨ws[m], List.getElem?_eq_getElem hlm⟩
                obtain ⟨b2, o2, hA2, hb2, x0, x1, x2⟩ := ((row_of_own HOW.out).no HQ.out.2.tu).wr hy
                have HY : Hid (QN (namL l ps (J.take kk)) ws (m + 1) (Q ++ [y.k])) := Lib.hid (by have h1 := HQ.out.1; unfold QN at h1 ⊢; rw [h1, List.take_add_one, hy]; simp)
                have hln : Q.length ≤ 400 := by have h1 := HQ.out.1; unfold QN at h1; rw [h1, List.length_append, List.length_map, List.length_take]; omega
                have HLN4 := Lib.hid hln
                obtain ⟨yk, yv, yg⟩ := y
                simp only at x0 x1 x2
                have tn2 : Turn No wr (wr.alloc (.cells #[.string yk, .string yv, .bool yg] 68)) := (Turn.refl _ _).alloc _
                have HN2 : Hid (Ks w (wr.alloc (.cells #[.string yk, .string yv, .bool yg] 68)) Q Bq cq ∧ At (wr.alloc (.cells #[.string yk, .string yv, .bool yg] 68)) wr.heap.size (.cells #[.string yk, .string yv, .bool yg] 68 (0, 0))) := Lib.hid ⟨HQ.out.2.no tn2, At.new _ _⟩
                subst hA2
                clear hb2 tn2 HQ hy hln
                go_upto_region 11 with fail
                clear x0 x1 x2
                generalize wr.alloc (.cells #[.string yk, .string yv, .bool yg] 68) = w10 at HN2 ⊢
                generalize wr.heap.size = g7 at HN2 ⊢
                have z0 := HN2.out.2.cell 0
                simp at z0
                obtain ⟨B9, c9, w9, q, hq⟩ := HN2.out.1.append (by have := HLN4.out; omega) yk
                have HQ := Lib.hid hq
                clear hq
                go_wp2_with (at_builtin; refine wpList_append_run rfl _ _ 87 rfl _ _ _ rfl rfl q ?_)
                exact ⟨⟨_, _, _, ⟨m + 1, by omega, by go_num, Q ++ [yk], B9, c9, by simp, Lib.hid ⟨HY.out, HQ.out⟩⟩, rfl, rfl, rfl⟩, by simp [RowKit.intOf]; omega⟩
              · obtain rfl : m = ws.length := by omega
                have HQ2 : Hid (Q = namL l ps (J.take (kk + 1)) ∧ Ks w wr Q Bq cq) := Lib.hid ⟨by have h1 := HQ.out.1; unfold QN at h1; rw [HNS.out, h1, List.take_length], HQ.out.2⟩
                clear HQ
                go_wp2_with fail
                exact ⟨⟨kk + 1, Bq, cq, by omega, by go_num, by rw [HQ2.out.1], by rw [← HQ2.out.1]; exact Lib.hid HQ2.out.2⟩, by simp [RowKit.intOf]; omega⟩
          · have hke : keysO ⟨ok, k, v, o, had, aft, A0, ws.length, cap0⟩ ws = [k] := by unfold keysO; rw [if_neg (by rintro (h | h); exact h HRF.out; exact h5 h), if_neg h6]
            rw [hke] at HNS
            have k5 : (ok == 5) = false := by simpa using h5
            have k6 : (ok == 6) = false := by simpa using h6
            clear hke h5 h6
            go_upto_region 5 with (go_at_call 64; (with_reducible refine CR6.out.mono ?_); rintro e w7 ⟨rfl, ht⟩; have H7 := Lib.hid (And.intro (HN.out.1.no ht) (HN.out.2.no ht)); clear ht e1 e2 e3 e4 e5 e6 e7; obtain ⟨e1, e2, e3, e4, e5, e6, e7⟩ := CSS.out w7 H7.out.2)
            obtain ⟨B9, c9, w9, q, hq⟩ := H7.out.1.append (by omega) k
            have HQ := Lib.hid hq
            clear hq
            go_wp2_with (at_builtin; refine wpList_append_run rfl _ _ 87 rfl _ _ _ rfl rfl q ?_)
            refine ⟨⟨kk + 1, B9, c9, by omega, by go_num, ?_, ?_⟩, by simp [RowKit.intOf]; omega⟩
            · rw [HNS.out, List.length_append]; rfl
            · rw [HNS.out]; exact HQ
      · have hke : keysO ⟨ok, k, v, o, had, aft, A0, ws.length, cap0⟩ ws = [] := by unfold keysO; rw [if_pos (.inl (by rw [HRF.out]; exact hz))]
        have HK2 : Hid (namL l ps (J.take (kk + 1)) = namL l ps (J.take kk)) := Lib.hid (by rw [HNS.out, hke, List.append_nil])
        have hz1 : (rf == 0) = false := by simpa using hz
        have hz2 : (rf != 0) = true := by simpa using hz
        clear hke hz
        go_wp2_with (go_at_call 64; (with_reducible refine CR6.out.mono ?_); rintro e w7 ⟨rfl, ht⟩; have H7 := Lib.hid (And.intro (HN.out.1.no ht) (HN.out.2.no ht)); clear ht e1 e2 e3 e4 e5 e6 e7; obtain ⟨e1, e2, e3, e4, e5, e6, e7⟩ := CSS.out w7 H7.out.2)
        exact ⟨⟨kk + 1, Bk, ck, by omega, by go_num, by rw [HK2.out], by rw [HK2.out]; exact Lib.hid H7.out.1⟩, by simp [RowKit.intOf]; omega⟩
    · obtain rfl : kk = J.length := by omega
      go_wp2_with fail
      go_ret
      rw [List.take_length] at HP
      refine ⟨Bk, ck, ?_, HP.out⟩
      rw [List.take_length]
      rfl
end Go.Proofs.Ytllppkfeiifklaa
namespace Go.Proofs.Ytllppkfeiifklaa
open Go.RowKit Go.Lib
set_option linter.unusedVariables false
set_option maxRecDepth 20000
set_option linter.unusedSimpArgs false

/-- The keys that the closure reads, in their box. -/
def Kb (w : World) (gk : Nat) (K : List ByteArray) (Bk : Option Addr) (ck : Nat) : Prop := At w gk (.cells #[.slice Bk K.length ck] 87 (0, 0)) ∧ Row w Bk (kcs K)
theorem Kb.no {w w2 : World} {gk ck : Nat} {K : List ByteArray} {Bk : Option Addr} (h : Kb w gk K Bk ck) (t : Turn No w w2) : Kb w2 gk K Bk ck := ⟨h.1.no t, h.2.no t⟩
theorem keepk_any (K : List ByteArray) (Bk : Option Addr) (ck gk : Nat) (k v : ByteArray) (w : World) (h : Kb w gk K Bk ck) (hn : K.length ≤ 100000) :
    Calls Try.prog 83 #[.agg #[.string k, .string v], .pointer (some ⟨gk, 0, none⟩)] w fun r w' => r = .returned (.bool (!hasK K k)) ∧ Turn No w w' := by
  have tn : Turn No w (w.alloc (.cells #[.string k, .string v] 47)) := (Turn.refl _ _).alloc _
  have HB : Hid (Turn No w (w.alloc (.cells #[.string k, .string v] 47)) ∧ At (w.alloc (.cells #[.string k, .string v] 47)) w.heap.size (.cells #[.string k, .string v] 47 (0, 0)) ∧ Kb (w.alloc (.cells #[.string k, .string v] 47)) gk K Bk ck) := Lib.hid ⟨tn, At.new _ _, h.no tn⟩
  clear h tn
  go_enter Try.func83, Try.ntmps83
  go_upto_region 1 with fail
  generalize w.alloc (.cells #[.string k, .string v] 47) = w1 at HB ⊢
  generalize w.heap.size = g at HB ⊢
  have y0 := HB.out.2.1.cell 0
  have z0 := HB.out.2.2.1.cell 0
  simp at y0 z0
  have CC := Lib.hid (contains_any K Bk ck k w1 HB.out.2.2.2 hn)
  go_wp2_with (go_at_call 84; (with_reducible refine CC.out.mono ?_); rintro e wz ⟨rfl, hw⟩; replace hw := hw.symm; subst hw)
  go_ret
  exact ⟨rfl, HB.out.1⟩
def keepB (K : List ByteArray) (p : Pr) : Bool := hasK K p.k
set_option maxHeartbeats 4000000 in
theorem indexp_any (K : List ByteArray) (Bk : Option Addr) (ck gk : Nat) (l : List Pr) (A : Option Addr) (cap : Nat) (w : World) (hR : Row w A (pcs l)) (hk : Kb w gk K Bk ck) (hn : K.length ≤ 100000) (hl : l.length ≤ 100000) :
    Calls Try.prog 102 #[.slice A l.length cap, .func (.func 83) #[] #[.pointer (some ⟨gk, 0, none⟩)]] w fun r w' => ((r = .returned (.int .i64 (-1)) ∧ ∀ p ∈ l, keepB K p = true) ∨ ∃ (n : Nat) (p : Pr), r = .returned (.int .i64 n) ∧ l[n]? = some p ∧ keepB K p = false ∧ ∀ q ∈ l.take n, keepB K q = true) ∧ Turn No w w' := by
  have HL := Lib.hid (And.intro hR hk)
  clear hR hk
  go_enter Try.func102, Try.ntmps102
  go_wp2_with fail
  go_loopw [8] (fun i wr => ∃ kk : Nat, kk ≤ l.length ∧ i = .int .i64 (kk : Int) ∧ Hid (Turn No w wr ∧ ∀ q ∈ l.take kk, keepB K q = true)) (fun i _ => l.length - (RowKit.intOf i).toNat)
  case atStart => exact ⟨0, Nat.zero_le _, rfl, Lib.hid ⟨Turn.refl _ _, by simp⟩⟩
  case round =>
    obtain ⟨kk, hm, rfl, HP⟩ := hrel
    by_cases hlt : kk < l.length
    · obtain ⟨p, hp⟩ : ∃ p, l[kk]? = some p := ⟨l[kk], List.getElem?_eq_getElem hlt⟩
      obtain ⟨b, off, hA, hb, x0, x1⟩ := (HL.out.1.no HP.out.1).pair hp
      have CK := Lib.hid (keepk_any K Bk ck gk p.k p.v wr (HL.out.2.no HP.out.1) hn)
      have HPP := Lib.hid hp
      have hkb : hasK K p.k = keepB K p := rfl
      rw [hkb] at CK
      subst hA
      clear hb hp hkb
      have hq1 : (0 : Int) ≤ (kk : Int) := by omega
      have hq2 : (kk : Int) < (l.length : Int) := by omega
      cases hkp : keepB K p with
      | true =>
        rw [hkp] at CK
        have HF : Hid (∀ q ∈ l.take (kk + 1), keepB K q = true) := Lib.hid (by
          intro q hq
          rw [List.take_add_one, HPP.out] at hq
          rcases List.mem_append.1 hq with h1 | h1
          · exact HP.out.2 q h1
          · simp at h1; subst h1; exact hkp)
        clear hkp
        go_wp2_with (go_at_call 83; (with_reducible refine CK.out.mono ?_); rintro e wz ⟨rfl, hy⟩; replace hy := Lib.hid hy)
        exact ⟨⟨kk + 1, by omega, by go_num, Lib.hid ⟨HP.out.1.trans hy.out, HF.out⟩⟩, by simp [RowKit.intOf]; omega⟩
      | false =>
        rw [hkp] at CK
        have HF := Lib.hid hkp
        clear hkp
        go_wp2_with (go_at_call 83; (with_reducible refine CK.out.mono ?_); rintro e wz ⟨rfl, hy⟩; replace hy := Lib.hid hy)
        go_ret
        exact ⟨.inr ⟨kk, p, rfl, HPP.out, HF.out, HP.out.2⟩, HP.out.1.trans hy.out⟩
    · obtain rfl : kk = l.length := by omega
      go_wp2_with fail
      go_ret
      have := HP.out.2
      rw [List.take_length] at this
      exact ⟨.inl ⟨rfl, this⟩, HP.out.1⟩
/-- Those up to j are looked at; i of them are kept. -/
structure Df (w0 wr : World) (g cap : Nat) (K : List ByteArray) (l : List Pr) (j i : Nat) : Prop where
  ex : ∃ J, Hx wr g cap ((l.take j).filter (keepB K) ++ J ++ l.drop j) ∧ ((l.take j).filter (keepB K)).length = i ∧ i + J.length = j
  tu : Turn (fun k => k = g) w0 wr
  lt : i < j
section
variable {w0 wr : World} {g cap : Nat} {K : List ByteArray} {l : List Pr} {j i : Nat} {p : Pr}
theorem fil_yes (hp : l[j]? = some p) (h : keepB K p = true) : (l.take (j + 1)).filter (keepB K) = (l.take j).filter (keepB K) ++ [p] := by
  rw [List.take_add_one, hp]; simp [h]
theorem fil_no (hp : l[j]? = some p) (h : keepB K p = false) : (l.take (j + 1)).filter (keepB K) = (l.take j).filter (keepB K) := by
  rw [List.take_add_one, hp]; simp [h]
theorem Df.start (hx : Hx wr g cap l) (t : Turn (fun k => k = g) w0 wr) {n : Nat} (hp : l[n]? = some p) (h : keepB K p = false) (ha : ∀ q ∈ l.take n, keepB K q = true) : Df w0 wr g cap K l (n + 1) n := by
  have hlt := (List.getElem?_eq_some_iff.1 hp).1
  have e : (l.take n).filter (keepB K) = l.take n := List.filter_eq_self.2 ha
  refine ⟨⟨[p], ?_, ?_, rfl⟩, t, by omega⟩
  · rw [fil_no hp h, e, List.append_assoc]
    have : l.take n ++ ([p] ++ l.drop (n + 1)) = l := by
      rw [show [p] ++ l.drop (n + 1) = l.drop n from (drop_cons hp).symm, List.take_append_drop]
    rw [this]
    exact hx
  · rw [fil_no hp h, e, List.length_take]; omega
theorem Df.cells (h : Df w0 wr g cap K l j i) (hp : l[j]? = some p) : ∃ uk uv, ∀ w2, Turn No wr w2 →
    (w2.cell? ⟨g, j * 2, none⟩ = some (.string p.k) ∧ w2.cell? ⟨g, j * 2 + 1, none⟩ = some (.string p.v)) ∧
    w2.cell? ⟨g, i * 2, none⟩ = some (.string uk) ∧ w2.cell? ⟨g, i * 2 + 1, none⟩ = some (.string uv) ∧ ∀ q, w2.frozen? ⟨g, q, none⟩ = false := by
  obtain ⟨J, hx, hK, hJ⟩ := h.ex
  have hl : ((l.take j).filter (keepB K) ++ J).length = j := by rw [List.length_append]; omega
  have gp : ((l.take j).filter (keepB K) ++ J ++ l.drop j)[j]? = some p := by
    rw [List.getElem?_append_right (by omega), hl, Nat.sub_self, List.getElem?_drop]
    simpa using hp
  obtain ⟨u, gu⟩ : ∃ u, ((l.take j).filter (keepB K) ++ J ++ l.drop j)[i]? = some u := ⟨_, List.getElem?_eq_getElem (by have := (List.getElem?_eq_some_iff.1 gp).1; have := h.lt; omega)⟩
  refine ⟨u.k, u.v, fun w2 t => ?_⟩
  have h2 := hx.no t
  exact ⟨⟨(h2.cells gp).1, (h2.cells gp).2⟩, (h2.cells gu).1, (h2.cells gu).2, h2.thawed⟩
theorem Df.skip (h : Df w0 wr g cap K l j i) (hp : l[j]? = some p) (hk : keepB K p = false) {w2 : World} (t : Turn No wr w2) : Df w0 w2 g cap K l (j + 1) i := by
  obtain ⟨J, hx, hK, hJ⟩ := h.ex
  refine ⟨⟨J ++ [p], ?_, by rw [fil_no hp hk]; exact hK, by simp; omega⟩, h.tu.then t fun _ _ h => h.elim, by have := h.lt; omega⟩
  have := hx.no t
  rw [drop_cons hp] at this
  rw [fil_no hp hk]
  simpa using this
theorem Df.keep (h : Df w0 wr g cap K l j i) (hp : l[j]? = some p) (hk : keepB K p = true) {w2 : World} (t : Turn No wr w2) :
    Df w0 ((w2.setCell ⟨g, i * 2, none⟩ (.string p.k)).setCell ⟨g, i * 2 + 1, none⟩ (.string p.v)) g cap K l (j + 1) (i + 1) := by
  obtain ⟨J, hx, hK, hJ⟩ := h.ex
  have hlt := h.lt
  obtain ⟨y, J', hy⟩ : ∃ y J', J = y :: J' := by
    cases J with
    | nil => simp at hJ; omega
    | cons y J' => exact ⟨y, J', rfl⟩
  have hx2 := (hx.no t).set i p
  rw [drop_cons hp, hy] at hx2
  rw [List.append_assoc, List.set_append_right _ _ (by omega), show i - ((l.take j).filter (keepB K)).length = 0 by omega] at hx2
  refine ⟨⟨J' ++ [p], ?_, by rw [fil_yes hp hk]; simp [hK], ?_⟩, (h.tu.then t fun _ _ h => h.elim).trans ((Turn.set1 w2 g (i * 2) _).trans (Turn.set1 _ g (i * 2 + 1) _)), by omega⟩
  · rw [fil_yes hp hk]
    simpa using hx2
  · rw [hy] at hJ
    simp at hJ ⊢
    omega
theorem Df.fin (h : Df w0 wr g cap K l j i) {n : Nat} (hn : n = l.length) (hj : j = n) : ∃ w2, BRun1 .clear #[22] 0 (.slice (some ⟨g, i * 2, none⟩) (n - i) (cap - i)) (.tuple #[]) wr w2 ∧ i ≤ n ∧ i ≤ cap ∧
    (l.filter (keepB K)).length = i ∧ Hx w2 g cap (l.filter (keepB K)) ∧ Turn (fun k => k = g) w0 w2 := by
  obtain ⟨J, ⟨cur, hb, hsz, hft, hh⟩, hK, hJ⟩ := h.ex
  have hlt := h.lt
  have e0 : l.take j = l := List.take_of_length_le (by omega)
  have hll : ((l.take j).filter (keepB K) ++ J ++ l.drop j).length = n := by simp only [List.length_append, List.length_drop]; omega
  rw [e0] at hft hK hh hll
  rw [hll] at hft
  obtain ⟨cs, hcs, hr⟩ := run_cl (cap := cap - i) hb (o := i * 2) (n := n - i) (by rw [hsz]; omega) (by omega) 0
  refine ⟨_, hr, by omega, by omega, hK, ⟨_, blk_setRow hb _, by rw [length_splice _ _ _ (by omega), hsz], by omega, ?_⟩, h.tu.trans (turn_setRow _ _ _)⟩
  have hx : cur.take ((l.filter (keepB K)).length * 2) = pcs (l.filter (keepB K)) := by
    have := congrArg (List.take ((l.filter (keepB K)).length * 2)) hh
    rw [List.take_take, Nat.min_eq_left (by omega), List.append_assoc, pcs_append, List.take_left' (pcs_length _)] at this
    exact this
  exact splice_keep hx (by omega) (by omega)
end
set_option maxHeartbeats 8000000 in
theorem delf_any (K : List ByteArray) (Bk : Option Addr) (ck gk : Nat) (l : List Pr) (g cap : Nat) (w : World) (hx : Hx w g cap l) (hc : cap ≤ maxLen) (hk : ∀ w2, Turn (fun k => k = g) w w2 → Kb w2 gk K Bk ck) (hn : K.length ≤ 100000) {n : Nat} (hl : n ≤ 100000) (hln : n = l.length) :
    Calls Try.prog 82 #[.slice (some ⟨g, 0, none⟩) n cap, .func (.func 83) #[] #[.pointer (some ⟨gk, 0, none⟩)]] w fun r w' => r = .returned (.slice (some ⟨g, 0, none⟩) (l.filter (keepB K)).length cap) ∧ Hx w' g cap (l.filter (keepB K)) ∧ Turn (fun k => k = g) w w' := by
  have hfit := hx.fits
  rw [← hln] at hfit
  have HL := Lib.hid (And.intro hln (And.intro hx hk))
  have CI := Lib.hid (indexp_any K Bk ck gk l (some ⟨g, 0, none⟩) cap w (hx.row hc) (hk w (Turn.refl _ _)) hn (by omega))
  rw [← hln] at CI
  unfold maxLen at hc
  clear hx hk hln
  go_enter Try.func82, Try.ntmps82
  go_upto_region 2 with (go_at_call 102; (with_reducible refine CI.out.mono ?_); rintro e w1 ⟨h1, ht⟩; rcases h1 with ⟨rfl, ha⟩ | ⟨n0, p0, rfl, hp0, hk0, ha⟩)
  · have HA : Hid (l.filter (keepB K) = l ∧ Turn (fun k => k = g) w w1 ∧ Hx w1 g cap l) := Lib.hid ⟨List.filter_eq_self.2 ha, ht.mono fun _ _ h => h.elim, HL.out.2.1.no ht⟩
    clear ha ht
    go_wp2_with fail
    go_ret
    rw [HA.out.1]
    exact ⟨by rw [← HL.out.1]; rfl, HA.out.2.2, HA.out.2.1⟩
  · have hn0 : n0 < n := by rw [HL.out.1]; exact (List.getElem?_eq_some_iff.1 hp0).1
    have H0 : Hid (Df w w1 g cap K l (n0 + 1) n0) := Lib.hid (Df.start (HL.out.2.1.no ht) (ht.mono fun _ _ h => h.elim) hp0 hk0 ha)
    have hz1 : ((n0 : Int) == -1) = false := by
      rw [beq_eq_false_iff_ne]; omega
    clear hp0 hk0 ha ht CI
    go_wp2_with fail
    go_loopw [5, 6] (fun x y wr => ∃ i j : Nat, i < j ∧ j ≤ n ∧ x = .int .i64 (i : Int) ∧ y = .int .i64 (j : Int) ∧ Hid (Df w wr g cap K l j i)) (fun _ y _ => n - (RowKit.intOf y).toNat)
    case atStart => exact ⟨n0, n0 + 1, by omega, by omega, rfl, by go_num, H0⟩
    case round =>
      obtain ⟨i, j, hij, hj, rfl, rfl, HP⟩ := hrel
      clear H0
      by_cases hlt : j < n
      · obtain ⟨p, hp⟩ : ∃ p, l[j]? = some p := ⟨l[j]'(by have := HL.out.1; omega), List.getElem?_eq_getElem _⟩
        obtain ⟨uk, uv, hcell⟩ := HP.out.cells hp
        have HCE := Lib.hid hcell
        have x0 := (hcell wr (Turn.refl _ _)).1.1
        have x1 := (hcell wr (Turn.refl _ _)).1.2
        have HPP := Lib.hid hp
        have CK := Lib.hid fun (W : World) (t : Turn No wr W) => keepk_any K Bk ck gk p.k p.v W (HL.out.2.2 W (HP.out.tu.then t fun _ _ h => h.elim)) hn
        have hkb : hasK K p.k = keepB K p := rfl
        rw [hkb] at CK
        clear hp hcell hkb
        have hq1 : (0 : Int) ≤ (j : Int) := by omega
        have hq2 : (j : Int) < (n : Int) := by omega
        have hq3 : (0 : Int) ≤ (i : Int) := by omega
        have hq4 : (i : Int) < (n : Int) := by omega
        cases hkp : keepB K p with
        | false =>
          rw [hkp] at CK
          have HD := Lib.hid fun (W : World) (t : Turn No wr W) => HP.out.skip HPP.out hkp t
          clear hkp
          obtain ⟨pk, pv⟩ := p
          simp only at x0 x1 CK
          have CK2 := Lib.hid (CK.out (wr.alloc (.cells #[.string pk, .string pv] 47)) ((Turn.refl _ _).alloc _))
          have tn : Turn No wr (wr.alloc (.cells #[.string pk, .string pv] 47)) := (Turn.refl _ _).alloc _
          have HTN := Lib.hid tn
          have z0 := (At.new wr (.cells #[.string pk, .string pv] 47)).cell 0
          have z1 := (At.new wr (.cells #[.string pk, .string pv] 47)).cell 1
          simp at z0 z1
          clear tn
          go_wp2_with (go_at_call 83; (with_reducible refine CK2.out.mono ?_); rintro e wz ⟨rfl, hy⟩; replace hy := Lib.hid hy)
          exact ⟨⟨i, j + 1, by omega, by omega, rfl, by go_num, Lib.hid (HD.out _ (HTN.out.trans hy.out))⟩, by simp [RowKit.intOf]; omega⟩
        | true =>
          rw [hkp] at CK
          have HD := Lib.hid fun (W : World) (t : Turn No wr W) => HP.out.keep HPP.out hkp t
          clear hkp
          obtain ⟨pk, pv⟩ := p
          simp only at x0 x1 CK
          have CK2 := Lib.hid (CK.out (wr.alloc (.cells #[.string pk, .string pv] 47)) ((Turn.refl _ _).alloc _))
          have tn : Turn No wr (wr.alloc (.cells #[.string pk, .string pv] 47)) := (Turn.refl _ _).alloc _
          have HTN := Lib.hid (And.intro tn (At.new wr (.cells #[.string pk, .string pv] 47)))
          have z0 := (At.new wr (.cells #[.string pk, .string pv] 47)).cell 0
          have z1 := (At.new wr (.cells #[.string pk, .string pv] 47)).cell 1
          simp at z0 z1
          clear tn
          go_upto_region 9 with (go_at_call 83; (with_reducible refine CK2.out.mono ?_); rintro e wz ⟨rfl, hy⟩; replace hy := Lib.hid hy)
          have z0 := (HTN.out.2.no hy.out).cell 0
          have z1 := (HTN.out.2.no hy.out).cell 1
          simp at z0 z1
          have HY := Lib.hid (HTN.out.1.trans hy.out)
          obtain ⟨_, c0, c1, c2⟩ := HCE.out wz HY.out
          have f0 := c2 (i * 2)
          have f1 := c2 (i * 2 + 1)
          have HD2 := Lib.hid (HD.out wz HY.out)
          clear c2 HD HY hy x0 x1
          go_wp2_with fail
          exact ⟨⟨i + 1, j + 1, by omega, by omega, by go_num, by go_num, HD2⟩, by simp [RowKit.intOf]; omega⟩
      · obtain ⟨w5, hr5, hin, hic, hF⟩ := HP.out.fin HL.out.1 (by omega)
        have HF := Lib.hid hF
        have q1 : ¬ (j : Int) < (n : Int) := by omega
        have q2 : (i : Int) ≤ (n : Int) := by omega
        have q3 : (i : Int) ≤ (cap : Int) := by omega
        clear hF HP
        go_wp2_with (refine wpList_brun1 (by rfl) _ .clear _ (by rfl) _ _ (by rfl) hr5 ?_)
        go_ret
        rw [HF.out.1]
        exact ⟨rfl, HF.out.2⟩
end Go.Proofs.Ytllppkfeiifklaa
