/-
  The document's Put over pairs.
-/
import Derived.Test.YtengbkopihiiaaaWNh
namespace Go.Proofs.Ytengbkopihiiaaa
open Go.RowKit Go.Lib
set_option linter.unusedVariables false
set_option maxRecDepth 20000
set_option maxRecDepth 20000
set_option linter.unusedSimpArgs false

theorem put_low_all {k v : ByteArray} {T : List Pr} : ∀ {A : List Pr}, (∀ p ∈ A, kl p.k k) → putL (A ++ T) k v = A ++ putL T k v
  | [], _ => rfl
  | p :: A, h => by
    show (if kl p.k k then p :: putL (A ++ T) k v else _) = _
    rw [if_pos (h p List.mem_cons_self), put_low_all fun q hq => h q (List.mem_cons_of_mem _ hq)]
    rfl
theorem put_done {k v : ByteArray} {x : Pr} : ∀ {A : List Pr}, (∃ p ∈ A, ¬ kl p.k k) → putL (A ++ [x]) k v = putL A k v ++ [x]
  | [], ⟨p, h, _⟩ => by cases h
  | p :: A, ⟨q, hq, hn⟩ => by
    by_cases hp : kl p.k k
    · have hA : ∃ r ∈ A, ¬ kl r.k k := ⟨q, (List.mem_cons.1 hq).elim (fun e => absurd (e ▸ hp) hn) id, hn⟩
      show (if kl p.k k then p :: putL (A ++ [x]) k v else _) = (if kl p.k k then p :: putL A k v else _) ++ [x]
      rw [if_pos hp, if_pos hp, put_done hA]
      rfl
    · show (if kl p.k k then p :: putL (A ++ [x]) k v else if p.k = k then ⟨k, v⟩ :: (A ++ [x]) else ⟨k, v⟩ :: p :: (A ++ [x])) = (if kl p.k k then p :: putL A k v else if p.k = k then ⟨k, v⟩ :: A else ⟨k, v⟩ :: p :: A) ++ [x]
      rw [if_neg hp, if_neg hp]
      by_cases he : p.k = k
      · rw [if_pos he, if_pos he]; rfl
      · rw [if_neg he, if_neg he]; rfl
theorem put_one {k v : ByteArray} {x : Pr} (h : ¬ kl x.k k) : putL [x] k v = ⟨k, v⟩ :: (if x.k = k then [] else [x]) := by
  show (if kl x.k k then _ else if x.k = k then [⟨k, v⟩] else [⟨k, v⟩, x]) = _
  rw [if_neg h]
  by_cases he : x.k = k
  · rw [if_pos he, if_pos he]
  · rw [if_neg he, if_neg he]
theorem put_takelen {l : List Pr} (k v : ByteArray) (i : Nat) : (putL (l.take i) k v).length ≤ l.length + 1 := by
  have := put_length (l.take i) k v
  rw [List.length_take] at this
  omega
def PutI (l : List Pr) (k v : ByteArray) (i : Nat) (d : Bool) (m : List Pr) : Prop := if d = true then m = putL (l.take i) k v ∧ ∃ q ∈ l.take i, ¬ kl q.k k else m = l.take i ∧ ∀ q ∈ l.take i, kl q.k k
theorem take_x {l : List Pr} {i : Nat} {x : Pr} (_ : Asc l) (hx : l[i]? = some x) : l.take (i + 1) = l.take i ++ [x] := by rw [List.take_add_one, hx]; rfl
section
variable {l : List Pr} {k v : ByteArray} {i : Nat} {m : List Pr} {x : Pr} (ha : Asc l) (hx : l[i]? = some x)
include ha hx
theorem before_x : ∀ q ∈ l.take i, kl q.k x.k := fun q hq => by
  have h : Asc (l.take i ++ [x]) := by rw [← take_x ha hx]; exact List.Pairwise.sublist (List.take_sublist _ _) ha
  unfold Asc at h
  rw [List.pairwise_append] at h
  exact h.2.2 q hq x (by simp)
theorem putI_done (h : PutI l k v i true m) : ¬ x.k = k ∧ PutI l k v (i + 1) true (m ++ [x]) := by
  obtain ⟨h1, q, hq, hn⟩ := h
  have hlt := before_x ha hx q hq
  refine ⟨fun e => hn (e ▸ hlt), ?_, q, ?_, hn⟩
  · rw [take_x ha hx, put_done ⟨q, hq, hn⟩, h1]
  · rw [take_x ha hx]; exact List.mem_append.2 (.inl hq)
theorem putI_low (h : PutI l k v i false m) (hl : kl x.k k) : ¬ x.k = k ∧ PutI l k v (i + 1) false (m ++ [x]) := by
  obtain ⟨h1, h2⟩ := (show m = l.take i ∧ ∀ q ∈ l.take i, kl q.k k from h)
  refine ⟨kl_ne hl, ?_⟩
  show m ++ [x] = l.take (i + 1) ∧ ∀ q ∈ l.take (i + 1), kl q.k k
  rw [take_x ha hx, h1]
  refine ⟨rfl, fun q hq => ?_⟩
  rcases List.mem_append.1 hq with h | h
  · exact h2 q h
  · simp at h; subst h; exact hl
theorem putI_new (h : PutI l k v i false m) (hl : ¬ kl x.k k) : PutI l k v (i + 1) true (m ++ ⟨k, v⟩ :: (if x.k = k then [] else [x])) := by
  obtain ⟨h1, h2⟩ := (show m = l.take i ∧ ∀ q ∈ l.take i, kl q.k k from h)
  show _ = putL (l.take (i + 1)) k v ∧ ∃ q ∈ l.take (i + 1), ¬ kl q.k k
  rw [take_x ha hx, put_low_all h2, put_one hl, h1]
  exact ⟨rfl, x, by simp, hl⟩
end
theorem putI_len {l : List Pr} {k v : ByteArray} {i : Nat} {d : Bool} {m : List Pr} (h : PutI l k v i d m) : m.length ≤ l.length + 1 := by
  unfold PutI at h
  split at h
  · rw [h.1]; exact put_takelen k v i
  · rw [h.1, List.length_take]; omega
theorem putI_end {l : List Pr} {k v : ByteArray} {d : Bool} {m : List Pr} (h : PutI l k v l.length d m) : putL l k v = if d = true then m else m ++ [⟨k, v⟩] := by
  unfold PutI at h
  rw [List.take_length] at h
  cases d with
  | true => rw [if_pos rfl] at h; rw [if_pos rfl, h.1]
  | false =>
    rw [if_neg (by decide)] at h
    rw [if_neg (by decide), h.1]
    have := put_low_all (T := []) (v := v) h.2
    rw [List.append_nil] at this
    rw [this]
    rfl
set_option maxRecDepth 100000 in
set_option maxHeartbeats 8000000 in
theorem rput_any (l : List Pr) (key val : ByteArray) (B : Option Addr) (c : Nat) (w : World) (ha : Asc l) (hR : Row w B (pcs l)) (hf : ∀ p ∈ l, Fit p.k) (hk : Fit key) (hn : l.length ≤ 100000) :
    Calls Try.prog 33 #[.slice B l.length c, .string key, .string val] w fun e w' => ∃ B' c', e = .returned (.slice B' (putL l key val).length c') ∧ Ps w w' (putL l key val) B' c' := by
  have HL := Lib.hid (And.intro hR (And.intro ha (And.intro hf hk)))
  clear hR ha hf hk
  go_enter Try.func33, Try.ntmps33
  go_wp2_with fail
  go_loopw [7, 8, 9] (fun s d x wr => ∃ (i n : Nat) (B' : Option Addr) (c' : Nat) (dn : Bool), i ≤ l.length ∧ x = .int .i64 (i : Int) ∧ s = .slice B' n c' ∧ d = .bool dn ∧ Hid (∃ m : List Pr, n = m.length ∧ PutI l key val i dn m ∧ Ps w wr m B' c')) (fun _ _ x _ => l.length - (RowKit.intOf x).toNat)
  case atStart => exact ⟨0, 0, none, 0, false, Nat.zero_le _, rfl, rfl, rfl, Lib.hid ⟨[], rfl, ⟨rfl, by simp⟩, Turn.refl _ _, World.ownsRow_nil _ _ _ _⟩⟩
  case round =>
    obtain ⟨i, n, B', c', dn, hi, rfl, rfl, rfl, HQ⟩ := hrel
    obtain ⟨m', hm1, hm2, hm3⟩ := HQ.out
    obtain ⟨m, hm⟩ : ∃ x, x = m' := ⟨_, rfl⟩
    subst hm
    have HM := Lib.hid (And.intro hm1 (And.intro hm2 hm3))
    clear hm1 hm2 hm3 HQ
    by_cases hlt : i < l.length
    · obtain ⟨p, hp⟩ : ∃ t, l[i]? = some t := ⟨l[i], List.getElem?_eq_getElem hlt⟩
      obtain ⟨b, o, hB, hc⟩ := (HL.out.1.no HM.out.2.2.tu).prN hp
      have HC := Lib.hid hc
      obtain ⟨x0, x1⟩ := hc wr (Turn.refl _ _)
      have HPP := Lib.hid hp
      have CL := Lib.hid (lessT p.k key wr (HL.out.2.2.1 p (List.mem_of_getElem? hp)) HL.out.2.2.2)
      obtain ⟨pk, pv⟩ := p
      simp only at x0 x1 CL HC
      subst hB
      clear hp hc
      have hq1 : (0 : Int) ≤ (i : Int) := by omega
      have hq2 : (i : Int) < (l.length : Int) := by omega
      have HLN := Lib.hid (putI_len HM.out.2.1)
      cases dn with
      | true =>
        have HS := Lib.hid (putI_done HL.out.2.1 HPP.out HM.out.2.1)
        obtain ⟨B9, c9, w9, q, hq, _⟩ := HM.out.2.2.append (by have := HLN.out; omega) ⟨pk, pv⟩
        have HQ9 := Lib.hid hq
        rw [← HM.out.1] at q
        simp only [Pr.cs] at q
        have qe := bytes_beq pk key
        rw [decide_eq_false HS.out.1] at qe
        have qn : (pk.toList != key.toList) = true := by rw [bne, qe]; rfl
        clear hq CL
        go_upto_region 10 with fail
        go_wp2_with (at_builtin; refine wpList_append_run rfl _ _ 51 rfl _ _ _ rfl rfl q ?_)
        exact ⟨⟨i + 1, n + 1, B9, c9, true, by omega, by go_num, rfl, rfl, Lib.hid ⟨m ++ [⟨pk, pv⟩], by rw [HM.out.1]; simp, HS.out.2, HQ9.out⟩⟩, by simp [RowKit.intOf]; omega⟩
      | false =>
        go_upto_if 27 with (go_at_call 48; (with_reducible refine CL.out.mono ?_); rintro e w2 ⟨bb, rfl, hbb, ht⟩; have H2 := Lib.hid (And.intro hbb ht); clear hbb ht)
        clear CL x0 x1
        obtain ⟨x0, x1⟩ := HC.out w2 H2.out.2
        have hps := HM.out.2.2.no H2.out.2
        obtain ⟨br, hbr⟩ : ∃ x, x = bb := ⟨_, rfl⟩
        subst hbr
        cases br with
        | true =>
          have HS := Lib.hid (putI_low HL.out.2.1 HPP.out HM.out.2.1 (by first | exact H2.out.1.1 rfl | exact H2.out.1.1 trivial))
          obtain ⟨B9, c9, w9, q, hq, _⟩ := hps.append (by have := HLN.out; omega) ⟨pk, pv⟩
          have HQ9 := Lib.hid hq
          rw [← HM.out.1] at q
          simp only [Pr.cs] at q
          have qe := bytes_beq pk key
          rw [decide_eq_false HS.out.1] at qe
          have qn : (pk.toList != key.toList) = true := by rw [bne, qe]; rfl
          clear hq hps
          go_upto_region 10 with fail
          go_wp2_with (at_builtin; refine wpList_append_run rfl _ _ 51 rfl _ _ _ rfl rfl q ?_)
          exact ⟨⟨i + 1, n + 1, B9, c9, false, by omega, by go_num, rfl, rfl, Lib.hid ⟨m ++ [⟨pk, pv⟩], by rw [HM.out.1]; simp, HS.out.2, HQ9.out⟩⟩, by simp [RowKit.intOf]; omega⟩
        | false =>
          have HS := Lib.hid (putI_new HL.out.2.1 HPP.out HM.out.2.1 (v := val) (fun h => by have := H2.out.1.2 h; cases this))
          obtain ⟨B9, c9, w9, q, hq, _⟩ := hps.append (by have := HLN.out; omega) ⟨key, val⟩
          have HQ9 := Lib.hid hq
          rw [← HM.out.1] at q
          simp only [Pr.cs] at q
          clear hq hps x0 x1
          go_upto_region 7 with fail
          go_upto_region 9 with (at_builtin; refine wpList_append_run rfl _ _ 51 rfl _ _ _ rfl rfl q ?_)
          clear q
          obtain ⟨b3, o3, hB3, hc3⟩ := (HL.out.1.no HQ9.out.tu).prN HPP.out
          injection hB3 with hB3
          injection hB3 with e1 e2
          subst e1 e2
          obtain ⟨x0, x1⟩ := hc3 w9 (Turn.refl _ _)
          simp only at x0 x1
          clear hc3
          have qe := bytes_beq pk key
          by_cases he : pk = key
          · rw [decide_eq_true he] at qe
            have qn : (pk.toList != key.toList) = false := by rw [bne, qe]; rfl
            have HE : Hid (PutI l key val (i + 1) true (m ++ [⟨key, val⟩])) := Lib.hid (by have h := HS.out; rwa [if_pos he] at h)
            clear he
            go_wp2_with fail
            exact ⟨⟨i + 1, n + 1, B9, c9, true, by omega, by go_num, rfl, rfl, Lib.hid ⟨m ++ [⟨key, val⟩], by rw [HM.out.1]; simp, HE.out, HQ9.out⟩⟩, by simp [RowKit.intOf]; omega⟩
          · rw [decide_eq_false he] at qe
            have qn : (pk.toList != key.toList) = true := by rw [bne, qe]; rfl
            have HE : Hid (PutI l key val (i + 1) true (m ++ [⟨key, val⟩] ++ [⟨pk, pv⟩])) := Lib.hid (by have h := HS.out; rw [if_neg he] at h; simpa using h)
            obtain ⟨B8, c8, w8, q, hq, _⟩ := HQ9.out.append (by have := HLN.out; simp; omega) ⟨pk, pv⟩
            have HQ8 := Lib.hid hq
            have hml : (m ++ [(⟨key, val⟩ : Pr)]).length = n + 1 := by rw [HM.out.1]; simp
            rw [hml] at q
            simp only [Pr.cs] at q
            clear he hq hml
            go_upto_region 10 with fail
            go_wp2_with (at_builtin; refine wpList_append_run rfl _ _ 51 rfl _ _ _ rfl rfl q ?_)
            exact ⟨⟨i + 1, n + 1 + 1, B8, c8, true, by omega, by go_num, rfl, rfl, Lib.hid ⟨m ++ [⟨key, val⟩] ++ [⟨pk, pv⟩], by rw [HM.out.1]; simp, HE.out, HQ8.out⟩⟩, by simp [RowKit.intOf]; omega⟩
    · obtain rfl : i = l.length := by omega
      have HE := Lib.hid (putI_end HM.out.2.1)
      have HLN := Lib.hid (putI_len HM.out.2.1)
      cases dn with
      | true =>
        have HF : Hid (putL l key val = m) := Lib.hid (by rw [HE.out, if_pos rfl])
        go_wp2_with fail
        go_ret
        rw [HF.out]
        exact ⟨B', c', by first | exact HM.out.1 | exact congrArg _ (congrArg (fun m => Value.slice B' m c') HM.out.1), HM.out.2.2⟩
      | false =>
        have HF : Hid (putL l key val = m ++ [⟨key, val⟩]) := Lib.hid (by rw [HE.out, if_neg (by decide)])
        obtain ⟨B9, c9, w9, q, hq, _⟩ := HM.out.2.2.append (by have := HLN.out; omega) ⟨key, val⟩
        have HQ9 := Lib.hid hq
        rw [← HM.out.1] at q
        simp only [Pr.cs] at q
        clear hq
        go_upto_region 12 with fail
        go_wp2_with (at_builtin; refine wpList_append_run rfl _ _ 51 rfl _ _ _ rfl rfl q ?_)
        go_ret
        rw [HF.out]
        have hml : n + 1 = (m ++ [(⟨key, val⟩ : Pr)]).length := by rw [HM.out.1]; simp
        exact ⟨B9, c9, by first | exact hml | exact congrArg _ (congrArg (fun m => Value.slice B9 m c9) hml), HQ9.out⟩
end Go.Proofs.Ytengbkopihiiaaa
