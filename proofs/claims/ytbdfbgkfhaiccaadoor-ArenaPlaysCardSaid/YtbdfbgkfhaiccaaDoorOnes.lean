/-
  Plain numbers: how many bits of a word are set, reckoned as math/bits does it.
-/
import Derived.Test.YtbdfbgkfhaiccaaDoorBits
namespace Go.Proofs.YtbdfbgkfhaiccaaDoor

def val : List Nat → Nat
  | [] => 0
  | d :: r => d + 256 * val r

theorem and_dig (d m y M : Nat) (hd : d < 256) (hm : m < 256) : (d + 256 * y) &&& (m + 256 * M) = (d &&& m) + 256 * (y &&& M) := by
  have e1 : ((d + 256 * y) &&& (m + 256 * M)) % 2 ^ 8 = d &&& m := by
    rw [Nat.and_mod_two_pow]
    rw [show (d + 256 * y) % 2 ^ 8 = d by omega, show (m + 256 * M) % 2 ^ 8 = m by omega]
  have e2 : ((d + 256 * y) &&& (m + 256 * M)) / 2 ^ 8 = y &&& M := by
    rw [Nat.and_div_two_pow]
    rw [show (d + 256 * y) / 2 ^ 8 = y by omega, show (m + 256 * M) / 2 ^ 8 = M by omega]
  omega

theorem and_high (a b m k : Nat) (ha : a < 2 ^ k) (hm : m < 2 ^ k) : (a + 2 ^ k * b) &&& m = a &&& m := by
  have h1 : (a + 2 ^ k * b) &&& m ≤ m := Nat.and_le_right
  have h2 := Nat.and_mod_two_pow (a := a + 2 ^ k * b) (b := m) (n := k)
  rw [Nat.mod_eq_of_lt (Nat.lt_of_le_of_lt h1 hm), Nat.add_mul_mod_self_left, Nat.mod_eq_of_lt ha, Nat.mod_eq_of_lt hm] at h2
  exact h2

def g1 (d : Nat) : Nat := (d / 2 &&& 85) + (d &&& 85)
def g2 (d : Nat) : Nat := (d / 4 &&& 51) + (d &&& 51)
def g3 (d : Nat) : Nat := d % 16 + d / 16

theorem step1 : ∀ ds : List Nat, (∀ d ∈ ds, d < 256) → (val ds / 2 &&& val (List.replicate ds.length 85)) + (val ds &&& val (List.replicate ds.length 85)) = val (ds.map g1)
  | [], _ => rfl
  | d :: r, h => by
    have hd := h d (by simp)
    have ih := step1 r (fun x hx => h x (by simp [hx]))
    simp only [List.length_cons, List.replicate_succ, val, List.map_cons]
    rw [show (d + 256 * val r) / 2 = (d / 2 + 2 ^ 7 * (val r % 2)) + 256 * (val r / 2) by omega, and_dig _ _ _ _ (by omega) (by omega), and_dig _ _ _ _ hd (by omega), and_high _ _ _ 7 (by omega) (by omega)]
    have hg : g1 d = (d / 2 &&& 85) + (d &&& 85) := rfl
    omega

theorem step2 : ∀ ds : List Nat, (∀ d ∈ ds, d < 256) → (val ds / 4 &&& val (List.replicate ds.length 51)) + (val ds &&& val (List.replicate ds.length 51)) = val (ds.map g2)
  | [], _ => rfl
  | d :: r, h => by
    have hd := h d (by simp)
    have ih := step2 r (fun x hx => h x (by simp [hx]))
    simp only [List.length_cons, List.replicate_succ, val, List.map_cons]
    rw [show (d + 256 * val r) / 4 = (d / 4 + 2 ^ 6 * (val r % 4)) + 256 * (val r / 4) by omega, and_dig _ _ _ _ (by omega) (by omega), and_dig _ _ _ _ hd (by omega), and_high _ _ _ 6 (by omega) (by omega)]
    have hg : g2 d = (d / 4 &&& 51) + (d &&& 51) := rfl
    omega

theorem low_of_val : ∀ ds : List Nat, (∀ d ∈ ds, d % 16 ≤ 4 ∧ d / 16 ≤ 4) → val ds % 16 ≤ 4
  | [], _ => by simp [val]
  | d :: r, h => by
    have := h d (by simp)
    simp only [val]
    omega

theorem and15 (x : Nat) : x &&& 15 = x % 16 := by
  have := Nat.and_two_pow_sub_one_eq_mod x 4
  simpa using this

theorem step3 : ∀ ds : List Nat, (∀ d ∈ ds, d % 16 ≤ 4 ∧ d / 16 ≤ 4) → (val ds / 16 + val ds) &&& val (List.replicate ds.length 15) = val (ds.map g3)
  | [], _ => rfl
  | d :: r, h => by
    have hd := h d (by simp)
    have hr : ∀ x ∈ r, x % 16 ≤ 4 ∧ x / 16 ≤ 4 := fun x hx => h x (by simp [hx])
    have ih := step3 r hr
    have hl := low_of_val r hr
    simp only [List.length_cons, List.replicate_succ, val, List.map_cons]
    rw [show (d + 256 * val r) / 16 + (d + 256 * val r) = (d / 16 + d + 16 * (val r % 16)) + 256 * (val r / 16 + val r) by omega, and_dig _ _ _ _ (by omega) (by omega), and15, ih]
    unfold g3
    omega

theorem byte_ok : ∀ d, d < 256 → g1 d < 256 ∧ (g2 (g1 d)) % 16 ≤ 4 ∧ (g2 (g1 d)) / 16 ≤ 4 ∧ g3 (g2 (g1 d)) = cnt d.testBit 8 := by decide +kernel

theorem cnt_val (d y k : Nat) (hd : d < 256) : cnt (d + 256 * y).testBit (8 + k) = cnt d.testBit 8 + cnt y.testBit k := by
  rw [cnt_add]
  have h : ∀ j, (d + 256 * y).testBit j = if j < 8 then d.testBit j else y.testBit (j - 8) := fun j => by
    rw [show d + 256 * y = 2 ^ 8 * y + d by omega]
    exact Nat.testBit_two_pow_mul_add _ (by omega) _
  rw [cnt_congr (q := d.testBit) 8 (fun x hx => by rw [h, if_pos hx]), cnt_congr (p := fun x => (d + 256 * y).testBit (8 + x)) (q := y.testBit) k (fun x hx => by rw [h, if_neg (by omega), show 8 + x - 8 = x by omega])]

theorem cutd (v k : Nat) (hv : v < 256 * k) : ∃ a r, a < 256 ∧ r < k ∧ v = a + 256 * r := ⟨v % 256, v / 256, by omega, by omega, by omega⟩

theorem digits (v : Nat) (hv : v < 18446744073709551616) : ∃ a b c d e f g h : Nat, a < 256 ∧ b < 256 ∧ c < 256 ∧ d < 256 ∧ e < 256 ∧ f < 256 ∧ g < 256 ∧ h < 256 ∧ v = val [a, b, c, d, e, f, g, h] := by
  obtain ⟨a, r1, ha, h1, rfl⟩ := cutd v 72057594037927936 (by omega)
  obtain ⟨b, r2, hb, h2, rfl⟩ := cutd r1 281474976710656 (by omega)
  obtain ⟨c, r3, hc, h3, rfl⟩ := cutd r2 1099511627776 (by omega)
  obtain ⟨d, r4, hd, h4, rfl⟩ := cutd r3 4294967296 (by omega)
  obtain ⟨e, r5, he, h5, rfl⟩ := cutd r4 16777216 (by omega)
  obtain ⟨f, r6, hf, h6, rfl⟩ := cutd r5 65536 (by omega)
  obtain ⟨g, r7, hg, h7, rfl⟩ := cutd r6 256 (by omega)
  exact ⟨a, b, c, d, e, f, g, r7, ha, hb, hc, hd, he, hf, hg, h7, rfl⟩

theorem val_lt : ∀ ds : List Nat, (∀ d ∈ ds, d < 256) → val ds < 256 ^ ds.length
  | [], _ => by simp [val]
  | d :: r, h => by
    have hd := h d (by simp)
    have ih := val_lt r (fun x hx => h x (by simp [hx]))
    simp only [val, List.length_cons, Nat.pow_succ]
    omega
theorem val_half : ∀ ds : List Nat, (∀ d ∈ ds, d < 128) → 2 * val ds < 256 ^ ds.length
  | [], _ => by simp [val]
  | d :: r, h => by
    have hd := h d (by simp)
    have ih := val_half r (fun x hx => h x (by simp [hx]))
    simp only [val, List.length_cons, Nat.pow_succ]
    omega

theorem val_div (d : Nat) (r : List Nat) (h : d < 256) : val (d :: r) / 256 = val r := by
  show (d + 256 * val r) / 256 = val r
  generalize val r = q
  omega

theorem fold_sum (a b c d e f g h : Nat) (ha : a ≤ 8) (hb : b ≤ 8) (hc : c ≤ 8) (hd : d ≤ 8) (he : e ≤ 8) (hf : f ≤ 8) (hg : g ≤ 8) (hh : h ≤ 8) (y y1 y2 : Nat) (hy : y = val [a, b, c, d, e, f, g, h])
    (h1 : y1 = y + y / 256) (h2 : y2 = y1 + y1 / 65536) : y < 1152921504606846976 ∧ y1 < 2305843009213693952 ∧ y2 < 4611686018427387904 ∧ (y2 + y2 / 4294967296) % 128 = a + b + c + d + e + f + g + h := by
  have e1 : y / 256 = val [b, c, d, e, f, g, h] := by rw [hy]; exact val_div _ _ (by omega)
  have f1 : y1 = val [a + b, b + c, c + d, d + e, e + f, f + g, g + h, h] := by rw [h1, e1, hy]; simp only [val]; omega
  have e2 : y1 / 65536 = val [c + d, d + e, e + f, f + g, g + h, h] := by
    rw [show (65536 : Nat) = 256 * 256 by rfl, ← Nat.div_div_eq_div_mul, f1, val_div _ _ (by omega), val_div _ _ (by omega)]
  have f2 : y2 = val [a + b + c + d, b + c + d + e, c + d + e + f, d + e + f + g, e + f + g + h, f + g + h, g + h, h] := by rw [h2, e2, f1]; simp only [val]; omega
  have e3 : y2 / 4294967296 = val [e + f + g + h, f + g + h, g + h, h] := by
    rw [show (4294967296 : Nat) = 256 * 256 * 256 * 256 by rfl, ← Nat.div_div_eq_div_mul, ← Nat.div_div_eq_div_mul, ← Nat.div_div_eq_div_mul, f2, val_div _ _ (by omega), val_div _ _ (by omega), val_div _ _ (by omega), val_div _ _ (by omega)]
  refine ⟨by rw [hy]; simp only [val]; omega, by rw [f1]; simp only [val]; omega, by rw [f2]; simp only [val]; omega, ?_⟩
  rw [e3, f2]
  generalize hP : val [b + c + d + e, c + d + e + f, d + e + f + g, e + f + g + h, f + g + h, g + h, h] = p
  generalize hQ : val [f + g + h, g + h, h] = q
  have hl : val [a + b + c + d, b + c + d + e, c + d + e + f, d + e + f + g, e + f + g + h, f + g + h, g + h, h] = (a + b + c + d) + 256 * p := by rw [← hP]; rfl
  have hr : val [e + f + g + h, f + g + h, g + h, h] = (e + f + g + h) + 256 * q := by rw [← hQ]; rfl
  rw [hl, hr]
  clear hP hQ hl hr e1 e2 e3 f1 f2 h1 h2 hy
  omega

theorem pow8 : 256 ^ 8 = 18446744073709551616 := by decide
theorem rep85 : val (List.replicate 8 85) = 6148914691236517205 := by decide
theorem rep51 : val (List.replicate 8 51) = 3689348814741910323 := by decide
theorem rep15 : val (List.replicate 8 15) = 1085102592571150095 := by decide
/-- What math/bits reckons. -/
theorem ones_math (v : Nat) (hv : v < 18446744073709551616) : ∃ x1 x2 x3 : Nat, x1 = (v / 2 &&& 6148914691236517205) + (v &&& 6148914691236517205) ∧ x1 < 18446744073709551616 ∧ x2 = (x1 / 4 &&& 3689348814741910323) + (x1 &&& 3689348814741910323) ∧ x2 < 9223372036854775808 ∧
    x3 = (x2 / 16 + x2) &&& 1085102592571150095 ∧ x3 < 1152921504606846976 ∧ (x3 + x3 / 256) < 2305843009213693952 ∧ (x3 + x3 / 256) + (x3 + x3 / 256) / 65536 < 4611686018427387904 ∧
    (((x3 + x3 / 256) + (x3 + x3 / 256) / 65536) + ((x3 + x3 / 256) + (x3 + x3 / 256) / 65536) / 4294967296) % 128 = cnt v.testBit 64 := by
  obtain ⟨a, b, c, d, e, f, g, h, ha, hb, hc, hd, he, hf, hg, hh, rfl⟩ := digits v hv
  obtain ⟨a1, a2, a3, a4⟩ := byte_ok a ha
  obtain ⟨b1, b2, b3, b4⟩ := byte_ok b hb
  obtain ⟨c1, c2, c3, c4⟩ := byte_ok c hc
  obtain ⟨d1, d2, d3, d4⟩ := byte_ok d hd
  obtain ⟨e1, e2, e3, e4⟩ := byte_ok e he
  obtain ⟨f1, f2, f3, f4⟩ := byte_ok f hf
  obtain ⟨p1, p2, p3, p4⟩ := byte_ok g hg
  obtain ⟨q1, q2, q3, q4⟩ := byte_ok h hh
  have s1 := step1 [a, b, c, d, e, f, g, h] (by simp; omega)
  have s2 := step2 [g1 a, g1 b, g1 c, g1 d, g1 e, g1 f, g1 g, g1 h] (by simp; omega)
  have s3 := step3 [g2 (g1 a), g2 (g1 b), g2 (g1 c), g2 (g1 d), g2 (g1 e), g2 (g1 f), g2 (g1 g), g2 (g1 h)] (by simp; omega)
  rw [show val (List.replicate [a, b, c, d, e, f, g, h].length 85) = 6148914691236517205 from rep85] at s1
  rw [show val (List.replicate [g1 a, g1 b, g1 c, g1 d, g1 e, g1 f, g1 g, g1 h].length 51) = 3689348814741910323 from rep51] at s2
  rw [show val (List.replicate [g2 (g1 a), g2 (g1 b), g2 (g1 c), g2 (g1 d), g2 (g1 e), g2 (g1 f), g2 (g1 g), g2 (g1 h)].length 15) = 1085102592571150095 from rep15] at s3
  simp only [List.map_cons, List.map_nil] at s1 s2 s3
  have hcnt : cnt (val [a, b, c, d, e, f, g, h]).testBit 64 = cnt a.testBit 8 + (cnt b.testBit 8 + (cnt c.testBit 8 + (cnt d.testBit 8 + (cnt e.testBit 8 + (cnt f.testBit 8 + (cnt g.testBit 8 + (cnt h.testBit 8 + 0))))))) := by
    show cnt (a + 256 * val [b, c, d, e, f, g, h]).testBit (8 + 56) = _
    rw [cnt_val _ _ _ ha]
    show _ + cnt (b + 256 * val [c, d, e, f, g, h]).testBit (8 + 48) = _
    rw [cnt_val _ _ _ hb]
    show _ + (_ + cnt (c + 256 * val [d, e, f, g, h]).testBit (8 + 40)) = _
    rw [cnt_val _ _ _ hc]
    show _ + (_ + (_ + cnt (d + 256 * val [e, f, g, h]).testBit (8 + 32))) = _
    rw [cnt_val _ _ _ hd]
    show _ + (_ + (_ + (_ + cnt (e + 256 * val [f, g, h]).testBit (8 + 24)))) = _
    rw [cnt_val _ _ _ he]
    show _ + (_ + (_ + (_ + (_ + cnt (f + 256 * val [g, h]).testBit (8 + 16))))) = _
    rw [cnt_val _ _ _ hf]
    show _ + (_ + (_ + (_ + (_ + (_ + cnt (g + 256 * val [h]).testBit (8 + 8)))))) = _
    rw [cnt_val _ _ _ hg]
    show _ + (_ + (_ + (_ + (_ + (_ + (_ + cnt (h + 256 * val []).testBit (8 + 0))))))) = _
    rw [cnt_val _ _ _ hh]
    rfl
  have la := cnt_le a.testBit 8
  have lb := cnt_le b.testBit 8
  have lc := cnt_le c.testBit 8
  have ld := cnt_le d.testBit 8
  have le := cnt_le e.testBit 8
  have lf := cnt_le f.testBit 8
  have lg := cnt_le g.testBit 8
  have lh := cnt_le h.testBit 8
  rw [a4, b4, c4, d4, e4, f4, p4, q4] at s3
  rw [hcnt]
  obtain ⟨r1, r2, r3, r4⟩ := fold_sum _ _ _ _ _ _ _ _ la lb lc ld le lf lg lh _ _ _ rfl rfl rfl
  have m1 : val [g1 a, g1 b, g1 c, g1 d, g1 e, g1 f, g1 g, g1 h] < 18446744073709551616 := Nat.lt_of_lt_of_eq (val_lt [g1 a, g1 b, g1 c, g1 d, g1 e, g1 f, g1 g, g1 h] (by simp; omega)) pow8
  have m2 : 2 * val [g2 (g1 a), g2 (g1 b), g2 (g1 c), g2 (g1 d), g2 (g1 e), g2 (g1 f), g2 (g1 g), g2 (g1 h)] < 18446744073709551616 := Nat.lt_of_lt_of_eq (val_half [g2 (g1 a), g2 (g1 b), g2 (g1 c), g2 (g1 d), g2 (g1 e), g2 (g1 f), g2 (g1 g), g2 (g1 h)] (by simp; omega)) pow8
  refine ⟨_, _, _, s1.symm, m1, s2.symm, ?_, s3.symm, r1, r2, r3, ?_⟩
  · clear s1 s2 s3 r4 hcnt
    generalize val [g2 (g1 a), g2 (g1 b), g2 (g1 c), g2 (g1 d), g2 (g1 e), g2 (g1 f), g2 (g1 g), g2 (g1 h)] = q at m2 ⊢
    omega
  · rw [r4]
    simp only [Nat.add_assoc, Nat.add_zero]
end Go.Proofs.YtbdfbgkfhaiccaaDoor
