/- Plain facts on the words of IEEE 754 (doubles): what is exact. No program. -/
import Derived.Test.YtfpjeokncdlofaaIeee
namespace Go.Proofs.Ytfpjeokncdlofaa.Fl
open Ieee

theorem log2_mul_pow (n j : Nat) (h : n ≠ 0) : (n * 2 ^ j).log2 = n.log2 + j := by
  have hp : 0 < 2 ^ j := Nat.two_pow_pos j
  refine (Nat.log2_eq_iff (Nat.mul_ne_zero h (by omega))).2 ⟨?_, ?_⟩
  · rw [Nat.pow_add]; exact Nat.mul_le_mul_right _ (Nat.log2_self_le h)
  · rw [show n.log2 + j + 1 = (n.log2 + 1) + j by omega, Nat.pow_add]; exact Nat.mul_lt_mul_of_pos_right Nat.lt_log2_self hp

/-- where nothing is dropped -/
theorem cut_exact (way : Toward) (s : Bool) (n j d : Nat) (hn : n ≠ 0) (hd : d ≤ j) : way.cut s (n * 2 ^ j) d = n * 2 ^ (j - d) := by
  unfold Toward.cut
  have e : min d ((n * 2 ^ j).log2 + 2) = d := by rw [log2_mul_pow n j hn]; omega
  have hp : 0 < 2 ^ d := Nat.two_pow_pos d
  have hs : n * 2 ^ j = n * 2 ^ (j - d) * 2 ^ d := by rw [Nat.mul_assoc, ← Nat.pow_add, Nat.sub_add_cancel hd]
  rw [e, Nat.one_shiftLeft]
  have e1 : n * 2 ^ j / 2 ^ d = n * 2 ^ (j - d) := by rw [hs, Nat.mul_div_cancel _ hp]
  have e2 : n * 2 ^ j % 2 ^ d = 0 := by rw [hs, Nat.mul_mod_left]
  dsimp only
  rw [e1, e2]
  have h3 : ¬ 2 ^ d < 0 := by omega
  have h4 : ¬ 2 ^ d = 0 := by omega
  cases way <;> simp [h3]

theorem cut_scale (s : Bool) (n j d : Nat) (hn : n ≠ 0) : Toward.even.cut s (n * 2 ^ j) (d + j) = Toward.even.cut s n d := by
  unfold Toward.cut
  have e : min (d + j) ((n * 2 ^ j).log2 + 2) = min d (n.log2 + 2) + j := by rw [log2_mul_pow n j hn]; omega
  have hp : 0 < 2 ^ j := Nat.two_pow_pos j
  rw [e, Nat.one_shiftLeft, Nat.one_shiftLeft, Nat.pow_add]
  generalize 2 ^ min d (n.log2 + 2) = g
  have e1 : n * 2 ^ j / (g * 2 ^ j) = n / g := Nat.mul_div_mul_right _ _ hp
  have e2 : n * 2 ^ j % (g * 2 ^ j) = n % g * 2 ^ j := Nat.mul_mod_mul_right _ _ _
  dsimp only
  rw [e1, e2, ← Nat.mul_assoc]
  have e3 : decide (g * 2 ^ j < 2 * (n % g) * 2 ^ j) = decide (g < 2 * (n % g)) := by
    simp only [decide_eq_decide]; exact ⟨fun h => Nat.lt_of_mul_lt_mul_right h, fun h => Nat.mul_lt_mul_of_pos_right h hp⟩
  have e4 : (g * 2 ^ j == 2 * (n % g) * 2 ^ j) = (g == 2 * (n % g)) := by
    rw [Bool.eq_iff_iff, beq_iff_eq, beq_iff_eq]; exact ⟨fun h => Nat.eq_of_mul_eq_mul_right hp h, fun h => congrArg (· * 2 ^ j) h⟩
  simp only [e3, e4]

theorem nearest_scale (s : Bool) (m j : Nat) (p : Int) (hm : m ≠ 0) : D.nearest s (m * 2 ^ j) (p - j) = D.nearest s m p := by
  unfold Format.nearest
  have hp : 0 < 2 ^ j := Nat.two_pow_pos j
  rw [if_neg (Nat.mul_ne_zero hm (by omega)), if_neg hm, log2_mul_pow m j hm]
  have e : p - (j : Int) + ((m.log2 + j : Nat) : Int) = p + (m.log2 : Int) := by omega
  simp only [e]
  generalize max (p + (m.log2 : Int) - (D.fractionBits : Int)) D.leastPlace = last
  congr 3
  rw [Nat.shiftLeft_eq, Nat.shiftLeft_eq]
  by_cases h1 : last ≤ p
  · by_cases h2 : last ≤ p - j
    · have e1 : (last - (p - (j : Int))).toNat = 0 := by omega
      have e2 : (last - p).toNat = 0 := by omega
      have e3 : (p - last).toNat = j + (p - (j : Int) - last).toNat := by omega
      rw [e1, e2, e3, Nat.mul_assoc, ← Nat.pow_add]
    · have e1 : (p - (j : Int) - last).toNat = 0 := by omega
      have e2 : (last - p).toNat = 0 := by omega
      rw [e1, e2, Nat.pow_zero, Nat.mul_one, cut_exact _ _ _ _ _ hm (by omega), cut_exact _ _ _ _ _ hm (by omega)]
      congr 2
      omega
  · have e1 : (p - (j : Int) - last).toNat = 0 := by omega
    have e2 : (p - last).toNat = 0 := by omega
    have e3 : (last - (p - (j : Int))).toNat = (last - p).toNat + j := by omega
    rw [e1, e2, e3, Nat.pow_zero, Nat.mul_one, Nat.mul_one, cut_scale _ _ _ _ hm]

theorem nearest_canon (s : Bool) (m e : Nat) (h1 : m < 9007199254740992) (h2 : 4503599627370496 ≤ m ∨ e = 0) :
    D.nearest s m (-1074 + (e : Int)) = D.word s (min (e * 4503599627370496 + m) 9218868437227405312) := by
  unfold Format.nearest
  rw [lp, bn, ir, fb]
  by_cases hm : m = 0
  · subst hm
    have : e = 0 := by rcases h2 with h | h <;> omega
    subst this
    rw [if_pos rfl]; rfl
  rw [if_neg hm]
  have hl1 : m.log2 < 53 := (Nat.log2_lt hm).2 (show m < 2 ^ 53 from h1)
  have hlast : max (-1074 + (e : Int) + (m.log2 : Int) - ((52 : Nat) : Int)) (-1074) = -1074 + (e : Int) := by
    rcases h2 with h | h
    · have : 52 ≤ m.log2 := (Nat.le_log2 hm).2 (show 2 ^ 52 ≤ m from h)
      omega
    · subst h; omega
  simp only [hlast]
  rw [Int.sub_self]
  have ec : Toward.even.cut s (m <<< (0 : Int).toNat) (0 : Int).toNat = m := by
    have := cut_exact .even s m 0 0 hm (Nat.le_refl _)
    simpa using this
  rw [ec]
  have e' : (-1074 + (e : Int) - -1074).toNat = e := by omega
  rw [e']

theorem mag_lt (r : Nat) : mag r < 9007199254740992 := by unfold mag; split <;> omega
theorem mag_ex (r : Nat) : ex r * 4503599627370496 + mag r = r := by
  unfold ex mag
  split
  · rename_i h
    have : r / 4503599627370496 = 0 := by omega
    rw [this]; omega
  · rename_i h
    have := Nat.div_add_mod r 4503599627370496
    have h1 : 1 ≤ r / 4503599627370496 := by omega
    generalize r / 4503599627370496 = q at *
    obtain ⟨k, rfl⟩ : ∃ k, q = k + 1 := ⟨q - 1, by omega⟩
    rw [Nat.add_sub_cancel]
    omega
theorem mag_or (r : Nat) : 4503599627370496 ≤ mag r ∨ ex r = 0 := by
  unfold ex mag
  split
  · right; omega
  · left; omega
theorem word_neg (x : Nat) (hx : x < 18446744073709551616) : D.word (neg x) (rung x) = x := by
  unfold Format.word neg rung
  rw [sw]
  by_cases h : x < 9223372036854775808
  · rw [show x / 9223372036854775808 = 0 by omega]; simp; omega
  · rw [show x / 9223372036854775808 = 1 by omega]; simp; omega

/-- what is read is written again -/
theorem nearest_read (x : Nat) (hx : x < 18446744073709551616) (h : rung x < 9218868437227405312) : D.nearest (neg x) (mag (rung x)) (-1074 + (ex (rung x) : Nat)) = x := by
  rw [nearest_canon _ _ _ (mag_lt _) (mag_or _), mag_ex, Nat.min_eq_left (Nat.le_of_lt h), word_neg x hx]

theorem word_rung (s : Bool) (r : Nat) (h : r < 9223372036854775808) : rung (D.word s r) = r ∧ neg (D.word s r) = s ∧ D.word s r < 18446744073709551616 := by
  unfold Format.word rung neg
  rw [sw]
  cases s
  · rw [if_neg (by decide)]
    refine ⟨by omega, ?_, by omega⟩
    rw [show r / 9223372036854775808 = 0 by omega]; rfl
  · rw [if_pos rfl]
    refine ⟨by omega, ?_, by omega⟩
    rw [show (9223372036854775808 + r) / 9223372036854775808 = 1 by omega]; rfl
theorem canon_mag (m e : Nat) (h1 : m < 9007199254740992) (h2 : 4503599627370496 ≤ m ∨ e = 0) : mag (e * 4503599627370496 + m) = m ∧ ex (e * 4503599627370496 + m) = e := by
  rcases h2 with h | h
  · have e1 : (e * 4503599627370496 + m) / 4503599627370496 = e + 1 := by omega
    have e2 : (e * 4503599627370496 + m) % 4503599627370496 = m - 4503599627370496 := by omega
    unfold mag ex
    rw [e1, e2, if_neg (by omega)]
    omega
  · subst h
    rw [Nat.zero_mul, Nat.zero_add]
    unfold mag ex
    split <;> omega
theorem read_canon (s : Bool) (m e : Nat) (h1 : m < 9007199254740992) (h2 : 4503599627370496 ≤ m ∨ e = 0) (h3 : e ≤ 2000) :
    D.read (D.word s (e * 4503599627370496 + m)) = .number s m (-1074 + (e : Int)) := by
  obtain ⟨a, b, _⟩ := word_rung s (e * 4503599627370496 + m) (by omega)
  obtain ⟨c, d⟩ := canon_mag m e h1 h2
  rw [read_finite _ (by rw [a]; omega), a, b, c, d]

theorem pow_split (t i : Nat) (h : i ≤ t) : 2 ^ t = 2 ^ (t - i) * 2 ^ i := by
  rw [← Nat.pow_add, Nat.sub_add_cancel h]
theorem pow_any (t : Nat) : ∃ u : Nat, 0 < u ∧ (∀ i, i ≤ t → u = 2 ^ (t - i) * 2 ^ i) ∧ (∀ i, t ≤ i → 2 ^ i = 2 ^ (i - t) * u) :=
  ⟨2 ^ t, Nat.two_pow_pos t, fun i h => pow_split t i h, fun i h => pow_split i t h⟩
/-- how many of the least place make one -/
noncomputable def U : Nat := (pow_any 1074).choose
theorem U_split (i : Nat) (h : i ≤ 1074) : U = 2 ^ (1074 - i) * 2 ^ i := (pow_any 1074).choose_spec.2.1 i h
theorem U_more (i : Nat) (h : 1074 ≤ i) : 2 ^ i = 2 ^ (i - 1074) * U := (pow_any 1074).choose_spec.2.2 i h
theorem U_pos : 0 < U := (pow_any 1074).choose_spec.1
theorem cancel_U (m e a : Nat) (he : e ≤ 1074) (h : m * 2 ^ e = a * U) : m = a * 2 ^ (1074 - e) := by
  refine Nat.eq_of_mul_eq_mul_right (Nat.two_pow_pos e) ?_
  rw [h, Nat.mul_assoc, ← U_split e he]
theorem nearest_zero (s : Bool) (p : Int) : D.nearest s 0 p = D.word s 0 := by unfold Format.nearest; rw [if_pos rfl]

/-- an integer's float -/
theorem int_canon (a : Nat) (h : a ≤ 9007199254740992) : ∃ m e, m < 9007199254740992 ∧ (4503599627370496 ≤ m ∨ e = 0) ∧ (a < 9007199254740992 → e ≤ 1074) ∧ e ≤ 1075 ∧ m * 2 ^ e = a * U ∧
    ∀ s, D.nearest s a 0 = D.word s (e * 4503599627370496 + m) := by
  by_cases h0 : a = 0
  · subst h0
    exact ⟨0, 0, by omega, .inr rfl, fun _ => by omega, by omega, by rw [Nat.zero_mul, Nat.zero_mul], fun s => nearest_zero s 0⟩
  by_cases h53 : a = 9007199254740992
  · refine ⟨4503599627370496, 1075, by omega, .inl (Nat.le_refl _), fun h => absurd h (by omega), Nat.le_refl _, ?_, fun s => ?_⟩
    · rw [h53, U_more 1075 (by omega), ← Nat.mul_assoc]
    · have e1 := nearest_scale s 4503599627370496 1 1 (by decide)
      have e2 := nearest_canon s 4503599627370496 1075 (by decide) (.inl (Nat.le_refl _))
      rw [h53]
      exact e1.trans e2
  · have hl : a.log2 < 53 := (Nat.log2_lt h0).2 (by omega)
    have lo := Nat.log2_self_le h0
    have hi := @Nat.lt_log2_self a
    have m1 : a * 2 ^ (52 - a.log2) < 9007199254740992 := by
      have := Nat.mul_lt_mul_of_pos_right hi (Nat.two_pow_pos (52 - a.log2))
      rw [← Nat.pow_add, show a.log2 + 1 + (52 - a.log2) = 53 by omega] at this
      exact this
    have m2 : 4503599627370496 ≤ a * 2 ^ (52 - a.log2) := by
      have := Nat.mul_le_mul_right (2 ^ (52 - a.log2)) lo
      rw [← Nat.pow_add, show a.log2 + (52 - a.log2) = 52 by omega] at this
      exact this
    refine ⟨a * 2 ^ (52 - a.log2), a.log2 + 1022, m1, .inl m2, fun _ => by omega, by omega, ?_, fun s => ?_⟩
    · rw [Nat.mul_assoc, U_split (a.log2 + 1022) (by omega), show 1074 - (a.log2 + 1022) = 52 - a.log2 by omega]
    · rw [← nearest_scale s a (52 - a.log2) 0 h0, show (0 : Int) - ((52 - a.log2 : Nat) : Int) = -1074 + ((a.log2 + 1022 : Nat) : Int) by omega, nearest_canon s _ _ m1 (.inl m2), Nat.min_eq_left (by omega)]

/-- a number of value a, however it is told, is a's float. -/
theorem nearest_int (s : Bool) (m e a : Nat) (he : e ≤ 1074) (h : m * 2 ^ e = a * U) : D.nearest s m (-1074 + (e : Int)) = D.nearest s a 0 := by
  have hm := cancel_U m e a he h
  by_cases h0 : a = 0
  · subst h0
    rw [hm, Nat.zero_mul, nearest_zero, nearest_zero]
  · rw [hm, show -1074 + (e : Int) = 0 - ((1074 - e : Nat) : Int) by omega, nearest_scale s a _ 0 h0]

theorem fz_add (a b : Nat) (h : a + b < 9007199254740992) : D.add (D.nearest false a 0) (D.nearest false b 0) = some (D.nearest false (a + b) 0) := by
  obtain ⟨m, i, h1, h2, h3, _, h5, h6⟩ := int_canon a (by omega)
  obtain ⟨n, j, g1, g2, g3, _, g5, g6⟩ := int_canon b (by omega)
  have hi := h3 (by omega)
  have hj := g3 (by omega)
  unfold Format.add
  rw [h6, g6, read_canon false m i h1 h2 (by omega), read_canon false n j g1 g2 (by omega)]
  simp only [Datum.sum, Option.map_some]
  congr 1
  have e1 : (-1074 + (i : Int) - min (-1074 + (i : Int)) (-1074 + (j : Int))).toNat = i - min i j := by omega
  have e2 : (-1074 + (j : Int) - min (-1074 + (i : Int)) (-1074 + (j : Int))).toNat = j - min i j := by omega
  have e3 : min (-1074 + (i : Int)) (-1074 + (j : Int)) = -1074 + ((min i j : Nat) : Int) := by omega
  have hT : (m * 2 ^ (i - min i j) + n * 2 ^ (j - min i j)) * 2 ^ min i j = (a + b) * U := by
    rw [Nat.add_mul, Nat.mul_assoc, Nat.mul_assoc, ← Nat.pow_add, ← Nat.pow_add, Nat.sub_add_cancel (Nat.min_le_left i j), Nat.sub_add_cancel (Nat.min_le_right i j), h5, g5, Nat.add_mul]
  rw [e1, e2, e3, signed_eq, signed_eq]
  generalize m * 2 ^ (i - min i j) = M at *
  generalize n * 2 ^ (j - min i j) = N at *
  have e4 : sg false M + sg false N = ((M + N : Nat) : Int) := by simp [sg]
  rw [e4]
  have e5 : (if ((M + N : Nat) : Int) = 0 then false && false else decide (((M + N : Nat) : Int) < 0)) = false := by
    split
    · rfl
    · exact decide_eq_false (by omega)
  rw [e5, Int.natAbs_natCast]
  exact nearest_int false _ _ _ (by omega) hT

theorem fz_mul (a b : Nat) (ha : a < 9007199254740992) (hb : b < 9007199254740992) : D.mul (D.nearest false a 0) (D.nearest false b 0) = some (D.nearest false (a * b) 0) := by
  obtain ⟨m, i, h1, h2, h3, _, h5, h6⟩ := int_canon a (by omega)
  obtain ⟨n, j, g1, g2, g3, _, g5, g6⟩ := int_canon b (by omega)
  have hi := h3 (by omega)
  have hj := g3 (by omega)
  unfold Format.mul
  rw [h6, g6, read_canon false m i h1 h2 (by omega), read_canon false n j g1 g2 (by omega)]
  simp only [Datum.product, Option.map_some]
  congr 1
  have hm := cancel_U m i a hi h5
  have hn := cancel_U n j b hj g5
  have e : m * n = a * b * 2 ^ (1074 - i + (1074 - j)) := by
    rw [hm, hn, Nat.pow_add]; simp only [Nat.mul_assoc, Nat.mul_left_comm]
  show D.nearest (false ^^ false) (m * n) (-1074 + (i : Int) + (-1074 + (j : Int))) = _
  rw [e, show -1074 + (i : Int) + (-1074 + (j : Int)) = 0 - ((1074 - i + (1074 - j) : Nat) : Int) by omega]
  by_cases h0 : a * b = 0
  · rw [h0, Nat.zero_mul, nearest_zero, nearest_zero]; rfl
  · exact nearest_scale false (a * b) _ 0 h0

/-- a float times 1 -/
theorem mul_one (x : Nat) (hx : x < 18446744073709551616) (h : rung x < 9218868437227405312) : D.mul x (D.nearest false 1 0) = some x := by
  obtain ⟨n, j, g1, g2, g3, _, g5, g6⟩ := int_canon 1 (by omega)
  have hj := g3 (by omega)
  unfold Format.mul
  rw [read_finite x h, g6, read_canon false n j g1 g2 (by omega)]
  simp only [Datum.product, Option.map_some]
  congr 1
  have hn := cancel_U n j 1 hj g5
  rw [Nat.one_mul] at hn
  show D.nearest (neg x ^^ false) (mag (rung x) * n) (-1074 + (ex (rung x) : Int) + (-1074 + (j : Int))) = _
  rw [Bool.xor_false, hn, show -1074 + (ex (rung x) : Int) + (-1074 + (j : Int)) = -1074 + (ex (rung x) : Int) - ((1074 - j : Nat) : Int) by omega]
  have hr := nearest_read x hx h
  by_cases h0 : mag (rung x) = 0
  · rw [h0, Nat.zero_mul, nearest_zero]
    rw [h0, nearest_zero] at hr
    exact hr
  · rw [nearest_scale _ _ _ _ h0, hr]
theorem mul_one_inf (x : Nat) (hx : x < 18446744073709551616) (h : rung x = 9218868437227405312) : D.mul x (D.nearest false 1 0) = some x := by
  obtain ⟨n, j, g1, g2, g3, _, g5, g6⟩ := int_canon 1 (by omega)
  unfold Format.mul
  rw [read_inf x h, g6, read_canon false n j g1 g2 (by omega)]
  have hn : n ≠ 0 := by
    intro h; subst h
    rw [Nat.zero_mul, Nat.one_mul] at g5
    exact absurd g5.symm (Nat.ne_of_gt U_pos)
  simp only [Datum.product, if_neg hn, Option.map_some, Bool.xor_false]
  congr 1
  show D.word (neg x) D.infRung = x
  rw [ir, ← h, word_neg x hx]

theorem cut_zero (s : Bool) (n d : Nat) : Toward.zero.cut s n d = n / 2 ^ d := by
  unfold Toward.cut
  rw [Nat.one_shiftLeft]
  simp only [Bool.toNat_false, Nat.add_zero]
  by_cases h : d ≤ n.log2 + 2
  · rw [Nat.min_eq_left h]
  · rw [Nat.min_eq_right (by omega)]
    have h1 : n < 2 ^ (n.log2 + 1) := Nat.lt_log2_self
    have h2 : 2 ^ (n.log2 + 1) ≤ 2 ^ (n.log2 + 2) := Nat.pow_le_pow_right (by decide) (by omega)
    have h3 : 2 ^ (n.log2 + 1) ≤ 2 ^ d := Nat.pow_le_pow_right (by decide) (by omega)
    rw [Nat.div_eq_of_lt (by omega), Nat.div_eq_of_lt (by omega)]

theorem toInt_finite (x : Nat) (h : rung x < 9218868437227405312) : (D.read x).toInt .zero = some (sg (neg x) (val (rung x) / U)) := by
  rw [read_finite x h]
  unfold Datum.toInt Datum.integral
  simp only [cut_zero, signed_eq, Nat.shiftLeft_eq]
  congr 2
  rw [Nat.pow_zero, Nat.mul_one]
  unfold val
  by_cases he : 1074 ≤ ex (rung x)
  · rw [show (-(-1074 + (ex (rung x) : Int))).toNat = 0 by omega, show (-1074 + (ex (rung x) : Int)).toNat = ex (rung x) - 1074 by omega, Nat.pow_zero, Nat.div_one]
    have e := U_more (ex (rung x)) he
    rw [e, ← Nat.mul_assoc, Nat.mul_div_cancel _ U_pos]
  · rw [show (-1074 + (ex (rung x) : Int)).toNat = 0 by omega, Nat.pow_zero, Nat.mul_one, show (-(-1074 + (ex (rung x) : Int))).toNat = 1074 - ex (rung x) by omega]
    rw [U_split (ex (rung x)) (by omega), Nat.mul_div_mul_right _ _ (Nat.two_pow_pos _)]
end Go.Proofs.Ytfpjeokncdlofaa.Fl
