/- Plain facts on the words of IEEE 754 (doubles): how they are read, and how they stand to each other. No program. -/
import Ieee.Arith
import Derived.Laws.FloatBits
namespace Go.Proofs.YtpacjcgpeomnaaaDoor.Fl
open Ieee
abbrev D := Ieee.double

theorem lp : D.leastPlace = -1074 := by decide
theorem bn : D.binade = 4503599627370496 := by decide
theorem ir : D.infRung = 9218868437227405312 := by decide
theorem sw : D.signWeight = 9223372036854775808 := by decide
theorem fb : D.fractionBits = 52 := rfl

/-- the magnitude and the exponent of a rung -/
def mag (r : Nat) : Nat := if r < 4503599627370496 then r else 4503599627370496 + r % 4503599627370496
def ex (r : Nat) : Nat := r / 4503599627370496 - 1
def val (r : Nat) : Nat := mag r * 2 ^ ex r
def neg (x : Nat) : Bool := x / 9223372036854775808 % 2 == 1
def rung (x : Nat) : Nat := x % 9223372036854775808

theorem read_finite (x : Nat) (h : rung x < 9218868437227405312) : D.read x = .number (neg x) (mag (rung x)) (-1074 + (ex (rung x) : Nat)) := by
  unfold Format.read
  rw [lp, bn, ir, sw]
  unfold rung at h
  by_cases hb : x % 9223372036854775808 < 4503599627370496
  · have em : mag (rung x) = x % 9223372036854775808 := by unfold mag rung; rw [if_pos hb]
    have ee : ex (rung x) = 0 := by unfold ex rung; omega
    rw [em, ee]
    simp only [neg]
    rw [if_pos hb]
    simp
  · have em : mag (rung x) = 4503599627370496 + x % 9223372036854775808 % 4503599627370496 := by unfold mag rung; rw [if_neg hb]
    have ee : ex (rung x) = x % 9223372036854775808 / 4503599627370496 - 1 := by unfold ex rung; rfl
    rw [em, ee]
    simp only [neg]
    rw [if_neg hb, if_pos h]

theorem read_inf (x : Nat) (h : rung x = 9218868437227405312) : D.read x = .infinity (neg x) := by
  unfold Format.read
  rw [lp, bn, ir, sw]
  unfold rung at h
  simp [neg, h]

theorem read_nan (x : Nat) (h : 9218868437227405312 < rung x) : D.read x = .nan (neg x) (rung x - 9218868437227405312) := by
  unfold Format.read
  rw [lp, bn, ir, sw]
  unfold rung at h
  simp only [neg, rung]
  rw [if_neg (by omega), if_neg (by omega), if_neg (by omega)]

theorem val_succ (r : Nat) : val r < val (r + 1) := by
  unfold val ex
  by_cases h : r % 4503599627370496 + 1 < 4503599627370496
  · have e2 : (r + 1) / 4503599627370496 = r / 4503599627370496 := by omega
    rw [e2]
    refine Nat.mul_lt_mul_of_pos_right ?_ (Nat.two_pow_pos _)
    unfold mag
    split <;> split <;> omega
  · have e2 : (r + 1) / 4503599627370496 = r / 4503599627370496 + 1 := by omega
    have m2 : mag (r + 1) = 4503599627370496 := by unfold mag; split <;> omega
    rw [e2, m2]
    by_cases h0 : r / 4503599627370496 = 0
    · have m1 : mag r < 4503599627370496 := by unfold mag; split <;> omega
      rw [h0]
      simpa using m1
    · have m1 : mag r < 9007199254740992 := by unfold mag; split <;> omega
      obtain ⟨k, hk⟩ : ∃ k, r / 4503599627370496 = k + 1 := ⟨r / 4503599627370496 - 1, by omega⟩
      rw [hk]
      have : 0 < 2 ^ k := Nat.two_pow_pos _
      simp only [Nat.add_sub_cancel, Nat.pow_succ]
      rw [Nat.mul_comm (2 ^ k) 2, ← Nat.mul_assoc]
      exact Nat.mul_lt_mul_of_pos_right m1 this

theorem val_lt {a b : Nat} (h : a < b) : val a < val b := by
  induction b with
  | zero => omega
  | succ b ih =>
    by_cases e : a = b
    · subst e; exact val_succ _
    · exact Nat.lt_trans (ih (by omega)) (val_succ _)
theorem val_le {a b : Nat} (h : a ≤ b) : val a ≤ val b := by
  rcases Nat.lt_or_eq_of_le h with h | rfl
  · exact Nat.le_of_lt (val_lt h)
  · exact Nat.le_refl _
theorem val_zero : val 0 = 0 := by decide
theorem val_pos {a : Nat} (h : 0 < a) : 0 < val a := by have := val_lt h; rwa [val_zero] at this

def sg (s : Bool) (n : Nat) : Int := if s then -(n : Int) else n
theorem signed_eq (s : Bool) (m k : Nat) : signed s m k = sg s (m * 2 ^ k) := by
  unfold signed sg; rw [Nat.shiftLeft_eq]
theorem sg_mul (s : Bool) (n k : Nat) : sg s (n * k) = sg s n * (k : Int) := by
  unfold sg; split <;> simp [Int.neg_mul]

theorem compare_scale (a b : Int) (k : Nat) (hk : 0 < k) : compare (a * (k : Int)) (b * (k : Int)) = compare a b := by
  have hk' : (0 : Int) < k := by omega
  simp only [compare, compareOfLessAndEq]
  by_cases h : a < b
  · rw [if_pos h, if_pos (Int.mul_lt_mul_of_pos_right h hk')]
  · rw [if_neg h, if_neg (by intro h'; exact h (Int.lt_of_mul_lt_mul_right h' (by omega)))]
    by_cases e : a = b
    · rw [if_pos e, if_pos (by rw [e])]
    · rw [if_neg e, if_neg (by intro h'; exact e (Int.eq_of_mul_eq_mul_right (by omega) h'))]

theorem order_number (s t : Bool) (m n : Nat) (i j : Nat) :
    Datum.order (.number s m (-1074 + (i : Int))) (.number t n (-1074 + (j : Int))) = some (compare (sg s (m * 2 ^ i)) (sg t (n * 2 ^ j))) := by
  simp only [Datum.order]
  congr 1
  have e1 : (-1074 + (i : Int) - min (-1074 + (i : Int)) (-1074 + (j : Int))).toNat = i - min i j := by omega
  have e2 : (-1074 + (j : Int) - min (-1074 + (i : Int)) (-1074 + (j : Int))).toNat = j - min i j := by omega
  rw [e1, e2, signed_eq, signed_eq, ← compare_scale _ _ (2 ^ min i j) (Nat.two_pow_pos _), ← sg_mul, ← sg_mul, Nat.mul_assoc, Nat.mul_assoc, ← Nat.pow_add, ← Nat.pow_add,
    Nat.sub_add_cancel (Nat.min_le_left i j), Nat.sub_add_cancel (Nat.min_le_right i j)]

theorem order_finite (x y : Nat) (hx : rung x < 9218868437227405312) (hy : rung y < 9218868437227405312) :
    D.order x y = some (compare (sg (neg x) (val (rung x))) (sg (neg y) (val (rung y)))) := by
  unfold Format.order
  rw [read_finite x hx, read_finite y hy, order_number]
  rfl

/-- the place of a float among all: with a sign, by its rung -/
def srung (x : Nat) : Int := sg (neg x) (rung x)

theorem compare_sg (s t : Bool) (a b : Nat) : compare (sg s (val a)) (sg t (val b)) = compare (sg s a) (sg t b) := by
  have key : ∀ a b : Nat, (val a < val b ↔ a < b) := fun a b => ⟨fun h => Nat.lt_of_not_le fun h' => absurd (val_le h') (by omega), val_lt⟩
  have k0 := val_zero
  have ka : 0 ≤ val a := Nat.zero_le _
  have kab := key a b
  have kba := key b a
  have ka0 := key 0 a
  have kb0 := key 0 b
  rw [k0] at ka0 kb0
  simp only [compare, compareOfLessAndEq, sg]
  generalize val a = u at *
  generalize val b = v at *
  cases s <;> cases t <;> simp only [if_true, if_false, Bool.false_eq_true]
  all_goals
    congr 1
    · simp only [eq_iff_iff]; omega
    · congr 1
      simp only [eq_iff_iff]; omega

theorem compare_inf (s t : Bool) (a I : Nat) (h : a < I) : compare (sg s a) (sg t I) = if t then .gt else .lt := by
  simp only [sg, compare, compareOfLessAndEq]
  cases s <;> cases t <;> simp only [if_true, if_false, Bool.false_eq_true]
  · rw [if_pos (by omega)]
  · rw [if_neg (by omega), if_neg (by omega)]
  · rw [if_pos (by omega)]
  · rw [if_neg (by omega), if_neg (by omega)]
theorem compare_inf' (s t : Bool) (a I : Nat) (h : a < I) : compare (sg s I) (sg t a) = if s then .lt else .gt := by
  simp only [sg, compare, compareOfLessAndEq]
  cases s <;> cases t <;> simp only [if_true, if_false, Bool.false_eq_true]
  · rw [if_neg (by omega), if_neg (by omega)]
  · rw [if_neg (by omega), if_neg (by omega)]
  · rw [if_pos (by omega)]
  · rw [if_pos (by omega)]
theorem compare_inf2 (s t : Bool) (I : Nat) (h : 0 < I) : compare (sg s I) (sg t I) = compare t.toNat s.toNat := by
  simp only [sg, compare, compareOfLessAndEq]
  cases s <;> cases t <;> simp only [if_true, if_false, Bool.false_eq_true, Bool.toNat_true, Bool.toNat_false]
  · rw [if_neg (by omega)]; simp
  · rw [if_neg (by omega), if_neg (by omega)]; rfl
  · rw [if_pos (by omega)]; rfl
  · rw [if_neg (by omega)]; simp

theorem order_not_nan (x y : Nat) (hx : rung x ≤ 9218868437227405312) (hy : rung y ≤ 9218868437227405312) :
    D.order x y = some (compare (srung x) (srung y)) := by
  by_cases fx : rung x < 9218868437227405312
  · by_cases fy : rung y < 9218868437227405312
    · rw [order_finite x y fx fy, compare_sg]; rfl
    · have ey : rung y = 9218868437227405312 := Nat.le_antisymm hy (Nat.le_of_not_lt fy)
      unfold Format.order srung
      rw [read_finite x fx, read_inf y ey, ey, compare_inf _ _ _ _ fx]
      rfl
  · have ex : rung x = 9218868437227405312 := Nat.le_antisymm hx (Nat.le_of_not_lt fx)
    by_cases fy : rung y < 9218868437227405312
    · unfold Format.order srung
      rw [read_finite y fy, read_inf x ex, ex, compare_inf' _ _ _ _ fy]
      rfl
    · have ey : rung y = 9218868437227405312 := Nat.le_antisymm hy (Nat.le_of_not_lt fy)
      unfold Format.order srung
      rw [read_inf y ey, read_inf x ex, ex, ey, compare_inf2 _ _ _ (by decide)]
      rfl

theorem order_nan (x y : Nat) (h : 9218868437227405312 < rung x ∨ 9218868437227405312 < rung y) : D.order x y = none := by
  unfold Format.order
  rcases h with h | h
  · rw [read_nan x h]; rfl
  · rw [read_nan y h]
    generalize D.read x = d
    cases d <;> rfl

/-- 'f != f': just of a NaN. -/
theorem self_nan (x : Nat) : (D.order x x != some .eq) = decide (9218868437227405312 < rung x) := by
  by_cases h : 9218868437227405312 < rung x
  · rw [order_nan x x (.inl h)]; simp [h]
  · rw [order_not_nan x x (by omega) (by omega)]
    simp [h, compare, compareOfLessAndEq]
end Go.Proofs.YtpacjcgpeomnaaaDoor.Fl
