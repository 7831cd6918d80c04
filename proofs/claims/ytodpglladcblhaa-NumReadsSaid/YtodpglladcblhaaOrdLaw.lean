/- The walk of the law NumOrders. No condition but that words are words. -/
import Derived.Test.YtodpglladcblhaaOrders
namespace Go.Proofs.Ytodpglladcblhaa
open Go.ChangeShapes Go.WideShapes Go.ChangeAt Go.RowKit

def zb (x : Nat) : Bool := decide (Fl.rung x = 0)
theorem wrap_zb (x : Nat) : (IntKind.u64.wrap ((x : Int) * 2) == 0) = zb x := by
  unfold zb Fl.rung
  rw [Bool.eq_iff_iff, beq_iff_eq, decide_eq_true_iff, IntKind.wrap_u64]
  omega
theorem isN_le {x : Nat} (h : isN x = false) : Fl.rung x ≤ 9218868437227405312 := by
  unfold isN at h
  exact Nat.le_of_not_lt (of_decide_eq_false h)
theorem isN_lt {x : Nat} (h : isN x = true) : 9218868437227405312 < Fl.rung x := of_decide_eq_true h
theorem less_nan (x y : Nat) (h : isN x = true ∨ isN y = true) : lessB x y = false := by
  unfold lessB
  rw [show FloatKind.f64.format.order x y = none from Fl.order_nan x y (h.imp isN_lt isN_lt)]
  rfl
theorem same_nan (x y : Nat) (h : isN x = true ∨ isN y = true) : sameB x y = false := by
  unfold sameB
  rw [show FloatKind.f64.format.order x y = none from Fl.order_nan x y (h.imp isN_lt isN_lt)]
  rfl
theorem compare_lt (a b : Int) : (some (compare a b) == some Ordering.lt) = decide (a < b) := by
  simp only [compare, compareOfLessAndEq]
  by_cases h : a < b
  · simp [h]
  · by_cases e : a = b <;> simp [h, e]
theorem compare_eq (a b : Int) : (some (compare a b) == some Ordering.eq) = decide (a = b) := by
  simp only [compare, compareOfLessAndEq]
  by_cases h : a < b
  · have : a ≠ b := by omega
    simp [h, this]
  · by_cases e : a = b <;> simp [h, e]
theorem srung_is (x : Nat) (hx : x < 18446744073709551616) : Fl.srung x = if x < 9223372036854775808 then (Fl.rung x : Int) else -(Fl.rung x : Int) := by
  unfold Fl.srung Fl.sg Fl.neg
  by_cases h : x < 9223372036854775808
  · rw [if_pos h, show x / 9223372036854775808 = 0 by omega]; rfl
  · rw [if_neg h, show x / 9223372036854775808 = 1 by omega]; rfl
theorem less_num (x y : Nat) (hx : x < 18446744073709551616) (hy : y < 18446744073709551616) (h : isN x = false) (g : isN y = false) : lessB x y = (ahead x y && !(zb x && zb y)) := by
  unfold lessB
  rw [show FloatKind.f64.format.order x y = some (compare (Fl.srung x) (Fl.srung y)) from Fl.order_not_nan x y (isN_le h) (isN_le g), compare_lt, srung_is x hx, srung_is y hy]
  unfold ahead rk zb
  rw [h, g, Bool.eq_iff_iff]
  have e1 : Fl.rung x = x % 9223372036854775808 := rfl
  have e2 : Fl.rung y = y % 9223372036854775808 := rfl
  have l1 := isN_le h
  have l2 := isN_le g
  simp only [Bool.and_eq_true, Bool.not_eq_true', Bool.and_eq_false_iff, decide_eq_true_eq, decide_eq_false_iff_not, Bool.false_eq_true, if_false]
  by_cases a : x < 9223372036854775808 <;> by_cases b : y < 9223372036854775808 <;> simp only [a, b, if_true, if_false] <;> omega
theorem same_num (x y : Nat) (hx : x < 18446744073709551616) (hy : y < 18446744073709551616) (h : isN x = false) (g : isN y = false) : sameB x y = (((x : Int) == (y : Int)) || (zb x && zb y)) := by
  unfold sameB
  rw [show FloatKind.f64.format.order x y = some (compare (Fl.srung x) (Fl.srung y)) from Fl.order_not_nan x y (isN_le h) (isN_le g), compare_eq, srung_is x hx, srung_is y hy]
  unfold zb
  rw [Bool.eq_iff_iff]
  have e1 : Fl.rung x = x % 9223372036854775808 := rfl
  have e2 : Fl.rung y = y % 9223372036854775808 := rfl
  simp only [Bool.or_eq_true, Bool.and_eq_true, decide_eq_true_eq, beq_iff_eq]
  by_cases a : x < 9223372036854775808 <;> by_cases b : y < 9223372036854775808 <;> simp only [a, b, if_true, if_false] <;> omega
theorem ahead_asym (x y : Nat) (h : ahead x y = true) : ahead y x = false := by
  unfold ahead at *; have := of_decide_eq_true h; exact decide_eq_false (by omega)
theorem ahead_trans (x y z : Nat) (h : ahead x y = true) (g : ahead y z = true) : ahead x z = true := by
  unfold ahead at *; have := of_decide_eq_true h; have := of_decide_eq_true g; exact decide_eq_true (by omega)
theorem ahead_canon (x y : Nat) (hx : x < 18446744073709551616) (hy : y < 18446744073709551616) (h : ahead x y = false) (g : ahead y x = false) : canon x = canon y := by
  unfold ahead at *
  have h := of_decide_eq_false h
  have g := of_decide_eq_false g
  have e : rk x = rk y := by omega
  clear h g
  cases hn : isN x <;> cases hm : isN y
  · rw [isN_false hn, isN_false hm]
    unfold rk at e
    rw [hn, hm] at e
    simp only [Bool.false_eq_true, if_false] at e
    by_cases a : x < 9223372036854775808 <;> by_cases b : y < 9223372036854775808 <;> simp only [a, b, if_true, if_false] at e <;> omega
  · have l1 := isN_le hn
    have e1 : Fl.rung x = x % 9223372036854775808 := rfl
    rw [rk_nan y hm] at e
    unfold rk at e
    rw [hn] at e
    simp only [Bool.false_eq_true, if_false] at e
    by_cases a : x < 9223372036854775808 <;> simp only [a, if_true, if_false] at e <;> omega
  · have l1 := isN_le hm
    have e1 : Fl.rung y = y % 9223372036854775808 := rfl
    rw [rk_nan x hn] at e
    unfold rk at e
    rw [hm] at e
    simp only [Bool.false_eq_true, if_false] at e
    by_cases a : y < 9223372036854775808 <;> simp only [a, if_true, if_false] at e <;> omega
  · rw [isN_true hn, isN_true hm]


set_option maxHeartbeats 8000000 in
set_option linter.unusedSimpArgs false in
theorem ord_core (x y z : Nat) (p q r s n m a b e : Bool) (hx : x < 18446744073709551616) (hy : y < 18446744073709551616) (hz : z < 18446744073709551616) (w : World)
    (f1 : decide (rr x < rr y) = ahead x y) (hp : ahead x y = p) (hq : ahead y x = q) (hr : ahead y z = r) (hs : ahead x z = s) (c1 : p = true → q = false) (c2 : p = true → r = true → s = true)
    (hcn : p = false → q = false → canon x = canon y) (hn : isN x = n) (hm : isN y = m) (wa : (IntKind.u64.wrap ((x : Int) * 2) == 0) = a) (wb : (IntKind.u64.wrap ((y : Int) * 2) == 0) = b) (he : ((x : Int) == (y : Int)) = e)
    (hl : lessB x y = (!n && !m && p && !(a && b))) (hsm : sameB x y = (!n && !m && (e || (a && b)))) :
    Calls Try.prog 7 #[.int .u64 (x : Int), .int .u64 (y : Int), .int .u64 (z : Int)] w fun e w' => e = .returned (.bool true) ∧ Grown w w' := by
  have HX := Lib.hid hx
  have HY := Lib.hid hy
  have HZ := Lib.hid hz
  clear hx hy hz
  cases p
  case' true => have c1 := c1 rfl; subst c1; cases r <;> first | (have c2 := c2 rfl rfl; subst c2) | clear c2
  case' false => cases q <;> first | (have hcn := hcn rfl rfl; clear c1 c2) | clear hcn c1 c2
  all_goals (cases n <;> (first | (guard_hyp hn : isN x = true; clear wa wb he hm) | (cases m <;> (first | (guard_hyp hm : isN y = true; clear wa wb he) | (cases a <;> (first | (guard_hyp wa : (IntKind.u64.wrap ((x : Int) * 2) == 0) = false; clear wb; cases e) | (cases b <;> cases e)))))))
  all_goals simp only [Bool.not_true, Bool.not_false, Bool.and_true, Bool.true_and, Bool.and_false, Bool.false_and, Bool.or_true, Bool.or_false, Bool.true_or, Bool.false_or] at hl hsm
  all_goals
    go_enter Try.func7, Try.ntmps7
    go_wp2_with (first
      | (go_at_call 13; refine (counts_any _).mono ?_; rintro e w' ⟨rfl, rfl⟩)
      | (go_at_call 32; first | (with_reducible refine (ahead_any x y HX.out HY.out _).mono ?_; rintro e w' ⟨rfl, rfl⟩) | (with_reducible refine (ahead_any y x HY.out HX.out _).mono ?_; rintro e w' ⟨rfl, rfl⟩) | (with_reducible refine (ahead_any y z HY.out HZ.out _).mono ?_; rintro e w' ⟨rfl, rfl⟩) | (with_reducible refine (ahead_any x z HX.out HZ.out _).mono ?_; rintro e w' ⟨rfl, rfl⟩))
      | (go_at_call 33; first | (with_reducible refine (refRank_any x HX.out _).mono ?_; rintro e w' ⟨rfl, rfl⟩) | (with_reducible refine (refRank_any y HY.out _).mono ?_; rintro e w' ⟨rfl, rfl⟩))
      | (go_at_call 31; first | (with_reducible refine (refCanon_any x HX.out _).mono ?_; rintro e w' ⟨rfl, rfl⟩) | (with_reducible refine (refCanon_any y HY.out _).mono ?_; rintro e w' ⟨rfl, rfl⟩))
      | (go_at_call 34; first | (with_reducible refine (refIsNan_any x HX.out _).mono ?_; rintro e w' ⟨rfl, rfl⟩) | (with_reducible refine (refIsNan_any y HY.out _).mono ?_; rintro e w' ⟨rfl, rfl⟩))
      | (go_at_call 35; refine (less_any _ _ _).mono ?_; rintro e w' ⟨rfl, rfl⟩)
      | (go_at_call 36; refine (same_any _ _ _).mono ?_; rintro e w' ⟨rfl, rfl⟩))
    go_ret
    exact ⟨rfl, Grown.refl _⟩
theorem numOrders_walk (x y z : Nat) (hx : x < 18446744073709551616) (hy : y < 18446744073709551616) (hz : z < 18446744073709551616) (w : World) :
    Calls Try.prog 7 #[.int .u64 (x : Int), .int .u64 (y : Int), .int .u64 (z : Int)] w fun e w' => e = .returned (.bool true) ∧ Grown w w' := by
  refine ord_core x y z _ _ _ _ _ _ _ _ _ hx hy hz w (rr_ahead x y) rfl rfl rfl rfl (ahead_asym x y) (ahead_trans x y z) (ahead_canon x y hx hy) rfl rfl rfl rfl rfl ?_ ?_
  · cases h : isN x
    · cases g : isN y
      · rw [less_num x y hx hy h g, wrap_zb, wrap_zb]; simp
      · rw [less_nan x y (.inr g)]; simp
    · rw [less_nan x y (.inl h)]; simp
  · cases h : isN x
    · cases g : isN y
      · rw [same_num x y hx hy h g, wrap_zb, wrap_zb]; simp
      · rw [same_nan x y (.inr g)]; simp
    · rw [same_nan x y (.inl h)]; simp
end Go.Proofs.Ytodpglladcblhaa
