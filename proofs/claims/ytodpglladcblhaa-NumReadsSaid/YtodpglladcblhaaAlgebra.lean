/- The walk of the law NumAlgebra. No condition but that words are words. -/
import Derived.Test.YtodpglladcblhaaWholeLaw
namespace Go.Proofs.Ytodpglladcblhaa
open Go.ChangeShapes Go.WideShapes Go.ChangeAt Go.RowKit

namespace Fl
open Ieee
theorem sum_comm (a b : Datum) : a.sum b = b.sum a := by
  cases a <;> cases b <;> simp only [Datum.sum]
  · rename_i s m i t n j
    rw [Int.min_comm j i, Int.add_comm (signed t n _), Bool.and_comm t s]
  · rename_i s t
    by_cases h : s = t
    · rw [if_pos h, if_pos h.symm, h]
    · rw [if_neg h, if_neg (fun e => h e.symm)]
theorem product_comm (a b : Datum) : a.product b = b.product a := by
  cases a <;> cases b <;> simp only [Datum.product]
  · rename_i s m i t n j
    rw [Bool.xor_comm t s, Nat.mul_comm n m, Int.add_comm j i]
  · rename_i s t
    rw [Bool.xor_comm t s]
theorem add_comm (x y : Nat) : D.add x y = D.add y x := by unfold Format.add; rw [sum_comm]
theorem mul_comm (x y : Nat) : D.mul x y = D.mul y x := by unfold Format.mul; rw [product_comm]

theorem read_by (x y : Nat) (h : rung y = rung x) (g : neg y = !neg x) : D.read y = (D.read x).opposite := by
  rcases Nat.lt_trichotomy (rung x) 9218868437227405312 with hl | he | hg
  · rw [read_finite x hl, read_finite y (by rw [h]; exact hl), h, g]; rfl
  · rw [read_inf x he, read_inf y (by rw [h]; exact he), g]; rfl
  · rw [read_nan x hg, read_nan y (by rw [h]; exact hg), h, g]; rfl
end Fl

theorem opp_rung (x : Nat) (hx : x < 18446744073709551616) : Fl.rung (opp x) = Fl.rung x ∧ Fl.neg (opp x) = !Fl.neg x ∧ opp x < 18446744073709551616 := by
  unfold opp Fl.rung Fl.neg
  by_cases h : x < 9223372036854775808
  · rw [if_pos h]
    refine ⟨by omega, ?_, by omega⟩
    rw [show x / 9223372036854775808 = 0 by omega, show (x + 9223372036854775808) / 9223372036854775808 = 1 by omega]; rfl
  · rw [if_neg h]
    refine ⟨by omega, ?_, by omega⟩
    rw [show x / 9223372036854775808 = 1 by omega, show (x - 9223372036854775808) / 9223372036854775808 = 0 by omega]; rfl
theorem opp_opp (x : Nat) (hx : x < 18446744073709551616) : opp (opp x) = x := by
  unfold opp
  by_cases h : x < 9223372036854775808
  · rw [if_pos h, if_neg (by omega)]; omega
  · rw [if_neg h, if_pos (by omega)]; omega
theorem isN_opp (x : Nat) (hx : x < 18446744073709551616) : isN (opp x) = isN x := by unfold isN; rw [(opp_rung x hx).1]
theorem isN_nanB : isN nanB = true := by decide
theorem neg_neg (x : Nat) (hx : x < 18446744073709551616) : negW (negW x) = canon x := by
  cases h : isN x
  · rw [isN_false h, show negW x = opp x by simp [negW, h], show negW (opp x) = opp (opp x) by simp [negW, isN_opp x hx, h], opp_opp x hx]
  · rw [isN_true h, show negW x = nanB by simp [negW, h], show negW nanB = nanB by simp [negW, isN_nanB]]
theorem negW_lt (x : Nat) (hx : x < 18446744073709551616) : negW x < 18446744073709551616 := by
  unfold negW; split
  · decide
  · exact (opp_rung x hx).2.2

theorem add_nan (x y : Nat) (h : isN x = true ∨ isN y = true) : floatBits .add .f64 x y = none := by
  show ((Fl.D.read x).sum (Fl.D.read y)).map Fl.D.write = none
  rcases h with h | h
  · rw [Fl.read_nan x (isN_lt h)]; rfl
  · rw [Fl.read_nan y (isN_lt h), Fl.sum_comm]; rfl
theorem sub_nan (x y : Nat) (h : isN x = true ∨ isN y = true) : floatBits .sub .f64 x y = none := by
  show ((Fl.D.read x).sum (Fl.D.read y).opposite).map Fl.D.write = none
  rcases h with h | h
  · rw [Fl.read_nan x (isN_lt h)]; rfl
  · rw [Fl.read_nan y (isN_lt h), Fl.sum_comm]; rfl
theorem mul_nan (x y : Nat) (h : isN x = true ∨ isN y = true) : floatBits .mul .f64 x y = none := by
  show ((Fl.D.read x).product (Fl.D.read y)).map Fl.D.write = none
  rcases h with h | h
  · rw [Fl.read_nan x (isN_lt h)]; rfl
  · rw [Fl.read_nan y (isN_lt h), Fl.product_comm]; rfl
theorem div_nan (x y : Nat) (h : isN x = true ∨ isN y = true) : floatBits .quo .f64 x y = none := by
  show ((Fl.D.read x).quotient (Fl.D.fractionBits + 2) (Fl.D.read y)).map Fl.D.write = none
  rcases h with h | h
  · rw [Fl.read_nan x (isN_lt h)]; rfl
  · rw [Fl.read_nan y (isN_lt h)]
    generalize Fl.D.read x = d
    cases d <;> rfl
theorem sub_is (x y : Nat) (hy : y < 18446744073709551616) : fl (floatBits .sub .f64 x y) = fl (floatBits .add .f64 x (negW y)) := by
  cases h : isN y
  · rw [show negW y = opp y by simp [negW, h]]
    show fl (((Fl.D.read x).sum (Fl.D.read y).opposite).map Fl.D.write) = fl (((Fl.D.read x).sum (Fl.D.read (opp y))).map Fl.D.write)
    rw [Fl.read_by y (opp y) (opp_rung y hy).1 (opp_rung y hy).2.1]
  · rw [sub_nan x y (.inr h), add_nan x (negW y) (.inr (by simp [negW, h, isN_nanB]))]
theorem one_is : canon (fz (w63 1)) = Fl.D.nearest false 1 0 := by
  have e : w63 1 = 1 := by decide
  rw [e, (fz_back 1 (by decide) (by decide)).1]; rfl
theorem times_one (x : Nat) (hx : x < 18446744073709551616) : fl (floatBits .mul .f64 x (canon (fz (w63 1)))) = canon x := by
  rw [one_is]
  cases h : isN x
  · have hle := isN_le h
    have e : floatBits .mul .f64 x (Fl.D.nearest false 1 0) = some x := by
      show Fl.D.mul x (Fl.D.nearest false 1 0) = some x
      rcases Nat.lt_or_eq_of_le hle with hl | he
      · exact Fl.mul_one x hx hl
      · exact Fl.mul_one_inf x hx he
    rw [e]; rfl
  · rw [mul_nan x _ (.inl h), isN_true h]; rfl
theorem one_lt : canon (fz (w63 1)) < 18446744073709551616 := by
  have e : w63 1 = 1 := by decide
  obtain ⟨a, b, _⟩ := fz_back 1 (by decide) (by decide)
  rw [e, a]; exact b

theorem numAlgebra_walk (x y : Nat) (hx : x < 18446744073709551616) (hy : y < 18446744073709551616) (w : World) : Calls Try.prog 10 #[.int .u64 (x : Int), .int .u64 (y : Int)] w fun e w' => e = .returned (.bool true) ∧ Grown w w' := by
  have e1 : fl (floatBits .add .f64 y x) = fl (floatBits .add .f64 x y) := congrArg fl (Fl.add_comm y x)
  have e2 : fl (floatBits .mul .f64 y x) = fl (floatBits .mul .f64 x y) := congrArg fl (Fl.mul_comm y x)
  have e3 := (sub_is x y hy)
  have e4 := neg_neg x hx
  have e5 := times_one x hx
  have H1 := Lib.hid (negW_lt x hx)
  have hn : isN x = true ∨ isN y = true → (((fl (floatBits .add .f64 x y) : Nat) : Int) == 9221120237041090560) = true ∧ (((fl (floatBits .mul .f64 x y) : Nat) : Int) == 9221120237041090560) = true ∧ (((fl (floatBits .quo .f64 x y) : Nat) : Int) == 9221120237041090560) = true ∧ lessB x y = false ∧ sameB x y = false := fun h => by
    rw [add_nan x y h, mul_nan x y h, div_nan x y h]
    exact ⟨rfl, rfl, rfl, less_nan x y h, same_nan x y h⟩
  have HX := Lib.hid hx
  have HY := Lib.hid hy
  clear hx hy
  cases a : isN x
  case' false => cases b : isN y
  case' true => have hn := hn (.inl a)
  case' false.true => have hn := hn (.inr b)
  all_goals
    first | (obtain ⟨n1, n2, n3, n4, n5⟩ := hn) | clear hn
    go_enter Try.func10, Try.ntmps10
    go_wp2_with (first
      | (go_at_call 13; refine (counts_any _).mono ?_; rintro e w' ⟨rfl, rfl⟩)
      | (go_at_call 22; refine (plus_any _ _ _).mono ?_; rintro e w' ⟨rfl, n, rfl⟩)
      | (go_at_call 24; refine (minus_any _ _ _).mono ?_; rintro e w' ⟨rfl, n, rfl⟩)
      | (go_at_call 25; refine (times_any _ _ _).mono ?_; rintro e w' ⟨rfl, n, rfl⟩)
      | (go_at_call 26; refine (over_any _ _ _).mono ?_; rintro e w' ⟨rfl, n, rfl⟩)
      | (go_at_call 28; first | (with_reducible refine (neg_any x HX.out _).mono ?_; rintro e w' ⟨rfl, rfl⟩) | (with_reducible refine (neg_any y HY.out _).mono ?_; rintro e w' ⟨rfl, rfl⟩) | (with_reducible refine (neg_any (negW x) H1.out _).mono ?_; rintro e w' ⟨rfl, rfl⟩))
      | (go_at_call 39; refine (ofInt_any _ _).mono ?_; rintro e w' ⟨rfl, rfl⟩)
      | (go_at_call 35; refine (less_any _ _ _).mono ?_; rintro e w' ⟨rfl, rfl⟩)
      | (go_at_call 36; refine (same_any _ _ _).mono ?_; rintro e w' ⟨rfl, rfl⟩)
      | (go_at_call 31; refine (refCanon_any x HX.out _).mono ?_; rintro e w' ⟨rfl, rfl⟩)
      | (go_at_call 34; first | (with_reducible refine (refIsNan_any x HX.out _).mono ?_; rintro e w' ⟨rfl, rfl⟩) | (with_reducible refine (refIsNan_any y HY.out _).mono ?_; rintro e w' ⟨rfl, rfl⟩)))
    go_ret
    exact ⟨rfl, grown_drewN _ _⟩
end Go.Proofs.Ytodpglladcblhaa
