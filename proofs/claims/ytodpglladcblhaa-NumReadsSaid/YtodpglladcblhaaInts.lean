/- The walks of the laws NumInts, NumDivs, NumRings: each returns true and makes nothing. No condition but that the arguments are int's. -/
import Derived.Test.YtodpglladcblhaaMul
namespace Go.Proofs.Ytodpglladcblhaa
open Go.ChangeShapes Go.WideShapes Go.ChangeAt Go.RowKit

theorem numInts_walk (a b : Int) (w : World) : Calls Try.prog 3 #[.int .i64 a, .int .i64 b] w fun e w' => e = .returned (.bool true) ∧ Grown w w' := by
  have h1 := w63_lo a
  have h2 := w63_hi a
  have h3 := w63_lo b
  have h4 := w63_hi b
  have e1 := w63_add a b
  have e2 := w63_sub a b
  go_enter Try.func3, Try.ntmps3
  go_wp2_with (first
    | (go_at_call 12; refine (wrap_any _ _).mono ?_; rintro e w' ⟨rfl, rfl⟩)
    | (go_at_call 14; refine (refWrap_any _ _).mono ?_; rintro e w' ⟨rfl, rfl⟩)
    | (go_at_call 13; refine (counts_any _).mono ?_; rintro e w' ⟨rfl, rfl⟩)
    | (go_at_call 15; refine (add_any _ _ _).mono ?_; rintro e w' ⟨rfl, rfl⟩)
    | (go_at_call 16; refine (sub_any _ _ _).mono ?_; rintro e w' ⟨rfl, rfl⟩)
    | (go_at_call 17; refine (mul_any _ _ _).mono ?_; rintro e w' ⟨rfl, rfl⟩)
    | (go_at_call 18; refine (refMul_any _ _ _).mono ?_; rintro e w' ⟨rfl, rfl⟩))
  go_ret
  exact ⟨rfl, Grown.refl _⟩

theorem w63_mul_l (a b : Int) : w63 (w63 a * b) = w63 (a * b) := by
  unfold w63
  have e : ∀ x : Int, ((x + 4611686018427387904) % 9223372036854775808 - 4611686018427387904) = x + 9223372036854775808 * (-((x + 4611686018427387904) / 9223372036854775808)) := fun x => by omega
  rw [e a, Int.add_mul, Int.mul_assoc]
  generalize (-((a + 4611686018427387904) / 9223372036854775808)) * b = q
  omega
theorem w63_mul_r (a b : Int) : w63 (a * w63 b) = w63 (a * b) := by rw [Int.mul_comm, w63_mul_l, Int.mul_comm]
theorem w63_add_l (a b : Int) : w63 (w63 a + b) = w63 (a + b) := by unfold w63; omega
theorem w63_add_r (a b : Int) : w63 (a + w63 b) = w63 (a + b) := by unfold w63; omega
theorem w63_sub_l (a b : Int) : w63 (w63 a - b) = w63 (a - b) := by unfold w63; omega

theorem numRings_walk (a b c : Int) (w : World) : Calls Try.prog 5 #[.int .i64 a, .int .i64 b, .int .i64 c] w fun e w' => e = .returned (.bool true) ∧ Grown w w' := by
  have e1 : w63 (w63 (a + b) + c) = w63 (a + (b + c)) := by rw [w63_add_l, Int.add_assoc]
  have e2 : w63 (a + w63 (b + c)) = w63 (a + (b + c)) := by rw [w63_add_r]
  have e3 : w63 (w63 (a * b) * c) = w63 (a * (b * c)) := by rw [w63_mul_l, Int.mul_assoc]
  have e4 : w63 (a * w63 (b * c)) = w63 (a * (b * c)) := by rw [w63_mul_r]
  have e5 : w63 (a * w63 (b + c)) = w63 (a * b + a * c) := by rw [w63_mul_r, Int.mul_add]
  have e6 : w63 (w63 (a * b) + w63 (a * c)) = w63 (a * b + a * c) := by rw [w63_add]
  have e7 : w63 (w63 (a + b) - b) = w63 a := by rw [w63_sub_l, show a + b - b = a by omega]
  have e8 : w63 (a * 1) = w63 a := by rw [Int.mul_one]
  go_enter Try.func5, Try.ntmps5
  go_wp2_with (first
    | (go_at_call 12; refine (wrap_any _ _).mono ?_; rintro e w' ⟨rfl, rfl⟩)
    | (go_at_call 13; refine (counts_any _).mono ?_; rintro e w' ⟨rfl, rfl⟩)
    | (go_at_call 15; refine (add_any _ _ _).mono ?_; rintro e w' ⟨rfl, rfl⟩)
    | (go_at_call 16; refine (sub_any _ _ _).mono ?_; rintro e w' ⟨rfl, rfl⟩)
    | (go_at_call 17; refine (mul_any _ _ _).mono ?_; rintro e w' ⟨rfl, rfl⟩))
  go_ret
  exact ⟨rfl, Grown.refl _⟩
end Go.Proofs.Ytodpglladcblhaa
