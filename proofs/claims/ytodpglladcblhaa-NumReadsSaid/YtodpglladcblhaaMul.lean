/- The document's multiplication, bit by bit, tells what the program's does. No condition. -/
import Derived.Test.YtodpglladcblhaaBase
import Derived.LoopTactic
import Derived.Outline
namespace Go.Proofs.Ytodpglladcblhaa
open Go.ChangeShapes Go.WideShapes Go.ChangeAt Go.RowKit

/-- what is added up behind k rounds -/
def mulTo (a b : Int) (k : Nat) : Int := IntKind.u64.wrap (IntKind.u64.wrap a * (IntKind.u64.wrap b % 2 ^ k))

theorem u64_nonneg (b : Int) : 0 ≤ IntKind.u64.wrap b := by rw [IntKind.wrap_u64]; omega
theorem mod_succ (B : Int) (h : 0 ≤ B) (k : Nat) : B % 2 ^ (k + 1) = B % 2 ^ k + 2 ^ k * (B / 2 ^ k % 2) := by
  obtain ⟨n, rfl⟩ := Int.eq_ofNat_of_zero_le h
  have := @Nat.mod_pow_succ n 2 k
  exact_mod_cast this
theorem bit_is (B : Int) (h : 0 ≤ B) (k : Nat) : (B / 2 ^ k).tmod 2 = B / 2 ^ k % 2 :=
  Int.tmod_eq_emod_of_nonneg (Int.ediv_nonneg h (Int.le_of_lt (Int.pow_pos (by decide))))
theorem mulTo_zero (a b : Int) : mulTo a b 0 = 0 := by
  unfold mulTo; rw [Int.pow_zero, Int.emod_one, Int.mul_zero, IntKind.wrap_u64]; rfl
theorem mulTo_yes (a b : Int) (k : Nat) (h : ((IntKind.u64.wrap b / 2 ^ k).tmod 2 == 1) = true) :
    IntKind.u64.wrap (mulTo a b k + IntKind.u64.wrap (IntKind.u64.wrap a * 2 ^ k)) = mulTo a b (k + 1) := by
  have hB := u64_nonneg b
  rw [beq_iff_eq, bit_is _ hB] at h
  unfold mulTo
  rw [mod_succ _ hB, h, Int.mul_one, Int.mul_add]
  generalize IntKind.u64.wrap a * (IntKind.u64.wrap b % 2 ^ k) = x
  generalize IntKind.u64.wrap a * 2 ^ k = y
  simp only [IntKind.wrap_u64]
  omega
theorem mulTo_no (a b : Int) (k : Nat) (h : ((IntKind.u64.wrap b / 2 ^ k).tmod 2 == 1) = false) : mulTo a b k = mulTo a b (k + 1) := by
  have hB := u64_nonneg b
  rw [beq_eq_false_iff_ne, bit_is _ hB] at h
  have h0 : IntKind.u64.wrap b / 2 ^ k % 2 = 0 := by omega
  unfold mulTo
  rw [mod_succ _ hB, h0, Int.mul_zero, Int.add_zero]
theorem mulTo_all (a b : Int) : w63 (wrap64 (mulTo a b 64)) = w63 (a * b) := by
  have e : IntKind.u64.wrap b % 2 ^ 64 = b % 18446744073709551616 := by
    rw [IntKind.wrap_u64, show ((2 : Int) ^ 64) = 18446744073709551616 from by decide]; omega
  rw [w63_wrap64]
  unfold mulTo
  rw [e]
  have e2 : IntKind.u64.wrap (IntKind.u64.wrap a * (b % 18446744073709551616)) = (a * b) % 18446744073709551616 := by
    rw [IntKind.wrap_u64, IntKind.wrap_u64, ← Int.mul_emod]
  rw [e2]
  unfold w63
  omega

theorem refMul_any (a b : Int) (w : World) : Calls Try.prog 18 #[.int .i64 a, .int .i64 b] w fun e w' => e = .returned (.int .i64 (w63 (a * b))) ∧ w = w' := by
  have H0 := Lib.hid (mulTo_zero a b)
  have H1 := Lib.hid (mulTo_yes a b)
  have H2 := Lib.hid (mulTo_no a b)
  have H3 := Lib.hid (mulTo_all a b)
  go_enter Try.func18, Try.ntmps18
  go_wp2
  go_loop [5, 7] (fun p i => ∃ k : Nat, k ≤ 64 ∧ i = .int .i64 k ∧ p = .int .u64 (mulTo a b k)) (fun _ i => 64 - (intOf i).toNat)
  case atStart => exact ⟨0, by omega, rfl, by rw [H0.out]⟩
  case round =>
    obtain ⟨k, hk, rfl, rfl⟩ := hrel
    by_cases hlt : k < 64
    · go_wp2_with (go_at_call 14; refine (refWrap_any _ _).mono ?_; rintro e w' ⟨rfl, rfl⟩)
      all_goals
        go_round
        case rel => exact ⟨k + 1, by omega, by go_num, by first | rw [H1.out k ‹_›] | rw [H2.out k ‹_›]⟩
        case measure => simp [intOf]; omega
    · obtain rfl : k = 64 := by omega
      go_wp2_with (go_at_call 14; refine (refWrap_any _ _).mono ?_; rintro e w' ⟨rfl, rfl⟩)
      go_ret
      exact ⟨ret_int H3.out, rfl⟩
end Go.Proofs.Ytodpglladcblhaa
