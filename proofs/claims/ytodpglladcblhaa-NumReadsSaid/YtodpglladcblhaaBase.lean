/- Contracts of the integers' functions: Wrap, Add, Sub, Mul, Div, Rem of the program and of the document's own answers; 'counts' is true. No condition. -/
import Derived.Test.YtodpglladcblhaaRows
import Derived.WalkKit
import Derived.ProofKit
import Derived.OpenShut
import Derived.Handy
import Derived.WalkLawsBesides
import Derived.BigQuiet
import Derived.Deep.QuietTactic
import Derived.Lib.Hide
namespace Go.Proofs.Ytodpglladcblhaa
open Go.ChangeShapes Go.WideShapes Go.ChangeAt Go.RowKit

theorem ret_int {k : IntKind} {a b : Int} (h : a = b) : Ending.returned (.int k a) = .returned (.int k b) := by rw [h]
theorem ret_int2 {k l : IntKind} {a b c d : Int} (h : a = b) (g : c = d) : Ending.returned (.tuple #[.int k a, .int l c]) = .returned (.tuple #[.int k b, .int l d]) := by rw [h, g]
theorem ret_int3 {k l m : IntKind} {a b c d e f : Int} (h : a = b) (g : c = d) (i : e = f) : Ending.returned (.tuple #[.int k a, .int l c, .int m e]) = .returned (.tuple #[.int k b, .int l d, .int m f]) := by rw [h, g, i]

/-- An integer's wrap: 63 bits, going round. -/
def w63 (n : Int) : Int := (n + 4611686018427387904) % 9223372036854775808 - 4611686018427387904
theorem w63_lo (n : Int) : -4611686018427387904 ≤ w63 n := by unfold w63; omega
theorem w63_hi (n : Int) : w63 n ≤ 4611686018427387903 := by unfold w63; omega
theorem w63_wrap64 (n : Int) : w63 (wrap64 n) = w63 n := by unfold w63 wrap64; omega
theorem w63_add (a b : Int) : w63 (w63 a + w63 b) = w63 (a + b) := by unfold w63; omega
theorem w63_sub (a b : Int) : w63 (w63 a - w63 b) = w63 (a - b) := by unfold w63; omega
theorem w63_w63 (a : Int) : w63 (w63 a) = w63 a := by unfold w63; omega
theorem shl_shr (n : Int) : wrap64 (n * 2) / 2 = w63 n := by unfold w63 wrap64; omega
theorem shl_shr' (n : Int) : wrap64 (IntKind.u64.wrap (IntKind.u64.wrap n * 2)) / 2 = w63 n := by
  simp only [IntKind.wrap_u64]; unfold w63 wrap64; omega

theorem wrap_any (n : Int) (w : World) : Calls Try.prog 12 #[.int .i64 n] w fun e w' => e = .returned (.int .i64 (w63 n)) ∧ w = w' := by
  go_enter Try.func12, Try.ntmps12
  go_wp2
  go_ret
  exact ⟨ret_int (shl_shr n), rfl⟩
theorem refWrap_any (n : Int) (w : World) : Calls Try.prog 14 #[.int .i64 n] w fun e w' => e = .returned (.int .i64 (w63 n)) ∧ w = w' := by
  go_enter Try.func14, Try.ntmps14
  go_wp2
  go_ret
  exact ⟨ret_int (shl_shr' n), rfl⟩
theorem add_any (a b : Int) (w : World) : Calls Try.prog 15 #[.int .i64 a, .int .i64 b] w fun e w' => e = .returned (.int .i64 (w63 (a + b))) ∧ w = w' := by
  go_enter Try.func15, Try.ntmps15
  go_wp2_with (go_at_call 12; refine (wrap_any _ _).mono ?_; rintro e w' ⟨rfl, rfl⟩)
  go_ret
  exact ⟨ret_int (by first | exact w63_wrap64 _ | rfl), rfl⟩
theorem sub_any (a b : Int) (w : World) : Calls Try.prog 16 #[.int .i64 a, .int .i64 b] w fun e w' => e = .returned (.int .i64 (w63 (a - b))) ∧ w = w' := by
  go_enter Try.func16, Try.ntmps16
  go_wp2_with (go_at_call 12; refine (wrap_any _ _).mono ?_; rintro e w' ⟨rfl, rfl⟩)
  go_ret
  exact ⟨ret_int (by first | exact w63_wrap64 _ | rfl), rfl⟩
theorem mul_any (a b : Int) (w : World) : Calls Try.prog 17 #[.int .i64 a, .int .i64 b] w fun e w' => e = .returned (.int .i64 (w63 (a * b))) ∧ w = w' := by
  go_enter Try.func17, Try.ntmps17
  go_wp2_with (go_at_call 12; refine (wrap_any _ _).mono ?_; rintro e w' ⟨rfl, rfl⟩)
  go_ret
  exact ⟨ret_int (by first | exact w63_wrap64 _ | rfl), rfl⟩

/-- Quotient and rest, cut towards nought; the least by -1 goes round. -/
def quo63 (a b : Int) : Int := w63 ((w63 a).tdiv (w63 b))
def rem63 (a b : Int) : Int := (w63 a).tmod (w63 b)
theorem tdiv_bd (x y : Int) (hx : -4611686018427387904 ≤ x) (hx' : x ≤ 4611686018427387903) : -4611686018427387904 ≤ x.tdiv y ∧ x.tdiv y ≤ 4611686018427387904 := by
  have h : (x.tdiv y).natAbs ≤ x.natAbs := by rw [Int.natAbs_tdiv]; exact Nat.div_le_self _ _
  omega
theorem tmod_bd (x y : Int) (hx : -4611686018427387904 ≤ x) (hx' : x ≤ 4611686018427387903) : -4611686018427387904 ≤ x.tmod y ∧ x.tmod y ≤ 4611686018427387904 := by
  have h : (x.tmod y).natAbs ≤ x.natAbs := by rw [Int.natAbs_tmod]; exact Nat.mod_le _ _
  omega
theorem quo_wrap (a b : Int) : w63 (wrap64 ((w63 a).tdiv (w63 b))) = quo63 a b := w63_wrap64 _

theorem div_ok (a b : Int) (w : World) (h : w63 b ≠ 0) : Calls Try.prog 19 #[.int .i64 a, .int .i64 b] w fun e w' => e = .returned (.tuple #[.int .i64 (quo63 a b), .int .i64 0]) ∧ w = w' := by
  have h0 : (w63 b == 0) = false := by simpa using h
  have h1 := w63_lo a
  have h2 := w63_hi a
  have h3 := w63_lo b
  have h4 := w63_hi b
  go_enter Try.func19, Try.ntmps19
  go_wp2_with (go_at_call 12; refine (wrap_any _ _).mono ?_; rintro e w' ⟨rfl, rfl⟩)
  go_ret2
  exact ⟨ret_int2 (by first | exact quo_wrap _ _ | rfl) rfl, rfl⟩
theorem div_no (a b : Int) (w : World) (h : w63 b = 0) : Calls Try.prog 19 #[.int .i64 a, .int .i64 b] w fun e w' => e = .returned (.tuple #[.int .i64 0, .int .i64 1]) ∧ w = w' := by
  have h0 : (w63 b == 0) = true := by simpa using h
  clear h
  go_enter Try.func19, Try.ntmps19
  go_wp2_with (go_at_call 12; refine (wrap_any _ _).mono ?_; rintro e w' ⟨rfl, rfl⟩)
  go_ret2
  exact ⟨rfl, rfl⟩
theorem rem_ok (a b : Int) (w : World) (h : w63 b ≠ 0) : Calls Try.prog 20 #[.int .i64 a, .int .i64 b] w fun e w' => e = .returned (.tuple #[.int .i64 (rem63 a b), .int .i64 0]) ∧ w = w' := by
  have h0 : (w63 b == 0) = false := by simpa using h
  go_enter Try.func20, Try.ntmps20
  go_wp2_with (go_at_call 12; refine (wrap_any _ _).mono ?_; rintro e w' ⟨rfl, rfl⟩)
  go_ret2
  exact ⟨ret_int2 rfl rfl, rfl⟩
theorem rem_no (a b : Int) (w : World) (h : w63 b = 0) : Calls Try.prog 20 #[.int .i64 a, .int .i64 b] w fun e w' => e = .returned (.tuple #[.int .i64 0, .int .i64 1]) ∧ w = w' := by
  have h0 : (w63 b == 0) = true := by simpa using h
  clear h
  go_enter Try.func20, Try.ntmps20
  go_wp2_with (go_at_call 12; refine (wrap_any _ _).mono ?_; rintro e w' ⟨rfl, rfl⟩)
  go_ret2
  exact ⟨rfl, rfl⟩

theorem counts_any (w : World) : Calls Try.prog 13 #[] w fun e w' => e = .returned (.bool true) ∧ w = w' := by
  have e1 : quo63 (-4611686018427387904) (-1) = -4611686018427387904 := by decide
  have e2 : w63 (4611686018427387903 + 1) = -4611686018427387904 := by decide
  have hb : w63 (-1) ≠ 0 := by decide
  have E1 := Lib.hid e1
  have E2 := Lib.hid e2
  clear e1 e2
  go_enter Try.func13, Try.ntmps13
  go_wp2_with fail
  refine (div_ok _ _ _ hb).mono ?_
  rintro e w' ⟨rfl, rfl⟩
  rw [E1.out]
  go_wp2_with fail
  refine (add_any _ _ _).mono ?_
  rintro e w' ⟨rfl, rfl⟩
  rw [E2.out]
  go_wp2
  go_ret
  exact ⟨rfl, rfl⟩
end Go.Proofs.Ytodpglladcblhaa
