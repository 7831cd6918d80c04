/- Contracts of the floats' functions that call the machine's own: Go, Of, isNan, IsNaN, and the document's Of, IsNan, Canon. No condition but that words are words. -/
import Derived.Test.YtodpglladcblhaaDivs
import Derived.Test.YtodpglladcblhaaIeee
import Derived.Laws.FloatArith
import Derived.Laws.Externs
namespace Go.Proofs.Ytodpglladcblhaa
open Go.ChangeShapes Go.WideShapes Go.ChangeAt Go.RowKit

/-- the one NaN -/
def nanB : Nat := 9221120237041090560
theorem nanB_is : ((nanB : Nat) : Int) = 9221120237041090560 := rfl
/-- is a word a NaN? -/
def isN (x : Nat) : Bool := decide (9218868437227405312 < Fl.rung x)
/-- a word, if it is a NaN the one -/
def canon (x : Nat) : Nat := if isN x then nanB else x

theorem frombits_run (n : Nat) (w : World) : (callFunc 45 #[.int .u64 (n : Int)]).run Try.prog w = .ok (.value (.float .f64 n)) w := by kernel_rfl
theorem bits_run (n : Nat) (w : World) : (callFunc 49 #[.float .f64 n]).run Try.prog w = .ok (.value (.int .u64 (n : Int))) w := by kernel_rfl

theorem isN_true {x : Nat} (h : isN x = true) : canon x = nanB := by unfold canon; rw [h]; rfl
theorem isN_false {x : Nat} (h : isN x = false) : canon x = x := by unfold canon; rw [h]; rfl

theorem go_any (x : Nat) (w : World) : Calls Try.prog 30 #[.int .u64 (x : Int)] w fun e w' => e = .returned (.float .f64 x) ∧ w = w' := by
  have h := frombits_run x
  go_enter Try.func30, Try.ntmps30
  go_wp2_with fail
  go_ret
  exact ⟨rfl, rfl⟩
theorem isNaN_any (x : Nat) (w : World) : Calls Try.prog 48 #[.float .f64 x] w fun e w' => e = .returned (.bool (isN x)) ∧ w = w' := by
  have h : (FloatKind.f64.format.order x x != some .eq) = isN x := Fl.self_nan x
  go_enter Try.func48, Try.ntmps48
  go_wp2
  go_ret
  exact ⟨rfl, rfl⟩
theorem isNan_any (x : Nat) (w : World) : Calls Try.prog 47 #[.int .u64 (x : Int)] w fun e w' => e = .returned (.bool (isN x)) ∧ w = w' := by
  go_enter Try.func47, Try.ntmps47
  go_wp2_with (first
    | (go_at_call 30; refine (go_any _ _).mono ?_; rintro e w' ⟨rfl, rfl⟩)
    | (go_at_call 48; refine (isNaN_any _ _).mono ?_; rintro e w' ⟨rfl, rfl⟩))
  go_ret
  exact ⟨rfl, rfl⟩
theorem of_any (x : Nat) (w : World) : Calls Try.prog 29 #[.float .f64 x] w fun e w' => e = .returned (.int .u64 (canon x : Nat)) ∧ w = w' := by
  have hb := bits_run x
  by_cases h : isN x = true
  · have H := Lib.hid (isN_true h)
    go_enter Try.func29, Try.ntmps29
    go_wp2_with (go_at_call 48; refine (isNaN_any _ _).mono ?_; rintro e w' ⟨rfl, rfl⟩)
    go_ret
    exact ⟨by rw [H.out]; rfl, rfl⟩
  · have h : isN x = false := by simpa using h
    have H := Lib.hid (isN_false h)
    go_enter Try.func29, Try.ntmps29
    go_wp2_with (go_at_call 48; refine (isNaN_any _ _).mono ?_; rintro e w' ⟨rfl, rfl⟩)
    go_ret
    exact ⟨by rw [H.out]; rfl, rfl⟩
theorem refOf_any (x : Nat) (w : World) : Calls Try.prog 40 #[.float .f64 x] w fun e w' => e = .returned (.int .u64 (canon x : Nat)) ∧ w = w' := by
  have hb := bits_run x
  have h0 : (FloatKind.f64.format.order x x != some .eq) = isN x := Fl.self_nan x
  by_cases h : isN x = true
  · have H := Lib.hid (isN_true h)
    rw [h] at h0
    go_enter Try.func40, Try.ntmps40
    go_wp2
    go_ret
    exact ⟨by rw [H.out]; rfl, rfl⟩
  · have h : isN x = false := by simpa using h
    have H := Lib.hid (isN_false h)
    rw [h] at h0
    go_enter Try.func40, Try.ntmps40
    go_wp2
    go_ret
    exact ⟨by rw [H.out]; rfl, rfl⟩

theorem xor_top (x : Nat) (h : x < 18446744073709551616) : x ^^^ 9223372036854775808 = if x < 9223372036854775808 then x + 9223372036854775808 else x - 9223372036854775808 := by
  have key : ∀ y : Nat, y < 2 ^ 63 → y ^^^ 2 ^ 63 = 2 ^ 63 + y := by
    intro y hy
    apply Nat.eq_of_testBit_eq
    intro i
    rw [Nat.testBit_xor, Nat.testBit_two_pow]
    rcases Nat.lt_trichotomy i 63 with hi | rfl | hi
    · rw [Nat.testBit_two_pow_add_gt hi, decide_eq_false (by omega), Bool.xor_false]
    · rw [Nat.testBit_two_pow_add_eq]; simp
    · rw [Nat.testBit_lt_two_pow (Nat.lt_of_lt_of_le hy (Nat.pow_le_pow_right (by decide) (by omega))), Nat.testBit_lt_two_pow (Nat.lt_of_lt_of_le (show 2 ^ 63 + y < 2 ^ 64 by omega) (Nat.pow_le_pow_right (by decide) (by omega)))]
      rw [decide_eq_false (by omega)]; rfl
  rw [show (9223372036854775808 : Nat) = 2 ^ 63 from by decide]
  split
  · rename_i hx; rw [key x hx]; omega
  · rename_i hx
    have : x = (x - 2 ^ 63) ^^^ 2 ^ 63 := by rw [key _ (by omega)]; omega
    rw [this, Nat.xor_assoc, Nat.xor_self, Nat.xor_zero]
    omega
theorem nat_pow63 (x : Nat) : x &&& 9223372036854775807 = x % 9223372036854775808 := Nat.and_two_pow_sub_one_eq_mod x 63

theorem ret_bool {a b : Bool} (h : a = b) : Ending.returned (.bool a) = .returned (.bool b) := by rw [h]
/-- the opposite of a word that is no NaN -/
def opp (x : Nat) : Nat := if x < 9223372036854775808 then x + 9223372036854775808 else x - 9223372036854775808
theorem xor_opp (x : Nat) (hx : x < 18446744073709551616) : bits .xor .u64 (x : Int) 9223372036854775808 = ((opp x : Nat) : Int) := by
  have := u64_xor_nat x 9223372036854775808 hx (by decide)
  rw [xor_top x hx] at this
  exact this
theorem and_isN (x : Nat) (hx : x < 18446744073709551616) : decide ((9218868437227405312 : Int) < bits .and .u64 (x : Int) 9223372036854775807) = isN x := by
  have := u64_and_nat x 9223372036854775807 hx (by decide)
  rw [nat_pow63 x] at this
  have e : bits .and .u64 (x : Int) 9223372036854775807 = ((x % 9223372036854775808 : Nat) : Int) := this
  rw [e]
  unfold isN Fl.rung
  simp only [decide_eq_decide]
  omega
/-- what Neg makes -/
def negW (x : Nat) : Nat := if isN x then nanB else opp x
theorem neg_any (x : Nat) (hx : x < 18446744073709551616) (w : World) : Calls Try.prog 28 #[.int .u64 (x : Int)] w fun e w' => e = .returned (.int .u64 (negW x : Nat)) ∧ w = w' := by
  by_cases h : isN x = true
  · have H : Hid (negW x = nanB) := Lib.hid (by unfold negW; rw [h]; rfl)
    clear hx
    go_enter Try.func28, Try.ntmps28
    go_wp2_with (go_at_call 47; refine (isNan_any _ _).mono ?_; rintro e w' ⟨rfl, rfl⟩)
    go_ret
    exact ⟨by rw [H.out]; rfl, rfl⟩
  · have h : isN x = false := by simpa using h
    have H : Hid (negW x = opp x) := Lib.hid (by simp [negW, h])
    have HX := Lib.hid hx
    clear hx
    go_enter Try.func28, Try.ntmps28
    go_wp2_with (go_at_call 47; refine (isNan_any _ _).mono ?_; rintro e w' ⟨rfl, rfl⟩)
    go_ret
    exact ⟨by rw [H.out]; exact ret_int (xor_opp x HX.out), rfl⟩
theorem refIsNan_any (x : Nat) (hx : x < 18446744073709551616) (w : World) : Calls Try.prog 34 #[.int .u64 (x : Int)] w fun e w' => e = .returned (.bool (isN x)) ∧ w = w' := by
  have HX := Lib.hid hx
  clear hx
  go_enter Try.func34, Try.ntmps34
  go_wp2
  go_ret
  exact ⟨ret_bool (and_isN x HX.out), rfl⟩
theorem refCanon_any (x : Nat) (hx : x < 18446744073709551616) (w : World) : Calls Try.prog 31 #[.int .u64 (x : Int)] w fun e w' => e = .returned (.int .u64 (canon x : Nat)) ∧ w = w' := by
  have HX := Lib.hid hx
  clear hx
  by_cases h : isN x = true
  · have H := Lib.hid (isN_true h)
    go_enter Try.func31, Try.ntmps31
    go_wp2_with (go_at_call 34; refine (refIsNan_any _ HX.out _).mono ?_; rintro e w' ⟨rfl, rfl⟩)
    go_ret
    exact ⟨by rw [H.out]; rfl, rfl⟩
  · have h : isN x = false := by simpa using h
    have H := Lib.hid (isN_false h)
    go_enter Try.func31, Try.ntmps31
    go_wp2_with (go_at_call 34; refine (refIsNan_any _ HX.out _).mono ?_; rintro e w' ⟨rfl, rfl⟩)
    go_ret
    exact ⟨by rw [H.out]; rfl, rfl⟩

/-- what comes of an operation: its word, if it is a NaN the one. -/
def fl : Option Nat → Nat
  | some r => canon r
  | none => nanB

theorem cut_isN (a b t : Nat) : isN (Question.cut (.nanBits .f64 a b) t) = true := by
  unfold isN
  refine decide_eq_true ?_
  unfold Fl.rung
  simp only [Question.cut]
  have e1 : (2 : Nat) ^ 63 = 9223372036854775808 := by decide
  have e2 : (2 : Nat) ^ 52 = 4503599627370496 := by decide
  rw [e1, e2]
  have hr : t / 2 % (4503599627370496 - 1) < 4503599627370495 := Nat.mod_lt _ (by decide)
  have hb : t % 2 = 0 ∨ t % 2 = 1 := by omega
  generalize t / 2 % (4503599627370496 - 1) = r at *
  rcases hb with hb | hb <;> rw [hb] <;> omega
theorem fl_none_canon {r : Nat} (h : isN r = true) : canon r = fl none := isN_true h

/-- '+', '-', '*', '/' on words: the word; or some NaN, drawn. -/
theorem arith_run (op : BinOp) (hop : op = .add ∨ op = .sub ∨ op = .mul ∨ op = .quo) (t : TypeId) (x y : Nat) (w : World) :
    ∃ r n, (binOp op t (.float .f64 x) (.float .f64 y)).run Try.prog w = .ok (.float .f64 r) (w.drewN n) ∧ canon r = fl (floatBits op .f64 x y) := by
  cases h : floatBits op .f64 x y with
  | some r => exact ⟨r, 0, run_float_arith w op t .f64 x y r h, rfl⟩
  | none =>
    refine ⟨Question.cut (.nanBits .f64 x y) (w.tape w.drawn (.nanBits .f64 x y)), 1, ?_, fl_none_canon (cut_isN _ _ _)⟩
    unfold floatBits at h
    rcases hop with rfl | rfl | rfl | rfl <;> simp only at h <;> simp [binOp, Op.floatArith, h, Question.forced, World.drewN]
theorem sqrt_run (x : Nat) (w : World) :
    ∃ r n, (callFunc 54 #[.float .f64 x]).run Try.prog w = .ok (.value (.float .f64 r)) (w.drewN n) ∧ canon r = fl (FloatKind.f64.format.sqrt x) := by
  have e : (callFunc 54 #[.float .f64 x]).run Try.prog w = ((Extern.MathSqrt.sqrt #[.float .f64 x]).run Try.prog w).andThen fun v w' => .ok (.value v) w' :=
    run_callFunc_extern Try.func54 (by kernel_rfl) (by kernel_rfl) (by kernel_rfl) (by kernel_rfl) _ w
  have es : Extern.MathSqrt.sqrt #[.float .f64 x] = (match FloatKind.f64.format.sqrt x with | some r => pure (.float .f64 r) | none => do pure (.float .f64 (← choose (.nanBits .f64 x x)))) := rfl
  cases h : FloatKind.f64.format.sqrt x with
  | some r => exact ⟨r, 0, by rw [e, es, h]; simp; rfl, rfl⟩
  | none =>
    refine ⟨Question.cut (.nanBits .f64 x x) (w.tape w.drawn (.nanBits .f64 x x)), 1, ?_, fl_none_canon (cut_isN _ _ _)⟩
    rw [e, es, h]; simp [Question.forced, World.drewN]
end Go.Proofs.Ytodpglladcblhaa
