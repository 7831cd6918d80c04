/- Contracts of Plus, Minus, Times, Over, Root and of the document's Make; the walk of the law NumFloats. No condition but that words are words. -/
import Derived.Test.YtodpglladcblhaaFloat
namespace Go.Proofs.Ytodpglladcblhaa
open Go.ChangeShapes Go.WideShapes Go.ChangeAt Go.RowKit

theorem plus_any (x y : Nat) (w : World) : Calls Try.prog 22 #[.int .u64 (x : Int), .int .u64 (y : Int)] w fun e w' => e = .returned (.int .u64 (fl (floatBits .add .f64 x y) : Nat)) ∧ ∃ n, w' = w.drewN n := by
  obtain ⟨r, n, hrun, hr⟩ := arith_run .add (by simp) 38 x y w
  have HR := Lib.hid hr
  clear hr
  go_enter Try.func22, Try.ntmps22
  go_wp2_with (first
    | (go_at_call 30; refine (go_any _ _).mono ?_; rintro e w' ⟨rfl, rfl⟩)
    | (go_at_call 29; refine (of_any _ _).mono ?_; rintro e w' ⟨rfl, rfl⟩))
  go_ret
  exact ⟨by rw [← HR.out]; rfl, n, rfl⟩
theorem minus_any (x y : Nat) (w : World) : Calls Try.prog 24 #[.int .u64 (x : Int), .int .u64 (y : Int)] w fun e w' => e = .returned (.int .u64 (fl (floatBits .sub .f64 x y) : Nat)) ∧ ∃ n, w' = w.drewN n := by
  obtain ⟨r, n, hrun, hr⟩ := arith_run .sub (by simp) 38 x y w
  have HR := Lib.hid hr
  clear hr
  go_enter Try.func24, Try.ntmps24
  go_wp2_with (first
    | (go_at_call 30; refine (go_any _ _).mono ?_; rintro e w' ⟨rfl, rfl⟩)
    | (go_at_call 29; refine (of_any _ _).mono ?_; rintro e w' ⟨rfl, rfl⟩))
  go_ret
  exact ⟨by rw [← HR.out]; rfl, n, rfl⟩
theorem times_any (x y : Nat) (w : World) : Calls Try.prog 25 #[.int .u64 (x : Int), .int .u64 (y : Int)] w fun e w' => e = .returned (.int .u64 (fl (floatBits .mul .f64 x y) : Nat)) ∧ ∃ n, w' = w.drewN n := by
  obtain ⟨r, n, hrun, hr⟩ := arith_run .mul (by simp) 38 x y w
  have HR := Lib.hid hr
  clear hr
  go_enter Try.func25, Try.ntmps25
  go_wp2_with (first
    | (go_at_call 30; refine (go_any _ _).mono ?_; rintro e w' ⟨rfl, rfl⟩)
    | (go_at_call 29; refine (of_any _ _).mono ?_; rintro e w' ⟨rfl, rfl⟩))
  go_ret
  exact ⟨by rw [← HR.out]; rfl, n, rfl⟩
theorem over_any (x y : Nat) (w : World) : Calls Try.prog 26 #[.int .u64 (x : Int), .int .u64 (y : Int)] w fun e w' => e = .returned (.int .u64 (fl (floatBits .quo .f64 x y) : Nat)) ∧ ∃ n, w' = w.drewN n := by
  obtain ⟨r, n, hrun, hr⟩ := arith_run .quo (by simp) 38 x y w
  have HR := Lib.hid hr
  clear hr
  go_enter Try.func26, Try.ntmps26
  go_wp2_with (first
    | (go_at_call 30; refine (go_any _ _).mono ?_; rintro e w' ⟨rfl, rfl⟩)
    | (go_at_call 29; refine (of_any _ _).mono ?_; rintro e w' ⟨rfl, rfl⟩))
  go_ret
  exact ⟨by rw [← HR.out]; rfl, n, rfl⟩
theorem root_any (x : Nat) (w : World) : Calls Try.prog 27 #[.int .u64 (x : Int)] w fun e w' => e = .returned (.int .u64 (fl (FloatKind.f64.format.sqrt x) : Nat)) ∧ ∃ n, w' = w.drewN n := by
  obtain ⟨r, n, hrun, hr⟩ := sqrt_run x w
  have HR := Lib.hid hr
  clear hr
  go_enter Try.func27, Try.ntmps27
  go_wp2_with (first
    | (go_at_call 30; refine (go_any _ _).mono ?_; rintro e w' ⟨rfl, rfl⟩)
    | (go_at_call 46; go_in)
    | (go_at_call 29; refine (of_any _ _).mono ?_; rintro e w' ⟨rfl, rfl⟩))
  go_ret
  exact ⟨by rw [← HR.out]; rfl, n, rfl⟩
theorem make0_any (x y : Nat) (w : World) : Calls Try.prog 23 #[.int .i64 0, .int .u64 (x : Int), .int .u64 (y : Int)] w fun e w' => e = .returned (.int .u64 (fl (floatBits .add .f64 x y) : Nat)) ∧ ∃ n, w' = w.drewN n := by
  obtain ⟨r, n, hrun, hr⟩ := arith_run .add (by simp) 38 x y w
  have HR := Lib.hid hr
  have h1 := frombits_run x
  have h2 := frombits_run y
  clear hr
  go_enter Try.func23, Try.ntmps23
  go_wp2_with (go_at_call 40; refine (refOf_any _ _).mono ?_; rintro e w' ⟨rfl, rfl⟩)
  go_ret
  exact ⟨by rw [← HR.out]; rfl, n, rfl⟩
theorem make1_any (x y : Nat) (w : World) : Calls Try.prog 23 #[.int .i64 1, .int .u64 (x : Int), .int .u64 (y : Int)] w fun e w' => e = .returned (.int .u64 (fl (floatBits .sub .f64 x y) : Nat)) ∧ ∃ n, w' = w.drewN n := by
  obtain ⟨r, n, hrun, hr⟩ := arith_run .sub (by simp) 38 x y w
  have HR := Lib.hid hr
  have h1 := frombits_run x
  have h2 := frombits_run y
  clear hr
  go_enter Try.func23, Try.ntmps23
  go_wp2_with (go_at_call 40; refine (refOf_any _ _).mono ?_; rintro e w' ⟨rfl, rfl⟩)
  go_ret
  exact ⟨by rw [← HR.out]; rfl, n, rfl⟩
theorem make2_any (x y : Nat) (w : World) : Calls Try.prog 23 #[.int .i64 2, .int .u64 (x : Int), .int .u64 (y : Int)] w fun e w' => e = .returned (.int .u64 (fl (floatBits .mul .f64 x y) : Nat)) ∧ ∃ n, w' = w.drewN n := by
  obtain ⟨r, n, hrun, hr⟩ := arith_run .mul (by simp) 38 x y w
  have HR := Lib.hid hr
  have h1 := frombits_run x
  have h2 := frombits_run y
  clear hr
  go_enter Try.func23, Try.ntmps23
  go_wp2_with (go_at_call 40; refine (refOf_any _ _).mono ?_; rintro e w' ⟨rfl, rfl⟩)
  go_ret
  exact ⟨by rw [← HR.out]; rfl, n, rfl⟩
theorem make3_any (x y : Nat) (w : World) : Calls Try.prog 23 #[.int .i64 3, .int .u64 (x : Int), .int .u64 (y : Int)] w fun e w' => e = .returned (.int .u64 (fl (floatBits .quo .f64 x y) : Nat)) ∧ ∃ n, w' = w.drewN n := by
  obtain ⟨r, n, hrun, hr⟩ := arith_run .quo (by simp) 38 x y w
  have HR := Lib.hid hr
  have h1 := frombits_run x
  have h2 := frombits_run y
  clear hr
  go_enter Try.func23, Try.ntmps23
  go_wp2_with (go_at_call 40; refine (refOf_any _ _).mono ?_; rintro e w' ⟨rfl, rfl⟩)
  go_ret
  exact ⟨by rw [← HR.out]; rfl, n, rfl⟩
theorem make4_any (x y : Nat) (w : World) : Calls Try.prog 23 #[.int .i64 4, .int .u64 (x : Int), .int .u64 (y : Int)] w fun e w' => e = .returned (.int .u64 (fl (FloatKind.f64.format.sqrt x) : Nat)) ∧ ∃ n, w' = w.drewN n := by
  obtain ⟨r, n, hrun, hr⟩ := sqrt_run x w
  have HR := Lib.hid hr
  have h1 := frombits_run x
  have h2 := frombits_run y
  clear hr
  go_enter Try.func23, Try.ntmps23
  go_wp2_with (first
    | (go_at_call 46; go_in)
    | (go_at_call 40; refine (refOf_any _ _).mono ?_; rintro e w' ⟨rfl, rfl⟩))
  go_ret
  exact ⟨by rw [← HR.out]; rfl, n, rfl⟩
theorem make5_any (x y : Nat) (hx : x < 18446744073709551616) (w : World) : Calls Try.prog 23 #[.int .i64 5, .int .u64 (x : Int), .int .u64 (y : Int)] w fun e w' => e = .returned (.int .u64 (negW x : Nat)) ∧ ∃ n, w' = w.drewN n := by
  have HX := Lib.hid hx
  clear hx
  have h1 := frombits_run x
  have h2 := frombits_run y
  have h0 : (FloatKind.f64.format.order x x != some .eq) = isN x := Fl.self_nan x
  by_cases h : isN x = true
  · have H : Hid (negW x = nanB) := Lib.hid (by simp [negW, h])
    rw [h] at h0
    clear h
    go_enter Try.func23, Try.ntmps23
    go_wp2
    go_ret
    exact ⟨by rw [H.out]; rfl, 0, rfl⟩
  · have h : isN x = false := by simpa using h
    have H : Hid (negW x = opp x) := Lib.hid (by simp [negW, h])
    rw [h] at h0
    clear h
    go_enter Try.func23, Try.ntmps23
    go_wp2
    go_ret
    exact ⟨by rw [H.out]; exact ret_int (xor_opp x HX.out), 0, rfl⟩

theorem u64_of_wf {a : Int} (h : (Lit.int .u64 a).wf = true) : ∃ n : Nat, a = n ∧ n < 18446744073709551616 := by
  have hb : 0 ≤ a ∧ a < 18446744073709551616 := by
    simp only [Lit.wf, IntKind.min, IntKind.max, IntKind.signed, IntKind.bits] at h
    simp at h
    omega
  exact ⟨a.toNat, by omega, by omega⟩
theorem numFloats_walk (x y : Nat) (hx : x < 18446744073709551616) (w : World) : Calls Try.prog 6 #[.int .u64 (x : Int), .int .u64 (y : Int)] w fun e w' => e = .returned (.bool true) ∧ Grown w w' := by
  have HX := Lib.hid hx
  clear hx
  go_enter Try.func6, Try.ntmps6
  go_wp2_with (first
    | (go_at_call 13; refine (counts_any _).mono ?_; rintro e w' ⟨rfl, rfl⟩)
    | (go_at_call 22; refine (plus_any _ _ _).mono ?_; rintro e w' ⟨rfl, n, rfl⟩)
    | (go_at_call 24; refine (minus_any _ _ _).mono ?_; rintro e w' ⟨rfl, n, rfl⟩)
    | (go_at_call 25; refine (times_any _ _ _).mono ?_; rintro e w' ⟨rfl, n, rfl⟩)
    | (go_at_call 26; refine (over_any _ _ _).mono ?_; rintro e w' ⟨rfl, n, rfl⟩)
    | (go_at_call 27; refine (root_any _ _).mono ?_; rintro e w' ⟨rfl, n, rfl⟩)
    | (go_at_call 28; refine (neg_any _ HX.out _).mono ?_; rintro e w' ⟨rfl, rfl⟩)
    | (go_at_call 30; refine (go_any _ _).mono ?_; rintro e w' ⟨rfl, rfl⟩)
    | (go_at_call 29; refine (of_any _ _).mono ?_; rintro e w' ⟨rfl, rfl⟩)
    | (go_at_call 31; refine (refCanon_any _ HX.out _).mono ?_; rintro e w' ⟨rfl, rfl⟩)
    | (go_at_call 23; first
        | (with_reducible refine (make0_any _ _ _).mono ?_; rintro e w' ⟨rfl, n, rfl⟩)
        | (with_reducible refine (make1_any _ _ _).mono ?_; rintro e w' ⟨rfl, n, rfl⟩)
        | (with_reducible refine (make2_any _ _ _).mono ?_; rintro e w' ⟨rfl, n, rfl⟩)
        | (with_reducible refine (make3_any _ _ _).mono ?_; rintro e w' ⟨rfl, n, rfl⟩)
        | (with_reducible refine (make4_any _ _ _).mono ?_; rintro e w' ⟨rfl, n, rfl⟩)
        | (with_reducible refine (make5_any _ _ HX.out _).mono ?_; rintro e w' ⟨rfl, n, rfl⟩)))
  go_ret
  exact ⟨rfl, grown_drewN _ _⟩
end Go.Proofs.Ytodpglladcblhaa
