/- The walk of the law NumDivs: it returns true; it makes nothing. No condition but that the arguments are int's. -/
import Derived.Test.YtodpglladcblhaaInts
namespace Go.Proofs.Ytodpglladcblhaa
open Go.ChangeShapes Go.WideShapes Go.ChangeAt Go.RowKit

theorem quiet_w {P : Program} {f : FuncId} {args : Array Value} {w : World} {n : Nat} {v : Value}
    (h : Calls P f args (w.drewN n) fun e w' => e = .returned v ∧ w.drewN n = w') : Calls P f args (w.drewN n) fun e w'' => e = .returned v ∧ ∃ m, w'' = w.drewN m :=
  Calls.quiet_of_same (h.mono fun _ _ ⟨he, hw⟩ => ⟨he, hw.symm⟩)

theorem refDiv_no (a b : Int) (w : World) (h : w63 b = 0) : Calls Try.prog 21 #[.int .i64 a, .int .i64 b] w fun e w' => e = .returned (.tuple #[.int .i64 0, .int .i64 0, .int .i64 1]) ∧ ∃ n, w' = w.drewN n := by
  have h0 : (w63 b == 0) = true := by simpa using h
  clear h
  go_enter Try.func21, Try.ntmps21
  go_wp2_with (go_at_call 14; refine (refWrap_any _ _).mono ?_; rintro e w' ⟨rfl, rfl⟩)
  go_ret3
  exact ⟨rfl, 0, rfl⟩
theorem refDiv_ok (a b : Int) (w : World) (h : w63 b ≠ 0) : Calls Try.prog 21 #[.int .i64 a, .int .i64 b] w fun e w' => e = .returned (.tuple #[.int .i64 (quo63 a b), .int .i64 (rem63 a b), .int .i64 0]) ∧ ∃ n, w' = w.drewN n := by
  have h0 : (w63 b == 0) = false := by simpa using h
  have h1 := w63_lo a
  have h2 := w63_hi a
  have h3 := w63_lo b
  have h4 := w63_hi b
  go_enter Try.func21, Try.ntmps21
  go_wp2_with (go_at_call 14; refine (refWrap_any _ _).mono ?_; rintro e w' ⟨rfl, rfl⟩)
  go_quiet ((go_at_call 14; exact quiet_w (refWrap_any _ _)))
  go_wp2
  go_ret3
  exact ⟨ret_int3 (by first | exact quo_wrap _ _ | rfl) rfl rfl, _, rfl⟩

theorem quo_rem (a b : Int) : w63 (w63 (quo63 a b * b) + rem63 a b) = w63 a := by
  unfold quo63 rem63
  rw [w63_add_l]
  have e : w63 (w63 ((w63 a).tdiv (w63 b)) * b + (w63 a).tmod (w63 b)) = w63 (w63 (w63 ((w63 a).tdiv (w63 b)) * b) + (w63 a).tmod (w63 b)) := (w63_add_l _ _).symm
  rw [e, w63_mul_l]
  have e2 : w63 ((w63 a).tdiv (w63 b) * b) = w63 ((w63 a).tdiv (w63 b) * w63 b) := (w63_mul_r _ _).symm
  rw [e2, w63_add_l, Int.mul_comm, Int.mul_tdiv_add_tmod, w63_w63]

theorem grown_drewN (w : World) (n : Nat) : Grown w (w.drewN n) := Grown.refl w

theorem numDivs_walk (a b : Int) (w : World) : Calls Try.prog 4 #[.int .i64 a, .int .i64 b] w fun e w' => e = .returned (.bool true) ∧ Grown w w' := by
  by_cases h : w63 b = 0
  · go_enter Try.func4, Try.ntmps4
    have H := Lib.hid h
    clear h
    go_wp2_with (first
      | (go_at_call 19; refine (div_no _ _ _ H.out).mono ?_; rintro e w' ⟨rfl, rfl⟩)
      | (go_at_call 20; refine (rem_no _ _ _ H.out).mono ?_; rintro e w' ⟨rfl, rfl⟩)
      | (go_at_call 21; refine (refDiv_no _ _ _ H.out).mono ?_; rintro e w' ⟨rfl, n, rfl⟩)
      | (go_at_call 13; refine (counts_any _).mono ?_; rintro e w' ⟨rfl, rfl⟩))
    go_ret
    exact ⟨rfl, grown_drewN _ _⟩
  · have H := Lib.hid h
    clear h
    have e1 := quo_rem a b
    go_enter Try.func4, Try.ntmps4
    go_wp2_with (first
      | (go_at_call 19; refine (div_ok _ _ _ H.out).mono ?_; rintro e w' ⟨rfl, rfl⟩)
      | (go_at_call 20; refine (rem_ok _ _ _ H.out).mono ?_; rintro e w' ⟨rfl, rfl⟩)
      | (go_at_call 21; refine (refDiv_ok _ _ _ H.out).mono ?_; rintro e w' ⟨rfl, n, rfl⟩)
      | (go_at_call 12; refine (wrap_any _ _).mono ?_; rintro e w' ⟨rfl, rfl⟩)
      | (go_at_call 15; refine (add_any _ _ _).mono ?_; rintro e w' ⟨rfl, rfl⟩)
      | (go_at_call 17; refine (mul_any _ _ _).mono ?_; rintro e w' ⟨rfl, rfl⟩)
      | (go_at_call 13; refine (counts_any _).mono ?_; rintro e w' ⟨rfl, rfl⟩))
    go_ret
    exact ⟨rfl, grown_drewN _ _⟩
end Go.Proofs.Ytodpglladcblhaa
