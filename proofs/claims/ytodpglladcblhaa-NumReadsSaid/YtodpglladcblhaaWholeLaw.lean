/- Contracts of Whole and OfInt; the walk of the law NumWholes. No condition but that words are words. -/
import Derived.Test.YtodpglladcblhaaWhole
namespace Go.Proofs.Ytodpglladcblhaa
open Go.ChangeShapes Go.WideShapes Go.ChangeAt Go.RowKit

theorem inR_rung (x : Nat) (hx : x < 18446744073709551616) (h : inR x = true) : Fl.rung x ≤ 4886405595696988160 := by
  rw [inR_eq x hx, Bool.or_eq_true, decide_eq_true_iff, decide_eq_true_iff] at h
  have hf := frac_le x
  rcases h with h | h
  · rw [rung_is x hx]; omega
  · rw [h]; decide
theorem wn_le (x : Nat) (hx : x < 18446744073709551616) (h : inR x = true) : wn x ≤ 4611686018427387904 := by
  have e : expo 4886405595696988160 = 1085 := by decide
  have f : frac 4886405595696988160 = 0 := by decide
  have h1 : wn 4886405595696988160 = 4611686018427387904 := by rw [wn_big _ (by decide) (by rw [e]; decide), e, f]
  have r : Fl.rung 4886405595696988160 = 4886405595696988160 := by decide
  have h2 : wn x ≤ wn 4886405595696988160 := by
    unfold wn
    rw [r]
    exact Nat.div_le_div_right (Fl.val_le (inR_rung x hx h))
  omega
theorem conv_is (x : Nat) (hx : x < 18446744073709551616) (h : inR x = true) : floatToIntVal .f64 x .i64 = some (wv x) := by
  have hr := inR_rung x hx h
  have hl := wn_le x hx h
  unfold floatToIntVal
  rw [show (FloatKind.f64.decode x).toInt .zero = some (wv x) from Fl.toInt_finite x (by omega)]
  have hb : IntKind.i64.min ≤ wv x ∧ wv x ≤ IntKind.i64.max := by
    have e1 : IntKind.i64.min = -9223372036854775808 := by decide
    have e2 : IntKind.i64.max = 9223372036854775807 := by decide
    rw [e1, e2]
    unfold wv Fl.sg
    split <;> omega
  simp only [if_pos hb]

theorem whole_of (x : Nat) (w : World) (a b c : Bool) (ha : (FloatKind.f64.format.order x 14109777632551763968 == some .gt) = a) (hb : (FloatKind.f64.format.order x 14109777632551763968 == some .eq) = b) (hc : (FloatKind.f64.format.order x 4886405595696988160 == some .lt) = c)
    (hv : ((a || b) && c) = true → floatToIntVal .f64 x .i64 = some (wv x)) :
    Calls Try.prog 37 #[.int .u64 (x : Int)] w fun e w' => e = .returned (.tuple #[.int .i64 (if ((a || b) && c) = true then wv x else 0), .int .i64 (if ((a || b) && c) = true then 0 else 1)]) ∧ w = w' := by
  have hu : (Try.prog.underlying 38).isSome = true := by rw [Try.underlying38]; rfl
  have hcv : ((a || b) && c) = true → (convert 38 3 (.float .f64 x)).run Try.prog w = .ok (.int .i64 (wv x)) w := fun h => run_convert_float_int w 38 3 .f64 .i64 x (wv x) hu Try.underlying3 (hv h)
  clear hv hu
  cases a <;> cases b <;> cases c
  all_goals simp only [Bool.or_true, Bool.or_false, Bool.and_true, Bool.and_false, if_true, if_false, Bool.false_eq_true, false_implies, true_implies] at hcv ⊢
  all_goals
    go_enter Try.func37, Try.ntmps37
    go_wp2_with (go_at_call 30; refine (go_any _ _).mono ?_; rintro e w' ⟨rfl, rfl⟩)
    go_ret2
    exact ⟨rfl, rfl⟩
theorem whole_ok (x : Nat) (hx : x < 18446744073709551616) (h : inR x = true) (w : World) : Calls Try.prog 37 #[.int .u64 (x : Int)] w fun e w' => e = .returned (.tuple #[.int .i64 (wv x), .int .i64 0]) ∧ w = w' := by
  refine (whole_of x w _ _ _ rfl rfl rfl (fun _ => conv_is x hx h)).mono ?_
  rintro e w' ⟨rfl, rfl⟩
  have h' : ((FloatKind.f64.format.order x 14109777632551763968 == some .gt || FloatKind.f64.format.order x 14109777632551763968 == some .eq) && FloatKind.f64.format.order x 4886405595696988160 == some .lt) = true := h
  rw [if_pos h', if_pos h']
  exact ⟨rfl, rfl⟩
theorem whole_no (x : Nat) (h : inR x = false) (w : World) : Calls Try.prog 37 #[.int .u64 (x : Int)] w fun e w' => e = .returned (.tuple #[.int .i64 0, .int .i64 1]) ∧ w = w' := by
  have h' : ¬ ((FloatKind.f64.format.order x 14109777632551763968 == some .gt || FloatKind.f64.format.order x 14109777632551763968 == some .eq) && FloatKind.f64.format.order x 4886405595696988160 == some .lt) = true := by
    have h'' : ((FloatKind.f64.format.order x 14109777632551763968 == some .gt || FloatKind.f64.format.order x 14109777632551763968 == some .eq) && FloatKind.f64.format.order x 4886405595696988160 == some .lt) = false := h
    rw [h'']; decide
  refine (whole_of x w _ _ _ rfl rfl rfl (fun hh => absurd hh h')).mono ?_
  rintro e w' ⟨rfl, rfl⟩
  rw [if_neg h', if_neg h']
  exact ⟨rfl, rfl⟩

/-- an integer's float -/
def fz (n : Int) : Nat := floatOfInt .f64 n
theorem ofInt_any (n : Int) (w : World) : Calls Try.prog 39 #[.int .i64 n] w fun e w' => e = .returned (.int .u64 (canon (fz (w63 n)) : Nat)) ∧ w = w' := by
  have hu : (Try.prog.underlying 3).isSome = true := by rw [Try.underlying3]; rfl
  have hcv : (convert 3 38 (.int .i64 (w63 n))).run Try.prog w = .ok (.float .f64 (fz (w63 n))) w := run_convert_int_float w 3 38 .i64 .f64 (w63 n) hu Try.underlying38
  clear hu
  go_enter Try.func39, Try.ntmps39
  go_wp2_with (first
    | (go_at_call 12; refine (wrap_any _ _).mono ?_; rintro e w' ⟨rfl, rfl⟩)
    | (go_at_call 29; refine (of_any _ _).mono ?_; rintro e w' ⟨rfl, rfl⟩))
  go_ret
  exact ⟨rfl, rfl⟩
theorem fz_back (n : Int) (h1 : -9007199254740992 ≤ n) (h2 : n ≤ 9007199254740992) : canon (fz n) = fz n ∧ fz n < 18446744073709551616 ∧ inR (fz n) = true ∧ wv (fz n) = n := by
  obtain ⟨m, e, a1, a2, _, a4, a5, a6⟩ := Fl.int_canon n.natAbs (by omega)
  have hz : fz n = Fl.D.word (decide (n < 0)) (e * 4503599627370496 + m) := a6 _
  obtain ⟨b1, b2, b3⟩ := Fl.word_rung (decide (n < 0)) (e * 4503599627370496 + m) (by omega)
  rw [← hz] at b1 b2 b3
  have c0 : isN (fz n) = false := by unfold isN; rw [b1]; exact decide_eq_false (by omega)
  refine ⟨isN_false c0, b3, ?_, ?_⟩
  · rw [inR_eq _ b3]
    have : expo (fz n) ≤ 1084 := by
      have r := rung_is (fz n) b3
      have := frac_le (fz n)
      omega
    simp [this]
  · have hw : wn (fz n) = n.natAbs := by
      unfold wn Fl.val
      obtain ⟨d1, d2⟩ := Fl.canon_mag m e a1 a2
      rw [b1, d1, d2, a5, Nat.mul_div_cancel _ Fl.U_pos]
    unfold wv Fl.sg
    rw [hw, b2]
    by_cases h : n < 0
    · rw [decide_eq_true h]; simp; omega
    · rw [decide_eq_false h]; simp; omega

theorem whole_both (x : Nat) (hx : x < 18446744073709551616) : ∃ A B : Int, (B = 0 ∨ B = 1) ∧
    (∀ w, Calls Try.prog 37 #[.int .u64 (x : Int)] w fun e w' => e = .returned (.tuple #[.int .i64 A, .int .i64 B]) ∧ w = w') ∧
    (∀ w, Calls Try.prog 38 #[.int .u64 (x : Int)] w fun e w' => e = .returned (.tuple #[.int .i64 A, .int .i64 B]) ∧ w = w') := by
  cases h : inR x
  · exact ⟨0, 1, .inr rfl, whole_no x h, refWhole_no x hx h⟩
  · exact ⟨wv x, 0, .inl rfl, whole_ok x hx h, refWhole_ok x hx h⟩
theorem whole_again (n : Int) (h1 : -9007199254740992 ≤ n) (h2 : n ≤ 9007199254740992) (w : World) : Calls Try.prog 37 #[.int .u64 ((canon (fz n) : Nat) : Int)] w fun e w' => e = .returned (.tuple #[.int .i64 n, .int .i64 0]) ∧ w = w' := by
  obtain ⟨a, b, c, d⟩ := fz_back n h1 h2
  have := whole_ok (fz n) b c w
  rw [d] at this
  rw [a]
  exact this

theorem numWholes_walk (x : Nat) (n : Int) (hx : x < 18446744073709551616) (w : World) : Calls Try.prog 8 #[.int .u64 (x : Int), .int .i64 n] w fun e w' => e = .returned (.bool true) ∧ Grown w w' := by
  have hu : (Try.prog.underlying 3).isSome = true := by rw [Try.underlying3]; rfl
  have hcv : (convert 3 38 (.int .i64 (w63 n))).run Try.prog w = .ok (.float .f64 (fz (w63 n))) w := run_convert_int_float w 3 38 .i64 .f64 (w63 n) hu Try.underlying38
  clear hu
  obtain ⟨A, B, hB, h1, h2⟩ := whole_both x hx
  have HQ := Lib.hid (whole_again (w63 n))
  have H1 := Lib.hid h1
  have H2 := Lib.hid h2
  clear h1 h2 hx
  by_cases c1 : 9007199254740992 < w63 n
  case' neg => by_cases c2 : w63 n < -9007199254740992
  all_goals
    rcases hB with rfl | rfl
  all_goals
    go_enter Try.func8, Try.ntmps8
    go_wp2_with (first
      | (go_at_call 13; refine (counts_any _).mono ?_; rintro e w' ⟨rfl, rfl⟩)
      | (go_at_call 37; first | (with_reducible refine (H1.out _).mono ?_; rintro e w' ⟨rfl, rfl⟩) | (with_reducible refine (HQ.out (by omega) (by omega) _).mono ?_; rintro e w' ⟨rfl, rfl⟩))
      | (go_at_call 38; refine (H2.out _).mono ?_; rintro e w' ⟨rfl, rfl⟩)
      | (go_at_call 12; refine (wrap_any _ _).mono ?_; rintro e w' ⟨rfl, rfl⟩)
      | (go_at_call 39; refine (ofInt_any _ _).mono ?_; rintro e w' ⟨rfl, rfl⟩)
      | (go_at_call 40; refine (refOf_any _ _).mono ?_; rintro e w' ⟨rfl, rfl⟩))
    go_ret
    exact ⟨rfl, Grown.refl _⟩
end Go.Proofs.Ytodpglladcblhaa
