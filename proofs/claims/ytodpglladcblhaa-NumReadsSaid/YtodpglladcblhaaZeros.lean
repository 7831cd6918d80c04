/- The walk of the law NumZeros. No condition but that the word is one. -/
import Derived.Test.YtodpglladcblhaaAlgebra
namespace Go.Proofs.Ytodpglladcblhaa
open Go.ChangeShapes Go.WideShapes Go.ChangeAt Go.RowKit

theorem zero_is : canon (fz (w63 0)) = 0 := by decide +kernel
theorem one_word : canon (fz (w63 1)) = 4607182418800017408 := by decide +kernel
theorem inf_is : fl (floatBits .quo .f64 4607182418800017408 0) = 9218868437227405312 := by decide +kernel
theorem nz_is : negW 0 = 9223372036854775808 := by decide +kernel
theorem ninf_is : negW 9218868437227405312 = 18442240474082181120 := by decide +kernel
theorem root_is : fl (FloatKind.f64.format.sqrt 9223372036854775808) = 9223372036854775808 := by decide +kernel
theorem sum_is : fl (floatBits .add .f64 0 9223372036854775808) = 0 := by decide +kernel
theorem infinf_is : fl (floatBits .sub .f64 9218868437227405312 9218868437227405312) = nanB := by decide +kernel
theorem zz_is : fl (floatBits .quo .f64 0 0) = nanB := by decide +kernel
theorem ninf_back : negW 18442240474082181120 = 9218868437227405312 := by decide +kernel

theorem quo_is (x y : Nat) : floatBits .quo .f64 x y = ((Fl.D.read x).quotient (Fl.D.fractionBits + 2) (Fl.D.read y)).map Fl.D.write := rfl
theorem read_zero : Fl.D.read 0 = .number false 0 (-1074) := by decide +kernel
theorem read_nz : Fl.D.read 9223372036854775808 = .number true 0 (-1074) := by decide +kernel
theorem read_infW : Fl.D.read 9218868437227405312 = .infinity false := by decide +kernel
theorem canon_word (s : Bool) : canon (Fl.D.word s 9218868437227405312) = Fl.D.word s 9218868437227405312 := by cases s <;> decide +kernel
theorem canon_zero (s : Bool) : canon (Fl.D.word s 0) = Fl.D.word s 0 := by cases s <;> decide +kernel

theorem mag_pos (r : Nat) (h : r ≠ 0) : Fl.mag r ≠ 0 := by unfold Fl.mag; split <;> omega
/-- x over a nought -/
theorem over_zero (x : Nat) (h : isN x = false) (h0 : Fl.rung x ≠ 0) : fl (floatBits .quo .f64 x 0) = Fl.D.word (Fl.neg x) 9218868437227405312 ∧ fl (floatBits .quo .f64 x 9223372036854775808) = Fl.D.word (!Fl.neg x) 9218868437227405312 := by
  have hle := isN_le h
  rw [quo_is, quo_is, read_zero, read_nz]
  rcases Nat.lt_or_eq_of_le hle with hl | he
  · rw [Fl.read_finite x hl]
    have e1 : ∀ t : Bool, (Ieee.Datum.number (Fl.neg x) (Fl.mag (Fl.rung x)) (-1074 + (Fl.ex (Fl.rung x) : Int))).quotient (Fl.D.fractionBits + 2) (.number t 0 (-1074)) = some (.infinity (Fl.neg x ^^ t)) := fun t => by
      simp only [Ieee.Datum.quotient, if_true, if_neg (mag_pos _ h0)]
    rw [e1, e1]
    refine ⟨?_, ?_⟩
    · rw [Bool.xor_false]; exact canon_word _
    · rw [Bool.xor_true]; exact canon_word _
  · rw [Fl.read_inf x he]
    have e1 : ∀ t : Bool, (Ieee.Datum.infinity (Fl.neg x)).quotient (Fl.D.fractionBits + 2) (.number t 0 (-1074)) = some (.infinity (Fl.neg x ^^ t)) := fun t => rfl
    rw [e1, e1]
    refine ⟨?_, ?_⟩
    · rw [Bool.xor_false]; exact canon_word _
    · rw [Bool.xor_true]; exact canon_word _
theorem over_none (x : Nat) (h : isN x = true ∨ Fl.rung x = 0) : fl (floatBits .quo .f64 x 0) = nanB := by
  rcases h with h | h
  · rw [div_nan x 0 (.inl h)]; rfl
  · rw [quo_is, read_zero, Fl.read_finite x (by rw [h]; decide), h]; rfl
theorem over_inf (x : Nat) (h : Fl.rung x < 9218868437227405312) : sameB (fl (floatBits .quo .f64 x 9218868437227405312)) 0 = true := by
  rw [quo_is, read_infW, Fl.read_finite x h]
  have e1 : (Ieee.Datum.number (Fl.neg x) (Fl.mag (Fl.rung x)) (-1074 + (Fl.ex (Fl.rung x) : Int))).quotient (Fl.D.fractionBits + 2) (.infinity false) = some (.number (Fl.neg x ^^ false) 0 0) := rfl
  rw [e1]
  have e2 : fl (Option.map Fl.D.write (some (.number (Fl.neg x ^^ false) 0 0))) = Fl.D.word (Fl.neg x ^^ false) 0 := by
    show canon (Fl.D.nearest (Fl.neg x ^^ false) 0 0) = _
    rw [Fl.nearest_zero, canon_zero]
  rw [e2]
  cases Fl.neg x <;> decide +kernel
theorem sub_self (x : Nat) (h : Fl.rung x < 9218868437227405312) : fl (floatBits .sub .f64 x x) = 0 := by
  show fl (((Fl.D.read x).sum (Fl.D.read x).opposite).map Fl.D.write) = 0
  rw [Fl.read_finite x h]
  generalize Fl.mag (Fl.rung x) = m
  generalize -1074 + (Fl.ex (Fl.rung x) : Int) = i
  have e : (Ieee.Datum.number (Fl.neg x) m i).sum (Ieee.Datum.number (Fl.neg x) m i).opposite = some (.number false 0 i) := by
    simp only [Ieee.Datum.opposite, Ieee.Datum.sum, Int.min_self, Int.sub_self]
    have t : Ieee.signed (Fl.neg x) m (0 : Int).toNat + Ieee.signed (!Fl.neg x) m (0 : Int).toNat = 0 := by
      rw [Fl.signed_eq, Fl.signed_eq]; unfold Fl.sg; cases Fl.neg x <;> simp <;> omega
    rw [t]
    cases Fl.neg x <;> rfl
  rw [e]
  show canon (Fl.D.nearest false 0 i) = 0
  rw [Fl.nearest_zero]
  decide +kernel

theorem zeros_core (x Z O I N M : Nat) (a b s f : Bool) (hx : x < 18446744073709551616) (w : World)
    (hZ : canon (fz (w63 0)) = Z) (hO : canon (fz (w63 1)) = O) (hI : fl (floatBits .quo .f64 O Z) = I) (hN : negW Z = N) (hM : negW I = M) (hM2 : negW M = I)
    (lZ : Z < 18446744073709551616) (lI : I < 18446744073709551616) (lM : M < 18446744073709551616)
    (q1 : fl (FloatKind.f64.format.sqrt N) = N) (q2 : fl (floatBits .add .f64 Z N) = Z) (q3 : (((fl (floatBits .sub .f64 I I) : Nat) : Int) != 9221120237041090560) = false) (q4 : (((fl (floatBits .quo .f64 Z Z) : Nat) : Int) != 9221120237041090560) = false)
    (ha : isN x = a) (hb : (IntKind.u64.wrap ((x : Int) * 2) == 0) = b) (hs : ((x : Int) / 9223372036854775808 == 1) = s) (hf : (IntKind.u64.wrap ((x : Int) * 2) / 9007199254740992 != 2047) = f)
    (r0 : (a || b) = true → (((fl (floatBits .quo .f64 x Z) : Nat) : Int) == 9221120237041090560) = true)
    (r1 : (a || b) = false → fl (floatBits .quo .f64 x Z) = if s then M else I) (r2 : (a || b) = false → fl (floatBits .quo .f64 x N) = if s then I else M)
    (r3 : (a || b) = false → f = true → sameB (fl (floatBits .quo .f64 x I)) Z = true) (r4 : (a || b) = false → f = true → fl (floatBits .sub .f64 x x) = Z) :
    Calls Try.prog 11 #[.int .u64 (x : Int)] w fun e w' => e = .returned (.bool true) ∧ Grown w w' := by
  have HX := Lib.hid hx
  have HZ := Lib.hid lZ
  have HI := Lib.hid lI
  have HM := Lib.hid lM
  clear hx lZ lI lM
  cases a
  case' false => cases b
  case' false.false => cases s <;> cases f
  case' true => have r0 := r0 rfl
  case' false.true => have r0 := r0 rfl
  case' false.false.true.true => have r1 := r1 rfl; have r2 := r2 rfl; have r3 := r3 rfl rfl; have r4 := r4 rfl rfl
  case' false.false.false.true => have r1 := r1 rfl; have r2 := r2 rfl; have r3 := r3 rfl rfl; have r4 := r4 rfl rfl
  case' false.false.true.false => have r1 := r1 rfl; have r2 := r2 rfl; clear r3 r4
  case' false.false.false.false => have r1 := r1 rfl; have r2 := r2 rfl; clear r3 r4
  all_goals
    first | clear r1 r2 r3 r4 | (simp only [if_true, if_false, Bool.false_eq_true] at r1 r2; clear r0)
    go_enter Try.func11, Try.ntmps11
    go_wp2_with (first
      | (go_at_call 13; refine (counts_any _).mono ?_; rintro e w' ⟨rfl, rfl⟩)
      | (go_at_call 22; refine (plus_any _ _ _).mono ?_; rintro e w' ⟨rfl, n, rfl⟩)
      | (go_at_call 24; refine (minus_any _ _ _).mono ?_; rintro e w' ⟨rfl, n, rfl⟩)
      | (go_at_call 26; refine (over_any _ _ _).mono ?_; rintro e w' ⟨rfl, n, rfl⟩)
      | (go_at_call 27; refine (root_any _ _).mono ?_; rintro e w' ⟨rfl, n, rfl⟩)
      | (go_at_call 28; first | (with_reducible refine (neg_any Z HZ.out _).mono ?_; rintro e w' ⟨rfl, rfl⟩) | (with_reducible refine (neg_any I HI.out _).mono ?_; rintro e w' ⟨rfl, rfl⟩) | (with_reducible refine (neg_any M HM.out _).mono ?_; rintro e w' ⟨rfl, rfl⟩))
      | (go_at_call 39; refine (ofInt_any _ _).mono ?_; rintro e w' ⟨rfl, rfl⟩)
      | (go_at_call 36; refine (same_any _ _ _).mono ?_; rintro e w' ⟨rfl, rfl⟩)
      | (go_at_call 34; refine (refIsNan_any x HX.out _).mono ?_; rintro e w' ⟨rfl, rfl⟩))
    go_ret
    exact ⟨rfl, grown_drewN _ _⟩

theorem numZeros_walk (x : Nat) (hx : x < 18446744073709551616) (w : World) : Calls Try.prog 11 #[.int .u64 (x : Int)] w fun e w' => e = .returned (.bool true) ∧ Grown w w' := by
  have e1 : Fl.rung x = x % 9223372036854775808 := rfl
  have hz : (IntKind.u64.wrap ((x : Int) * 2) == 0) = true ↔ Fl.rung x = 0 := by rw [wrap_zb]; unfold zb; rw [decide_eq_true_iff]
  have hab : (isN x || (IntKind.u64.wrap ((x : Int) * 2) == 0)) = false → isN x = false ∧ Fl.rung x ≠ 0 := fun h => by
    rw [Bool.or_eq_false_iff] at h
    exact ⟨h.1, fun h' => by rw [hz.2 h'] at h; exact absurd h.2 (by decide)⟩
  have hw : ∀ s : Bool, Fl.D.word s 9218868437227405312 = if s then 18442240474082181120 else 9218868437227405312 := by intro s; cases s <;> decide +kernel
  have hn : Fl.neg x = ((x : Int) / 9223372036854775808 == 1) := by
    cases h : ((x : Int) / 9223372036854775808 == 1)
    · exact neg_not h hx
    · exact neg_yes hx h
  have hfin : isN x = false → (IntKind.u64.wrap ((x : Int) * 2) / 9007199254740992 != 2047) = true → Fl.rung x < 9218868437227405312 := fun h g => by
    have hle := isN_le h
    rw [bne_iff_ne, IntKind.wrap_u64] at g
    omega
  refine zeros_core x 0 4607182418800017408 9218868437227405312 9223372036854775808 18442240474082181120 _ _ _ _ hx w zero_is one_word inf_is nz_is ninf_is ninf_back (by decide) (by decide) (by decide) root_is sum_is ?_ ?_ rfl rfl rfl rfl ?_ ?_ ?_ ?_ ?_
  · rw [infinf_is]; rfl
  · rw [zz_is]; rfl
  · intro h
    rw [over_none x (by rw [Bool.or_eq_true, hz] at h; exact h)]; rfl
  · intro h
    obtain ⟨h1, h2⟩ := hab h
    rw [(over_zero x h1 h2).1, hw, hn]
  · intro h
    obtain ⟨h1, h2⟩ := hab h
    rw [(over_zero x h1 h2).2, hw, hn]
    cases ((x : Int) / 9223372036854775808 == 1) <;> rfl
  · intro h g
    exact over_inf x (hfin (hab h).1 g)
  · intro h g
    exact sub_self x (hfin (hab h).1 g)
end Go.Proofs.Ytodpglladcblhaa
