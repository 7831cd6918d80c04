/- Contracts of Whole, OfInt and of the document's Whole; the walk of the law NumWholes. No condition but that words are words. -/
import Derived.Test.YtodpglladcblhaaOrdLaw
import Derived.Test.YtodpglladcblhaaIeeeMore
namespace Go.Proofs.Ytodpglladcblhaa
open Go.ChangeShapes Go.WideShapes Go.ChangeAt Go.RowKit

/-- a float's whole number, cut towards nought -/
noncomputable def wn (x : Nat) : Nat := Fl.val (Fl.rung x) / Fl.U
noncomputable def wv (x : Nat) : Int := Fl.sg (Fl.neg x) (wn x)
def geB (x : Nat) : Bool := FloatKind.f64.format.order x 14109777632551763968 == some .gt || FloatKind.f64.format.order x 14109777632551763968 == some .eq
def ltB (x : Nat) : Bool := FloatKind.f64.format.order x 4886405595696988160 == some .lt
/-- does an integer hold it? -/
def inR (x : Nat) : Bool := geB x && ltB x

def expo (x : Nat) : Nat := x / 4503599627370496 % 2048
def frac (x : Nat) : Nat := x % 4503599627370496
theorem expo_is (x : Nat) (hx : x < 18446744073709551616) : wrap64 (bits .and .u64 ((x : Int) / 4503599627370496) 2047) = (expo x : Int) := by
  have e : bits .and .u64 ((x / 4503599627370496 : Nat) : Int) ((2047 : Nat) : Int) = _ := u64_and_nat (x / 4503599627370496) 2047 (by omega) (by decide)
  rw [nat_mask11] at e
  have e' : bits .and .u64 ((x : Int) / 4503599627370496) 2047 = ((expo x : Nat) : Int) := e
  rw [e']
  unfold wrap64 expo
  omega
theorem frac_is (x : Nat) (hx : x < 18446744073709551616) : wrap64 (bits .and .u64 (x : Int) 4503599627370495) = (frac x : Int) := by
  have e : bits .and .u64 (x : Int) ((4503599627370495 : Nat) : Int) = _ := u64_and_nat x 4503599627370495 hx (by decide)
  rw [show x &&& 4503599627370495 = x % 4503599627370496 from Nat.and_two_pow_sub_one_eq_mod x 52] at e
  have e' : bits .and .u64 (x : Int) 4503599627370495 = ((frac x : Nat) : Int) := e
  rw [e']
  unfold wrap64 frac
  omega
theorem rung_is (x : Nat) (_hx : x < 18446744073709551616) : Fl.rung x = expo x * 4503599627370496 + frac x := by
  unfold Fl.rung expo frac; omega
theorem frac_le (x : Nat) : frac x ≤ 4503599627370495 := by unfold frac; omega
theorem expo_le (x : Nat) : expo x ≤ 2047 := by unfold expo; omega
theorem neg_yes {x : Nat} (_hx : x < 18446744073709551616) (h : ((x : Int) / 9223372036854775808 == 1) = true) : Fl.neg x = true := by
  rw [beq_iff_eq] at h
  unfold Fl.neg
  rw [beq_iff_eq]; omega
theorem neg_not {x : Nat} (h : ((x : Int) / 9223372036854775808 == 1) = false) (hx : x < 18446744073709551616) : Fl.neg x = false := by
  rw [beq_eq_false_iff_ne] at h
  unfold Fl.neg
  rw [beq_eq_false_iff_ne]; omega
theorem val_is (x : Nat) (hx : x < 18446744073709551616) (h : 1 ≤ expo x) : Fl.val (Fl.rung x) = (4503599627370496 + frac x) * 2 ^ (expo x - 1) := by
  have hf := frac_le x
  obtain ⟨a, b⟩ := Fl.canon_mag (4503599627370496 + frac x) (expo x - 1) (by omega) (.inl (by omega))
  have e : Fl.rung x = (expo x - 1) * 4503599627370496 + (4503599627370496 + frac x) := by rw [rung_is x hx]; omega
  unfold Fl.val
  rw [e, a, b]
theorem wn_mid (x : Nat) (hx : x < 18446744073709551616) (h1 : 1023 ≤ expo x) (h2 : expo x ≤ 1075) : wn x = (frac x + 4503599627370496) / 2 ^ (1075 - expo x) := by
  unfold wn
  rw [val_is x hx (by omega), Fl.U_split (expo x - 1) (by omega), show 1074 - (expo x - 1) = 1075 - expo x by omega, Nat.mul_div_mul_right _ _ (Nat.two_pow_pos _), Nat.add_comm]
theorem wn_big (x : Nat) (hx : x < 18446744073709551616) (h1 : 1075 ≤ expo x) : wn x = (frac x + 4503599627370496) * 2 ^ (expo x - 1075) := by
  unfold wn
  rw [val_is x hx (by omega), Fl.U_more (expo x - 1) (by omega), show expo x - 1 - 1074 = expo x - 1075 by omega, ← Nat.mul_assoc, Nat.mul_div_cancel _ Fl.U_pos, Nat.add_comm]
theorem small_lt (m e t : Nat) (hm : m < 9007199254740992) (he : e ≤ t) : m * 2 ^ e < 9007199254740992 * 2 ^ t :=
  Nat.lt_of_le_of_lt (Nat.mul_le_mul_left _ (Nat.pow_le_pow_right (by decide) he)) (Nat.mul_lt_mul_of_pos_right hm (Nat.two_pow_pos t))
theorem wn_small (x : Nat) (hx : x < 18446744073709551616) (h1 : expo x < 1023) : wn x = 0 := by
  unfold wn
  refine Nat.div_eq_of_lt ?_
  have hm := Fl.mag_lt (Fl.rung x)
  have he : Fl.ex (Fl.rung x) ≤ 1021 := by
    have hf := frac_le x
    unfold Fl.ex; rw [rung_is x hx]; omega
  have hU := Fl.U_split 1021 (by omega)
  rw [show 1074 - 1021 = 53 by omega, show (2 : Nat) ^ 53 = 9007199254740992 by decide] at hU
  unfold Fl.val
  rw [hU]
  exact small_lt _ _ 1021 hm he

theorem cast_mid (E f : Nat) : ((f : Int) + 4503599627370496) / 2 ^ (1075 - E) = (((f + 4503599627370496) / 2 ^ (1075 - E) : Nat) : Int) := by
  rw [Int.natCast_ediv, Int.natCast_pow]; rfl
theorem mid_le (E f : Nat) (hf : f ≤ 4503599627370495) : (f + 4503599627370496) / 2 ^ (1075 - E) ≤ 9007199254740991 := Nat.le_trans (Nat.div_le_self _ _) (by omega)
theorem big_le (E f : Nat) (hf : f ≤ 4503599627370495) (hE : E ≤ 1084) : (f + 4503599627370496) * 2 ^ (E - 1075) ≤ 4611686018427387904 := by
  have h : 2 ^ (E - 1075) ≤ 2 ^ 9 := Nat.pow_le_pow_right (by decide) (by omega)
  have := Nat.mul_le_mul (show f + 4503599627370496 ≤ 9007199254740992 by omega) h
  exact Nat.le_trans this (by decide)
theorem cast_big (E f : Nat) : ((f : Int) + 4503599627370496) * 2 ^ (E - 1075) = (((f + 4503599627370496) * 2 ^ (E - 1075) : Nat) : Int) := by
  rw [Int.natCast_mul, Int.natCast_pow]; rfl

theorem wv_pos {x : Nat} (h : Fl.neg x = false) : wv x = (wn x : Int) := by unfold wv Fl.sg; rw [h]; rfl
theorem wv_neg {x : Nat} (h : Fl.neg x = true) : wv x = -(wn x : Int) := by unfold wv Fl.sg; rw [h]; rfl
theorem mid_pos (x : Nat) (hx : x < 18446744073709551616) (h1 : 1023 ≤ expo x) (h2 : expo x ≤ 1075) (h : ((x : Int) / 9223372036854775808 == 1) = false) : ((frac x : Int) + 4503599627370496) / 2 ^ (1075 - expo x) = wv x := by
  rw [wv_pos (neg_not h hx), wn_mid x hx h1 h2, cast_mid]
theorem mid_neg (x : Nat) (hx : x < 18446744073709551616) (h1 : 1023 ≤ expo x) (h2 : expo x ≤ 1075) (h : ((x : Int) / 9223372036854775808 == 1) = true) : wrap64 (-(((frac x : Int) + 4503599627370496) / 2 ^ (1075 - expo x))) = wv x := by
  have := mid_le (expo x) (frac x) (frac_le x)
  rw [wv_neg (neg_yes hx h), wn_mid x hx h1 h2, cast_mid]
  generalize (frac x + 4503599627370496) / 2 ^ (1075 - expo x) = q at *
  unfold wrap64; omega
theorem big_pos (x : Nat) (hx : x < 18446744073709551616) (h1 : 1076 ≤ expo x) (h2 : expo x ≤ 1084) (h : ((x : Int) / 9223372036854775808 == 1) = false) : wrap64 (((frac x : Int) + 4503599627370496) * 2 ^ (expo x - 1075)) = wv x := by
  have := big_le (expo x) (frac x) (frac_le x) h2
  rw [wv_pos (neg_not h hx), wn_big x hx (by omega), cast_big]
  generalize (frac x + 4503599627370496) * 2 ^ (expo x - 1075) = q at *
  unfold wrap64; omega
theorem big_neg (x : Nat) (hx : x < 18446744073709551616) (h1 : 1076 ≤ expo x) (h2 : expo x ≤ 1084) (h : ((x : Int) / 9223372036854775808 == 1) = true) : wrap64 (-wrap64 (((frac x : Int) + 4503599627370496) * 2 ^ (expo x - 1075))) = wv x := by
  have := big_le (expo x) (frac x) (frac_le x) h2
  rw [wv_neg (neg_yes hx h), wn_big x hx (by omega), cast_big]
  generalize (frac x + 4503599627370496) * 2 ^ (expo x - 1075) = q at *
  unfold wrap64; omega
theorem wv_small (x : Nat) (hx : x < 18446744073709551616) (h1 : expo x < 1023) : wv x = 0 := by
  unfold wv Fl.sg; rw [wn_small x hx h1]; simp
theorem wv_least : wv 14109777632551763968 = -4611686018427387904 := by
  have h : Fl.neg 14109777632551763968 = true := by decide
  have e : expo 14109777632551763968 = 1085 := by decide
  have f : frac 14109777632551763968 = 0 := by decide
  rw [wv_neg h, wn_big _ (by decide) (by rw [e]; decide), e, f]; rfl

/-- which floats are integers' -/
theorem inR_eq (x : Nat) (hx : x < 18446744073709551616) : inR x = (decide (expo x ≤ 1084) || decide (x = 14109777632551763968)) := by
  have hr := rung_is x hx
  have hf := frac_le x
  unfold inR geB ltB
  have nl : Fl.rung 14109777632551763968 = 4886405595696988160 := by decide
  have nm : Fl.rung 4886405595696988160 = 4886405595696988160 := by decide
  cases hn : isN x
  · have hle := isN_le hn
    rw [show FloatKind.f64.format.order x 14109777632551763968 = some (compare (Fl.srung x) (Fl.srung 14109777632551763968)) from Fl.order_not_nan x _ hle (by rw [nl]; decide),
      show FloatKind.f64.format.order x 4886405595696988160 = some (compare (Fl.srung x) (Fl.srung 4886405595696988160)) from Fl.order_not_nan x _ hle (by rw [nm]; decide), compare_lt, compare_eq]
    have sl : Fl.srung 14109777632551763968 = -4886405595696988160 := by rw [srung_is _ (by decide), nl]; decide
    have sm : Fl.srung 4886405595696988160 = 4886405595696988160 := by rw [srung_is _ (by decide), nm]; decide
    have gt : ∀ a b : Int, (some (compare a b) == some Ordering.gt) = decide (b < a) := by
      intro a b
      simp only [compare, compareOfLessAndEq]
      by_cases h : a < b
      · have : ¬ b < a := by omega
        simp [h, this]
      · by_cases e : a = b
        · subst e; simp
        · have : b < a := by omega
          simp [h, e, this]
    rw [gt, sl, sm, srung_is x hx, Bool.eq_iff_iff]
    simp only [Bool.or_eq_true, Bool.and_eq_true, decide_eq_true_eq]
    have e1 : Fl.rung x = x % 9223372036854775808 := rfl
    by_cases a : x < 9223372036854775808
    · rw [if_pos a]; omega
    · rw [if_neg a]; omega
  · have hlt := isN_lt hn
    rw [show FloatKind.f64.format.order x 14109777632551763968 = none from Fl.order_nan x _ (.inl hlt), show FloatKind.f64.format.order x 4886405595696988160 = none from Fl.order_nan x _ (.inl hlt)]
    have a : ¬ expo x ≤ 1084 := by omega
    have b : x ≠ 14109777632551763968 := by rintro rfl; rw [nl] at hlt; exact absurd hlt (by decide)
    simp [a, b]

set_option maxRecDepth 100000 in
theorem refWhole_ok (x : Nat) (hx : x < 18446744073709551616) (hr : inR x = true) (w : World) : Calls Try.prog 38 #[.int .u64 (x : Int)] w fun e w' => e = .returned (.tuple #[.int .i64 (wv x), .int .i64 0]) ∧ w = w' := by
  have hE := expo_is x hx
  have hf := frac_is x hx
  have h2 := frac_le x
  have H1 := Lib.hid (mid_pos x hx)
  have H2 := Lib.hid (mid_neg x hx)
  have H3 := Lib.hid (big_pos x hx)
  have H4 := Lib.hid (big_neg x hx)
  have H5 := Lib.hid (wv_small x hx)
  rw [inR_eq x hx, Bool.or_eq_true, decide_eq_true_iff, decide_eq_true_iff] at hr
  clear hx
  rcases hr with hr | he
  · generalize hE' : expo x = E at *
    generalize hf' : frac x = f at *
    clear hE' hf'
    by_cases c1 : E < 1023
    · go_enter Try.func38, Try.ntmps38
      go_wp2
      go_ret2
      exact ⟨ret_int2 (H5.out c1).symm rfl, rfl⟩
    · by_cases c2 : E ≤ 1075
      · go_enter Try.func38, Try.ntmps38
        go_wp2
        · go_ret2
          exact ⟨ret_int2 (H2.out (by omega) c2 (by assumption)) rfl, rfl⟩
        · go_ret2
          exact ⟨ret_int2 (H1.out (by omega) c2 (by assumption)) rfl, rfl⟩
      · go_enter Try.func38, Try.ntmps38
        go_wp2
        · go_ret2
          exact ⟨ret_int2 (H4.out (by omega) hr (by assumption)) rfl, rfl⟩
        · go_ret2
          exact ⟨ret_int2 (H3.out (by omega) hr (by assumption)) rfl, rfl⟩
  · have hw : Hid (wv x = -4611686018427387904) := Lib.hid (by rw [he, wv_least])
    have hb : ((x : Int) == 14109777632551763968) = true := by rw [he]; rfl
    have e : expo x = 1085 := by rw [he]; decide
    rw [e] at hE
    clear he H1 H2 H3 H4 H5 e
    generalize frac x = f at *
    go_enter Try.func38, Try.ntmps38
    go_wp2
    go_ret2
    exact ⟨ret_int2 hw.out.symm rfl, rfl⟩
set_option maxRecDepth 100000 in
theorem refWhole_no (x : Nat) (hx : x < 18446744073709551616) (hr : inR x = false) (w : World) : Calls Try.prog 38 #[.int .u64 (x : Int)] w fun e w' => e = .returned (.tuple #[.int .i64 0, .int .i64 1]) ∧ w = w' := by
  have hE := expo_is x hx
  have hf := frac_is x hx
  have h1 := expo_le x
  have h2 := frac_le x
  rw [inR_eq x hx, Bool.or_eq_false_iff, decide_eq_false_iff_not, decide_eq_false_iff_not] at hr
  obtain ⟨hr, hne⟩ := hr
  have hb : ((x : Int) == 14109777632551763968) = false := by rw [beq_eq_false_iff_ne]; omega
  clear hne hx
  generalize expo x = E at *
  generalize frac x = f at *
  by_cases c : E = 2047
  · subst c
    go_enter Try.func38, Try.ntmps38
    go_wp2
    go_ret2
    exact ⟨rfl, rfl⟩
  · have hc : ((E : Int) == 2047) = false := by rw [beq_eq_false_iff_ne]; omega
    go_enter Try.func38, Try.ntmps38
    go_wp2
    go_ret2
    exact ⟨rfl, rfl⟩
end Go.Proofs.Ytodpglladcblhaa
