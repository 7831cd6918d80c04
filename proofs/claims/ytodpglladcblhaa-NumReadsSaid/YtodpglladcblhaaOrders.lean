/- Contracts of rank, Ahead, Less, Same and of the document's Rank; the walk of the law NumOrders. No condition but that words are words. -/
import Derived.Test.YtodpglladcblhaaFlOps
namespace Go.Proofs.Ytodpglladcblhaa
open Go.ChangeShapes Go.WideShapes Go.ChangeAt Go.RowKit

/-- the order of all words -/
def rk (x : Nat) : Nat := if isN x then 0 else if x < 9223372036854775808 then x + 9223372036854775808 else 18446744073709551615 - x
def rr (x : Nat) : Int := (rk x : Int) - 9223372036854775808
def ahead (x y : Nat) : Bool := decide (rk x < rk y)
def lessB (x y : Nat) : Bool := FloatKind.f64.format.order x y == some .lt
def sameB (x y : Nat) : Bool := FloatKind.f64.format.order x y == some .eq
theorem rr_ahead (x y : Nat) : decide (rr x < rr y) = ahead x y := by unfold rr ahead; simp only [decide_eq_decide]; omega

theorem nat_or63 (x : Nat) (h : x < 9223372036854775808) : x ||| 9223372036854775808 = x + 9223372036854775808 := by
  rw [Nat.or_comm, Nat.add_comm]
  exact nat_join 63 9223372036854775808 x (by decide) h
theorem nat_not64 (x : Nat) (h : x < 18446744073709551616) : 18446744073709551615 ^^^ x = 18446744073709551615 - x := by
  have e := BitVec.toNat_not (x := BitVec.ofNat 64 x)
  have e2 : ~~~ (BitVec.ofNat 64 x) = BitVec.allOnes 64 ^^^ BitVec.ofNat 64 x := BitVec.not_def
  rw [e2, BitVec.toNat_xor, BitVec.toNat_allOnes, BitVec.toNat_ofNat, Nat.mod_eq_of_lt (show x < 2 ^ 64 from h)] at e
  exact e
theorem rk_nan (x : Nat) (h : isN x = true) : rk x = 0 := by simp [rk, h]
theorem rk_neg (x : Nat) (hx : x < 18446744073709551616) (h : isN x = false) (hs : (bits .and .u64 (x : Int) 9223372036854775808 != 0) = true) : bits .xor .u64 IntKind.u64.max (x : Int) = ((rk x : Nat) : Int) := by
  have e1 : bits .and .u64 (x : Int) 9223372036854775808 = ((x &&& 9223372036854775808 : Nat) : Int) := u64_and_nat x 9223372036854775808 hx (by decide)
  have e2 : bits .xor .u64 IntKind.u64.max (x : Int) = ((18446744073709551615 ^^^ x : Nat) : Int) := u64_xor_nat 18446744073709551615 x (by decide) hx
  have e3 := nat_bit 63 x
  rw [show (2 : Nat) ^ 63 = 9223372036854775808 from by decide] at e3
  rw [e1, e3, bne_iff_ne] at hs
  have hg : ¬ x < 9223372036854775808 := by intro hl; exact hs (by omega)
  rw [e2, nat_not64 x hx]
  unfold rk
  rw [h, if_neg (by decide), if_neg hg]
theorem rk_pos (x : Nat) (hx : x < 18446744073709551616) (h : isN x = false) (hs : (bits .and .u64 (x : Int) 9223372036854775808 != 0) = false) : bits .or .u64 (x : Int) 9223372036854775808 = ((rk x : Nat) : Int) := by
  have e1 : bits .and .u64 (x : Int) 9223372036854775808 = ((x &&& 9223372036854775808 : Nat) : Int) := u64_and_nat x 9223372036854775808 hx (by decide)
  have e2 : bits .or .u64 (x : Int) 9223372036854775808 = ((x ||| 9223372036854775808 : Nat) : Int) := u64_or_nat x 9223372036854775808 hx (by decide)
  have e3 := nat_bit 63 x
  rw [show (2 : Nat) ^ 63 = 9223372036854775808 from by decide] at e3
  rw [e1, e3, bne_eq_false_iff_eq] at hs
  have hg : x < 9223372036854775808 := by omega
  rw [e2, nat_or63 x hg]
  unfold rk
  rw [h, if_neg (by decide), if_pos hg]
theorem rr_nan (x : Nat) (h : isN x = true) : -9223372036854775808 = rr x := by unfold rr; rw [rk_nan x h]; rfl
theorem rr_neg (x : Nat) (hx : x < 18446744073709551616) (h : isN x = false) (hs : ((x : Int) / 9223372036854775808 == 1) = true) : wrap64 (-1 - wrap64 (bits .and .u64 (x : Int) 9223372036854775807)) = rr x := by
  have e1 : bits .and .u64 (x : Int) 9223372036854775807 = ((x &&& 9223372036854775807 : Nat) : Int) := u64_and_nat x 9223372036854775807 hx (by decide)
  rw [e1, nat_pow63]
  rw [beq_iff_eq] at hs
  unfold rr rk
  rw [h, if_neg (by decide), if_neg (by omega)]
  unfold wrap64
  omega
theorem rr_pos (x : Nat) (hx : x < 18446744073709551616) (h : isN x = false) (hs : ((x : Int) / 9223372036854775808 == 1) = false) : wrap64 (x : Int) = rr x := by
  rw [beq_eq_false_iff_ne] at hs
  unfold rr rk
  rw [h, if_neg (by decide), if_pos (by omega)]
  unfold wrap64
  omega

theorem rank_any (x : Nat) (hx : x < 18446744073709551616) (w : World) : Calls Try.prog 50 #[.int .u64 (x : Int)] w fun e w' => e = .returned (.int .u64 (rk x : Nat)) ∧ w = w' := by
  have H1 := Lib.hid (rk_nan x)
  have H2 := Lib.hid (rk_neg x hx)
  have H3 := Lib.hid (rk_pos x hx)
  clear hx
  go_enter Try.func50, Try.ntmps50
  go_wp2_with (go_at_call 47; refine (isNan_any _ _).mono ?_; rintro e w' ⟨rfl, rfl⟩)
  · go_ret
    exact ⟨by rw [H1.out (by assumption)]; rfl, rfl⟩
  · go_ret
    exact ⟨ret_int (H2.out (by assumption) (by assumption)), rfl⟩
  · go_ret
    exact ⟨ret_int (H3.out (by assumption) (by assumption)), rfl⟩
theorem refRank_any (x : Nat) (hx : x < 18446744073709551616) (w : World) : Calls Try.prog 33 #[.int .u64 (x : Int)] w fun e w' => e = .returned (.int .i64 (rr x)) ∧ w = w' := by
  have HX := Lib.hid hx
  have H1 := Lib.hid (rr_nan x)
  have H2 := Lib.hid (rr_neg x hx)
  have H3 := Lib.hid (rr_pos x hx)
  clear hx
  go_enter Try.func33, Try.ntmps33
  go_wp2_with (go_at_call 34; refine (refIsNan_any _ HX.out _).mono ?_; rintro e w' ⟨rfl, rfl⟩)
  · go_ret
    exact ⟨ret_int (H1.out (by assumption)), rfl⟩
  · go_ret
    exact ⟨ret_int (H2.out (by assumption) (by assumption)), rfl⟩
  · go_ret
    exact ⟨ret_int (H3.out (by assumption) (by assumption)), rfl⟩
theorem ahead_any (x y : Nat) (hx : x < 18446744073709551616) (hy : y < 18446744073709551616) (w : World) : Calls Try.prog 32 #[.int .u64 (x : Int), .int .u64 (y : Int)] w fun e w' => e = .returned (.bool (ahead x y)) ∧ w = w' := by
  have h : decide (rk x < rk y) = ahead x y := rfl
  have HX := Lib.hid hx
  have HY := Lib.hid hy
  clear hx hy
  go_enter Try.func32, Try.ntmps32
  go_wp2_with fail
  refine (rank_any _ HX.out _).mono ?_
  rintro e w' ⟨rfl, rfl⟩
  go_wp2_with fail
  refine (rank_any _ HY.out _).mono ?_
  rintro e w' ⟨rfl, rfl⟩
  go_wp2
  go_ret
  exact ⟨rfl, rfl⟩
theorem less_any (x y : Nat) (w : World) : Calls Try.prog 35 #[.int .u64 (x : Int), .int .u64 (y : Int)] w fun e w' => e = .returned (.bool (lessB x y)) ∧ w = w' := by
  have h : (FloatKind.f64.format.order x y == some .lt) = lessB x y := rfl
  go_enter Try.func35, Try.ntmps35
  go_wp2_with (go_at_call 30; refine (go_any _ _).mono ?_; rintro e w' ⟨rfl, rfl⟩)
  go_ret
  exact ⟨rfl, rfl⟩
theorem same_any (x y : Nat) (w : World) : Calls Try.prog 36 #[.int .u64 (x : Int), .int .u64 (y : Int)] w fun e w' => e = .returned (.bool (sameB x y)) ∧ w = w' := by
  have h : (FloatKind.f64.format.order x y == some .eq) = sameB x y := rfl
  go_enter Try.func36, Try.ntmps36
  go_wp2_with (go_at_call 30; refine (go_any _ _).mono ?_; rintro e w' ⟨rfl, rfl⟩)
  go_ret
  exact ⟨rfl, rfl⟩
end Go.Proofs.Ytodpglladcblhaa
