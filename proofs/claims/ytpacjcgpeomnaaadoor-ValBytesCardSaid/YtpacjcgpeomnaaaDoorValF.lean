/- Values in form: floats' bytes. -/
import Derived.Test.YtpacjcgpeomnaaaDoorValA
namespace Go.Proofs.YtpacjcgpeomnaaaDoor
open Go.ChangeShapes Go.WideShapes Go.ChangeAt Go.RowKit
set_option linter.unusedVariables false
set_option maxRecDepth 20000

theorem beN_take (l : List UInt8) (k : Nat) (h : k < l.length) : beN (l.take (k + 1)) = beN (l.take k) * 256 + l[k].toNat := by
  rw [List.take_succ_eq_append_getElem h, beN_snoc]
theorem or8 (x c : Nat) (hx : x < 72057594037927936) (hc : c < 256) : bits .or .u64 ((x : Int) * 256) (c : Int) = ((x * 256 + c : Nat) : Int) := by
  have e := u64_or_nat (x * 256) c (by omega) (by omega)
  rw [show (x : Int) * 256 = ((x * 256 : Nat) : Int) by omega, e, Nat.mul_comm x, ← Nat.two_pow_add_eq_or_of_lt (i := 8) (by omega)]
set_option maxHeartbeats 1000000 in
theorem float_any (t : ByteArray) (ht : t.size = 8) (w : World) :
    Calls Tryd.prog 61 #[.string t] w fun e w' => e = .returned (.int .u64 ((beN t.data.toList : Nat) : Int)) ∧ w = w' := by
  have hl : t.data.toList.length = 8 := by simpa using ht
  have HB : Hid (∀ k (h : k < 8), beN (t.data.toList.take (k + 1)) = beN (t.data.toList.take k) * 256 + (t[k]'(by omega)).toNat ∧ beN (t.data.toList.take k) < 256 ^ k) := Lib.hid fun k h => by
    refine ⟨?_, ?_⟩
    · rw [beN_take _ k (by omega)]
      rfl
    · have := beN_lt k (t.data.toList.take k) (by rw [List.length_take]; omega)
      exact this
  have HE : Hid (beN (t.data.toList.take 8) = beN t.data.toList) := Lib.hid (by rw [List.take_of_length_le (by omega)])
  generalize beN t.data.toList = R at *
  go_enter Tryd.func61, Tryd.ntmps61
  go_wp2
  go_loop [3, 7] (fun x i => ∃ k : Nat, k ≤ 8 ∧ i = .int .i64 (k : Int) ∧ ∃ y : Nat, x = .int .u64 (y : Int) ∧ Hid (y = beN (t.data.toList.take k))) (fun _ i => 8 - (intOf i).toNat)
  case atStart => exact ⟨0, by omega, rfl, 0, rfl, Lib.hid rfl⟩
  case round =>
    obtain ⟨k, hk, rfl, y, rfl, HY⟩ := hrel
    by_cases hlt : k < 8
    · obtain ⟨h1, h2⟩ := HB.out k hlt
      have hy : y < 72057594037927936 := by rw [HY.out]; exact Nat.lt_of_lt_of_le h2 (Nat.pow_le_pow_right (by decide) (show k ≤ 7 by omega) : 256 ^ k ≤ 256 ^ 7)
      obtain ⟨c, hc⟩ : ∃ c, (t[k]'(by omega)).toNat = c := ⟨_, rfl⟩
      have hc2 : c < 256 := by rw [← hc]; exact (t[k]'(by omega)).toNat_lt
      have HS := Lib.hid (show beN (t.data.toList.take (k + 1)) = y * 256 + c by rw [h1, HY.out, hc])
      have hor := or8 y c hy hc2
      have HC := Lib.hid (fun _ : True => hc)
      have hix : ∀ W, (Instr.index 9 (.string t) (.int .i64 (k : Int))).run Tryd.prog W = .ok (.int .u8 (c : Int)) W := fun W => by
        rw [run_index_string W 9 t .i64 k Tryd.underlying9, dif_pos (by omega)]
        simp only [Int.toNat_natCast, hc]
      clear h1 h2 hc
      go_wp2
      go_round
      case rel => exact ⟨k + 1, by omega, by go_num, y * 256 + c, by go_num, Lib.hid HS.out.symm⟩
      case measure => simp [intOf]; omega
    · obtain rfl : k = 8 := by omega
      have HY2 : Hid (y = R) := Lib.hid (HY.out.trans HE.out)
      go_wp2
      go_ret
      exact ⟨by have := HY2.out; subst this; rfl, rfl⟩
theorem same_self (x : Nat) (hx : x < 18446744073709551616) : Fn.sameB x x = !(Fn.isN x) := by
  cases h : Fn.isN x with
  | true => exact Fn.same_nan x x (.inl h)
  | false => rw [Fn.same_num x x hx hx h h]; simp
theorem canon_self (x : Nat) : (Fn.canon x == x) = (x == 9221120237041090560 || !(Fn.isN x)) := by
  unfold Fn.canon Fn.nanB
  cases h : Fn.isN x with
  | true => rw [if_pos rfl, Bool.not_true, Bool.or_false, Bool.beq_comm]
  | false => rw [if_neg (by decide)]; simp
theorem isFloat_any (t : ByteArray) (ht : t.size ≤ maxLen) (w : World) :
    Calls Tryd.prog 51 #[.string t] w fun e w' => e = .returned (.bool (floB t)) ∧ w = w' := by
  unfold maxLen at ht
  by_cases h8 : t.size = 8
  · have HF := Lib.hid (float_any t h8 w)
    have hx : beN t.data.toList < 18446744073709551616 := beN_lt 8 t.data.toList (by simpa using h8)
    have HS := Lib.hid (fun w => Fn.same_any (beN t.data.toList) (beN t.data.toList) w)
    have hfl : floB t = (beN t.data.toList == 9221120237041090560 || Fn.sameB (beN t.data.toList) (beN t.data.toList)) := by
      unfold floB
      rw [h8, canon_self, same_self _ hx]
      rfl
    rw [hfl]
    generalize beN t.data.toList = x at *
    generalize Fn.sameB x x = b at *
    have h8I : ((t.size : Int) != 8) = false := by simp; omega
    clear hfl ht
    by_cases hN : x = 9221120237041090560
    · have hNb : ((x : Int) == 9221120237041090560) = true := by simp; omega
      rw [show (x == 9221120237041090560 || b) = true by simp [hN]]
      clear hN
      go_enter Tryd.func51, Tryd.ntmps51
      go_wp2_with (go_at_call 61; refine HF.out.mono ?_; rintro e w' ⟨rfl, rfl⟩)
      go_ret
      exact ⟨rfl, rfl⟩
    · have hNb : ((x : Int) == 9221120237041090560) = false := by simp; omega
      rw [show (x == 9221120237041090560 || b) = b by simp [hN]]
      clear hN
      go_enter Tryd.func51, Tryd.ntmps51
      go_wp2_with (first | (go_at_call 61; refine HF.out.mono ?_; rintro e w' ⟨rfl, rfl⟩) | (go_at_call 68; refine (HS.out _).mono ?_; rintro e w' ⟨rfl, rfl⟩))
      go_ret
      exact ⟨rfl, rfl⟩
  · have h8I : ((t.size : Int) != 8) = true := by simp; omega
    rw [show floB t = false by unfold floB; simp [h8]]
    clear h8
    go_enter Tryd.func51, Tryd.ntmps51
    go_wp2
    go_ret
    exact ⟨rfl, rfl⟩
end Go.Proofs.YtpacjcgpeomnaaaDoor
