/- The scanner of package lex: what is thrown; a byte told behind a backslash. -/
import Derived.Test.YtfpjeokncdlofaaLexD
namespace Go.Proofs.Ytfpjeokncdlofaa
open Go.ChangeShapes Go.WideShapes Go.ChangeAt Go.RowKit
open Go.Proofs.Ytfpjeokncdlofaa.Fn (st st_size st_list st_extract)
set_option linter.unusedVariables false
set_option maxRecDepth 20000

theorem noToken_any (a b : Int) (w : World) : Calls Try.prog 39 #[.agg #[.int .i64 a, .int .i64 b]] w fun e w' => e = .returned (.agg #[.int .i64 a, .int .i64 b, .int .i64 10]) ∧ Hid (Below w.heap.size w w') := by
  go_enter Try.func39, Try.ntmps39
  go_wp2_with fail
  refine bodyPost_ret (v := .agg #[.int .i64 a, .int .i64 b, .int .i64 10]) ?_ rfl ⟨rfl, ?_⟩
  · simp [results, Try.results39]
    go_simp
  · exact Lib.hid (((Below.refl _ w).alloc (Nat.le_refl _) _).alloc (by simp) _)
/-- what is thrown -/
def thrown (ln cl e : Nat) : Ending := .panicked [{ v := .iface 53 (.agg #[.int .i64 (ln : Int), .int .i64 (cl : Int), .int .i64 (e : Int)]), recovered := false }]
def digN (x : Nat) : Bool := decide (48 ≤ x) && decide (x ≤ 57)
def hexN (x : Nat) : Bool := digN x || (decide (97 ≤ x) && decide (x ≤ 102))
def hexV (x : Nat) : Nat := if digN x = true then x - 48 else x - 97 + 10
theorem isDigit_any (x : Nat) (w : World) : Calls Try.prog 57 #[.int .u8 (x : Int)] w fun e w' => e = .returned (.bool (digN x)) ∧ w = w' := by
  unfold digN
  by_cases h1 : 48 ≤ x
  · by_cases h2 : x ≤ 57
    · have k1 : (48 : Int) ≤ (x : Int) := by omega
      have k2 : (x : Int) ≤ 57 := by omega
      rw [decide_eq_true h1, decide_eq_true h2]
      go_enter Try.func57, Try.ntmps57
      go_wp2_with fail
      go_ret
      exact ⟨rfl, rfl⟩
    · have k1 : (48 : Int) ≤ (x : Int) := by omega
      have k2 : ¬ ((x : Int) ≤ 57) := by omega
      rw [decide_eq_true h1, decide_eq_false h2]
      go_enter Try.func57, Try.ntmps57
      go_wp2_with fail
      go_ret
      exact ⟨rfl, rfl⟩
  · have k1 : ¬ ((48 : Int) ≤ (x : Int)) := by omega
    rw [decide_eq_false h1]
    go_enter Try.func57, Try.ntmps57
    go_wp2_with fail
    go_ret
    exact ⟨rfl, rfl⟩
theorem isHex_any (x : Nat) (w : World) : Calls Try.prog 48 #[.int .u8 (x : Int)] w fun e w' => e = .returned (.bool (hexN x)) ∧ w = w' := by
  have HD := Lib.hid (isDigit_any x w)
  unfold hexN
  cases hd : digN x with
  | true =>
    rw [hd] at HD
    clear hd
    go_enter Try.func48, Try.ntmps48
    go_wp2_with fail
    refine HD.out.mono ?_
    rintro e w2 ⟨rfl, rfl⟩
    go_wp2_with fail
    go_ret
    exact ⟨rfl, rfl⟩
  | false =>
    rw [hd] at HD
    clear hd
    by_cases h1 : 97 ≤ x
    · by_cases h2 : x ≤ 102
      · have k1 : (97 : Int) ≤ (x : Int) := by omega
        have k2 : (x : Int) ≤ 102 := by omega
        rw [decide_eq_true h1, decide_eq_true h2]
        go_enter Try.func48, Try.ntmps48
        go_wp2_with fail
        refine HD.out.mono ?_
        rintro e w2 ⟨rfl, rfl⟩
        go_wp2_with fail
        go_ret
        exact ⟨rfl, rfl⟩
      · have k1 : (97 : Int) ≤ (x : Int) := by omega
        have k2 : decide ((x : Int) ≤ 102) = false := decide_eq_false (by omega)
        rw [decide_eq_true h1, decide_eq_false h2]
        go_enter Try.func48, Try.ntmps48
        go_wp2_with fail
        refine HD.out.mono ?_
        rintro e w2 ⟨rfl, rfl⟩
        go_wp2_with fail
        go_ret
        exact ⟨rfl, rfl⟩
    · have k1 : ¬ ((97 : Int) ≤ (x : Int)) := by omega
      rw [decide_eq_false h1]
      go_enter Try.func48, Try.ntmps48
      go_wp2_with fail
      refine HD.out.mono ?_
      rintro e w2 ⟨rfl, rfl⟩
      go_wp2_with fail
      go_ret
      exact ⟨rfl, rfl⟩
theorem hex_lt {x : Nat} (h : hexN x = true) : hexV x < 16 := by
  unfold hexN at h
  unfold hexV
  cases hd : digN x with
  | true =>
    rw [if_pos rfl]
    unfold digN at hd
    simp at hd
    omega
  | false =>
    rw [if_neg (by decide)]
    rw [hd] at h
    simp at h
    omega
theorem hexValue_any (x : Nat) (h : hexN x = true) (w : World) : Calls Try.prog 49 #[.int .u8 (x : Int)] w fun e w' => e = .returned (.int .u8 (hexV x : Int)) ∧ w = w' := by
  have HD := Lib.hid (isDigit_any x w)
  unfold hexN at h
  unfold hexV
  cases hd : digN x with
  | true =>
    rw [hd] at HD
    have h2 : 48 ≤ x ∧ x ≤ 57 := by unfold digN at hd; simpa using hd
    have k1 : IntKind.u8.wrap ((x : Int) - 48) = ((x - 48 : Nat) : Int) := by rw [IntKind.wrap_u8]; omega
    rw [if_pos rfl]
    obtain ⟨y, hy⟩ : ∃ y, x - 48 = y := ⟨_, rfl⟩
    rw [hy] at k1
    rw [hy]
    clear hd h h2 hy
    go_enter Try.func49, Try.ntmps49
    go_wp2_with fail
    refine HD.out.mono ?_
    rintro e w2 ⟨rfl, rfl⟩
    go_wp2_with fail
    go_ret
    exact ⟨rfl, rfl⟩
  | false =>
    rw [hd] at HD h
    have h2 : 97 ≤ x ∧ x ≤ 102 := by simpa using h
    have k1 : IntKind.u8.wrap ((x : Int) - 97) = ((x - 97 : Nat) : Int) := by rw [IntKind.wrap_u8]; omega
    have k2 : IntKind.u8.wrap (((x - 97 : Nat) : Int) + 10) = ((x - 97 + 10 : Nat) : Int) := by rw [IntKind.wrap_u8]; omega
    rw [if_neg (by decide)]
    obtain ⟨z, hz⟩ : ∃ z, x - 97 + 10 = z := ⟨_, rfl⟩
    rw [hz] at k2
    rw [hz]
    obtain ⟨y, hy⟩ : ∃ y, x - 97 = y := ⟨_, rfl⟩
    rw [hy] at k1 k2
    clear hd h h2 hy hz
    go_enter Try.func49, Try.ntmps49
    go_wp2_with fail
    refine HD.out.mono ?_
    rintro e w2 ⟨rfl, rfl⟩
    go_wp2_with fail
    go_ret
    exact ⟨rfl, rfl⟩
/-- two digits of base 16 -/
def hexS : List UInt8 → Nat × Nat → Option (Nat × List UInt8 × (Nat × Nat))
  | a :: b :: v, p => if hexN a.toNat = true ∧ hexN b.toNat = true then some (16 * hexV a.toNat + hexV b.toNat, v, adv b (adv a p)) else none
  | _, _ => none
/-- what a byte behind a backslash, and what follows, tell -/
def escS : List UInt8 → Nat × Nat → Option (Nat × List UInt8 × (Nat × Nat))
  | [], _ => none
  | d :: u, p =>
    if d = 34 ∨ d = 92 then some (d.toNat, u, adv d p)
    else if d = 110 then some (10, u, adv d p)
    else if d = 120 then hexS u (adv d p)
    else none
end Go.Proofs.Ytfpjeokncdlofaa
