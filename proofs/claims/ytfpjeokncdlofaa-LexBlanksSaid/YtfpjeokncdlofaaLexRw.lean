/- The document's words of package lex: kinds of bytes. -/
import Derived.Test.YtfpjeokncdlofaaLexSp
namespace Go.Proofs.Ytfpjeokncdlofaa
open Go.ChangeShapes Go.WideShapes Go.ChangeAt Go.RowKit Go.Joins
open Go.Proofs.Ytfpjeokncdlofaa.Fn (st st_size st_list st_extract)
set_option linter.unusedVariables false
set_option maxRecDepth 20000

theorem great_any (x : Nat) (w : World) : Calls Try.prog 25 #[.int .u8 (x : Int)] w fun e w' => e = .returned (.bool (capN x)) ∧ w = w' := by
  unfold capN
  by_cases h1 : 65 ≤ x
  · by_cases h2 : x ≤ 90
    · have k1 : (65 : Int) ≤ (x : Int) := by omega
      have k2 : (x : Int) ≤ 90 := by omega
      rw [decide_eq_true h1, decide_eq_true h2]
      go_enter Try.func25, Try.ntmps25
      go_wp2_with fail
      go_ret
      exact ⟨rfl, rfl⟩
    · have k1 : (65 : Int) ≤ (x : Int) := by omega
      have k2 : ¬ ((x : Int) ≤ 90) := by omega
      rw [decide_eq_true h1, decide_eq_false h2]
      go_enter Try.func25, Try.ntmps25
      go_wp2_with fail
      go_ret
      exact ⟨rfl, rfl⟩
  · have k1 : ¬ ((65 : Int) ≤ (x : Int)) := by omega
    rw [decide_eq_false h1]
    go_enter Try.func25, Try.ntmps25
    go_wp2_with fail
    go_ret
    exact ⟨rfl, rfl⟩
theorem digit_any (x : Nat) (w : World) : Calls Try.prog 27 #[.int .u8 (x : Int)] w fun e w' => e = .returned (.bool (digN x)) ∧ w = w' := by
  unfold digN
  by_cases h1 : 48 ≤ x
  · by_cases h2 : x ≤ 57
    · have k1 : (48 : Int) ≤ (x : Int) := by omega
      have k2 : (x : Int) ≤ 57 := by omega
      rw [decide_eq_true h1, decide_eq_true h2]
      go_enter Try.func27, Try.ntmps27
      go_wp2_with fail
      go_ret
      exact ⟨rfl, rfl⟩
    · have k1 : (48 : Int) ≤ (x : Int) := by omega
      have k2 : ¬ ((x : Int) ≤ 57) := by omega
      rw [decide_eq_true h1, decide_eq_false h2]
      go_enter Try.func27, Try.ntmps27
      go_wp2_with fail
      go_ret
      exact ⟨rfl, rfl⟩
  · have k1 : ¬ ((48 : Int) ≤ (x : Int)) := by omega
    rw [decide_eq_false h1]
    go_enter Try.func27, Try.ntmps27
    go_wp2_with fail
    go_ret
    exact ⟨rfl, rfl⟩
/-- a small letter -/
def lowN (x : Nat) : Bool := decide (97 ≤ x) && decide (x ≤ 122)
/-- a byte that may begin a name -/
def sigN (x : Nat) : Bool := othersL.any (fun d => d.toNat == x) || lowN x
theorem others_at (j : Nat) (h : j < 12) (W : World) : (Instr.index 9 (.string ⟨#[39, 43, 42, 47, 60, 62, 61, 33, 63, 95, 46, 45]⟩) (.int .i64 (j : Int))).run Try.prog W = .ok (.int .u8 (((othersL[j]'h).toNat : Nat) : Int)) W :=
  idx_at othersL j h W
theorem any_of (x j : Nat) (h : j < 12) (e : (othersL[j]'h).toNat = x) : othersL.any (fun d => d.toNat == x) = true := by
  rw [List.any_eq_true]
  exact ⟨_, List.getElem_mem h, by simpa using e⟩
theorem any_no (x : Nat) (h : ∀ j (hj : j < 12), (othersL[j]'hj).toNat ≠ x) : othersL.any (fun d => d.toNat == x) = false := by
  rw [List.any_eq_false]
  intro d hd
  obtain ⟨j, hj, rfl⟩ := List.getElem_of_mem hd
  simpa using h j hj
set_option maxHeartbeats 1000000 in
theorem sign_any (x : Nat) (w : World) : Calls Try.prog 26 #[.int .u8 (x : Int)] w fun e w' => e = .returned (.bool (sigN x)) ∧ w = w' := by
  have hL : othersL.length = 12 := rfl
  go_enter Try.func26, Try.ntmps26
  go_wp2_with fail
  go_loop [4] (fun i => ∃ j : Nat, j ≤ 12 ∧ i = .int .i64 (j : Int) ∧ Hid (∀ k (hk : k < 12), k < j → (othersL[k]'hk).toNat ≠ x)) (fun i => 12 - (intOf i).toNat)
  case atStart => exact ⟨0, by omega, rfl, Lib.hid (fun k _ h => absurd h (by omega))⟩
  case round =>
    obtain ⟨j, hj, rfl, HN⟩ := hrel
    by_cases hj12 : j < 12
    · have hjI : (j : Int) < 12 := by omega
      have hix := others_at j hj12
      have HO := Lib.hid (fun _ : True => hj12)
      obtain ⟨y, hy⟩ : ∃ y, (othersL[j]'hj12).toNat = y := ⟨_, rfl⟩
      rw [hy] at hix
      by_cases hyx : y = x
      · have HS : Hid (sigN x = true) := Lib.hid (by unfold sigN; rw [any_of x j hj12 (hy.trans hyx)]; rfl)
        subst hyx
        clear hy
        go_wp2_with fail
        go_ret
        exact ⟨by rw [HS.out]; rfl, rfl⟩
      · have hb : ((y : Int) == (x : Int)) = false := by rw [beq_eq_false_iff_ne]; omega
        have HN2 : Hid (∀ k (hk : k < 12), k < j + 1 → (othersL[k]'hk).toNat ≠ x) := Lib.hid (fun k hk hkj => by
          rcases Nat.lt_or_ge k j with h | h
          · exact HN.out k hk h
          · have : k = j := by omega
            subst this
            rw [hy]; exact hyx)
        clear hy hyx HN
        go_wp2_with fail
        go_round
        case rel => exact ⟨j + 1, by omega, by go_num, HN2⟩
        case measure => simp [intOf]; omega
    · have hj' : j = 12 := by omega
      subst hj'
      have HS : Hid (sigN x = lowN x) := Lib.hid (by unfold sigN; rw [any_no x (fun k hk => HN.out k hk hk)]; rfl)
      clear HN
      by_cases h1 : 97 ≤ x
      · by_cases h2 : x ≤ 122
        · have k1 : (97 : Int) ≤ (x : Int) := by omega
          have k2 : (x : Int) ≤ 122 := by omega
          go_wp2_with fail
          go_ret
          exact ⟨by rw [HS.out, lowN, decide_eq_true h1, decide_eq_true h2]; rfl, rfl⟩
        · have k1 : (97 : Int) ≤ (x : Int) := by omega
          have k2 : ¬ ((x : Int) ≤ 122) := by omega
          go_wp2_with fail
          go_ret
          exact ⟨by rw [HS.out, lowN, decide_eq_true h1, decide_eq_false h2]; rfl, rfl⟩
      · have k1 : ¬ ((97 : Int) ≤ (x : Int)) := by omega
        go_wp2_with fail
        go_ret
        exact ⟨by rw [HS.out, lowN, decide_eq_false h1]; rfl, rfl⟩
end Go.Proofs.Ytfpjeokncdlofaa
