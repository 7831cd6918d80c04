/- What is written is read; a beginning of it ends too soon. No program here. -/
import Derived.Test.YtflgodphphbbjaaText
namespace Go.Proofs.Ytflgodphphbbjaa

theorem fits9 (x k : Nat) (h : x * 2 ^ (7 * k) < 2 ^ 64) (hx : 0 < x) : k ≤ 9 ∧ (k = 9 → x ≤ 1) ∧ (128 ≤ x → k ≤ 8) := by
  have key : ∀ j, j ≤ k → x * 2 ^ (7 * j) < 2 ^ 64 := fun j hj => Nat.lt_of_le_of_lt (Nat.mul_le_mul_left _ (Nat.pow_le_pow_right (by decide) (by omega))) h
  refine ⟨?_, ?_, ?_⟩
  · rcases Nat.lt_or_ge 9 k with h9 | h9
    · have := key 10 (by omega); omega
    · exact h9
  · intro e; subst e; omega
  · intro h128
    rcases Nat.lt_or_ge 8 k with h9 | h9
    · have := key 9 (by omega); omega
    · exact h9
theorem rd_vb (x : Nat) : ∀ (k u : Nat) (t : List Nat), x * 2 ^ (7 * k) < 2 ^ 64 → (0 < k → 0 < x) → rd k u (vb x ++ t) = (uz (u + x * 2 ^ (7 * k)), k + (vb x).length, 0) := by
  induction x using Nat.strongRecOn with
  | ind x ih =>
    intro k u t h hk
    by_cases hx : x < 128
    · rw [vb_lo hx]
      have h9 : ¬ (k = 9 ∧ 1 < x) := fun ⟨e1, e2⟩ => by have := (fits9 x k h (by omega)).2.1 e1; omega
      show (if k = 9 ∧ 1 < x then _ else if 128 ≤ x then _ else if x = 0 ∧ 0 < k then _ else _) = _
      rw [if_neg h9, if_neg (by omega), if_neg (by omega), Nat.mod_eq_of_lt hx]
      rfl
    · rw [vb_hi hx]
      have f := fits9 x k h (by omega)
      have h8 := f.2.2 (by omega)
      show (if k = 9 ∧ 1 < x % 128 + 128 then _ else if 128 ≤ x % 128 + 128 then rd (k + 1) (u + (x % 128 + 128) % 128 * 2 ^ (7 * k)) (vb (x / 128) ++ t) else _) = _
      have e0 : x / 128 * 2 ^ (7 * (k + 1)) = (x / 128 * 128) * 2 ^ (7 * k) := by
        rw [show 7 * (k + 1) = 7 * k + 7 by omega, Nat.pow_add, Nat.mul_assoc, Nat.mul_comm 128, show (2 : Nat) ^ 7 = 128 from rfl]
      have hlt : x / 128 * 2 ^ (7 * (k + 1)) < 2 ^ 64 := by
        rw [e0]
        exact Nat.lt_of_le_of_lt (Nat.mul_le_mul_right _ (Nat.div_mul_le_self x 128)) h
      rw [if_neg (by omega), if_pos (by omega), ih (x / 128) (by omega) (k + 1) _ t hlt (fun _ => by omega), e0]
      have e1 : u + (x % 128 + 128) % 128 * 2 ^ (7 * k) + x / 128 * 128 * 2 ^ (7 * k) = u + x * 2 ^ (7 * k) := by
        rw [Nat.add_assoc, ← Nat.add_mul, show (x % 128 + 128) % 128 + x / 128 * 128 = x by omega]
      rw [e1, List.length_cons, show k + 1 + (vb (x / 128)).length = k + ((vb (x / 128)).length + 1) by omega]
/-- a beginning of a number -/
theorem rd_cut (x : Nat) : ∀ (k u j : Nat), x * 2 ^ (7 * k) < 2 ^ 64 → (0 < k → 0 < x) → j < (vb x).length → rd k u ((vb x).take j) = (0, 0, 3) := by
  induction x using Nat.strongRecOn with
  | ind x ih =>
    intro k u j h hk hj
    match j, hj with
    | 0, _ => rw [List.take_zero]; rfl
    | j + 1, hj =>
      by_cases hx : x < 128
      · rw [vb_lo hx] at hj; simp at hj
      · rw [vb_hi hx] at hj ⊢
        rw [List.length_cons] at hj
        rw [List.take_succ_cons]
        have f := fits9 x k h (by omega)
        have h8 := f.2.2 (by omega)
        show (if k = 9 ∧ 1 < x % 128 + 128 then _ else if 128 ≤ x % 128 + 128 then rd (k + 1) (u + (x % 128 + 128) % 128 * 2 ^ (7 * k)) ((vb (x / 128)).take j) else _) = _
        have e0 : x / 128 * 2 ^ (7 * (k + 1)) = (x / 128 * 128) * 2 ^ (7 * k) := by
          rw [show 7 * (k + 1) = 7 * k + 7 by omega, Nat.pow_add, Nat.mul_assoc, Nat.mul_comm 128, show (2 : Nat) ^ 7 = 128 from rfl]
        have hlt : x / 128 * 2 ^ (7 * (k + 1)) < 2 ^ 64 := by
          rw [e0]
          exact Nat.lt_of_le_of_lt (Nat.mul_le_mul_right _ (Nat.div_mul_le_self x 128)) h
        rw [if_neg (by omega), if_pos (by omega), ih (x / 128) (by omega) (k + 1) _ j hlt (fun _ => by omega) (by omega)]
/-- a written number is read, and what stands behind it is left -/
theorem rd_num (n : Int) (h1 : -9223372036854775808 ≤ n) (h2 : n ≤ 9223372036854775807) (t : List Nat) : rd 0 0 (vb (zz n) ++ t) = (n, (vb (zz n)).length, 0) := by
  have h := rd_vb (zz n) 0 0 t (by have := zz_lt n h1 h2; omega) (by omega)
  rw [h, Nat.zero_add, Nat.mul_zero, Nat.pow_zero, Nat.mul_one, Nat.zero_add, uz_zz]
theorem rd_num_cut (n : Int) (h1 : -9223372036854775808 ≤ n) (h2 : n ≤ 9223372036854775807) (j : Nat) (hj : j < (vb (zz n)).length) : rd 0 0 ((vb (zz n)).take j) = (0, 0, 3) :=
  rd_cut (zz n) 0 0 j (by have := zz_lt n h1 h2; omega) (by omega) hj
end Go.Proofs.Ytflgodphphbbjaa
