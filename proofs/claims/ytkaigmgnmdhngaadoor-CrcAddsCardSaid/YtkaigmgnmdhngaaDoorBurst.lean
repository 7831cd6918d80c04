/- The register is linear and one-to-one; bytes that differ within 32 bits have unlike sums. No program here. -/
import Derived.Test.YtkaigmgnmdhngaaDoorOpen
namespace Go.Proofs.YtkaigmgnmdhngaaDoor

theorem s1_zero (r : Nat) (h : r < 4294967296) (h0 : s1 r = 0) : r = 0 := by
  unfold s1 at h0
  by_cases ho : r % 2 = 1
  · rw [if_pos ho] at h0
    have e : r / 2 = 2197175160 := by
      have := congrArg (· ^^^ 2197175160) h0
      simp only [Nat.xor_assoc, Nat.xor_self, Nat.xor_zero, Nat.zero_xor] at this
      exact this
    omega
  · rw [if_neg ho, Nat.xor_zero] at h0
    omega
theorem s1k_add (r a : Nat) : ∀ b, s1k r (a + b) = s1k (s1k r a) b
  | 0 => rfl
  | b + 1 => by show s1 (s1k r (a + b)) = s1 _; rw [s1k_add r a b]
theorem s1k_xor (a b : Nat) : ∀ k, s1k (a ^^^ b) k = s1k a k ^^^ s1k b k
  | 0 => rfl
  | k + 1 => by show s1 (s1k (a ^^^ b) k) = s1 _ ^^^ s1 _; rw [s1k_xor a b k, s1_xor]
theorem s1k_even (q : Nat) : ∀ k, s1k (2 ^ k * q) k = q
  | 0 => by show 2 ^ 0 * q = q; rw [Nat.pow_zero, Nat.one_mul]
  | k + 1 => by
    rw [Nat.add_comm k 1, s1k_add]
    show s1k (s1 (2 ^ (1 + k) * q)) k = q
    rw [show 2 ^ (1 + k) * q = 2 * (2 ^ k * q) by rw [Nat.pow_add, Nat.pow_one, Nat.mul_assoc], s1_even, s1k_even q k]
theorem s1k_ne (r : Nat) (h : r < 4294967296) (h0 : r ≠ 0) : ∀ k, s1k r k < 4294967296 ∧ s1k r k ≠ 0
  | 0 => ⟨h, h0⟩
  | k + 1 => by
    obtain ⟨h1, h2⟩ := s1k_ne r h h0 k
    exact ⟨s1_lt _ h1, fun e => h2 (s1_zero _ h1 e)⟩
/-- bytes as one number, the first the lowest -/
def num : List Nat → Nat
  | [] => 0
  | b :: t => b + 256 * num t
theorem split256 (q m : Nat) (h : m < 256) : (256 * q) ^^^ m = 256 * q + m := by
  have e : 256 * q = 2 ^ 8 * q := rfl
  rw [e]
  refine Nat.eq_of_testBit_eq fun i => ?_
  rw [Nat.testBit_xor, Nat.testBit_two_pow_mul_add q (b := m) (i := 8) h, Nat.testBit_two_pow_mul]
  by_cases hi : i < 8
  · rw [if_pos hi, decide_eq_false (by omega)]; simp
  · rw [if_neg hi, decide_eq_true (by omega), Nat.testBit_lt_two_pow (Nat.lt_of_lt_of_le h (show 2 ^ 8 ≤ 2 ^ i from Nat.pow_le_pow_right (by decide) (by omega)))]; simp
theorem run_num : ∀ (L : List Nat) (r : Nat), (∀ b ∈ L, b < 256) → run r L = s1k (r ^^^ num L) (8 * L.length)
  | [], r, _ => by show r = r ^^^ 0; rw [Nat.xor_zero]
  | b :: t, r, hB => by
    have hb := hB b (List.mem_cons_self ..)
    show run (s8 r b) t = _
    rw [run_num t _ fun c hc => hB c (List.mem_cons_of_mem _ hc), List.length_cons, show 8 * (t.length + 1) = 8 + 8 * t.length by omega, s1k_add]
    congr 1
    show s8 r b ^^^ num t = s1k (r ^^^ (b + 256 * num t)) 8
    rw [Nat.add_comm b, ← split256 _ _ hb, Nat.xor_comm (256 * num t), ← Nat.xor_assoc, s1k_xor]
    congr 1
    exact (s1k_even (num t) 8).symm
/-- one with 32 bits at most, wherever they begin, is not lost -/
theorem run_burst (L : List Nat) (hB : ∀ b ∈ L, b < 256) (k B : Nat) (hn : num L = 2 ^ k * B) (hk : k ≤ 8 * L.length) (hb : B < 4294967296) (h0 : B ≠ 0) : run 0 L ≠ 0 := by
  rw [run_num L 0 hB, Nat.zero_xor, hn]
  obtain ⟨j, hj⟩ : ∃ j, 8 * L.length = k + j := ⟨8 * L.length - k, by omega⟩
  rw [hj, s1k_add, s1k_even]
  exact (s1k_ne B hb h0 j).2
/-- sums of two rows of one length, put together: the register of the rows put together -/
theorem run_xor : ∀ (L M : List Nat) (r s : Nat), L.length = M.length → run r L ^^^ run s M = run (r ^^^ s) (List.zipWith (· ^^^ ·) L M)
  | [], [], _, _, _ => rfl
  | b :: L, c :: M, r, s, h => by
    show run (s8 r b) L ^^^ run (s8 s c) M = run (s8 (r ^^^ s) (b ^^^ c)) _
    rw [run_xor L M _ _ (by simpa using h)]
    congr 1
    unfold s8
    rw [← s4_xor, ← s4_xor]
    congr 2
    rw [Nat.xor_assoc, Nat.xor_assoc, ← Nat.xor_assoc b, Nat.xor_comm b, Nat.xor_assoc s]
theorem acc_four (s : Nat) (h : s < 4294967296) : acc (four s) 4 = s := by
  show 0 + s % 256 * 2 ^ (8 * 0) + s / 256 % 256 * 2 ^ (8 * 1) + s / 65536 % 256 * 2 ^ (8 * 2) + s / 16777216 % 256 * 2 ^ (8 * 3) = s
  omega
end Go.Proofs.YtkaigmgnmdhngaaDoor
