/- The register of crc: its step of one bit, of half a byte, of a byte; the document's bit by bit is the same. No program here. -/
import Derived.Test.YtkaigmgnmdhngaaDoorRows
namespace Go.Proofs.YtkaigmgnmdhngaaDoor

/-- one bit to the right -/
def s1 (r : Nat) : Nat := r / 2 ^^^ (if r % 2 = 1 then 2197175160 else 0)
theorem xor_par (a b : Nat) : (a ^^^ b) % 2 = (a + b) % 2 := by
  have h := Nat.testBit_xor a b 0
  rw [Nat.testBit_zero, Nat.testBit_zero, Nat.testBit_zero] at h
  rcases Nat.mod_two_eq_zero_or_one a with ha | ha <;> rcases Nat.mod_two_eq_zero_or_one b with hb | hb <;> rcases Nat.mod_two_eq_zero_or_one (a ^^^ b) with hc | hc <;> rw [ha, hb, hc] at h <;> first | omega | (exfalso; revert h; decide)
theorem s1_xor (a b : Nat) : s1 (a ^^^ b) = s1 a ^^^ s1 b := by
  unfold s1
  have h1 : (a ^^^ b) / 2 = a / 2 ^^^ b / 2 := Nat.xor_div_two
  have h2 : (a ^^^ b) % 2 = (a + b) % 2 := xor_par a b
  rw [h1, h2]
  rcases Nat.mod_two_eq_zero_or_one a with ha | ha <;> rcases Nat.mod_two_eq_zero_or_one b with hb | hb
  · rw [if_neg (by omega), if_neg (by omega), if_neg (by omega)]; simp
  · rw [if_pos (by omega), if_neg (by omega), if_pos (by omega), Nat.xor_zero, Nat.xor_assoc]
  · rw [if_pos (by omega), if_pos (by omega), if_neg (by omega), Nat.xor_zero, Nat.xor_assoc, Nat.xor_assoc, Nat.xor_comm (b / 2)]
  · rw [if_neg (by omega), if_pos (by omega), if_pos (by omega), Nat.xor_zero]
    rw [Nat.xor_assoc, ← Nat.xor_assoc 2197175160, Nat.xor_comm 2197175160, Nat.xor_assoc (b / 2), Nat.xor_self, Nat.xor_zero]
theorem s1_even (q : Nat) : s1 (2 * q) = q := by
  unfold s1
  rw [if_neg (by omega), Nat.xor_zero]; omega
theorem s1_lt (r : Nat) (h : r < 4294967296) : s1 r < 4294967296 := by
  unfold s1
  refine Nat.xor_lt_two_pow (n := 32) (by omega) ?_
  split <;> omega
def s4 (r : Nat) : Nat := s1 (s1 (s1 (s1 r)))
theorem s4_xor (a b : Nat) : s4 (a ^^^ b) = s4 a ^^^ s4 b := by unfold s4; rw [s1_xor, s1_xor, s1_xor, s1_xor]
theorem s4_lt (r : Nat) (h : r < 4294967296) : s4 r < 4294967296 := s1_lt _ (s1_lt _ (s1_lt _ (s1_lt _ h)))
theorem split16 (q m : Nat) (h : m < 16) : (16 * q) ^^^ m = 16 * q + m := by
  have e : 16 * q = 2 ^ 4 * q := rfl
  rw [e]
  refine Nat.eq_of_testBit_eq fun i => ?_
  rw [Nat.testBit_xor, Nat.testBit_two_pow_mul_add q (b := m) (i := 4) h, Nat.testBit_two_pow_mul]
  by_cases hi : i < 4
  · rw [if_pos hi, decide_eq_false (by omega)]; simp
  · rw [if_neg hi, decide_eq_true (by omega), Nat.testBit_lt_two_pow (Nat.lt_of_lt_of_le h (show 2 ^ 4 ≤ 2 ^ i from Nat.pow_le_pow_right (by decide) (by omega)))]; simp
/-- half a byte, by the table -/
theorem s4_nib (r : Nat) : r / 16 ^^^ s4 (r % 16) = s4 r := by
  have e : r = (16 * (r / 16)) ^^^ (r % 16) := by rw [split16 _ _ (by omega)]; omega
  have h : s4 (16 * (r / 16)) = r / 16 := by
    unfold s4
    rw [show 16 * (r / 16) = 2 * (2 * (2 * (2 * (r / 16)))) by omega, s1_even, s1_even, s1_even, s1_even]
  conv => rhs; rw [e, s4_xor, h]
def tab : List Int := [0, 274646895, 549293790, 820201905, 1098587580, 1361435347, 1640403810, 1905808397, 2197175160, 2460548119, 2722870694, 2987750089, 3280807620, 3553878443, 3811616794, 4084100981]
theorem tab_is : ∀ i : Fin 16, tab.getD i.val 0 = ((s4 i.val : Nat) : Int) := by decide +kernel
/-- a byte -/
def s8 (r c : Nat) : Nat := s4 (s4 (r ^^^ c))
def run (r : Nat) (L : List Nat) : Nat := L.foldl s8 r
theorem s8_lt (r c : Nat) (h : r < 4294967296) (hc : c < 256) : s8 r c < 4294967296 := s4_lt _ (s4_lt _ (Nat.xor_lt_two_pow (n := 32) h (by omega)))
theorem run_lt : ∀ (L : List Nat) (r : Nat), r < 4294967296 → (∀ b ∈ L, b < 256) → run r L < 4294967296
  | [], _, h, _ => h
  | c :: t, r, h, hB => run_lt t (s8 r c) (s8_lt r c h (hB c (List.mem_cons_self ..))) fun b hb => hB b (List.mem_cons_of_mem _ hb)
theorem run_append (r : Nat) (a b : List Nat) : run r (a ++ b) = run (run r a) b := List.foldl_append

/-- the document's bit -/
def rb (r b : Nat) : Nat := if (r + b) % 2 = 1 then r / 2 ^^^ 2197175160 else r / 2
theorem rb_is (r b : Nat) : s1 (r ^^^ b) = rb r b ^^^ b / 2 := by
  unfold s1 rb
  have h1 : (r ^^^ b) / 2 = r / 2 ^^^ b / 2 := Nat.xor_div_two
  have h2 : (r ^^^ b) % 2 = (r + b) % 2 := xor_par r b
  rw [h1, h2]
  by_cases h : (r + b) % 2 = 1
  · rw [if_pos h, if_pos h, Nat.xor_assoc, Nat.xor_assoc, Nat.xor_comm 2197175160]
  · rw [if_neg h, if_neg h, Nat.xor_zero]
/-- k bits of a byte, the lowest first -/
def rk (r c : Nat) : Nat → Nat
  | 0 => r
  | k + 1 => rb (rk r c k) (c / 2 ^ k)
def s1k (r : Nat) : Nat → Nat
  | 0 => r
  | k + 1 => s1 (s1k r k)
theorem rk_is (r c : Nat) : ∀ k, s1k (r ^^^ c) k = rk r c k ^^^ c / 2 ^ k
  | 0 => by show r ^^^ c = r ^^^ c / 2 ^ 0; rw [Nat.pow_zero, Nat.div_one]
  | k + 1 => by
    show s1 (s1k (r ^^^ c) k) = rb (rk r c k) (c / 2 ^ k) ^^^ c / 2 ^ (k + 1)
    rw [rk_is r c k, rb_is, Nat.pow_succ, Nat.div_div_eq_div_mul]
theorem rk_byte (r c : Nat) (hc : c < 256) : rk r c 8 = s8 r c := by
  have := rk_is r c 8
  rw [show c / 2 ^ 8 = 0 by omega, Nat.xor_zero] at this
  rw [← this]; rfl
theorem rb_lt (r b : Nat) (h : r < 4294967296) : rb r b < 4294967296 := by
  unfold rb
  split
  · exact Nat.xor_lt_two_pow (n := 32) (by omega) (by omega)
  · omega
theorem rk_lt (r c : Nat) (h : r < 4294967296) : ∀ k, rk r c k < 4294967296
  | 0 => h
  | k + 1 => rb_lt _ _ (rk_lt r c h k)
/-- the sum of bytes -/
def crcOf (L : List Nat) : Nat := 4294967295 - run 4294967295 L
end Go.Proofs.YtkaigmgnmdhngaaDoor
