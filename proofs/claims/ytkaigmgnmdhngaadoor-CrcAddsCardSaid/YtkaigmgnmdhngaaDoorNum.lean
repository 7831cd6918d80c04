/- Bytes as one number: what a byte that is turned does to it; unlike sums; what opens. No program here. -/
import Derived.Test.YtkaigmgnmdhngaaDoorBurst
namespace Go.Proofs.YtkaigmgnmdhngaaDoor

theorem xor_mul (k a b : Nat) : 2 ^ k * a ^^^ 2 ^ k * b = 2 ^ k * (a ^^^ b) := by
  refine Nat.eq_of_testBit_eq fun i => ?_
  rw [Nat.testBit_xor, Nat.testBit_two_pow_mul, Nat.testBit_two_pow_mul, Nat.testBit_two_pow_mul, Nat.testBit_xor]
  cases decide (i ≥ k) <;> simp
theorem split2 (n q m : Nat) (h : m < 2 ^ n) : (2 ^ n * q) ^^^ m = 2 ^ n * q + m := by
  refine Nat.eq_of_testBit_eq fun i => ?_
  rw [Nat.testBit_xor, Nat.testBit_two_pow_mul_add q (b := m) (i := n) h, Nat.testBit_two_pow_mul]
  by_cases hi : i < n
  · rw [if_pos hi, decide_eq_false (by omega)]; simp
  · rw [if_neg hi, decide_eq_true (by omega), Nat.testBit_lt_two_pow (Nat.lt_of_lt_of_le h (Nat.pow_le_pow_right (by decide) (by omega)))]; simp
theorem num_cons (b : Nat) (t : List Nat) (hb : b < 256) : num (b :: t) = (2 ^ 8 * num t) ^^^ b := by
  rw [split2 8 (num t) b hb]; show b + 256 * num t = 256 * num t + b; omega
theorem xor_byte (a b : Nat) (ha : a < 256) (hb : b < 256) : a ^^^ b < 256 := Nat.xor_lt_two_pow (n := 8) ha hb
/-- one byte turned -/
theorem num_set : ∀ (L : List Nat) (j v : Nat), j < L.length → (∀ b ∈ L, b < 256) → v < 256 → num (L.set j (L.getD j 0 ^^^ v)) = num L ^^^ (2 ^ (8 * j) * v)
  | [], _, _, h, _, _ => by simp at h
  | b :: t, 0, v, _, hB, hv => by
    have hb := hB b (List.mem_cons_self ..)
    show num ((b ^^^ v) :: t) = _
    rw [num_cons _ _ (xor_byte b v hb hv), num_cons b t hb, Nat.mul_zero, Nat.pow_zero, Nat.one_mul, Nat.xor_assoc]
  | b :: t, j + 1, v, h, hB, hv => by
    have hb := hB b (List.mem_cons_self ..)
    have ih := num_set t j v (by simpa using h) (fun c hc => hB c (List.mem_cons_of_mem _ hc)) hv
    show num (b :: t.set j (t.getD j 0 ^^^ v)) = _
    rw [num_cons b _ hb, num_cons b t hb, ih, ← xor_mul, Nat.xor_assoc, Nat.xor_assoc, Nat.xor_comm b]
    rw [show 8 * (j + 1) = 8 + 8 * j by omega, Nat.pow_add, Nat.mul_assoc]
theorem set_byte {L : List Nat} (hB : ∀ b ∈ L, b < 256) (j x : Nat) (hx : x < 256) : ∀ b ∈ L.set j x, b < 256 := fun b hb => by
  rcases List.mem_or_eq_of_mem_set hb with h | h
  · exact hB b h
  · omega
/-- a piece more of a number, the lowest first -/
theorem piece (B s d : Nat) : 2 ^ s * (B / 2 ^ s % 2 ^ d) ^^^ (B % 2 ^ s) = B % 2 ^ (s + d) := by
  rw [split2 s _ _ (Nat.mod_lt _ (Nat.two_pow_pos s)), Nat.pow_add, Nat.mod_mul, Nat.add_comm]
theorem s1k_zero : ∀ k, s1k 0 k = 0
  | 0 => rfl
  | k + 1 => by show s1 (s1k 0 k) = 0; rw [s1k_zero k]; rfl
theorem xor_eq_zero {a b : Nat} (h : a ^^^ b = 0) : a = b := by
  have := congrArg (· ^^^ b) h
  simpa [Nat.xor_assoc] using this
theorem s1k_eq (a b : Nat) (ha : a < 4294967296) (hb : b < 4294967296) (n : Nat) (h : s1k a n = s1k b n) : a = b := by
  refine xor_eq_zero ?_
  by_cases h0 : a ^^^ b = 0
  · exact h0
  · exfalso
    refine (s1k_ne (a ^^^ b) (Nat.xor_lt_two_pow (n := 32) ha hb) h0 n).2 ?_
    rw [s1k_xor, h, Nat.xor_self]
/-- rows that differ by 32 bits at most have one register just if they are one -/
theorem run_iff (L M : List Nat) (hl : M.length = L.length) (hL : ∀ b ∈ L, b < 256) (hM : ∀ b ∈ M, b < 256) (k B : Nat) (hn : num M = num L ^^^ 2 ^ k * B) (hk : k ≤ 8 * L.length) (hb : B < 4294967296) (r : Nat) : run r M = run r L ↔ B = 0 := by
  have e : run r M = run r L ^^^ s1k (2 ^ k * B) (8 * L.length) := by
    rw [run_num M r hM, run_num L r hL, hl, hn, ← Nat.xor_assoc, s1k_xor]
  obtain ⟨j, hj⟩ : ∃ j, 8 * L.length = k + j := ⟨8 * L.length - k, by omega⟩
  have e2 : s1k (2 ^ k * B) (8 * L.length) = s1k B j := by rw [hj, s1k_add, s1k_even]
  rw [e, e2]
  constructor
  · intro h
    by_cases h0 : B = 0
    · exact h0
    · exfalso
      refine (s1k_ne B hb h0 j).2 ?_
      have := congrArg (run r L ^^^ ·) h
      simpa [← Nat.xor_assoc] using this
  · rintro rfl
    rw [s1k_zero, Nat.xor_zero]
theorem crcOf_iff (L M : List Nat) (hl : M.length = L.length) (hL : ∀ b ∈ L, b < 256) (hM : ∀ b ∈ M, b < 256) (k B : Nat) (hn : num M = num L ^^^ 2 ^ k * B) (hk : k ≤ 8 * L.length) (hb : B < 4294967296) : crcOf M = crcOf L ↔ B = 0 := by
  rw [← run_iff L M hl hL hM k B hn hk hb 4294967295]
  have h1 := run_lt L 4294967295 (by decide) hL
  have h2 := run_lt M 4294967295 (by decide) hM
  unfold crcOf
  omega
theorem not_xor (r : Nat) (h : r < 4294967296) : 4294967295 - r = 4294967295 ^^^ r := by
  have e := BitVec.toNat_not (x := BitVec.ofNat 32 r)
  have e4 : ~~~ (BitVec.ofNat 32 r) = BitVec.allOnes 32 ^^^ BitVec.ofNat 32 r := BitVec.not_def
  rw [e4, BitVec.toNat_xor, BitVec.toNat_allOnes, BitVec.toNat_ofNat, Nat.mod_eq_of_lt (show r < 2 ^ 32 from h)] at e
  exact e.symm
theorem xor_swap {r x c : Nat} (h : r ^^^ x = c) : x = c ^^^ r := by
  rw [← h, Nat.xor_comm r, Nat.xor_assoc, Nat.xor_self, Nat.xor_zero]
theorem num_four (D : List Nat) (h : D.length = 4) : acc D 4 = num D := by
  match D, h with
  | [a, b, c, d], _ =>
    show 0 + a * 2 ^ (8 * 0) + b * 2 ^ (8 * 1) + c * 2 ^ (8 * 2) + d * 2 ^ (8 * 3) = a + 256 * (b + 256 * (c + 256 * (d + 256 * 0)))
    omega
/-- bytes that open: the register behind all of them is always the same -/
theorem opens_iff (C : List Nat) (hB : ∀ b ∈ C, b < 256) (h4 : 4 ≤ C.length) : Opens C ↔ run 4294967295 C = s1k 4294967295 32 := by
  obtain ⟨n, hn⟩ : ∃ n, C.length - 4 = n := ⟨_, rfl⟩
  have hsp : C = C.take n ++ C.drop n := (List.take_append_drop n C).symm
  have hD : (C.drop n).length = 4 := by rw [List.length_drop]; omega
  have hBM : ∀ b ∈ C.take n, b < 256 := fun b hb => hB b (List.mem_of_mem_take hb)
  have hBD : ∀ b ∈ C.drop n, b < 256 := fun b hb => hB b (List.mem_of_mem_drop hb)
  have hr := run_lt (C.take n) 4294967295 (by decide) hBM
  have ha : num (C.drop n) < 4294967296 := by
    rw [← num_four _ hD]
    exact acc_lt _ hBD 4
  have e1 : run 4294967295 C = s1k (run 4294967295 (C.take n) ^^^ num (C.drop n)) 32 := by
    conv => lhs; rw [hsp]
    rw [run_append, run_num _ _ hBD, hD]
  unfold Opens
  rw [hn, num_four _ hD, e1]
  unfold crcOf
  rw [not_xor _ hr]
  constructor
  · rintro ⟨_, h⟩
    rw [h, Nat.xor_comm 4294967295, ← Nat.xor_assoc, Nat.xor_self, Nat.zero_xor]
  · intro h
    refine ⟨h4, ?_⟩
    exact xor_swap (s1k_eq _ _ (Nat.xor_lt_two_pow (n := 32) hr ha) (by decide) 32 h)
theorem opens_closed (L : List Nat) : Opens (L ++ four (crcOf L)) := by
  have e4 : (four (crcOf L)).length = 4 := rfl
  unfold Opens
  rw [List.length_append, e4, Nat.add_sub_cancel, List.drop_left, List.take_left, acc_four _ (crcOf_le L)]
  exact ⟨by omega, rfl⟩
theorem four_byte (s : Nat) : ∀ b ∈ four s, b < 256 := by
  intro b hb
  simp [four] at hb
  omega
end Go.Proofs.YtkaigmgnmdhngaaDoor
