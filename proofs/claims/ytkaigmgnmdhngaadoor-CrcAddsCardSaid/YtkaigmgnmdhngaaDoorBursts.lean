/- The walk of the law CrcBursts. -/
import Derived.Test.YtkaigmgnmdhngaaDoorApart
import Derived.RegionTactic
namespace Go.Proofs.YtkaigmgnmdhngaaDoor
open Go.ChangeShapes Go.WideShapes Go.ChangeAt Go.RowKit Go.Joins
set_option linter.unusedVariables false

theorem close_m (sp : Option Addr) (cap m : Nat) (L : List Nat) (hL : L.length = m) (hn : m ≤ 4000) (hB : ∀ b ∈ L, b < 256) (w : World) (ht : Hid (Tab w)) (hS : Hid (Src w sp L)) :
    Calls Tryd.prog 13 #[.slice sp m cap] w fun e w' => ∃ g, e = .returned (.slice (some ⟨g, 0, none⟩) (m + 4) (m + 4)) ∧ Hid (w.heap.size ≤ g) ∧ Hid (Row w' g (m + 4) (L ++ four (crcOf L))) ∧ Hid (Below w.heap.size w w') := by
  subst hL
  refine (close_any sp cap L hn hB w ht hS).mono fun e w' ⟨g, h1, h2, h3, h4⟩ => ⟨g, h1, Lib.hid h2, Lib.hid ⟨_, h3, ?_, ?_, ?_⟩, Lib.hid h4⟩
  · simp [cells, four]
  · simp [four]
  · have e1 : (L ++ four (crcOf L)).length = L.length + 4 := by simp [four]
    rw [List.toList_toArray]
    exact List.take_of_length_le (by rw [cells_len]; omega)
/-- what stands at the loop's head, j bits looked at -/
def Flipped (C : List Nat) (k B j g cap H : Nat) (w wr : World) : Prop := ∃ M : List Nat, M.length = C.length ∧ (∀ b ∈ M, b < 256) ∧ num M = num C ^^^ 2 ^ k * (B % 2 ^ j) ∧ Row wr g cap M ∧ Below H w wr
theorem piece1 (B j : Nat) : 2 ^ j * (B / 2 ^ j % 2) ^^^ (B % 2 ^ j) = B % 2 ^ (j + 1) := piece B j 1
theorem flip_no {C : List Nat} {k B j g cap H : Nat} {w wr : World} (h : Flipped C k B j g cap H w wr) (hb : ¬ B / 2 ^ j % 2 = 1) : Flipped C k B (j + 1) g cap H w wr := by
  obtain ⟨M, h1, h2, h3, h4, h5⟩ := h
  refine ⟨M, h1, h2, ?_, h4, h5⟩
  rw [h3, ← piece1, show B / 2 ^ j % 2 = 0 by omega, Nat.mul_zero, Nat.zero_xor]
theorem flip_one {C : List Nat} {k B j g cap H : Nat} {w wr : World} (h : Flipped C k B j g cap H w wr) (hb : B / 2 ^ j % 2 = 1) (hkj : k + j < 8 * C.length) (hH : H ≤ g) :
    ∃ c : Nat, c < 256 ∧ wr.cell? ⟨g, (k + j) / 8, none⟩ = some (.int .u8 (c : Int)) ∧ wr.frozen? ⟨g, (k + j) / 8, none⟩ = false ∧
      Flipped C k B (j + 1) g cap H w (wr.setCell ⟨g, (k + j) / 8, none⟩ (.int .u8 ((c ^^^ 2 ^ ((k + j) % 8) : Nat) : Int))) := by
  obtain ⟨M, h1, h2, h3, h4, h5⟩ := h
  have hkM : (k + j) / 8 < M.length := by omega
  have hx : 2 ^ ((k + j) % 8) < 256 := Nat.lt_of_le_of_lt (Nat.pow_le_pow_right (by decide) (show (k + j) % 8 ≤ 7 by omega)) (by decide)
  refine ⟨M.getD ((k + j) / 8) 0, getD_byte h2 _, row_byte h4 _ hkM, row_free h4 _, M.set ((k + j) / 8) (M.getD ((k + j) / 8) 0 ^^^ 2 ^ ((k + j) % 8)), by rw [List.length_set, h1], set_byte h2 _ _ (xor_byte _ _ (getD_byte h2 _) hx), ?_, row_put h4 _ hkM _, h5.setCell (p := ⟨g, (k + j) / 8, none⟩) hH _⟩
  rw [num_set M _ _ hkM h2 hx, h3, Nat.xor_assoc, ← Nat.pow_add, show 8 * ((k + j) / 8) + (k + j) % 8 = k + j by omega]
  congr 1
  rw [← piece1, hb, Nat.mul_one, ← xor_mul, ← Nat.pow_add, Nat.xor_comm]
theorem bit_step2 (B j : Nat) : B % 2 ^ (j + 1) = 0 ↔ B % 2 ^ j = 0 ∧ ¬ B / 2 ^ j % 2 = 1 := by
  have h := piece1 B j
  rw [split2 _ _ _ (Nat.mod_lt _ (Nat.two_pow_pos _))] at h
  rw [← h]
  have hp := Nat.two_pow_pos j
  generalize B % 2 ^ j = a
  have hc : B / 2 ^ j % 2 < 2 := Nat.mod_lt _ (by decide)
  generalize B / 2 ^ j % 2 = c at *
  generalize 2 ^ j = d at *
  rcases (show c = 0 ∨ c = 1 by omega) with rfl | rfl <;> omega
theorem flipped_end {C : List Nat} {k B j g cap H : Nat} {w wr : World} (h : Flipped C k B j g cap H w wr) (hC : ∀ b ∈ C, b < 256) (hO : Opens C) (hk : k ≤ 8 * C.length) (hB : B < 4294967296) :
    ∃ M : List Nat, M.length = C.length ∧ (∀ b ∈ M, b < 256) ∧ Row wr g cap M ∧ Below H w wr ∧ (Opens M ↔ B % 2 ^ j = 0) := by
  obtain ⟨M, h1, h2, h3, h4, h5⟩ := h
  have h6 : 4 ≤ C.length := hO.1
  refine ⟨M, h1, h2, h4, h5, ?_⟩
  rw [opens_iff M h2 (by omega), ← (opens_iff C hC h6).1 hO]
  exact run_iff C M h1 hC h2 k _ h3 hk (Nat.lt_of_le_of_lt (Nat.mod_le _ _) hB) _
theorem flipped_drew {C : List Nat} {k B j g cap H : Nat} {w wr : World} (h : Flipped C k B j g cap H w wr) : Flipped C k B j g cap H w wr.drew := by
  obtain ⟨M, h1, h2, h3, h4, h5⟩ := h
  exact ⟨M, h1, h2, h3, h4, h5.drew⟩
theorem bit_mod (B j : Nat) : ((B : Int) / 2 ^ j).tmod 2 = ((B / 2 ^ j % 2 : Nat) : Int) := by
  have e : (B : Int) / 2 ^ j = ((B / 2 ^ j : Nat) : Int) := by push_cast; rfl
  rw [e]
  generalize B / 2 ^ j = x
  rw [Int.tmod_eq_emod_of_nonneg (by omega)]; omega
theorem flip_val (d n : Nat) (hd : d < 256) : ∀ x : Int, x = 2 ^ (n % 8) % 256 → bits .xor .u8 (d : Int) x = ((d ^^^ 2 ^ (n % 8) : Nat) : Int) := fun x hx => by
  have hl : 2 ^ (n % 8) < 256 := Nat.lt_of_le_of_lt (Nat.pow_le_pow_right (by decide) (show n % 8 ≤ 7 by omega)) (by decide)
  have e : x = ((2 ^ (n % 8) : Nat) : Int) := by
    have e2 : (2 : Int) ^ (n % 8) = ((2 ^ (n % 8) : Nat) : Int) := by push_cast; rfl
    rw [hx, e2]
    clear e2 hx
    generalize 2 ^ (n % 8) = y at *
    omega
  rw [e]
  exact u8_xor_nat _ _ hd hl
set_option maxRecDepth 20000 in
set_option maxHeartbeats 2000000 in
theorem bursts_zero (a0 : Option Addr) (len0 cap0 m : Nat) (hm : Cut m len0) (hcap : len0 ≤ cap0) (at' : Int) (w : World) (hT : Hid (Tab w)) (L : List Nat) (hL : L.length = m) (hB : ∀ b ∈ L, b < 256) (hS : Src w a0 L) :
    Calls Tryd.prog 5 #[.slice a0 len0 cap0, .int .i64 at', .int .u32 0] w fun e w' => e = .returned (.bool true) ∧ Below w.heap.size w w' := by
  have hm3 : m ≤ 3000 := by rcases hm with h | h <;> omega
  have HBy := Lib.hid (bytes_any a0 len0 cap0 m hm hcap w)
  have HC := Lib.hid (close_m a0 cap0 m L hL (by omega) hB w hT (Lib.hid hS))
  clear hm hcap hL hB hS
  go_enter Tryd.func5, Tryd.ntmps5
  go_wp2_with fail
  refine HBy.out.mono ?_
  rintro e w' ⟨rfl, rfl⟩
  go_wp2_with fail
  refine HC.out.mono ?_
  rintro e w1 ⟨g, rfl, hg, hr, hb1⟩
  go_wp2_with fail
  refine (sums_any _ (Lib.hid (tab_later hT.out hb1.out))).mono ?_
  rintro e w2 ⟨rfl, hb2'⟩
  have hb2 := Lib.hid (chain2 hb1.out hb2')
  clear hb2'
  go_wp2_with fail
  refine (sums_any _ (Lib.hid (tab_later hT.out hb2.out))).mono ?_
  rintro e w3 ⟨rfl, hb3'⟩
  go_wp2_with fail
  go_ret
  exact ⟨rfl, chain2 hb2.out hb3'⟩
set_option maxRecDepth 20000 in
set_option maxHeartbeats 4000000 in
theorem bursts_some (a0 : Option Addr) (len0 cap0 m : Nat) (hm : Cut m len0) (hcap : len0 ≤ cap0) (at' : Int) (B : Nat) (hB32 : B < 4294967296) (hB0 : ¬ B = 0) (w : World) (hT : Hid (Tab w)) (L : List Nat) (hL : L.length = m) (hB : ∀ b ∈ L, b < 256) (hS : Src w a0 L)
    (k : Nat) (hk : wrap64 ((IntKind.u64.wrap at').tmod (8 * ((m : Int) + 4))) = (k : Int)) (hkm : k < 8 * (m + 4)) :
    Calls Tryd.prog 5 #[.slice a0 len0 cap0, .int .i64 at', .int .u32 (B : Int)] w fun e w' => e = .returned (.bool true) ∧ Below w.heap.size w w' := by
  have hm3 : m ≤ 3000 := by rcases hm with h | h <;> omega
  have hbb : ((B : Int) == 0) = false := by simp; omega
  have HBy := Lib.hid (bytes_any a0 len0 cap0 m hm hcap w)
  have HC := Lib.hid (close_m a0 cap0 m L hL (by omega) hB w hT (Lib.hid hS))
  obtain ⟨C, hCe⟩ : ∃ C, L ++ four (crcOf L) = C := ⟨_, rfl⟩
  have HCl : Hid (True → C.length = m + 4) := Lib.hid fun _ => by rw [← hCe, List.length_append, hL]; rfl
  have HCb : Hid (∀ b ∈ C, b < 256) := Lib.hid (by
    rw [← hCe]; intro b hb
    rcases List.mem_append.1 hb with h | h
    · exact hB b h
    · exact four_byte _ b h)
  have HCo : Hid (Opens C) := Lib.hid (by rw [← hCe]; exact opens_closed L)
  rw [hCe] at HC
  clear hm hcap hL hB hS hCe
  go_enter Tryd.func5, Tryd.ntmps5
  go_wp2_with fail
  refine HBy.out.mono ?_
  rintro e w' ⟨rfl, rfl⟩
  go_wp2_with fail
  refine HC.out.mono ?_
  rintro e w1 ⟨g, rfl, hg, hr, hb1⟩
  go_wp2_with fail
  refine (sums_any _ (Lib.hid (tab_later hT.out hb1.out))).mono ?_
  rintro e w2 ⟨rfl, hb2'⟩
  have HF0 : Hid (Flipped C k B 0 g (m + 4) w.heap.size w w2) := Lib.hid ⟨C, rfl, HCb.out, by rw [Nat.pow_zero, Nat.mod_one, Nat.mul_zero, Nat.xor_zero], row_later hr.out hb2', chain2 hb1.out hb2'⟩
  clear hb2' hr hb1 HBy HC
  go_wp2_with fail
  rw [hk]
  clear hk
  go_loopw [10, 11] (fun ch i wr => ∃ (c : Bool) (j : Nat), ch = .bool c ∧ i = .int .i64 (j : Int) ∧ j ≤ 32 ∧ Hid (c = true ↔ ¬ B % 2 ^ j = 0) ∧ Hid (Flipped C k B j g (m + 4) w.heap.size w wr)) (fun _ i _ => 32 - (intOf i).toNat)
  case atStart => exact ⟨false, 0, rfl, rfl, by omega, Lib.hid (by rw [Nat.pow_zero, Nat.mod_one]; simp), HF0⟩
  case round =>
    obtain ⟨c, j, rfl, rfl, hj4, hc, ht⟩ := hrel
    clear HF0
    by_cases hj : j < 32 ∧ k + j < 8 * (m + 4)
    · obtain ⟨hj, hkjm⟩ := hj
      by_cases hb : B / 2 ^ j % 2 = 1
      · obtain ⟨d, hd, hcell, hfree, ht'⟩ := flip_one ht.out hb (by rw [HCl.out trivial]; exact hkjm) hg.out
        have HT' := Lib.hid ht'
        have hbt : (((B : Int) / 2 ^ j).tmod 2 == 1) = true := by rw [bit_mod B j, hb]; rfl
        have hix0 : (0 : Int) ≤ ((k : Int) + (j : Int)) / 8 := by omega
        have hix1 : ((k : Int) + (j : Int)) / 8 < (m : Int) + 4 := by omega
        have hX := Lib.hid (fun _ : True => flip_val d (k + j) hd)
        have HC' : Hid (True → ¬ B % 2 ^ (j + 1) = 0) := Lib.hid fun _ => by rw [bit_step2]; exact fun h => h.2 hb
        clear ht' ht hb
        go_wp2_with fail
        go_region
        all_goals
          go_wp2_with fail
          go_roundw
          case rel =>
            rw [hX.out trivial _ rfl]
            exact ⟨true, j + 1, rfl, by go_num, by omega, Lib.hid ⟨fun _ => HC'.out trivial, fun _ => rfl⟩, Lib.hid (flipped_drew HT'.out)⟩
          case measure => simp [intOf]; omega
      · have HT' := Lib.hid (flip_no ht.out hb)
        have hbt : (((B : Int) / 2 ^ j).tmod 2 == 1) = false := by rw [bit_mod B j, show B / 2 ^ j % 2 = 0 by omega]; rfl
        have HC' : Hid (c = true ↔ ¬ B % 2 ^ (j + 1) = 0) := Lib.hid (by rw [bit_step2]; simp only [hb, not_false_eq_true, and_true]; exact hc.out)
        clear ht hb
        go_wp2_with fail
        go_roundw
        case rel => exact ⟨c, j + 1, rfl, by go_num, by omega, HC', HT'⟩
        case measure => simp [intOf]; omega
    · obtain ⟨M, hM1, hM2, hM3, hM4, hM5⟩ := flipped_end ht.out HCb.out HCo.out (by rw [HCl.out trivial]; omega) hB32
      have HSn := Lib.hid (open_any (some ⟨g, 0, none⟩) (m + 4) M (by rw [hM1, HCl.out trivial]; omega) (by rw [hM1, HCl.out trivial]; omega) (by rw [hM1, HCl.out trivial]; omega) hM2 wr (Lib.hid (tab_later hT.out hM4)) (Lib.hid (row_srcs hM3)))
      rw [hM1, HCl.out trivial] at HSn
      have HB4 := Lib.hid hM4
      have hE : Hid (Opens M ↔ c = false) := Lib.hid (by
        rw [hM5]
        have hc' := hc.out
        cases c
        · simpa using hc'
        · simpa using hc')
      clear ht hc hM1 hM2 hM3 hM4 hM5
      by_cases hj : j < 32
      case' pos => have hkj2 : ¬ k + j < 8 * (m + 4) := fun h => by omega
      all_goals
        go_wp2_with fail
        refine HSn.out.mono ?_
        rintro e w5 ⟨hb5', ⟨hO, rfl⟩ | ⟨hO, g5, rfl, _⟩⟩
        · have hc1 : c = true := by
            cases c
            · exact absurd (hE.out.2 rfl) hO
            · rfl
          subst hc1
          have hb5 := Lib.hid hb5'
          clear hb5' hO hE HSn
          go_wp2_with fail
          go_ret
          exact ⟨rfl, chain2 HB4.out hb5.out⟩
        · have hc1 : c = false := hE.out.1 hO
          subst hc1
          have hb5 := Lib.hid hb5'
          clear hb5' hO hE HSn
          go_wp2_with fail
          go_ret
          exact ⟨rfl, chain2 HB4.out hb5.out⟩
theorem mod_bits (cut : Int) (m : Nat) (hm : m ≤ 3000) : ∃ k : Nat, wrap64 ((IntKind.u64.wrap cut).tmod (8 * ((m : Int) + 4))) = (k : Int) ∧ k < 8 * (m + 4) := by
  obtain ⟨k, h1, h2⟩ := mod_cut1 cut (8 * (m + 4)) (by omega) (by omega)
  refine ⟨k, ?_, h2⟩
  rw [← h1]
  congr 2
theorem crcBursts_walk (a0 : Option Addr) (len0 cap0 : Nat) (z0 : List Int) (a1 : Int) (a2 : Int) (w : World) (hl : laidMetH Tryd.prog [("scriptor/crc.halves", Rows.laid_scriptor_crc_halves)] w) (w0 : Came w a0 len0 cap0 z0) (w2 : (Lit.int .u32 a2).wf = true) :
    Calls Tryd.prog 5 #[.slice a0 len0 cap0, .int .i64 a1, .int .u32 a2] w fun e w' => e = .returned (.bool true) ∧ Below w.heap.size w w' := by
  have hT := Lib.hid (tab_of_laid hl)
  obtain ⟨B, rfl, hB32⟩ := bounds_u32 w2
  obtain ⟨m, hm, hml, hm3⟩ := cut_of len0
  obtain ⟨L, hL, hB, hS⟩ := came_src w0 m hml
  obtain ⟨hcap, _⟩ := came_le w0
  obtain ⟨k, hk, hkm⟩ := mod_bits a1 m hm3
  by_cases h0 : B = 0
  · subst h0
    exact bursts_zero a0 len0 cap0 m hm hcap a1 w hT L hL hB hS
  · exact bursts_some a0 len0 cap0 m hm hcap a1 B hB32 h0 w hT L hL hB hS k hk hkm
end Go.Proofs.YtkaigmgnmdhngaaDoor
