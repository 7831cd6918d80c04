/- The walk of the law CrcApart. -/
import Derived.Test.YtkaigmgnmdhngaaDoorRow
namespace Go.Proofs.YtkaigmgnmdhngaaDoor
open Go.ChangeShapes Go.WideShapes Go.ChangeAt Go.RowKit Go.Joins
set_option linter.unusedVariables false

theorem bool_eq {a b : Bool} (h : a = b) : Ending.returned (.bool a) = .returned (.bool b) := by rw [h]
set_option maxRecDepth 20000 in
set_option maxHeartbeats 2000000 in
/-- no bytes -/
theorem apart_none (a0 : Option Addr) (len0 cap0 m : Nat) (hm : Cut m len0) (hcap : len0 ≤ cap0) (at' : Int) (by' : Nat) (w : World) (hT : Hid (Tab w)) (hA : (a0 = none ∧ cap0 = 0 ∧ m = 0) ∨ ∃ x, a0 = some x) (hm0 : m = 0) :
    Calls Tryd.prog 7 #[.slice a0 len0 cap0, .int .i64 at', .int .u32 (by' : Int)] w fun e w' => e = .returned (.bool true) ∧ Below w.heap.size w w' := by
  subst hm0
  obtain ⟨i0, hi, hz0, hz1, hz2⟩ := info_parts info8
  have HBy := Lib.hid (fun W => bytes_any a0 len0 cap0 0 hm hcap W)
  have hown := owns_new w
  have hb1 := (Below.refl w.heap.size w).alloc (Nat.le_refl _) (.cells #[] 5)
  rcases hA with ⟨rfl, rfl, _⟩ | ⟨x, rfl⟩
  · clear hm
    go_enter Tryd.func7, Tryd.ntmps7
    go_wp2_with fail
    refine (HBy.out _).mono ?_
    rintro e w' ⟨rfl, rfl⟩
    go_wp2_with (at_builtin; refine wpList_append_own_none rfl _ _ 22 rfl w.heap.size 5 i0 1 Tryd.underlying22 hi _ 0 [] rfl hown rfl ?_)
    refine (sums_any _ (Lib.hid (tab_later hT.out hb1))).mono ?_
    rintro e w3 ⟨rfl, hb3'⟩
    have hb3 := Lib.hid hb3'
    clear hb3'
    go_wp2_with fail
    refine (sums_any _ (Lib.hid (tab_later hT.out (chain2 hb1 hb3.out)))).mono ?_
    rintro e w4 ⟨rfl, hb4'⟩
    have hb4 := Lib.hid hb4'
    clear hb4'
    go_wp2_with fail
    go_ret
    exact ⟨rfl, chain2 (chain2 hb1 hb3.out) hb4.out⟩
  · clear hm
    go_enter Tryd.func7, Tryd.ntmps7
    go_wp2_with fail
    refine (HBy.out _).mono ?_
    rintro e w' ⟨rfl, rfl⟩
    go_wp2_with (at_builtin; refine wpList_append_own _ rfl _ _ 22 rfl w.heap.size 5 i0 (.int .u8 0) 1 1 Tryd.underlying22 hi hz0 hz1 hz2 rfl (by decide) _ 0 [] rfl hown x 0 cap0 [] rfl rfl (fun j u h => by simp at h) (fun u h => by simp at h) (by decide) (by decide) (by simp) ?_; intro v' w2 hown' hgrow _; (obtain ⟨p, cap, rfl⟩ := owns_nil hown'); have hb2 := Lib.hid (hb1.grown hgrow (by simp) (fun k hk => by cases hk; exact Nat.le_refl _)); clear hown' hgrow)
    go_wp2_with fail
    refine (sums_any _ (Lib.hid (tab_later hT.out hb2.out))).mono ?_
    rintro e w3 ⟨rfl, hb3'⟩
    have hb3 := Lib.hid hb3'
    clear hb3'
    go_wp2_with fail
    refine (sums_any _ (Lib.hid (tab_later hT.out (chain2 hb2.out hb3.out)))).mono ?_
    rintro e w4 ⟨rfl, hb4'⟩
    have hb4 := Lib.hid hb4'
    clear hb4'
    go_wp2_with fail
    go_ret
    exact ⟨rfl, chain2 (chain2 hb2.out hb3.out) hb4.out⟩

/-- what stands at the loop's head, i bytes turned -/
def Turned (L : List Nat) (k by' i g cap B : Nat) (w wr : World) : Prop := ∃ M : List Nat, M.length = L.length ∧ (∀ b ∈ M, b < 256) ∧ num M = num L ^^^ 2 ^ (8 * k) * (by' % 2 ^ (8 * i)) ∧ Row wr g cap M ∧ Below B w wr
theorem turn_one {L : List Nat} {k by' i g cap B : Nat} {w wr : World} (h : Turned L k by' i g cap B w wr) (hki : k + i < L.length) (hB : B ≤ g) :
    ∃ c : Nat, c < 256 ∧ wr.cell? ⟨g, k + i, none⟩ = some (.int .u8 (c : Int)) ∧ wr.frozen? ⟨g, k + i, none⟩ = false ∧
      Turned L k by' (i + 1) g cap B w (wr.setCell ⟨g, k + i, none⟩ (.int .u8 ((c ^^^ (by' / 2 ^ (8 * i) % 256) : Nat) : Int))) := by
  obtain ⟨M, h1, h2, h3, h4, h5⟩ := h
  have hkM : k + i < M.length := by omega
  have hx : by' / 2 ^ (8 * i) % 256 < 256 := Nat.mod_lt _ (by decide)
  refine ⟨M.getD (k + i) 0, getD_byte h2 _, row_byte h4 _ hkM, row_free h4 _, M.set (k + i) (M.getD (k + i) 0 ^^^ (by' / 2 ^ (8 * i) % 256)), by rw [List.length_set, h1], set_byte h2 _ _ (xor_byte _ _ (getD_byte h2 _) hx), ?_, row_put h4 _ hkM _, h5.setCell (p := ⟨g, k + i, none⟩) hB _⟩
  rw [num_set M (k + i) _ hkM h2 hx, h3, Nat.xor_assoc]
  congr 1
  rw [show 8 * (k + i) = 8 * k + 8 * i by omega, Nat.pow_add, Nat.mul_assoc, xor_mul, Nat.xor_comm]
  congr 1
  exact piece by' (8 * i) 8
theorem ch_step (by' i : Nat) : by' % 2 ^ (8 * (i + 1)) = 0 ↔ by' % 2 ^ (8 * i) = 0 ∧ by' / 2 ^ (8 * i) % 256 = 0 := by
  have h := piece by' (8 * i) 8
  rw [split2 _ _ _ (Nat.mod_lt _ (Nat.two_pow_pos _))] at h
  rw [show 8 * (i + 1) = 8 * i + 8 by omega, ← h]
  have hp := Nat.two_pow_pos (8 * i)
  generalize by' % 2 ^ (8 * i) = a
  show 2 ^ (8 * i) * (by' / 2 ^ (8 * i) % 2 ^ 8) + a = 0 ↔ a = 0 ∧ by' / 2 ^ (8 * i) % 2 ^ 8 = 0
  generalize by' / 2 ^ (8 * i) % 2 ^ 8 = c
  generalize 2 ^ (8 * i) = d at *
  constructor
  · intro h
    have h1 : d * c = 0 := by omega
    have h2 : a = 0 := by omega
    exact ⟨h2, (Nat.mul_eq_zero.1 h1).resolve_left (by omega)⟩
  · rintro ⟨rfl, rfl⟩
    rw [Nat.mul_zero]
theorem turned_end {L : List Nat} {k by' i g cap B : Nat} {w wr : World} (h : Turned L k by' i g cap B w wr) (hL : ∀ b ∈ L, b < 256) (hk : k ≤ L.length) (hi : i ≤ 4) (hby : by' < 4294967296) :
    ∃ M : List Nat, M.length = L.length ∧ (∀ b ∈ M, b < 256) ∧ Row wr g cap M ∧ Below B w wr ∧ (crcOf M = crcOf L ↔ by' % 2 ^ (8 * i) = 0) := by
  obtain ⟨M, h1, h2, h3, h4, h5⟩ := h
  exact ⟨M, h1, h2, h4, h5, crcOf_iff L M h1 hL h2 (8 * k) _ h3 (by omega) (Nat.lt_of_le_of_lt (Nat.mod_le _ _) hby)⟩
set_option maxRecDepth 20000 in
set_option maxHeartbeats 4000000 in
theorem apart_zero (g0 o0 len0 cap0 m : Nat) (hm : Cut m len0) (hcap : len0 ≤ cap0) (at' : Int) (w : World) (hT : Hid (Tab w)) (hm0 : 0 < m) (L : List Nat) (hL : L.length = m) (hB : ∀ b ∈ L, b < 256) (hS : Src w (some ⟨g0, o0, none⟩) L) :
    Calls Tryd.prog 7 #[.slice (some ⟨g0, o0, none⟩) len0 cap0, .int .i64 at', .int .u32 0] w fun e w' => e = .returned (.bool true) ∧ Below w.heap.size w w' := by
  obtain ⟨i0, hi, hz0, hz1, hz2⟩ := info_parts info8
  have hbm : ((m : Int) == 0) = false := by simp; omega
  have hm3 : m ≤ 3000 := by rcases hm with h | h <;> omega
  have HBy := Lib.hid (fun W => bytes_any (some ⟨g0, o0, none⟩) len0 cap0 m hm hcap W)
  have hown := owns_new w
  have hb1 := Lib.hid ((Below.refl w.heap.size w).alloc (Nat.le_refl _) (.cells #[] 5))
  have hS1 := Lib.hid (src_pos (src_later hS hb1.out))
  have HLm := Lib.hid (fun _ : True => hL)
  have HBB := Lib.hid hB
  have K1 := Lib.hid (show m ≤ maxLen by unfold maxLen; omega)
  clear hm hcap hL hB hS
  go_enter Tryd.func7, Tryd.ntmps7
  go_wp2_with fail
  refine (HBy.out _).mono ?_
  rintro e w' ⟨rfl, rfl⟩
  go_wp2_with (at_builtin; refine wpList_append_own _ rfl _ _ 22 rfl w.heap.size 5 i0 (.int .u8 0) 1 1 Tryd.underlying22 hi hz0 hz1 hz2 rfl (by decide) _ 0 [] rfl hown ⟨g0, o0, none⟩ m cap0 (cells L) rfl (by rw [cells_len, HLm.out trivial, Nat.mul_one]) (fun j u hu => by obtain ⟨ad, e, h⟩ := hS1.out (by rw [cells_len, HLm.out trivial]; exact hm0); cases e; exact h j u hu) (cells_one L) (by rw [Nat.zero_add]; exact K1.out) (by rw [Nat.zero_add]; omega) (by simp) ?_; intro v' w2 hown' hgrow _; (obtain ⟨g, cap, rfl, hgB, hcap64, hmcap, hrow⟩ : ∃ g cap, v' = .slice (some ⟨g, 0, none⟩) m cap ∧ Hid (w.heap.size ≤ g) ∧ cap ≤ 9223372036854775807 ∧ m ≤ cap ∧ Hid (Row w2 g cap L) := by (rw [Nat.zero_add, List.nil_append, ← HLm.out trivial] at hown'; obtain ⟨g, cap, h1, h2, h3, h4, h5⟩ := row_of_owns hown' (by rw [HLm.out trivial]; exact hm0); rw [HLm.out trivial] at h1 h4; exact ⟨g, cap, h1, Lib.hid h2, h3, h4, Lib.hid h5⟩)); have hb2 := Lib.hid (hb1.out.grown hgrow (by simp) (fun k hk => by cases hk; exact Nat.le_refl _)); clear hown' hgrow hown hb1 hS1)
  refine (sums_any _ (Lib.hid (tab_later hT.out hb2.out))).mono ?_
  rintro e w3 ⟨rfl, hb3'⟩
  have hb3 := Lib.hid (chain2 hb2.out hb3')
  have hr3 := Lib.hid (row_later hrow.out hb3')
  clear hb3' hb2 hrow
  go_wp2_with fail
  refine (sums_any _ (Lib.hid (tab_later hT.out hb3.out))).mono ?_
  rintro e w4 ⟨rfl, hb4'⟩
  go_wp2_with fail
  go_ret
  exact ⟨rfl, chain2 hb3.out hb4'⟩
set_option maxRecDepth 20000 in
set_option maxHeartbeats 4000000 in
theorem apart_some (g0 o0 len0 cap0 m : Nat) (hm : Cut m len0) (hcap : len0 ≤ cap0) (at' : Int) (by' : Nat) (hby : by' < 4294967296) (w : World) (hT : Hid (Tab w)) (hm0 : 0 < m) (hby0 : ¬ by' = 0) (L : List Nat) (hL : L.length = m) (hB : ∀ b ∈ L, b < 256) (hS : Src w (some ⟨g0, o0, none⟩) L)
    (k : Nat) (hk : wrap64 ((IntKind.u64.wrap at').tmod (m : Int)) = (k : Int)) (hkm : k < m) :
    Calls Tryd.prog 7 #[.slice (some ⟨g0, o0, none⟩) len0 cap0, .int .i64 at', .int .u32 (by' : Int)] w fun e w' => e = .returned (.bool true) ∧ Below w.heap.size w w' := by
  obtain ⟨i0, hi, hz0, hz1, hz2⟩ := info_parts info8
  have hbm : ((m : Int) == 0) = false := by simp; omega
  have hbb : ((by' : Int) == 0) = false := by simp; omega
  have hm3 : m ≤ 3000 := by rcases hm with h | h <;> omega
  have HBy := Lib.hid (fun W => bytes_any (some ⟨g0, o0, none⟩) len0 cap0 m hm hcap W)
  have hown := owns_new w
  have hb1 := Lib.hid ((Below.refl w.heap.size w).alloc (Nat.le_refl _) (.cells #[] 5))
  have hS1 := Lib.hid (src_pos (src_later hS hb1.out))
  have HLm := Lib.hid (fun _ : True => hL)
  have HBB := Lib.hid hB
  have K1 := Lib.hid (show m ≤ maxLen by unfold maxLen; omega)
  clear hm hcap hL hB hS
  go_enter Tryd.func7, Tryd.ntmps7
  go_wp2_with fail
  refine (HBy.out _).mono ?_
  rintro e w' ⟨rfl, rfl⟩
  go_wp2_with (at_builtin; refine wpList_append_own _ rfl _ _ 22 rfl w.heap.size 5 i0 (.int .u8 0) 1 1 Tryd.underlying22 hi hz0 hz1 hz2 rfl (by decide) _ 0 [] rfl hown ⟨g0, o0, none⟩ m cap0 (cells L) rfl (by rw [cells_len, HLm.out trivial, Nat.mul_one]) (fun j u hu => by obtain ⟨ad, e, h⟩ := hS1.out (by rw [cells_len, HLm.out trivial]; exact hm0); cases e; exact h j u hu) (cells_one L) (by rw [Nat.zero_add]; exact K1.out) (by rw [Nat.zero_add]; omega) (by simp) ?_; intro v' w2 hown' hgrow _; (obtain ⟨g, cap, rfl, hgB, hcap64, hmcap, hrow⟩ : ∃ g cap, v' = .slice (some ⟨g, 0, none⟩) m cap ∧ Hid (w.heap.size ≤ g) ∧ cap ≤ 9223372036854775807 ∧ m ≤ cap ∧ Hid (Row w2 g cap L) := by (rw [Nat.zero_add, List.nil_append, ← HLm.out trivial] at hown'; obtain ⟨g, cap, h1, h2, h3, h4, h5⟩ := row_of_owns hown' (by rw [HLm.out trivial]; exact hm0); rw [HLm.out trivial] at h1 h4; exact ⟨g, cap, h1, Lib.hid h2, h3, h4, Lib.hid h5⟩)); have hb2 := Lib.hid (hb1.out.grown hgrow (by simp) (fun k hk => by cases hk; exact Nat.le_refl _)); clear hown' hgrow hown hb1 hS1)
  refine (sums_any _ (Lib.hid (tab_later hT.out hb2.out))).mono ?_
  rintro e w3 ⟨rfl, hb3'⟩
  have hb3 := Lib.hid (chain2 hb2.out hb3')
  have hr3 := Lib.hid (row_later hrow.out hb3')
  clear hb3' hb2 hrow
  obtain ⟨S, hSe⟩ : ∃ S, crcOf L = S := ⟨_, rfl⟩
  have HSe := Lib.hid (fun _ : True => hSe)
  have HSm := Lib.hid (sum_one w3 w3.heap.size rfl (Lib.hid (tab_later hT.out hb3.out)) (some ⟨g, 0, none⟩) cap m L (HLm.out trivial) (by omega) HBB.out (Lib.hid (row_srcs hr3.out)))
  rw [hSe] at HSm
  clear hSe
  go_wp2_with fail
  refine HSm.out.mono ?_
  rintro e w4 ⟨rfl, rfl⟩
  have hb4 := Lib.hid (hb3.out.alloc hb3.out.size (.cells #[.slice (some ⟨g, 0, none⟩) m cap] 22))
  have hr4 := Lib.hid (row_later hr3.out ((Below.refl w3.heap.size w3).alloc (Nat.le_refl _) (.cells #[.slice (some ⟨g, 0, none⟩) m cap] 22)))
  have HT0 : Hid (Turned L k by' 0 g cap w.heap.size w (w3.alloc (.cells #[.slice (some ⟨g, 0, none⟩) m cap] 22))) := Lib.hid ⟨L, rfl, HBB.out, by rw [Nat.mul_zero, Nat.pow_zero, Nat.mod_one, Nat.mul_zero, Nat.xor_zero], hr4.out, hb4.out⟩
  clear hb3 hr3 hb4 hr4 HSm
  go_wp2_with fail
  rw [hk]
  clear hk
  go_loopw [9, 10] (fun ch i wr => ∃ (c : Bool) (j : Nat), ch = .bool c ∧ i = .int .i64 (j : Int) ∧ j ≤ 4 ∧ k + j ≤ m ∧ Hid (c = true ↔ ¬ by' % 2 ^ (8 * j) = 0) ∧ Hid (Turned L k by' j g cap w.heap.size w wr)) (fun _ i _ => 4 - (intOf i).toNat)
  case atStart => exact ⟨false, 0, rfl, rfl, by omega, by omega, Lib.hid (by rw [Nat.mul_zero, Nat.pow_zero, Nat.mod_one]; simp), HT0⟩
  case round =>
    obtain ⟨c, j, rfl, rfl, hj4, hkj, hc, ht⟩ := hrel
    clear HT0
    by_cases hj : j < 4 ∧ k + j < m
    · obtain ⟨hj, hkjm⟩ := hj
      obtain ⟨d, hd, hcell, hfree, ht'⟩ := turn_one ht.out (by rw [HLm.out trivial]; exact hkjm) hgB.out
      have HT' := Lib.hid ht'
      have hXe : Hid (True → ((by' : Int) / 2 ^ (8 * j) % 256) = ((by' / 2 ^ (8 * j) % 256 : Nat) : Int)) := Lib.hid fun _ => by push_cast; rfl
      have hX : Hid (True → bits .xor .u8 (d : Int) ((by' : Int) / 2 ^ (8 * j) % 256) = ((d ^^^ (by' / 2 ^ (8 * j) % 256) : Nat) : Int)) := Lib.hid fun _ => by
        rw [hXe.out trivial]; exact u8_xor_nat _ _ hd (Nat.mod_lt _ (by decide))
      clear ht' ht
      go_wp2_with fail
      all_goals
        go_roundw
        case rel =>
          rw [hX.out trivial]
          refine ⟨_, j + 1, rfl, by go_num, by omega, by omega, Lib.hid ?_, HT'⟩
          rw [ch_step]
          have hc' := hc.out
          first
            | (simp only [true_iff]; intro h; exact (hc'.1 (by assumption)) h.1)
            | (have hcn : c = false := by simpa using ‹¬ c = true›
               have h0 : by' % 2 ^ (8 * j) = 0 := by
                 by_cases h : by' % 2 ^ (8 * j) = 0
                 · exact h
                 · exact absurd (hc'.2 h) (by rw [hcn]; decide)
               simp [h0]
               rw [hXe.out trivial]
               omega)
        case measure => simp [intOf]; omega
    · obtain ⟨M, hM1, hM2, hM3, hM4, hM5⟩ := turned_end ht.out HBB.out (by rw [HLm.out trivial]; omega) hj4 hby
      obtain ⟨T, hTe⟩ : ∃ T, crcOf M = T := ⟨_, rfl⟩
      have HSn := Lib.hid (sum_one wr wr.heap.size rfl (Lib.hid (tab_later hT.out hM4)) (some ⟨g, 0, none⟩) cap m M (by rw [hM1, HLm.out trivial]) (by omega) hM2 (Lib.hid (row_srcs hM3)))
      rw [hTe] at HSn
      have HB4 := Lib.hid hM4
      have hE : Hid (((T : Int) != (S : Int)) = c) := Lib.hid (by
        rw [hTe, HSe.out trivial] at hM5
        have hc' := hc.out
        cases c
        · have h0 : by' % 2 ^ (8 * j) = 0 := by
            by_cases h : by' % 2 ^ (8 * j) = 0
            · exact h
            · exact absurd (hc'.2 h) (by decide)
          simp [hM5.2 h0]
        · have h0 : ¬ T = S := fun h => (hc'.1 rfl) (hM5.1 h)
          simp; omega)
      clear ht hc hM1 hM2 hM3 hM4 hM5 hTe
      by_cases hj : j < 4
      case' pos => have hkj2 : ¬ k + j < m := fun h => by omega
      all_goals
        go_wp2_with fail
        refine HSn.out.mono ?_
        rintro e w5 ⟨rfl, rfl⟩
        go_wp2_with fail
        go_ret
        exact ⟨bool_eq (by rw [hE.out]; simp), HB4.out.alloc HB4.out.size _⟩
theorem mod_cut1 (cut : Int) (m : Nat) (hm0 : 0 < m) (hm : m ≤ 100000) : ∃ k : Nat, wrap64 ((IntKind.u64.wrap cut).tmod (m : Int)) = (k : Int) ∧ k < m := by
  obtain ⟨n, rfl⟩ : ∃ n, m = n + 1 := ⟨m - 1, by omega⟩
  obtain ⟨k, hk, hkm⟩ := mod_cut cut n (by omega)
  exact ⟨k, by rw [← hk]; rfl, by omega⟩
theorem bounds_u32 {n : Int} (h : (Lit.int .u32 n).wf = true) : ∃ s : Nat, n = (s : Int) ∧ s < 4294967296 := by
  simp [Lit.wf, IntKind.min, IntKind.max, IntKind.signed, IntKind.bits] at h
  exact ⟨n.toNat, by omega, by omega⟩
theorem crcApart_walk (a0 : Option Addr) (len0 cap0 : Nat) (z0 : List Int) (a1 : Int) (a2 : Int) (w : World) (hl : laidMetH Tryd.prog [("scriptor/crc.halves", Rows.laid_scriptor_crc_halves)] w) (w0 : Came w a0 len0 cap0 z0) (w2 : (Lit.int .u32 a2).wf = true) :
    Calls Tryd.prog 7 #[.slice a0 len0 cap0, .int .i64 a1, .int .u32 a2] w fun e w' => e = .returned (.bool true) ∧ Below w.heap.size w w' := by
  have hT := Lib.hid (tab_of_laid hl)
  obtain ⟨by', rfl, hby⟩ := bounds_u32 w2
  obtain ⟨m, hm, hml, hm3⟩ := cut_of len0
  obtain ⟨L, hL, hB, hS⟩ := came_src w0 m hml
  obtain ⟨hcap, _⟩ := came_le w0
  by_cases hp : 0 < m
  · obtain ⟨k, hk, hkm⟩ := mod_cut1 a1 m hp (by omega)
    obtain ⟨g, o, rfl, _⟩ := hS (by omega)
    by_cases h0 : by' = 0
    · subst h0
      exact apart_zero g o len0 cap0 m hm hcap a1 w hT hp L hL hB hS
    · exact apart_some g o len0 cap0 m hm hcap a1 by' hby w hT hp h0 L hL hB hS k hk hkm
  · refine apart_none a0 len0 cap0 m hm hcap a1 by' w hT ?_ (by omega)
    rcases came_addr w0 with ⟨h1, h2, h3⟩ | h
    · exact .inl ⟨h1, h3, by omega⟩
    · exact .inr h
end Go.Proofs.YtkaigmgnmdhngaaDoor
