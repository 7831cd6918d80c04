/- The document's words of val: in form. -/
import Derived.Test.YtpacjcgpeomnaaaDoorValX
namespace Go.Proofs.YtpacjcgpeomnaaaDoor
open Go.ChangeShapes Go.WideShapes Go.ChangeAt Go.RowKit
open Go.Proofs.YtpacjcgpeomnaaaDoor.Fw (zz vb bytesOf cells)
set_option linter.unusedVariables false
set_option maxRecDepth 20000

set_option maxHeartbeats 1000000 in
theorem refBits8_any (t : ByteArray) (ht : t.size = 8) (w : World) :
    Calls Tryd.prog 41 #[.string t] w fun e w' => e = .returned (.int .u64 ((beN t.data.toList : Nat) : Int)) ∧ w = w' := by
  have hl : t.data.toList.length = 8 := by simpa using ht
  have HB : Hid (∀ k (h : k < 8), beN (t.data.toList.take (k + 1)) = beN (t.data.toList.take k) * 256 + (t[k]'(by omega)).toNat ∧ beN (t.data.toList.take k) < 256 ^ k) := Lib.hid fun k h => by
    refine ⟨?_, ?_⟩
    · rw [beN_take _ k (by omega)]
      rfl
    · have := beN_lt k (t.data.toList.take k) (by rw [List.length_take]; omega)
      exact this
  have HE : Hid (beN (t.data.toList.take 8) = beN t.data.toList) := Lib.hid (by rw [List.take_of_length_le (by omega)])
  generalize beN t.data.toList = R at *
  go_enter Tryd.func41, Tryd.ntmps41
  go_wp2
  go_loop [3, 4] (fun x i => ∃ k : Nat, k ≤ 8 ∧ i = .int .i64 (k : Int) ∧ ∃ y : Nat, x = .int .u64 (y : Int) ∧ Hid (y = beN (t.data.toList.take k))) (fun _ i => 8 - (intOf i).toNat)
  case atStart => exact ⟨0, by omega, rfl, 0, rfl, Lib.hid rfl⟩
  case round =>
    obtain ⟨k, hk, rfl, y, rfl, HY⟩ := hrel
    by_cases hlt : k < 8
    · obtain ⟨h1, h2⟩ := HB.out k hlt
      have hy : y < 72057594037927936 := by rw [HY.out]; exact Nat.lt_of_lt_of_le h2 (Nat.pow_le_pow_right (by decide) (show k ≤ 7 by omega) : 256 ^ k ≤ 256 ^ 7)
      obtain ⟨c, hc⟩ : ∃ c, (t[k]'(by omega)).toNat = c := ⟨_, rfl⟩
      have hc2 : c < 256 := by rw [← hc]; exact (t[k]'(by omega)).toNat_lt
      have HS := Lib.hid (show beN (t.data.toList.take (k + 1)) = y * 256 + c by rw [h1, HY.out, hc])
      have hix : ∀ W, (Instr.index 9 (.string t) (.int .i64 (k : Int))).run Tryd.prog W = .ok (.int .u8 (c : Int)) W := fun W => by
        rw [run_index_string W 9 t .i64 k Tryd.underlying9, dif_pos (by omega)]
        simp only [Int.toNat_natCast, hc]
      clear h1 h2 hc
      go_wp2
      go_round
      case rel => exact ⟨k + 1, by omega, by go_num, y * 256 + c, by first | go_num | (rw [show IntKind.u64.wrap ((y : Int) * 256 + (c : Int)) = ((y * 256 + c : Nat) : Int) by rw [IntKind.wrap_u64]; omega]), Lib.hid HS.out.symm⟩
      case measure => simp [intOf]; omega
    · obtain rfl : k = 8 := by omega
      have HY2 : Hid (y = R) := Lib.hid (HY.out.trans HE.out)
      go_wp2
      go_ret
      exact ⟨by have := HY2.out; subst this; rfl, rfl⟩
set_option maxHeartbeats 8000000 in
theorem refFits_any (v : V) (hv : v.Ok) (w : World) :
    Calls Tryd.prog 43 #[v.val] w fun e w' => e = .returned (.bool (formB (er v))) ∧ Below w.heap.size w w' := by
  obtain ⟨k, n, t, a, cap, ks⟩ := v
  have HWr : Hid (∀ w, Calls Tryd.prog 65 #[.int .i64 n] w fun e w' => e = .returned (.int .i64 (Fd.w63 n)) ∧ w = w') := Lib.hid (fun w => Fn.refWrap_any n w)
  have hfm : formB (er (.mk k n t a cap ks)) = (if k = 0 then Fd.w63 n == n && empB t && (ks.length == 0)
    else if k = 1 then n == 0 && floB t && (ks.length == 0)
    else if k = 2 then n == 0 && decide (t.size ≤ 4096) && (ks.length == 0)
    else if k = 3 then decide (0 ≤ n) && decide (n ≤ 255) && empB t && decide (ks.length ≤ 8)
    else if k = 4 then n == 0 && empB t && decide (2 ≤ ks.length) && decide (ks.length ≤ 8)
    else if k = 5 then decide (1 ≤ n) && decide (n ≤ 1099511627776) && empB t && (ks.length == 0)
    else if k = 6 then n == 0 && empB t && (ks.length == 0)
    else false) := by
    rw [er_eq]
    unfold formB
    simp only [T.k, T.n, T.t, T.ks, V.k, V.n, V.t, V.ks, isE_iff, List.length_map]
    rfl
  rw [hfm, V.val_eq]
  have hl : ks.length ≤ cap ∧ cap ≤ maxLen := ⟨hv.2.2.2.1, hv.2.2.2.2⟩
  have hl2 : ks.length ≤ 9223372036854775807 := by unfold maxLen at hl; omega
  have ht2 : t.size ≤ 9223372036854775807 := by have := hv.2.2.1; unfold maxLen at this; exact this
  have HT := Lib.hid (emp_iff t)
  have e1 : (t.toList == ([] : List UInt8)) = empB t := by
    rw [emp_iff, ByteArray.toList_eq, Bool.eq_iff_iff]
    simp only [beq_iff_eq, decide_eq_true_eq]
    constructor
    · intro h; exact ByteArray.ext (Array.toList_inj.1 h)
    · intro h; rw [h]
  have e3 : ((ks.length : Int) == 0) = (ks.length == 0) := by rw [Bool.eq_iff_iff]; simp
  have HC8 : Hid (t.size = 8 → ∀ w, Calls Tryd.prog 41 #[.string t] w fun e w' => e = .returned (.int .u64 ((beN t.data.toList : Nat) : Int)) ∧ w = w') := Lib.hid fun h w => refBits8_any t h w
  have HCn : Hid (t.size = 8 → ∀ w, Calls Tryd.prog 66 #[.int .u64 ((beN t.data.toList : Nat) : Int)] w fun e w' => e = .returned (.int .u64 ((Fn.canon (beN t.data.toList) : Nat) : Int)) ∧ w = w') := Lib.hid fun h w => Fn.refCanon_any _ (beN_lt 8 t.data.toList (by simpa using h)) w
  have HFl : Hid (floB t = (t.size == 8 && Fn.canon (beN t.data.toList) == beN t.data.toList)) := Lib.hid rfl
  obtain ⟨W1, hW1⟩ : ∃ W1, w.alloc (.cells #[.int .i64 k, .int .i64 n, .string t, .slice a ks.length cap] 24) = W1 := ⟨_, rfl⟩
  have hB1 : Below w.heap.size w W1 := by rw [← hW1]; exact (Below.refl _ _).alloc (Nat.le_refl _) _
  have hbox : W1.heap[w.heap.size]? = some (.cells #[.int .i64 k, .int .i64 n, .string t, .slice a ks.length cap] 24 (0, 0)) := by rw [← hW1]; exact World.alloc_heap_new w _
  obtain ⟨b0, b1, b2, b3⟩ := box4 hbox
  have HB1 := Lib.hid hB1
  generalize hbt : empB t = bt at *
  generalize hbk : (ks.length == 0) = bk at *
  generalize hbn : (n == 0) = bn at *
  clear hfm hl hv HT hB1 hbox
  by_cases h0 : k = 0
  · subst h0
    simp only [if_true]
    have hbw2 : (n == Fd.w63 n) = (Fd.w63 n == n) := by rw [Bool.eq_iff_iff]; simp; exact eq_comm
    generalize hbw : (Fd.w63 n == n) = bw at *
    cases bw
    · clear hbw
      cases bt
      all_goals go_enter Tryd.func43, Tryd.ntmps43
      all_goals go_wp2
      all_goals go_quiet ((go_at_call 65; exact quiet_w (HWr.out _)))
      all_goals go_wp2
      all_goals (go_ret; refine ⟨?_, below_dr HB1.out _⟩; first | rfl | (simp_all; done) | (simp_all; omega))
    · have hw : Fd.w63 n = n := by simpa using hbw
      simp only [hw] at HWr
      clear hbw2 hbw hw
      cases bt
      all_goals go_enter Tryd.func43, Tryd.ntmps43
      all_goals go_wp2
      all_goals go_quiet ((go_at_call 65; exact quiet_w (HWr.out _)))
      all_goals go_wp2
      all_goals (go_ret; refine ⟨?_, below_dr HB1.out _⟩; first | rfl | (simp_all; done) | (simp_all; omega))
  by_cases h1 : k = 1
  · subst h1
    simp only [show ¬ ((1 : Int) = 0) by decide, if_false, if_true]
    rw [HFl.out]
    by_cases h8 : t.size = 8
    · have h8b : ((t.size : Int) == 8) = true := by simp; omega
      have HC8 := Lib.hid (HC8.out h8)
      have HCn := Lib.hid (HCn.out h8)
      have h8c : (t.size == 8) = true := by simp [h8]
      have hcb : (((Fn.canon (beN t.data.toList) : Nat) : Int) == ((beN t.data.toList : Nat) : Int)) = (Fn.canon (beN t.data.toList) == beN t.data.toList) := by
        generalize Fn.canon (beN t.data.toList) = y
        generalize beN t.data.toList = x
        rw [Bool.eq_iff_iff, beq_iff_eq, beq_iff_eq]
        omega
      rw [h8c]
      generalize hcc : (Fn.canon (beN t.data.toList) == beN t.data.toList) = cc at *
      generalize Fn.canon (beN t.data.toList) = y at *
      generalize beN t.data.toList = x at *
      clear h8 h8c HFl hcc
      cases bn <;> cases bk
      all_goals go_enter Tryd.func43, Tryd.ntmps43
      all_goals go_wp2
      all_goals go_quiet (first | (go_at_call 41; exact quiet_w (HC8.out _)) | (go_at_call 66; exact quiet_w (HCn.out _)))
      all_goals go_wp2
      all_goals (go_ret; refine ⟨?_, below_dr HB1.out _⟩; first | rfl | (simp_all; done) | (simp_all; omega))
    · have h8b : ((t.size : Int) == 8) = false := by simp; omega
      have h8c : (t.size == 8) = false := by simp [h8]
      rw [h8c]
      clear h8 h8c HFl
      cases bn <;> cases bk
      all_goals go_enter Tryd.func43, Tryd.ntmps43
      all_goals go_wp2
      all_goals go_quiet (fail)
      all_goals go_wp2
      all_goals (go_ret; refine ⟨?_, below_dr HB1.out _⟩; first | rfl | (simp_all; done) | (simp_all; omega))
  by_cases h2 : k = 2
  · subst h2
    simp only [show ¬ ((2 : Int) = 0) by decide, show ¬ ((2 : Int) = 1) by decide, if_false, if_true]
    have hd4 : decide ((t.size : Int) ≤ 4096) = decide (t.size ≤ 4096) := by rw [Bool.eq_iff_iff]; simp; omega
    go_enter Tryd.func43, Tryd.ntmps43
    go_wp2
    all_goals (go_ret; refine ⟨?_, HB1.out⟩; first | rfl | (simp_all; done) | (simp_all; omega))
  by_cases h3 : k = 3
  · subst h3
    simp only [show ¬ ((3 : Int) = 0) by decide, show ¬ ((3 : Int) = 1) by decide, show ¬ ((3 : Int) = 2) by decide, if_false, if_true]
    have hd8 : decide ((ks.length : Int) ≤ 8) = decide (ks.length ≤ 8) := by rw [Bool.eq_iff_iff]; simp; omega
    have hd2 : decide ((2 : Int) ≤ (ks.length : Int)) = decide (2 ≤ ks.length) := by rw [Bool.eq_iff_iff]; simp; omega
    go_enter Tryd.func43, Tryd.ntmps43
    go_wp2
    all_goals (go_ret; refine ⟨?_, HB1.out⟩; first | rfl | (simp_all; done) | (simp_all; omega))
  by_cases h4 : k = 4
  · subst h4
    simp only [show ¬ ((4 : Int) = 0) by decide, show ¬ ((4 : Int) = 1) by decide, show ¬ ((4 : Int) = 2) by decide, show ¬ ((4 : Int) = 3) by decide, if_false, if_true]
    have hd8 : decide ((ks.length : Int) ≤ 8) = decide (ks.length ≤ 8) := by rw [Bool.eq_iff_iff]; simp; omega
    have hd2 : decide ((2 : Int) ≤ (ks.length : Int)) = decide (2 ≤ ks.length) := by rw [Bool.eq_iff_iff]; simp; omega
    go_enter Tryd.func43, Tryd.ntmps43
    go_wp2
    all_goals (go_ret; refine ⟨?_, HB1.out⟩; first | rfl | (simp_all; done) | (simp_all; omega))
  by_cases h5 : k = 5
  · subst h5
    simp only [show ¬ ((5 : Int) = 0) by decide, show ¬ ((5 : Int) = 1) by decide, show ¬ ((5 : Int) = 2) by decide, show ¬ ((5 : Int) = 3) by decide, show ¬ ((5 : Int) = 4) by decide, if_false, if_true]
    go_enter Tryd.func43, Tryd.ntmps43
    go_wp2
    all_goals (go_ret; refine ⟨?_, HB1.out⟩; first | rfl | (simp_all; done) | (simp_all; omega))
  by_cases h6 : k = 6
  · subst h6
    simp only [show ¬ ((6 : Int) = 0) by decide, show ¬ ((6 : Int) = 1) by decide, show ¬ ((6 : Int) = 2) by decide, show ¬ ((6 : Int) = 3) by decide, show ¬ ((6 : Int) = 4) by decide, show ¬ ((6 : Int) = 5) by decide, if_false, if_true]
    go_enter Tryd.func43, Tryd.ntmps43
    go_wp2
    all_goals (go_ret; refine ⟨?_, HB1.out⟩; first | rfl | (simp_all; done) | (simp_all; omega))
  simp only [h0, h1, h2, h3, h4, h5, h6, if_false]
  have n0 : (k == 0) = false := by simpa using h0
  have n1 : (k == 1) = false := by simpa using h1
  have n2 : (k == 2) = false := by simpa using h2
  have n3 : (k == 3) = false := by simpa using h3
  have n4 : (k == 4) = false := by simpa using h4
  have n5 : (k == 5) = false := by simpa using h5
  have n6 : (k == 6) = false := by simpa using h6
  clear h0 h1 h2 h3 h4 h5 h6
  go_enter Tryd.func43, Tryd.ntmps43
  go_wp2
  go_ret
  exact ⟨rfl, HB1.out⟩
end Go.Proofs.YtpacjcgpeomnaaaDoor
