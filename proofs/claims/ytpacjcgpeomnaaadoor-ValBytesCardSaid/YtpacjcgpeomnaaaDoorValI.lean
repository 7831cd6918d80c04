/- Values in form, but for what their parts are. -/
import Derived.Test.YtpacjcgpeomnaaaDoorValF
import Derived.Test.YtpacjcgpeomnaaaDoorValW
import Derived.Deep.QuietTactic
import Derived.BigQuiet
namespace Go.Proofs.YtpacjcgpeomnaaaDoor
open Go.ChangeShapes Go.WideShapes Go.ChangeAt Go.RowKit
set_option linter.unusedVariables false
set_option maxRecDepth 20000

theorem emp_iff (t : ByteArray) : empB t = decide (t = ⟨#[]⟩) := by
  unfold empB
  rw [Bool.eq_iff_iff]
  simp only [beq_iff_eq, decide_eq_true_eq]
  constructor
  · intro h; exact ByteArray.ext (Array.eq_empty_of_size_eq_zero h)
  · intro h; rw [h]; rfl
theorem quiet_w {P : Program} {f : FuncId} {args : Array Value} {w : World} {n : Nat} {v : Value}
    (h : Calls P f args (w.drewN n) fun e w' => e = .returned v ∧ w.drewN n = w') : Calls P f args (w.drewN n) fun e w'' => e = .returned v ∧ ∃ m, w'' = w.drewN m :=
  Calls.quiet_of_same (h.mono fun _ _ ⟨he, hw⟩ => ⟨he, hw.symm⟩)
theorem below_dr {B : Nat} {a w : World} (h : Below B a w) (k : Nat) : Below B a (w.drewN k) := ⟨h.os, h.tape, h.output, h.size, h.block⟩
theorem isE_iff (l : List V) : (l.map er).isEmpty = (l.length == 0) := by cases l <;> rfl
set_option maxHeartbeats 8000000 in
theorem isInForm_any (v : V) (hv : v.Ok) (w : World) :
    Calls Tryd.prog 30 #[v.val] w fun e w' => e = .returned (.bool (formB (er v))) ∧ Below w.heap.size w w' := by
  obtain ⟨k, n, t, a, cap, ks⟩ := v
  have HFl := Lib.hid (fun w => isFloat_any t hv.2.2.1 w)
  have HWr := Lib.hid (fun w => Fd.wrap_any n w)
  have hfm : formB (er (.mk k n t a cap ks)) = (if k = 0 then Fd.w63 n == n && empB t && (ks.length == 0)
    else if k = 1 then n == 0 && floB t && (ks.length == 0)
    else if k = 2 then n == 0 && decide (t.size ≤ 4096) && (ks.length == 0)
    else if k = 3 then decide (0 ≤ n) && decide (n ≤ 255) && empB t && decide (ks.length ≤ 8)
    else if k = 4 then n == 0 && empB t && decide (2 ≤ ks.length) && decide (ks.length ≤ 8)
    else if k = 5 then decide (1 ≤ n) && decide (n ≤ 1099511627776) && empB t && (ks.length == 0)
    else if k = 6 then n == 0 && empB t && (ks.length == 0)
    else false) := by
    rw [er_eq]
    unfold formB
    simp only [T.k, T.n, T.t, T.ks, V.k, V.n, V.t, V.ks, isE_iff, List.length_map]
    rfl
  rw [hfm, V.val_eq]
  have hl : ks.length ≤ cap ∧ cap ≤ maxLen := ⟨hv.2.2.2.1, hv.2.2.2.2⟩
  have hl2 : ks.length ≤ 9223372036854775807 := by unfold maxLen at hl; omega
  have ht2 : t.size ≤ 9223372036854775807 := by have := hv.2.2.1; unfold maxLen at this; exact this
  have HT := Lib.hid (emp_iff t)
  have e1 : (t.toList == ([] : List UInt8)) = empB t := by
    rw [emp_iff, ByteArray.toList_eq, Bool.eq_iff_iff]
    simp only [beq_iff_eq, decide_eq_true_eq]
    constructor
    · intro h; exact ByteArray.ext (Array.toList_inj.1 h)
    · intro h; rw [h]
  have e3 : ((ks.length : Int) == 0) = (ks.length == 0) := by rw [Bool.eq_iff_iff]; simp
  generalize hbt : empB t = bt at *
  generalize hbk : (ks.length == 0) = bk at *
  generalize hbn : (n == 0) = bn at *
  clear hfm hl hv HT
  by_cases h0 : k = 0
  · subst h0
    simp only [if_true]
    generalize hbw : (Fd.w63 n == n) = bw at *
    go_enter Tryd.func30, Tryd.ntmps30
    go_wp2
    go_quiet (fail)
    go_wp2
    generalize hWW : World.drewN _ nq = w5
    have h5 : Below w.heap.size w w5 ∧ w5.heap[w.heap.size]? = some (.cells #[.int .i64 0, .int .i64 n, .string t, .slice a ks.length cap] 24 (0, 0)) := by
      rw [← hWW]
      exact ⟨below_dr ((Below.refl _ _).alloc (Nat.le_refl _) _) _, World.alloc_heap_new w _⟩
    obtain ⟨b0, b1, b2, b3⟩ := box4 h5.2
    have H5 := Lib.hid h5.1
    clear hWW h5
    cases bw <;> cases bt
    all_goals (go_quiet ((go_at_call 50; exact quiet_w (HWr.out _))))
    all_goals go_wp2
    all_goals (go_ret; refine ⟨?_, below_dr H5.out _⟩; first | rfl | (simp_all; done) | (simp_all; omega))
  by_cases h1 : k = 1
  · subst h1
    simp only [show ¬ ((1 : Int) = 0) by decide, if_false, if_true]
    generalize floB t = fl at *
    go_enter Tryd.func30, Tryd.ntmps30
    go_wp2
    go_quiet (fail)
    go_wp2_with (go_at_call 51; refine (HFl.out _).mono ?_; rintro e w' ⟨rfl, rfl⟩)
    all_goals (go_ret; refine ⟨?_, below_dr ((Below.refl _ _).alloc (Nat.le_refl _) _) _⟩; first | rfl | (simp_all; done) | (simp_all; omega))
  by_cases h2 : k = 2
  · subst h2
    simp only [show ¬ ((2 : Int) = 0) by decide, show ¬ ((2 : Int) = 1) by decide, if_false, if_true]
    have hd4 : decide ((t.size : Int) ≤ 4096) = decide (t.size ≤ 4096) := by rw [Bool.eq_iff_iff]; simp; omega
    go_enter Tryd.func30, Tryd.ntmps30
    go_wp2
    go_quiet (fail)
    go_wp2
    all_goals (go_ret; refine ⟨?_, below_dr ((Below.refl _ _).alloc (Nat.le_refl _) _) _⟩; first | rfl | (simp_all; done) | (simp_all; omega))
  by_cases h3 : k = 3
  · subst h3
    simp only [show ¬ ((3 : Int) = 0) by decide, show ¬ ((3 : Int) = 1) by decide, show ¬ ((3 : Int) = 2) by decide, if_false, if_true]
    have hd8 : decide ((ks.length : Int) ≤ 8) = decide (ks.length ≤ 8) := by rw [Bool.eq_iff_iff]; simp; omega
    have hd2 : decide ((2 : Int) ≤ (ks.length : Int)) = decide (2 ≤ ks.length) := by rw [Bool.eq_iff_iff]; simp; omega
    go_enter Tryd.func30, Tryd.ntmps30
    go_wp2
    go_quiet (fail)
    go_wp2
    all_goals (go_ret; refine ⟨?_, below_dr ((Below.refl _ _).alloc (Nat.le_refl _) _) _⟩; first | rfl | (simp_all; done) | (simp_all; omega))
  by_cases h4 : k = 4
  · subst h4
    simp only [show ¬ ((4 : Int) = 0) by decide, show ¬ ((4 : Int) = 1) by decide, show ¬ ((4 : Int) = 2) by decide, show ¬ ((4 : Int) = 3) by decide, if_false, if_true]
    have hd8 : decide ((ks.length : Int) ≤ 8) = decide (ks.length ≤ 8) := by rw [Bool.eq_iff_iff]; simp; omega
    have hd2 : decide ((2 : Int) ≤ (ks.length : Int)) = decide (2 ≤ ks.length) := by rw [Bool.eq_iff_iff]; simp; omega
    go_enter Tryd.func30, Tryd.ntmps30
    go_wp2
    go_quiet (fail)
    go_wp2
    all_goals (go_ret; refine ⟨?_, below_dr ((Below.refl _ _).alloc (Nat.le_refl _) _) _⟩; first | rfl | (simp_all; done) | (simp_all; omega))
  by_cases h5 : k = 5
  · subst h5
    simp only [show ¬ ((5 : Int) = 0) by decide, show ¬ ((5 : Int) = 1) by decide, show ¬ ((5 : Int) = 2) by decide, show ¬ ((5 : Int) = 3) by decide, show ¬ ((5 : Int) = 4) by decide, if_false, if_true]
    go_enter Tryd.func30, Tryd.ntmps30
    go_wp2
    go_quiet (fail)
    go_wp2
    all_goals (go_ret; refine ⟨?_, below_dr ((Below.refl _ _).alloc (Nat.le_refl _) _) _⟩; first | rfl | (simp_all; done) | (simp_all; omega))
  by_cases h6 : k = 6
  · subst h6
    simp only [show ¬ ((6 : Int) = 0) by decide, show ¬ ((6 : Int) = 1) by decide, show ¬ ((6 : Int) = 2) by decide, show ¬ ((6 : Int) = 3) by decide, show ¬ ((6 : Int) = 4) by decide, show ¬ ((6 : Int) = 5) by decide, if_false, if_true]
    go_enter Tryd.func30, Tryd.ntmps30
    go_wp2
    go_quiet (fail)
    go_wp2
    all_goals (go_ret; refine ⟨?_, below_dr ((Below.refl _ _).alloc (Nat.le_refl _) _) _⟩; first | rfl | (simp_all; done) | (simp_all; omega))
  simp only [h0, h1, h2, h3, h4, h5, h6, if_false]
  have n0 : (k == 0) = false := by simpa using h0
  have n1 : (k == 1) = false := by simpa using h1
  have n2 : (k == 2) = false := by simpa using h2
  have n3 : (k == 3) = false := by simpa using h3
  have n4 : (k == 4) = false := by simpa using h4
  have n5 : (k == 5) = false := by simpa using h5
  have n6 : (k == 6) = false := by simpa using h6
  clear h0 h1 h2 h3 h4 h5 h6
  go_enter Tryd.func30, Tryd.ntmps30
  go_wp2
  go_quiet (fail)
  go_wp2
  go_ret
  exact ⟨rfl, below_dr ((Below.refl _ _).alloc (Nat.le_refl _) _) _⟩
end Go.Proofs.YtpacjcgpeomnaaaDoor
