/- What first sectors tell; which sectors are none. -/
import Derived.Test.YtfhgdcljhncjmaaDoorWalK
namespace Go.Proofs.YtfhgdcljhncjmaaDoor
open Go.ChangeShapes Go.WideShapes Go.ChangeAt Go.RowKit
set_option linter.unusedVariables false
set_option maxRecDepth 20000

theorem first_drop (a n c x : Int) : ∃ R, (padL (firstL a n c x)).drop 1 = Fw.vb (Fw.zz a) ++ (Fw.vb (Fw.zz n) ++ (Fw.vb (Fw.zz c) ++ (Fw.vb (Fw.zz x) ++ R))) := by
  refine ⟨Fc.four (Fc.crcOf (Fw.vb (Fw.zz a) ++ Fw.vb (Fw.zz n) ++ Fw.vb (Fw.zz c) ++ Fw.vb (Fw.zz x))) ++ List.replicate (512 - (firstL a n c x).length) 0, ?_⟩
  unfold padL
  have e : firstL a n c x = 72 :: (Fw.vb (Fw.zz a) ++ Fw.vb (Fw.zz n) ++ Fw.vb (Fw.zz c) ++ Fw.vb (Fw.zz x) ++ Fc.four (Fc.crcOf (Fw.vb (Fw.zz a) ++ Fw.vb (Fw.zz n) ++ Fw.vb (Fw.zz c) ++ Fw.vb (Fw.zz x)))) := by unfold firstL closeL; simp
  rw [e]
  simp
theorem num_off {a a' : Int} (h : Fw.IntOk a) (h' : Fw.IntOk a') {R R' : List Nat} (e : Fw.vb (Fw.zz a) ++ R = Fw.vb (Fw.zz a') ++ R') : a = a' ∧ R = R' := by
  have h1 := Fw.rd_num a h.1 h.2 R
  rw [e, Fw.rd_num a' h'.1 h'.2 R'] at h1
  obtain rfl : a' = a := congrArg Prod.fst h1
  exact ⟨rfl, List.append_cancel_left e⟩
/-- two first sectors are the same only if they tell the same -/
theorem first_same {a n c x a' n' c' x' : Int} (ha : Fw.IntOk a) (hn : Fw.IntOk n) (hc : Fw.IntOk c) (hx : Fw.IntOk x) (ha' : Fw.IntOk a') (hn' : Fw.IntOk n') (hc' : Fw.IntOk c') (hx' : Fw.IntOk x') (e : padL (firstL a n c x) = padL (firstL a' n' c' x')) : a = a' ∧ n = n' ∧ c = c' ∧ x = x' := by
  obtain ⟨R, e1⟩ := first_drop a n c x
  obtain ⟨R', e2⟩ := first_drop a' n' c' x'
  rw [e, e2] at e1
  obtain ⟨h1, k1⟩ := num_off ha' ha e1
  obtain ⟨h2, k2⟩ := num_off hn' hn k1
  obtain ⟨h3, k3⟩ := num_off hc' hc k2
  obtain ⟨h4, _⟩ := num_off hx' hx k3
  exact ⟨h1.symm, h2.symm, h3.symm, h4.symm⟩
theorem pad_head (L : List Nat) (b : Nat) (M : List Nat) (h : L = b :: M) : (padL L)[0]? = some b := by subst h; simp [padL]
theorem first_head (a n c x : Int) : (padL (firstL a n c x))[0]? = some 72 := pad_head _ 72 _ (by unfold firstL; rfl)
/-- noughts, a record's bytes, a head: none of them is a record's first sector -/
theorem zero_none (a n c x : Int) : padL [] ≠ padL (firstL a n c x) := fun e => by
  have h := first_head a n c x
  rw [← e] at h
  simp [padL] at h
theorem part_none (L : List Nat) (a n c x : Int) : padL (partL L) ≠ padL (firstL a n c x) := fun e => by
  have h := first_head a n c x
  rw [← e, pad_head _ 68 L (by unfold partL; rfl)] at h
  simp at h
end Go.Proofs.YtfhgdcljhncjmaaDoor
