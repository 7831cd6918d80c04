/- What heads tell; a log that was just laid. -/
import Derived.Test.YtfhgdcljhncjmaaDoorWalJ
namespace Go.Proofs.YtfhgdcljhncjmaaDoor
open Go.ChangeShapes Go.WideShapes Go.ChangeAt Go.RowKit
set_option linter.unusedVariables false
set_option maxRecDepth 20000

theorem head_drop (a : Int) : ∃ R, (padL (headL a)).drop 2 = Fw.vb (Fw.zz a) ++ R := by
  refine ⟨Fc.four (Fc.crcOf ([76, 71] ++ Fw.vb (Fw.zz a))) ++ List.replicate (512 - (headL a).length) 0, ?_⟩
  unfold padL
  have e : headL a = 76 :: 71 :: (Fw.vb (Fw.zz a) ++ Fc.four (Fc.crcOf ([76, 71] ++ Fw.vb (Fw.zz a)))) := by unfold headL closeL; simp
  rw [e]
  simp
theorem ageOf_head (a : Int) (h1 : 1 ≤ a) (h2 : a ≤ 4611686018427387904) : ageOf (padL (headL a)) = a := by
  obtain ⟨R, e⟩ := head_drop a
  unfold ageOf
  rw [e, Fw.rdB_num a ⟨by omega, by omega⟩ 1 4611686018427387904 h1 h2 R]
theorem ageOf_zero : ageOf (padL []) = 0 := by
  unfold ageOf padL
  have e : (([] : List Nat) ++ List.replicate (512 - ([] : List Nat).length) 0).drop 2 = Fw.vb (Fw.zz 0) ++ List.replicate 509 0 := by
    have : Fw.vb (Fw.zz 0) = [0] := by decide +kernel
    rw [this]; rfl
  rw [e]
  have h := Fw.rd_num 0 (by decide) (by decide) (List.replicate 509 0)
  unfold Fw.rdB
  rw [h]
  rfl
/-- the head of a greater age counts, wherever it stands -/
theorem step_head (p : Int × Int) (i a : Int) (h1 : 1 ≤ a) (h2 : a ≤ 4611686018427387904) (h : p.1 < a) : headStep p i (padL (headL a)) = (a, i) := by
  unfold headStep
  rw [ageOf_head a h1 h2, if_pos ⟨h, rfl⟩]
theorem step_less (p : Int × Int) (i a : Int) (h1 : 1 ≤ a) (h2 : a ≤ 4611686018427387904) (h : a ≤ p.1) : headStep p i (padL (headL a)) = p := by
  unfold headStep
  rw [ageOf_head a h1 h2, if_neg fun x => by omega]
theorem step_zero (p : Int × Int) (i : Int) (h : 0 ≤ p.1) : headStep p i (padL []) = p := by
  unfold headStep
  rw [ageOf_zero, if_neg fun x => by omega]
theorem stAt_fresh (As : Nat → List Nat) (h0 : As 0 = padL (headL 1)) (h1 : As 1 = padL []) : stAt As 2 = (1, 0) := by
  show headStep (headStep (0, 0) _ (As 0)) _ (As 1) = _
  rw [h0, h1, step_head _ _ 1 (by decide) (by decide) (by decide), step_zero _ _ (by decide)]
  rfl
end Go.Proofs.YtfhgdcljhncjmaaDoor
