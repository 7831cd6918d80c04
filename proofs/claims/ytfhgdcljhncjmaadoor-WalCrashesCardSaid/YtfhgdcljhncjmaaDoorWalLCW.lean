/- WalCrashes: from what the statement's arguments, and the listed table, hold. -/
import Derived.Test.YtfhgdcljhncjmaaDoorWalLC
namespace Go.Proofs.YtfhgdcljhncjmaaDoor
open Go.ChangeShapes Go.WideShapes Go.ChangeAt Go.RowKit

theorem walCrashes_walk (a0 : Option Addr) (len0 cap0 : Nat) (z0 : List EntS) (n0 : Int) (b0 : Option Addr) (m0 e0 : Nat) (y0 : List Int) (w : World) (hl : laidMetH Tryd.prog [("scriptor/crc.halves", Rows.laid_scriptor_crc_halves)] w) (w0 : IsRS 3 1 w a0 len0 cap0 z0) (_x0 : (Lit.int .i64 n0).wf = true) (u0 : (b0 = none ∧ m0 = 0 ∧ e0 = 0 ∧ y0 = []) ∨ ∃ x, b0 = some x ∧ m0 ≤ e0 ∧ e0 ≤ maxLen ∧ y0.length = e0 ∧ (∀ i, i < y0.length → w.cell? (x.add i) = some (.int .i64 (y0.getD i 0))) ∧ ∀ n ∈ y0, (Lit.int .i64 n).wf = true) :
    Calls Tryd.prog 5 #[.agg #[.slice a0 len0 cap0, .int .i64 n0, .slice b0 m0 e0]] w fun e w' => e = .returned (.bool true) ∧ Below w.heap.size w w' := by
  have hT := Fc.tab_of_laid hl
  refine crashes_mid a0 len0 cap0 z0 n0 b0 m0 e0 (fun i => y0.getD i 0) w (World.block_lt_of_cell? w _ (hT 0 (by decide))) (Lib.hid hT) w0 fun i hi => ?_
  rcases u0 with ⟨_, h, _⟩ | ⟨x, rfl, h1, h2, h3, h4, _⟩
  · omega
  · obtain ⟨g', o, rfl⟩ := spot_at (h4 0 (by omega))
    refine ⟨g', o, rfl, ?_⟩
    have := h4 i (by omega)
    rw [add_off] at this
    exact this
end Go.Proofs.YtfhgdcljhncjmaaDoor
