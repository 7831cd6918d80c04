/- WalEntries: from what the statement's argument, and the listed table, hold. -/
import Derived.Test.YtfhgdcljhncjmaaDoorWalLE
namespace Go.Proofs.YtfhgdcljhncjmaaDoor
open Go.ChangeShapes Go.WideShapes Go.ChangeAt Go.RowKit

theorem walEntries_walk (a0 : Option Addr) (len0 cap0 : Nat) (z0 : List EntS) (w : World) (hl : laidMetH Tryd.prog [("scriptor/crc.halves", Rows.laid_scriptor_crc_halves)] w) (w0 : IsRS 3 1 w a0 len0 cap0 z0) :
    Calls Tryd.prog 3 #[.slice a0 len0 cap0] w fun e w' => e = .returned (.bool true) ∧ Below w.heap.size w w' := by
  have hT := Fc.tab_of_laid hl
  exact entries_mid a0 len0 cap0 z0 w (World.block_lt_of_cell? w _ (hT 0 (by decide))) (Lib.hid hT) w0
end Go.Proofs.YtfhgdcljhncjmaaDoor
