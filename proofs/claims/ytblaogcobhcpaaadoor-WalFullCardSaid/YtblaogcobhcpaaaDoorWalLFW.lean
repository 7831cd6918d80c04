/- WalFull: from what the statement's arguments, and the listed table, hold. -/
import Derived.Test.YtblaogcobhcpaaaDoorWalLF
namespace Go.Proofs.YtblaogcobhcpaaaDoor
open Go.ChangeShapes Go.WideShapes Go.ChangeAt Go.RowKit

theorem walFull_walk (a0 : Option Addr) (len0 cap0 : Nat) (z0 : List EntS) (a1 : Int) (w : World) (hl : laidMetH Tryd.prog [("scriptor/crc.halves", Rows.laid_scriptor_crc_halves)] w) (w0 : IsRS 3 1 w a0 len0 cap0 z0) :
    Calls Tryd.prog 8 #[.slice a0 len0 cap0, .int .i64 a1] w fun e w' => e = .returned (.bool true) ∧ Below w.heap.size w w' := by
  have hT := Fc.tab_of_laid hl
  exact full_mid a0 len0 cap0 z0 a1 w (World.block_lt_of_cell? w _ (hT 0 (by decide))) (Lib.hid hT) w0
end Go.Proofs.YtblaogcobhcpaaaDoor
