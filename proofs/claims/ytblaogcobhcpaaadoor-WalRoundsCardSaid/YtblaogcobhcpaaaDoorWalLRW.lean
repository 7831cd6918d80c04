/- WalRounds: from what the statement's arguments, and the listed table, hold. -/
import Derived.Test.YtblaogcobhcpaaaDoorWalLR
namespace Go.Proofs.YtblaogcobhcpaaaDoor
open Go.ChangeShapes Go.WideShapes Go.ChangeAt Go.RowKit

theorem tab_lt {w : World} (h : Fc.Tab w) : 0 < w.heap.size := World.block_lt_of_cell? w _ (h 0 (by decide))
theorem walRounds_walk (a0 : Int) (a1 : Option Addr) (len1 cap1 : Nat) (z1 : List Int) (w : World) (hl : laidMetH Tryd.prog [("scriptor/crc.halves", Rows.laid_scriptor_crc_halves)] w) (w1 : Fc.Came w a1 len1 cap1 z1) :
    Calls Tryd.prog 9 #[.int .i64 a0, .slice a1 len1 cap1] w fun e w' => e = .returned (.bool true) ∧ Below w.heap.size w w' := by
  have hT := Fc.tab_of_laid hl
  obtain ⟨h1, h2⟩ := Fc.came_le w1
  obtain ⟨q, hq, hq2, hm1, hm2⟩ : ∃ q : Nat, q ≤ 600 ∧ q ≤ len1 ∧ min (len1 : Int) 600 = (q : Int) ∧ (if (600 : Int) < (len1 : Int) then 600 else (len1 : Int)) = (q : Int) := ⟨min len1 600, by omega, by omega, by omega, by split <;> omega⟩
  obtain ⟨b, b1, b2, b3⟩ := row_came w1 q hq2
  exact rounds_mid a0 a1 len1 cap1 w (tab_lt hT) (Lib.hid hT) q hq hq2 h1 h2 hm1 hm2 b b1 b2 b3 fun e => by
    rcases Fc.came_addr w1 with ⟨_, h3, h4⟩ | ⟨x, h3⟩
    · exact ⟨h3, h4⟩
    · rw [e] at h3; cases h3
end Go.Proofs.YtblaogcobhcpaaaDoor
