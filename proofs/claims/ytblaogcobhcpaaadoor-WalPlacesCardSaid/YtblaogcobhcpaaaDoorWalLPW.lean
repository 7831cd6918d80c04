/- WalPlaces: from what the statement's arguments, and the listed table, hold. -/
import Derived.Test.YtblaogcobhcpaaaDoorWalLP
namespace Go.Proofs.YtblaogcobhcpaaaDoor
open Go.ChangeShapes Go.WideShapes Go.ChangeAt Go.RowKit

theorem walPlaces_walk (a0 a1 : Int) (a2 : Option Addr) (len2 cap2 : Nat) (z2 : List Int) (w : World) (hl : laidMetH Tryd.prog [("scriptor/crc.halves", Rows.laid_scriptor_crc_halves)] w) (w0 : (Lit.int .i64 a0).wf = true) (w1 : (Lit.int .i64 a1).wf = true) (w2 : Fc.Came w a2 len2 cap2 z2) :
    Calls Tryd.prog 7 #[.int .i64 a0, .int .i64 a1, .slice a2 len2 cap2] w fun e w' => e = .returned (.bool true) ∧ Below w.heap.size w w' := by
  have hT := Fc.tab_of_laid hl
  obtain ⟨h1, h2⟩ := Fc.came_le w2
  obtain ⟨q, hq, hq2, hm1⟩ : ∃ q : Nat, q ≤ 5000 ∧ q ≤ len2 ∧ min (len2 : Int) 5000 = (q : Int) := ⟨min len2 5000, by omega, by omega, by omega⟩
  obtain ⟨b, b1, b2, b3⟩ := row_came w2 q hq2
  exact places_mid a0 a1 (bounds_i64 w0) (bounds_i64 w1) a2 len2 cap2 w (World.block_lt_of_cell? w _ (hT 0 (by decide))) (Lib.hid hT) q hq hq2 h1 h2 hm1 b b1 b2 b3 fun e => by
    rcases Fc.came_addr w2 with ⟨_, h3, h4⟩ | ⟨x, h3⟩
    · exact ⟨h3, h4⟩
    · rw [e] at h3; cases h3
end Go.Proofs.YtblaogcobhcpaaaDoor
