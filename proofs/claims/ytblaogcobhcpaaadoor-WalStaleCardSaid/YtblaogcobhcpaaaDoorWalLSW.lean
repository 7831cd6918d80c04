/- WalStale: from what the statement's arguments, and the listed table, hold. -/
import Derived.Test.YtblaogcobhcpaaaDoorWalLS
namespace Go.Proofs.YtblaogcobhcpaaaDoor
open Go.ChangeShapes Go.WideShapes Go.ChangeAt Go.RowKit

/-- numbers that came in, by their cells -/
theorem picks_at {w : World} {a : Option Addr} {len cap : Nat} {z : List Int} (h : (a = none ∧ len = 0 ∧ cap = 0 ∧ z = []) ∨
    ∃ x, a = some x ∧ len ≤ cap ∧ cap ≤ maxLen ∧ z.length = cap ∧ (∀ i, i < z.length → w.cell? (x.add i) = some (.int .i64 (z.getD i 0))) ∧ ∀ n ∈ z, (Lit.int .i64 n).wf = true) :
    ∀ i, i < len → ∃ g' o, a = some ⟨g', o, none⟩ ∧ w.cell? ⟨g', o + i, none⟩ = some (.int .i64 (z.getD i 0)) := fun i hi => by
  rcases h with ⟨_, h, _⟩ | ⟨x, rfl, h1, h2, h3, h4, _⟩
  · omega
  · obtain ⟨g', o, rfl⟩ := spot_at (h4 0 (by omega))
    refine ⟨g', o, rfl, ?_⟩
    have := h4 i (by omega)
    rw [add_off] at this
    exact this
theorem walStale_walk (a0 : Option Addr) (len0 cap0 : Nat) (z0 : List EntS) (a1 : Option Addr) (len1 cap1 : Nat) (z1 : List Int) (w : World) (hl : laidMetH Tryd.prog [("scriptor/crc.halves", Rows.laid_scriptor_crc_halves)] w) (w0 : IsRS 5 4 w a0 len0 cap0 z0)
    (w1 : (a1 = none ∧ len1 = 0 ∧ cap1 = 0 ∧ z1 = []) ∨ ∃ x, a1 = some x ∧ len1 ≤ cap1 ∧ cap1 ≤ maxLen ∧ z1.length = cap1 ∧ (∀ i, i < z1.length → w.cell? (x.add i) = some (.int .i64 (z1.getD i 0))) ∧ ∀ n ∈ z1, (Lit.int .i64 n).wf = true) :
    Calls Tryd.prog 6 #[.slice a0 len0 cap0, .slice a1 len1 cap1] w fun e w' => e = .returned (.bool true) ∧ Below w.heap.size w w' := by
  have hT := Fc.tab_of_laid hl
  exact stale_mid a0 len0 cap0 z0 a1 len1 cap1 (fun i => z1.getD i 0) w (World.block_lt_of_cell? w _ (hT 0 (by decide))) (Lib.hid hT) w0 (picks_at w1)
end Go.Proofs.YtblaogcobhcpaaaDoor
