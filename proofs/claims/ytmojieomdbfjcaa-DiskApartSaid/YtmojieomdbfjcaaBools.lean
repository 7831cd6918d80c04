/- A slice of bools among the arguments, opened as one list. -/
import Derived.Test.YtmojieomdbfjcaaRows
import Derived.Deep.Grids
namespace Go.Proofs.Ytmojieomdbfjcaa
open Go.ChangeShapes Go.WideShapes Go.Deep

theorem open_boolz {H : Type} {enc : TypeId × Value → H} {P : Program} {w : World} {base : Nat} {held : Bool} {t e : TypeId} {fuel : Nat} {cs : List Value} {x : DataW H × List MemPlace} (ht : P.underlying t = some (.slice e)) (he : P.underlying e = some .bool) (hc : P.cellsOf e = 1)
    (h : DataW.trod enc P w base (fun _ => true) held fuel t cs = some x) :
    (cs = [.slice none 0 0] ∧ x = (.nil, [])) ∨
    ∃ (a : Addr) (len cap : Nat) (zs : List Bool), cs = [.slice (some a) len cap] ∧ base ≤ a.block ∧ len ≤ cap ∧ cap ≤ maxLen ∧ zs.length = cap ∧ True ∧ (∀ i, i < zs.length → w.cell? (a.add i) = some (.bool (zs.getD i false))) ∧ True := by
  rcases open_bools ht he hc h with h0 | ⟨a, len, cap, B, hcs, hb, hl, hm, _, hcell⟩
  · exact .inl h0
  · refine .inr ⟨a, len, cap, (List.range cap).map B, hcs, hb, hl, hm, by simp, trivial, fun i hi => ?_, trivial⟩
    have hi' : i < cap := by simpa using hi
    rw [hcell i hi']
    simp [List.getD, hi']
end Go.Proofs.Ytmojieomdbfjcaa
