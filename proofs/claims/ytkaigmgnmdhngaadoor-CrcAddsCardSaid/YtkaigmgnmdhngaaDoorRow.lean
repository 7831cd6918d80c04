/- A row of bytes of the call's own, that is written into. -/
import Derived.Test.YtkaigmgnmdhngaaDoorNum
import Derived.Test.YtkaigmgnmdhngaaDoorSumsLaw
import Derived.Laws.AppendOwnNone
namespace Go.Proofs.YtkaigmgnmdhngaaDoor
open Go.ChangeShapes Go.WideShapes Go.ChangeAt Go.RowKit Go.Joins
set_option linter.unusedVariables false

/-- block g is a row of bytes with room for 'cap', the first ones these -/
def Row (W : World) (g cap : Nat) (L : List Nat) : Prop := ∃ cur, W.heap[g]? = some (.cells cur 5 (0, 0)) ∧ cur.size = cap ∧ L.length ≤ cap ∧ cur.toList.take L.length = cells L
theorem row_byte {W : World} {g cap : Nat} {L : List Nat} (h : Row W g cap L) (i : Nat) (hi : i < L.length) : W.cell? ⟨g, i, none⟩ = some (.int .u8 ((L.getD i 0 : Nat) : Int)) := by
  obtain ⟨cur, hb, hs, hl, ht⟩ := h
  have h1 : (cur.toList.take L.length)[i]? = (cells L)[i]? := by rw [ht]
  rw [List.getElem?_take, if_pos hi] at h1
  rw [cell_of_block hb, ← Array.getElem?_toList, h1]
  simp [cells, List.getD, hi]
theorem row_free {W : World} {g cap : Nat} {L : List Nat} (h : Row W g cap L) (i : Nat) : W.frozen? ⟨g, i, none⟩ = false := by
  obtain ⟨cur, hb, _⟩ := h
  exact unfrozen_of_block hb i
theorem row_put {W : World} {g cap : Nat} {L : List Nat} (h : Row W g cap L) (i : Nat) (hi : i < L.length) (b : Nat) : Row (W.setCell ⟨g, i, none⟩ (.int .u8 (b : Int))) g cap (L.set i b) := by
  obtain ⟨cur, hb, hs, hl, ht⟩ := h
  refine ⟨_, block_setCell hb _, by simpa using hs, by simpa using hl, ?_⟩
  rw [List.length_set]
  have e : (cur.setIfInBounds i (Value.int .u8 (b : Int))).toList = cur.toList.set i (Value.int .u8 (b : Int)) := by simp
  rw [e, List.take_set, ht]
  unfold cells
  rw [List.map_set]
theorem row_lt {W : World} {g cap : Nat} {L : List Nat} (h : Row W g cap L) : g < W.heap.size := by
  obtain ⟨cur, hb, _⟩ := h
  rcases Nat.lt_or_ge g W.heap.size with hlt | hge
  · exact hlt
  · rw [Array.getElem?_eq_none hge] at hb; cases hb
theorem row_later {W W' : World} {g cap : Nat} {L : List Nat} (h : Row W g cap L) (hb : Below W.heap.size W W') : Row W' g cap L := by
  have hlt := row_lt h
  obtain ⟨cur, hc, hr⟩ := h
  exact ⟨cur, (hb.block g hlt).trans hc, hr⟩
theorem row_srcs {W : World} {g cap : Nat} {L : List Nat} (h : Row W g cap L) : Src W (some ⟨g, 0, none⟩) L := fun _ => ⟨g, 0, rfl, fun i hi => by rw [Nat.zero_add]; exact row_byte h i hi⟩
theorem row_of_owns {W : World} {base : Nat} {v : Value} {L : List Nat} (h : W.ownsRow base 5 1 v L.length (cells L)) (hp : 0 < L.length) : ∃ g cap, v = .slice (some ⟨g, 0, none⟩) L.length cap ∧ base ≤ g ∧ cap ≤ 9223372036854775807 ∧ L.length ≤ cap ∧ Row W g cap L := by
  rcases h.2 with ⟨_, h0⟩ | ⟨g, cap, cur, rfl, hb, hg, hn, hm, hs, ht⟩
  · omega
  · rw [Nat.mul_one] at hs ht
    unfold maxLen at hm
    exact ⟨g, cap, rfl, hb, by omega, hn, cur, hg, hs, by omega, ht⟩
theorem owns_nil {W : World} {base : Nat} {v : Value} (h : W.ownsRow base 5 1 v 0 []) : ∃ p cap, v = .slice p 0 cap := by
  rcases h.2 with ⟨rfl, _⟩ | ⟨g, cap, cur, rfl, _⟩
  · exact ⟨_, _, rfl⟩
  · exact ⟨_, _, rfl⟩
theorem owns_new (w : World) : (w.alloc (.cells #[] 5)).ownsRow w.heap.size 5 1 (.slice (some ⟨w.heap.size, 0, none⟩) 0 0) 0 [] := World.ownsRow_made w #[] 0 (Nat.le_refl _) (Nat.zero_le _) rfl
theorem chain2 {a b c : World} (h : Below a.heap.size a b) (k : Below b.heap.size b c) : Below a.heap.size a c := h.trans (k.mono h.size)
end Go.Proofs.YtkaigmgnmdhngaaDoor
