/- Sectors that the log makes: what they hold; bytes put one behind the other into a row of 512. -/
import Derived.Test.YtfhgdcljhncjmaaDoorFw
import Derived.Test.YtfhgdcljhncjmaaDoorFc
import Derived.Test.YtfhgdcljhncjmaaDoorFk
namespace Go.Proofs.YtfhgdcljhncjmaaDoor
open Go.ChangeShapes Go.WideShapes Go.ChangeAt Go.RowKit
set_option linter.unusedVariables false

/-- noughts behind, up to a sector's end -/
def padL (L : List Nat) : List Nat := L ++ List.replicate (512 - L.length) 0
theorem padL_len (L : List Nat) (h : L.length ≤ 512) : (padL L).length = 512 := by simp [padL]; omega
theorem padL_byte {L : List Nat} (h : ∀ b ∈ L, b < 256) : ∀ b ∈ padL L, b < 256 := by
  intro b hb
  rcases List.mem_append.1 hb with h' | h'
  · exact h b h'
  · rw [(List.mem_replicate.1 h').2]; decide
/-- a row of 512 bytes, filled so far -/
def SecRow (W : World) (g : Nat) (L : List Nat) : Prop := W.heap[g]? = some (.cells (Fw.cells (padL L)).toArray 5 (0, 0))
theorem pad_put (L M : List Nat) (h : L.length + M.length ≤ 512) : (Fw.cells (padL L)).take L.length ++ Fw.cells M ++ (Fw.cells (padL L)).drop (L.length + M.length) = Fw.cells (padL (L ++ M)) := by
  unfold Fw.cells padL
  rw [← List.map_take, ← List.map_drop, ← List.map_append, ← List.map_append]
  congr 1
  rw [List.take_left, List.drop_append, List.drop_of_length_le (by omega), List.nil_append, List.drop_replicate, List.length_append]
  congr 2
  omega
theorem put_more (w0 w : World) (B g ty : Nat) (L M : List Nat) (sp : Option Addr) (cap : Nat) (hr : SecRow w g L) (h : L.length + M.length ≤ 512) (hS : Fc.Src w sp M) (hA : (sp = none ∧ cap = 0) ∨ ∃ x, sp = some x) (hb : Below B w0 w) (hB : B ≤ g) :
    ∃ w2, (Builtin.append_ #[34, 34] ty #[.slice (some ⟨g, 0, none⟩) L.length 512, .slice sp M.length cap]).run Tryd.prog w = .ok (.slice (some ⟨g, 0, none⟩) (L.length + M.length) 512) w2 ∧ SecRow w2 g (L ++ M) ∧ Below B w0 w2 := by
  obtain ⟨i0, hi, hz0, hz1, hz2⟩ := info_parts Fw.info8
  have hsz : (Fw.cells (padL L)).length = 512 := by rw [Fw.cells_len, padL_len L (by omega)]
  rcases hA with ⟨rfl, rfl⟩ | ⟨x, rfl⟩
  · obtain rfl : M = [] := by
      rcases Nat.eq_zero_or_pos M.length with h0 | hp
      · exact List.length_eq_zero_iff.1 h0
      · obtain ⟨g', o', e, _⟩ := hS hp
        cases e
    refine ⟨w, run_append_owned_none w B 34 ty 5 i0 1 Tryd.underlying34 hi _ L.length (Fw.cells L) ⟨by rw [Fw.cells_len, Nat.mul_one], .inr ⟨g, 512, (Fw.cells (padL L)).toArray, rfl, hB, hr, by omega, by unfold maxLen; decide, by rw [List.size_toArray, hsz, Nat.mul_one], ?_⟩⟩, by rw [List.append_nil]; exact hr, hb⟩
    rw [Nat.mul_one]
    unfold Fw.cells padL
    rw [List.toList_toArray, ← List.map_take, List.take_left]
  · have hnews : ∀ j u, (Fw.cells M)[j]? = some u → w.cell? (x.add j) = some u := fun j u hu => by
      have hjl : j < M.length := by
        have := (List.getElem?_eq_some_iff.1 hu).1
        rwa [Fw.cells_len] at this
      obtain ⟨g', o', e, hc⟩ := hS (by omega)
      cases e
      have e1 : (⟨g', o', none⟩ : Addr).add j = ⟨g', o' + j, none⟩ := by unfold Addr.add; split <;> simp_all
      rw [e1, hc j hjl]
      simp [Fw.cells, hjl] at hu
      rw [← hu]; simp [List.getD, hjl]
    have hrun := run_append_room (P := Tryd.prog) w 34 ty 5 i0 Tryd.underlying34 hi g L.length 512 _ hr x M.length cap (Fw.cells M) (by rw [Fw.cells_len, hz1, Nat.mul_one]) hnews (Fw.cells_one M) h (by rw [List.size_toArray, hsz, hz1, Nat.mul_one, Fw.cells_len]; exact h)
    rw [hz1, Nat.mul_one, Fw.cells_len, List.toList_toArray, pad_put L M h] at hrun
    exact ⟨_, hrun, setRow_heap _ _ _ _ _ _ hr, below_setRow hb hB _⟩
/-- what is closed with its sum -/
def closeL (L : List Nat) : List Nat := L ++ Fc.four (Fc.crcOf L)
/-- a head; a record's first sector; one of its bytes -/
def headL (age : Int) : List Nat := closeL ([76, 71] ++ Fw.vb (Fw.zz age))
def firstL (age number count sum : Int) : List Nat := [72] ++ closeL (Fw.vb (Fw.zz age) ++ Fw.vb (Fw.zz number) ++ Fw.vb (Fw.zz count) ++ Fw.vb (Fw.zz sum))
def partL (L : List Nat) : List Nat := [68] ++ L
end Go.Proofs.YtfhgdcljhncjmaaDoor
