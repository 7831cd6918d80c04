/- Contract of the document's Four; a row of bytes read as a text. -/
import Derived.Test.YtkaigmgnmdhngaaDoorOpen
namespace Go.Proofs.YtkaigmgnmdhngaaDoor
open Go.ChangeShapes Go.WideShapes Go.ChangeAt Go.RowKit Go.Joins

/-- a text of these bytes -/
def sv (l : List Nat) : ByteArray := strOfNums (l.map fun (b : Nat) => (b : Int))
theorem sv_size (l : List Nat) : (sv l).size = l.length := by unfold sv; rw [strOfNums_size]; simp
theorem sv_append (a b : List Nat) : sv a ++ sv b = sv (a ++ b) := by
  apply ByteArray.ext
  apply Array.toList_inj.1
  simp [sv, strOfNums]
theorem sv_bytes (l : List Nat) (hB : ∀ b ∈ l, b < 256) : (sv l).data.toList.map (fun b => b.toNat) = l := by
  unfold sv
  rw [strOfNums_data, List.map_map, List.map_map]
  conv => rhs; rw [← List.map_id l]
  exact List.map_congr_left fun b hb => by simp; exact hB b hb
/-- a row of bytes, as a text, wherever it lies -/
theorem src_conv {w : World} {sp : Option Addr} {L : List Nat} (h : Src w sp L) (cap : Nat) (hp : 0 < L.length) : (convert 22 9 (.slice sp L.length cap)).run Tryd.prog w = .ok (.string (sv L)) w := by
  obtain ⟨g, o, rfl, hc⟩ := h hp
  exact run_convert_bytes_arg (P := Tryd.prog) w 22 5 Tryd.underlying22 Tryd.underlying5 g o L.length cap (L.map fun (b : Nat) => (b : Int)) (by simp) (fun i hi => by rw [hc i hi]; congr 2; simp [List.getD, hi]) 9 Tryd.underlying9
theorem refSum_sv (L : List Nat) (hn : L.length ≤ 100000) (hB : ∀ b ∈ L, b < 256) (w : World) :
    Calls Tryd.prog 9 #[.string (sv L)] w fun e w' => e = .returned (.int .u32 ((crcOf L : Nat) : Int)) ∧ w = w' := by
  have h := refSum_any (sv L) (by rw [sv_size]; exact hn) w
  rw [sv_bytes L hB] at h
  exact h
set_option maxRecDepth 20000 in
theorem four_any (S : Nat) (hS : S < 4294967296) (w : World) :
    Calls Tryd.prog 16 #[.int .u32 (S : Int)] w fun e w' => e = .returned (.string (sv (four S))) ∧ Below w.heap.size w w' := by
  have e0 : (S : Int) % 256 = ((S % 256 : Nat) : Int) := by omega
  have e1 : (S : Int) / 256 % 256 = ((S / 256 % 256 : Nat) : Int) := by omega
  have e2 : (S : Int) / 65536 % 256 = ((S / 65536 % 256 : Nat) : Int) := by omega
  have e3 : (S : Int) / 16777216 = ((S / 16777216 % 256 : Nat) : Int) := by omega
  have hq : (convert 22 9 (.slice (some ⟨w.heap.size, 0, none⟩) 4 4)).run Tryd.prog (w.alloc (.cells (cells (four S)).toArray 5)) = .ok (.string (sv (four S))) (w.alloc (.cells (cells (four S)).toArray 5)) := by
    refine src_conv (L := four S) (fun _ => ⟨_, _, rfl, fun i hi => ?_⟩) 4 (by simp [four])
    have hi4 : i < 4 := hi
    rw [Nat.zero_add, World.cell?_alloc_mark]
    match i, hi4 with
    | 0, _ => simp [cells, List.getD, four]
    | 1, _ => simp [cells, List.getD, four]
    | 2, _ => simp [cells, List.getD, four]
    | 3, _ => simp [cells, List.getD, four]
  have hq2 : (convert 22 9 (.slice (some ⟨w.heap.size, 0, none⟩) 4 4)).run Tryd.prog (w.alloc (.cells #[.int .u8 ((S : Int) % 256), .int .u8 ((S : Int) / 256 % 256), .int .u8 ((S : Int) / 65536 % 256), .int .u8 ((S : Int) / 16777216)] 5)) = .ok (.string (sv (four S))) (w.alloc (.cells (cells (four S)).toArray 5)) := by
    rw [e0, e1, e2, e3]; exact hq
  clear hq e0 e1 e2 e3
  go_enter Tryd.func16, Tryd.ntmps16
  go_wp2
  go_ret
  exact ⟨rfl, (Below.refl _ w).alloc (Nat.le_refl _) _⟩
end Go.Proofs.YtkaigmgnmdhngaaDoor
