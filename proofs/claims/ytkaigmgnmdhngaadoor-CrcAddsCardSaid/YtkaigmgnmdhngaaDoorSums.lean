/- 'sums' is true. -/
import Derived.Test.YtkaigmgnmdhngaaDoorSum
import Derived.Lib.SmallJoins
namespace Go.Proofs.YtkaigmgnmdhngaaDoor
open Go.ChangeShapes Go.WideShapes Go.ChangeAt Go.RowKit Go.Joins

theorem crc_nine : crcOf [49, 50, 51, 52, 53, 54, 55, 56, 57] = 3808858755 := by decide +kernel
def c4 : Array Value := #[.int .u8 49, .int .u8 50, .int .u8 51, .int .u8 52]
def c5 : Array Value := #[.int .u8 53, .int .u8 54, .int .u8 55, .int .u8 56, .int .u8 57]
def nine (b : Nat) : List Part := [(some ⟨b, 0, none⟩, 4, [49, 50, 51, 52]), (none, 0, []), (some ⟨b + 1, 0, none⟩, 5, [53, 54, 55, 56, 57])]
theorem nine_fits (b : Nat) : Fits (nine b) := by
  intro p hp
  simp only [nine, List.mem_cons, List.not_mem_nil, or_false] at hp
  rcases hp with rfl | rfl | rfl <;> simp
def w3 (w : World) : World := ((w.alloc (.cells c4 5 (4, 5))).alloc (.cells c5 5 (5, 6))).alloc (.cells #[.slice (some ⟨w.heap.size, 0, none⟩) 4 4, .slice none 0 0, .slice (some ⟨w.heap.size + 1, 0, none⟩) 5 5] 22)
theorem w3_below (w : World) : Below w.heap.size w (w3 w) :=
  (((Below.refl _ w).alloc (Nat.le_refl _) _).alloc (by simp) _).alloc (by simp; omega) _
theorem heap_alloc (w : World) (o : Obj) : (w.alloc o).heap = w.heap.push o := rfl
theorem w3_c (w : World) : (w3 w).heap[w.heap.size]? = some (.cells c4 5 (4, 5)) ∧ (w3 w).heap[w.heap.size + 1]? = some (.cells c5 5 (5, 6)) ∧ (w3 w).heap[w.heap.size + 2]? = some (.cells #[.slice (some ⟨w.heap.size, 0, none⟩) 4 4, .slice none 0 0, .slice (some ⟨w.heap.size + 1, 0, none⟩) 5 5] 22) := by
  simp only [w3, heap_alloc, Array.getElem?_push, Array.size_push]
  refine ⟨?_, ?_, ?_⟩
  · rw [if_neg (by omega), if_neg (by omega), if_pos trivial]
  · rw [if_neg (by omega), if_pos trivial]
  · rw [if_pos trivial]
theorem nine_parts (w : World) : Parts (w3 w) (w.heap.size + 2) 0 (nine w.heap.size) := by
  obtain ⟨h1, h2, h3⟩ := w3_c w
  intro i p hp
  match i, hp with
  | 0, hp =>
    simp [nine] at hp; subst hp
    refine ⟨by simp [World.cell?, h3], fun _ => ⟨_, _, rfl, fun j hj => ?_⟩⟩
    match j, hj with
    | 0, _ => simp [World.cell?, h1, c4]
    | 1, _ => simp [World.cell?, h1, c4]
    | 2, _ => simp [World.cell?, h1, c4]
    | 3, _ => simp [World.cell?, h1, c4]
    | n + 4, h => exact absurd h (by simp)
  | 1, hp =>
    simp [nine] at hp; subst hp
    exact ⟨by simp [World.cell?, h3], fun h => absurd h (by simp)⟩
  | 2, hp =>
    simp [nine] at hp; subst hp
    refine ⟨by simp [World.cell?, h3], fun _ => ⟨_, _, rfl, fun j hj => ?_⟩⟩
    match j, hj with
    | 0, _ => simp [World.cell?, h2, c5]
    | 1, _ => simp [World.cell?, h2, c5]
    | 2, _ => simp [World.cell?, h2, c5]
    | 3, _ => simp [World.cell?, h2, c5]
    | 4, _ => simp [World.cell?, h2, c5]
    | n + 5, h => exact absurd h (by simp)
  | n + 3, hp => simp [nine] at hp
theorem sum_nine (w : World) (ht : Hid (Tab w)) : Calls Tryd.prog 11 #[.slice (some ⟨w.heap.size + 1 + 1, 0, none⟩) 3 3] (w3 w) fun e w' => e = .returned (.int .u32 3808858755) ∧ w3 w = w' := by
  have h := sum_any (w.heap.size + 2) 0 3 (nine w.heap.size) (show 3 ≤ 10 by decide) (nine_fits _) (w3 w) (Lib.hid (tab_later ht.out (w3_below w))) (Lib.hid (nine_parts w))
  have e : all (nine w.heap.size) = [49, 50, 51, 52, 53, 54, 55, 56, 57] := rfl
  rw [e, crc_nine] at h
  exact h
set_option maxRecDepth 20000 in
theorem sums_any (w : World) (ht : Hid (Tab w)) :
    Calls Tryd.prog 10 #[] w fun e w' => e = .returned (.bool true) ∧ Below w.heap.size w w' := by
  have q1 : (convert 22 22 (.slice (some ⟨w.heap.size, 0, none⟩) 4 4)).run Tryd.prog (w.alloc (.cells #[.int .u8 49, .int .u8 50, .int .u8 51, .int .u8 52] 5)) = .ok (.slice (some ⟨w.heap.size, 0, none⟩) 4 4) (w.alloc (.cells #[.int .u8 49, .int .u8 50, .int .u8 51, .int .u8 52] 5 (4, 5))) :=
    run_convert_bytes_const_at w 22 5 c4 4 4 w.heap.size rfl Tryd.underlying22 Tryd.underlying5
  have q2 : (convert 22 22 (.slice (some ⟨w.heap.size + 1, 0, none⟩) 5 5)).run Tryd.prog ((w.alloc (.cells #[.int .u8 49, .int .u8 50, .int .u8 51, .int .u8 52] 5 (4, 5))).alloc (.cells #[.int .u8 53, .int .u8 54, .int .u8 55, .int .u8 56, .int .u8 57] 5)) = .ok (.slice (some ⟨w.heap.size + 1, 0, none⟩) 5 5) ((w.alloc (.cells #[.int .u8 49, .int .u8 50, .int .u8 51, .int .u8 52] 5 (4, 5))).alloc (.cells #[.int .u8 53, .int .u8 54, .int .u8 55, .int .u8 56, .int .u8 57] 5 (5, 6))) :=
    run_convert_bytes_const_at (w.alloc (.cells c4 5 (4, 5))) 22 5 c5 5 5 (w.heap.size + 1) (by simp) Tryd.underlying22 Tryd.underlying5
  go_enter Tryd.func10, Tryd.ntmps10
  go_wp2_with fail
  refine (sum_nine w ht).mono ?_
  rintro e w' ⟨rfl, rfl⟩
  go_wp2_with fail
  go_ret
  exact ⟨rfl, w3_below w⟩
end Go.Proofs.YtkaigmgnmdhngaaDoor
