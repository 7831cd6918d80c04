/- Contract of crc.Close. -/
import Derived.Test.YtkaigmgnmdhngaaDoorParts
import Derived.Laws.MakeOwn
import Derived.Laws.CopyOwn
namespace Go.Proofs.YtkaigmgnmdhngaaDoor
open Go.ChangeShapes Go.WideShapes Go.ChangeAt Go.RowKit Go.Joins

def cells (l : List Nat) : List Value := l.map fun (b : Nat) => Value.int .u8 (b : Int)
theorem cells_len (L : List Nat) : (cells L).length = L.length := by simp [cells]
theorem cells_one (L : List Nat) : ∀ v ∈ cells L, v.oneCell' = true := by
  intro v hv
  obtain ⟨b, _, rfl⟩ := List.mem_map.1 hv
  rfl
theorem info8 : (Tryd.prog.info? 5).map (fun i => (i.zero, i.size, i.bytes)) = some (some (.int .u8 0), 1, 1) := by kernel_rfl
/-- a number's four bytes, the lowest first -/
def four (s : Nat) : List Nat := [s % 256, s / 256 % 256, s / 65536 % 256, s / 16777216 % 256]
theorem mk_bytes (n : Nat) (hn : n ≤ 1000000) (w : World) : (Instr.makeSlice 22 (.int .i64 (n : Int)) (.int .i64 (n : Int))).run Tryd.prog w = .ok (.slice (some ⟨w.heap.size, 0, none⟩) n n) (w.alloc (.cells (cells (List.replicate n 0)).toArray 5)) := by
  obtain ⟨i0, hi, hz0, hz1, hz2⟩ := info_parts info8
  have h := run_makeSlice (P := Tryd.prog) w 22 5 i0 (.int .u8 0) Tryd.underlying22 hi hz0 .i64 .i64 (n : Int) (n : Int) (by omega) (Int.le_refl _) (by rw [hz1]; simp; omega) (by rw [hz2]; omega) (by omega)
  rw [hz1] at h
  simp only [Int.toNat_natCast, Nat.mul_one] at h
  have e : madeCells (Value.int .u8 0).cells n = (cells (List.replicate n 0)).toArray := by
    apply Array.ext
    · rw [size_madeCells]; simp [cells]
    · intro i h1 h2
      simp [madeCells, cells, Value.cells, Nat.mod_one]
  rw [h, e]
theorem src_pos {w : World} {sp : Option Addr} {L : List Nat} (h : Src w sp L) : 0 < (cells L).length → ∃ ad, sp = some ad ∧ ∀ j v, (cells L)[j]? = some v → w.cell? (ad.add j) = some v := by
  intro hp
  rw [cells_len] at hp
  obtain ⟨g, o, rfl, hc⟩ := h hp
  refine ⟨_, rfl, fun j v hj => ?_⟩
  have hjl : j < L.length := by
    have := (List.getElem?_eq_some_iff.1 hj).1
    rwa [cells_len] at this
  have e : v = .int .u8 ((L.getD j 0 : Nat) : Int) := by
    simp [cells, hjl] at hj
    rw [← hj]; simp [List.getD, hjl]
  have e2 : (⟨g, o, none⟩ : Addr).add j = ⟨g, o + j, none⟩ := by unfold Addr.add; split <;> simp_all
  rw [e, e2]
  exact hc j hjl
theorem splice_front (L M : List Nat) : splice (cells M) 0 (cells L) = cells (L ++ M.drop L.length) := by
  unfold splice
  rw [List.take_zero, List.nil_append, Nat.zero_add, cells_len]
  simp [cells]
/-- the row while its last four bytes are laid -/
def row (L : List Nat) (s k : Nat) : List Value := cells (L ++ ((four s).take k ++ List.replicate (4 - k) 0))
theorem row_set (L : List Nat) (s k : Nat) (b : Nat) (hk : k < 4) (hb : (four s)[k]? = some b) (n : Nat) (hn : n = L.length + k) : (row L s k).toArray.setIfInBounds n (.int .u8 (b : Int)) = (row L s (k + 1)).toArray := by
  subst hn
  match k, hk, hb with
  | 0, _, hb => simp [four] at hb; subst hb; simp [row, cells, four, List.replicate]
  | 1, _, hb => simp [four] at hb; subst hb; simp [row, cells, four, List.replicate]
  | 2, _, hb => simp [four] at hb; subst hb; simp [row, cells, four, List.replicate]
  | 3, _, hb => simp [four] at hb; subst hb; simp [row, cells, four]
theorem row_len (L : List Nat) (s k : Nat) (hk : k ≤ 4) : (row L s k).length = L.length + 4 := by
  simp [row, cells, four]; omega
theorem row_cell {w : World} {g : Nat} {L : List Nat} {s k : Nat} (h : w.heap[g]? = some (.cells (row L s k).toArray 5 (0, 0))) (hk : k < 4) (n : Nat) (hn : n = L.length + k) : ∃ v, w.cell? ⟨g, n, none⟩ = some v := by
  have : n < (row L s k).length := by rw [row_len L s k (by omega)]; omega
  exact ⟨(row L s k)[n], by simp [World.cell?, h, this]⟩
set_option maxRecDepth 20000 in
set_option maxHeartbeats 2000000 in
theorem close_any (sp : Option Addr) (cap : Nat) (L : List Nat) (hn : L.length ≤ 4000) (hB : ∀ b ∈ L, b < 256) (w : World) (ht : Hid (Tab w)) (hS : Hid (Src w sp L)) :
    Calls Tryd.prog 13 #[.slice sp L.length cap] w fun e w' => ∃ g, e = .returned (.slice (some ⟨g, 0, none⟩) (L.length + 4) (L.length + 4)) ∧ w.heap.size ≤ g ∧ w'.heap[g]? = some (.cells (cells (L ++ four (crcOf L))).toArray 5 (0, 0)) ∧ Below w.heap.size w w' := by
  obtain ⟨S, hSe⟩ : ∃ S, crcOf L = S := ⟨_, rfl⟩
  have hSl : S < 4294967296 := by rw [← hSe]; exact crcOf_le L
  have HS := Lib.hid (sum_one w w.heap.size rfl ht sp cap L.length L rfl (by omega) hB hS)
  rw [hSe] at HS ⊢
  obtain ⟨n, hL⟩ : ∃ n, L.length = n := ⟨_, rfl⟩
  have HL : Hid (True → L.length = n) := Lib.hid fun _ => hL
  rw [hL] at HS hn ⊢
  clear hL hSe hB
  have hmk : (Instr.makeSlice 22 (.int .i64 ((n : Int) + 4)) (.int .i64 ((n : Int) + 4))).run Tryd.prog (w.alloc (.cells #[.slice sp n cap] 22)) = .ok (.slice (some ⟨w.heap.size + 1, 0, none⟩) (n + 4) (n + 4)) ((w.alloc (.cells #[.slice sp n cap] 22)).alloc (.cells (cells (List.replicate (n + 4) 0)).toArray 5)) := by
    have h := mk_bytes (n + 4) (by omega) (w.alloc (.cells #[.slice sp n cap] 22))
    rw [show (w.alloc (.cells #[.slice sp n cap] 22)).heap.size = w.heap.size + 1 by simp] at h
    exact h
  obtain ⟨Z, hZ⟩ : ∃ Z, cells (List.replicate (n + 4) 0) = Z := ⟨_, rfl⟩
  have HZ : Hid (True → cells (List.replicate (n + 4) 0) = Z) := Lib.hid fun _ => hZ
  rw [hZ] at hmk
  clear hZ
  have hsrc : Hid (Src ((w.alloc (.cells #[.slice sp n cap] 22)).alloc (.cells Z.toArray 5)) sp L) :=
    Lib.hid (src_later hS.out (((Below.refl _ w).alloc (Nat.le_refl _) _).alloc (by simp) _))
  have hrow : Hid (True → ((w.alloc (.cells #[.slice sp n cap] 22)).alloc (.cells Z.toArray 5)).heap[w.heap.size + 1]? = some (.cells Z.toArray 5 (0, 0))) := Lib.hid fun _ => by
    simp only [heap_alloc, Array.getElem?_push, Array.size_push]
    rw [if_pos trivial]
  have hcl : Hid (True → (cells L).length = n) := Lib.hid fun _ => by rw [cells_len]; exact HL.out trivial
  have hzl : Hid (True → Z.length = n + 4) := Lib.hid fun _ => by rw [← HZ.out trivial, cells_len, List.length_replicate]
  go_enter Tryd.func13, Tryd.ntmps13
  go_wp2_with fail
  refine HS.out.mono ?_
  rintro e w' ⟨rfl, rfl⟩
  go_wp2_with (refine wpList_copy_splice rfl (.tmp 13) (.tmp 14) 22 22 rfl 5 Tryd.underlying22 (by kernel_rfl) _ _ _ _ _ _ rfl rfl (w.heap.size + 1) 0 Z 5 (hrow.out trivial) (cells L) (by rw [hcl.out trivial]; exact (Nat.min_eq_left (by omega)).symm) (fun hp => ⟨rfl, src_pos hsrc.out hp⟩) (by rw [hcl.out trivial, hzl.out trivial]; omega) (cells_one L) w.heap.size w (((Below.refl _ w).alloc (Nat.le_refl _) _).alloc (by simp) _) (Nat.le_succ _) ?_; intro w2 HG2 hB2')
  have hg0 : w2.heap[w.heap.size + 1]? = some (.cells (row L S 0).toArray 5 (0, 0)) := by
    have h := HG2.out
    rw [← HZ.out trivial, splice_front, HL.out trivial] at h
    have e : (List.replicate (n + 4) 0).drop n = List.replicate 4 0 := by rw [List.drop_replicate]; congr 1; omega
    rw [e] at h
    exact h
  have HG0 := Lib.hid (fun _ : True => hg0)
  have HB2 := Lib.hid hB2'
  clear HG2 hg0 hB2' hrow hcl hzl hsrc hmk HZ HS
  go_wp2_with fail
  go_loopw [16] (fun i wr => ∃ k : Nat, i = .int .i64 (k : Int) ∧ k ≤ 4 ∧ Hid (True → wr.heap[w.heap.size + 1]? = some (.cells (row L S k).toArray 5 (0, 0))) ∧ Hid (Below w.heap.size w wr)) (fun i _ => 4 - (intOf i).toNat)
  case atStart => exact ⟨0, rfl, by omega, HG0, HB2⟩
  case round =>
    obtain ⟨k, rfl, hk4, hrow, hbel⟩ := hrel
    by_cases hk : k < 4
    · obtain ⟨v, hv⟩ := row_cell (hrow.out trivial) hk (n + k) (by rw [HL.out trivial])
      have hf := unfrozen_of_block (hrow.out trivial) (n + k)
      obtain ⟨b, hb⟩ : ∃ b, (four S)[k]? = some b := ⟨_, List.getElem?_eq_getElem (show k < 4 from hk)⟩
      have HV : Hid (True → (row L S k).toArray.setIfInBounds (n + k) (.int .u8 (b : Int)) = (row L S (k + 1)).toArray) := Lib.hid fun _ => row_set L S k b hk hb (n + k) (by rw [HL.out trivial])
      have HK : Hid (True → ∀ x : Int, x = 2 ^ (8 * k) → (S : Int) / x % 256 = (b : Int)) := Lib.hid fun _ x hx => by
        subst hx
        rcases (show k = 0 ∨ k = 1 ∨ k = 2 ∨ k = 3 by omega) with rfl | rfl | rfl | rfl <;> (simp [four] at hb; subst hb; omega)
      clear hb
      go_wp2_with fail
      go_round
      case rel =>
        rw [HK.out trivial _ rfl]
        refine ⟨k + 1, by go_num, by omega, Lib.hid fun _ => ?_, Lib.hid (hbel.out.setCell (p := ⟨w.heap.size + 1, n + k, none⟩) (Nat.le_succ _) _)⟩
        have h := block_setCell (i := n + k) (hrow.out trivial) (.int .u8 (b : Int))
        rw [HV.out trivial] at h
        exact h
      case measure => simp [intOf]; omega
    · obtain rfl : k = 4 := by omega
      have HE : Hid (True → row L S 4 = cells (L ++ four S)) := Lib.hid fun _ => by simp [row, four]
      go_wp2_with fail
      go_ret
      exact ⟨_, rfl, Nat.le_succ _, by rw [← HE.out trivial]; exact hrow.out trivial, hbel.out⟩
end Go.Proofs.YtkaigmgnmdhngaaDoor
