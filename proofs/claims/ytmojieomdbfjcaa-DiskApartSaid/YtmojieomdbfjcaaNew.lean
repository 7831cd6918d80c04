/- Contracts of slices.Repeat at one text, of, New. -/
import Derived.Test.YtmojieomdbfjcaaFull
import Derived.Test.YtmojieomdbfjcaaShelf
import Derived.Lib.AppendStr
namespace Go.Proofs.Ytmojieomdbfjcaa
open Go.ChangeShapes Go.WideShapes Go.ChangeAt Go.RowKit

theorem info_str : (Try.prog.info? 9).map (fun i => (i.zero, i.size, i.bytes)) = some (some (.string ⟨#[]⟩), 1, 16) := by kernel_rfl
theorem splice_fill (n : Nat) (z a : Value) (k c : Nat) : splice (fillTo n z a k) k (List.replicate c a) = fillTo n z a (k + c) := by
  unfold splice fillTo
  rw [List.take_left' (by simp), List.length_replicate, List.drop_append, List.length_replicate, List.drop_of_length_le (by simp), List.nil_append, Nat.add_sub_cancel_left, List.drop_replicate, ← List.append_assoc, List.replicate_append_replicate, Nat.sub_sub]
theorem mk_strs (N : Nat) (hN2 : N ≤ 1000) (w : World) : (Instr.makeSlice 51 (.int .i64 (N : Int)) (.int .i64 (N : Int))).run Try.prog w = .ok (.slice (some ⟨w.heap.size, 0, none⟩) N N) (w.alloc (.cells (fillTo N (.string ⟨#[]⟩) (.string ⟨#[]⟩) 0).toArray 9)) := by
  obtain ⟨i0, hi, hz0, hz1, hz2⟩ := info_parts info_str
  have h := run_makeSlice (P := Try.prog) w 51 9 i0 (.string ⟨#[]⟩) Try.underlying51 hi hz0 .i64 .i64 (N : Int) (N : Int) (by omega) (Int.le_refl _) (by rw [hz1]; simp; omega) (by rw [hz2]; omega) (by omega)
  rw [hz1] at h
  simp only [Int.toNat_natCast, Nat.mul_one] at h
  rw [h, fillTo_zero, show (Value.string ⟨#[]⟩).cells = #[Value.string ⟨#[]⟩] from rfl, ← toList_madeCells_one, Array.toArray_toList]
theorem fill_at (w : World) (g n : Nat) (z a : Value) (k : Nat) (t : TypeId) (hrow : w.heap[g]? = some (.cells (fillTo n z a k).toArray t (0, 0))) (j : Nat) (hj : j < k) : w.cell? ⟨g, j, none⟩ = some a := by
  have : w.cell? ⟨g, j, none⟩ = (fillTo n z a k).toArray[j]? := by simp [World.cell?, hrow]
  rw [this]
  rw [List.getElem?_toArray]
  unfold fillTo
  rw [List.getElem?_append_left (by rw [List.length_replicate]; exact hj), List.getElem?_replicate, if_pos hj]

structure RInv (w wr : World) (n : Nat) (z a : Value) (k : Nat) : Prop where
  row : wr.heap[w.heap.size]? = some (.cells (fillTo n z a k).toArray 9 (0, 0))
  below : Below w.heap.size w wr
set_option maxRecDepth 20000 in
theorem repeat_any (b c N : Nat) (t : ByteArray) (hN : 1 ≤ N) (hN2 : N ≤ 1000) (w : World) (hx : w.cell? ⟨b, 0, none⟩ = some (.string t)) :
    Calls Try.prog 21 #[.slice (some ⟨b, 0, none⟩) 1 c, .int .i64 (N : Int)] w fun e w' => e = .returned (.slice (some ⟨w.heap.size, 0, none⟩) N N) ∧ RInv w w' N (.string ⟨#[]⟩) (.string t) N := by
  have hMul := Lib.hid (Try.bits_Mul 1 N (by omega) (by omega) w)
  rw [show (1 * N / 18446744073709551616 : Nat) = 0 by omega, show (1 * N % 18446744073709551616 : Nat) = N by omega] at hMul
  have hmk := mk_strs N hN2 w
  have hlt : b < w.heap.size := World.block_lt_of_cell? w _ hx
  have hx1 : Hid ((w.alloc (.cells (fillTo N (.string ⟨#[]⟩) (.string ⟨#[]⟩) 0).toArray 9)).cell? ⟨b, 0, none⟩ = some (.string t)) := Lib.hid ((World.cell?_alloc_old w _ _ (Nat.ne_of_lt hlt)).trans hx)
  have hrow0 : Hid ((w.alloc (.cells (fillTo N (.string ⟨#[]⟩) (.string ⟨#[]⟩) 0).toArray 9)).heap[w.heap.size]? = some (.cells (fillTo N (.string ⟨#[]⟩) (.string t) 0).toArray 9 (0, 0))) := Lib.hid (by rw [fillTo_zero N _ (.string t), ← fillTo_zero N (.string ⟨#[]⟩) (.string ⟨#[]⟩)]; exact Array.getElem?_push_size)
  have hbe0 : Hid (Below w.heap.size w (w.alloc (.cells (fillTo N (.string ⟨#[]⟩) (.string ⟨#[]⟩) 0).toArray 9))) := Lib.hid ((Below.refl _ w).alloc (Nat.le_refl _) _)
  obtain ⟨wa, hwa⟩ : ∃ wa, w.alloc (.cells (fillTo N (.string ⟨#[]⟩) (.string ⟨#[]⟩) 0).toArray 9) = wa := ⟨_, rfl⟩
  rw [hwa] at hmk hx1 hrow0 hbe0
  clear hwa
  have hN0 : ¬ ((N : Int) < 0) := by omega
  go_enter Try.func21, Try.ntmps21
  go_wp2_with fail
  refine hMul.out.mono ?_
  rintro e w' ⟨rfl, hww⟩
  have hww := hww.symm
  subst hww
  have hNg : ¬ (9223372036854775807 < (N : Int)) := by omega
  go_wp2_with (refine wpList_copy_splice rfl (.tmp 31) (.tmp 32) 51 51 rfl 9 Try.underlying51 (by kernel_rfl) _ _ _ _ _ _ rfl rfl w.heap.size 0 (fillTo N (.string ⟨#[]⟩) (.string t) 0) 9 hrow0.out (List.replicate 1 (.string t)) (by rw [List.length_replicate]; exact (Nat.min_eq_left hN).symm) (fun _ => ⟨rfl, ⟨b, 0, none⟩, rfl, fun j v hj => by rw [List.getElem?_replicate] at hj; split at hj; (cases hj; rw [show j = 0 by omega]; exact hx1.out); cases hj⟩) (by rw [List.length_replicate, fillTo_len _ _ _ _ (Nat.zero_le _)]; omega) (by intro v hv; rw [List.mem_replicate] at hv; rw [hv.2]; rfl) w.heap.size w hbe0.out (Nat.le_refl _) ?_; intro w2 HG2 hB2)
  have hI0 : Hid (RInv w w2 N (.string ⟨#[]⟩) (.string t) 1) := Lib.hid ⟨by have := HG2.out; rwa [splice_fill, Nat.zero_add] at this, hB2⟩
  clear HG2 hB2 hx1 hrow0 hbe0
  go_wp2_with fail
  go_loopw [8] (fun i wr => ∃ k : Nat, i = .int .i64 (k : Int) ∧ 1 ≤ k ∧ k ≤ N ∧ Hid (RInv w wr N (.string ⟨#[]⟩) (.string t) k)) (fun i _ => N - (intOf i).toNat)
  case atStart => exact ⟨1, rfl, by omega, hN, hI0⟩
  case round =>
    obtain ⟨k, rfl, hk1, hkm, hJ⟩ := hrel
    clear hI0
    by_cases hk : k < N
    · obtain ⟨q, hq⟩ : ∃ q, Nat.min k (N - k) = q := ⟨_, rfl⟩
      have hq1 : 1 ≤ q := by rw [← hq]; exact Nat.le_min.2 ⟨hk1, by omega⟩
      have hq2 : q ≤ k := by rw [← hq]; exact Nat.min_le_left _ _
      have hq3 : q ≤ N - k := by rw [← hq]; exact Nat.min_le_right _ _
      have HQ := Lib.hid (fun _ : True => hq)
      clear hq
      have hw : IntKind.i64.wrap ((k : Int) + (q : Int)) = ((k + q : Nat) : Int) := by rw [IntKind.wrap_i64]; omega
      go_wp2_with fail
      have hNk : ¬ N = k := by omega
      have hrow := Lib.hid (fun _ : True => hJ.out.row)
      have hsrc : Hid (∀ (j : Nat) (v : Value), (List.replicate q (Value.string t))[j]? = some v → wr.drew.cell? ((⟨w.heap.size, 0, none⟩ : Addr).add j) = some v) := Lib.hid fun j v hj => by
        rw [List.getElem?_replicate] at hj
        split at hj
        · cases hj
          rw [Addr.add_lit, Nat.zero_add]
          exact fill_at _ _ _ _ _ _ _ hJ.out.row j (by omega)
        · cases hj
      go_region_law (refine step_copy_splice rfl (.tmp 41) (.tmp 44) 51 51 rfl 9 Try.underlying51 (by kernel_rfl) (some ⟨w.heap.size, k, none⟩) (some ⟨w.heap.size, 0, none⟩) (N - k) (N - k) k N (by simp [Act.eval, Act.put]) (by simp [Act.eval, Act.put]) w.heap.size k (fillTo N (.string ⟨#[]⟩) (.string t) k) 9 (hrow.out trivial) (List.replicate q (.string t)) (by rw [List.length_replicate]; exact (HQ.out trivial).symm) (fun _ => ⟨rfl, ⟨w.heap.size, 0, none⟩, rfl, hsrc.out⟩) (by rw [List.length_replicate, fillTo_len _ _ _ _ hkm]; omega) (by intro v hv; rw [List.mem_replicate] at hv; rw [hv.2]; rfl) w.heap.size w hJ.out.below.drew (Nat.le_refl _) ?_; intro w3 HG3 hB3; rw [List.length_replicate]; have hnext : Hid (RInv w w3 N (.string ⟨#[]⟩) (.string t) (k + q)) := Lib.hid ⟨by have := HG3.out; rwa [splice_fill] at this, hB3⟩; clear HG3 hB3)
      all_goals go_wp2_with fail
      all_goals go_roundw
      case rel =>
        rw [show ((k : Int) + (q : Int)) = ((k + q : Nat) : Int) from rfl]
        exact ⟨_, _, _, _, _, _, _, _, _, _, _, _, _, _, ⟨k + q, rfl, by omega, by omega, hnext⟩, rfl⟩
      case measure => simp [intOf, Act.put]; omega
    · obtain rfl : k = N := by omega
      go_wp2_with fail
      go_ret
      exact ⟨rfl, hJ.out⟩
end Go.Proofs.Ytmojieomdbfjcaa
