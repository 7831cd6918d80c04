/- Contract of the law's full: a sector of a byte. -/
import Derived.Test.YtmojieomdbfjcaaRead
namespace Go.Proofs.Ytmojieomdbfjcaa
open Go.ChangeShapes Go.WideShapes Go.ChangeAt Go.RowKit

theorem info_u8 : (Try.prog.info? 5).map (fun i => (i.zero, i.size, i.bytes)) = some (some (.int .u8 0), 1, 1) := by kernel_rfl
/-- a row that is filled up to k -/
def fillTo (n : Nat) (z a : Value) (k : Nat) : List Value := List.replicate k a ++ List.replicate (n - k) z
theorem fillTo_set (n : Nat) (z a : Value) (k : Nat) (hk : k < n) : (fillTo n z a k).set k a = fillTo n z a (k + 1) := by
  unfold fillTo
  rw [List.set_append_right _ _ (by simp), List.length_replicate, Nat.sub_self]
  obtain ⟨m, hm⟩ : ∃ m, n - k = m + 1 := ⟨n - k - 1, by omega⟩
  rw [hm, show n - (k + 1) = m by omega, List.replicate_succ, List.set_cons_zero, List.replicate_succ', List.append_assoc]
  rfl
theorem fillTo_zero (n : Nat) (z a : Value) : fillTo n z a 0 = List.replicate n z := by simp [fillTo]
theorem fillTo_all (n : Nat) (z a : Value) : fillTo n z a n = List.replicate n a := by simp [fillTo]
theorem fillTo_len (n : Nat) (z a : Value) (k : Nat) (hk : k ≤ n) : (fillTo n z a k).length = n := by simp [fillTo]; omega

structure FInv (w wr : World) (g : Nat) (e : TypeId) (n : Nat) (z a : Value) (k : Nat) : Prop where
  row : wr.ownsRow w.heap.size e 1 (.slice (some ⟨g, 0, none⟩) n n) n (fillTo n z a k)
  below : Below w.heap.size w wr
set_option maxRecDepth 20000 in
theorem full_any (x : Int) (w : World) :
    Calls Try.prog 9 #[.int .u8 x] w fun e w' => e = .returned (.slice (some ⟨w.heap.size, 0, none⟩) 512 512) ∧ FInv w w' w.heap.size 5 512 (.int .u8 0) (.int .u8 x) 512 := by
  obtain ⟨i0, hi, hz0, hz1, hz2⟩ := info_parts info_u8
  obtain ⟨w1, hr, hown, hg⟩ := run_make_full (P := Try.prog) w w.heap.size 22 5 i0 (.int .u8 0) 1 Try.underlying22 hi hz0 hz1 .i64 .i64 512 (by rw [hz2]; decide) (by decide) (Nat.le_refl _)
  rw [show ((512 : Nat) : Int) = 512 from rfl] at hr
  have hI : Hid (FInv w w1 w.heap.size 5 512 (.int .u8 0) (.int .u8 x) 0) := Lib.hid ⟨by rw [fillTo_zero]; rwa [show (Value.int IntKind.u8 0).cells = #[Value.int .u8 0] from rfl, toList_madeCells_one] at hown, (Below.refl _ w).grown hg (Nat.le_refl _) (by simp)⟩
  clear hown hg
  go_enter Try.func9, Try.ntmps9
  go_wp2_with fail
  go_loopw [4] (fun i wr => ∃ k : Nat, i = .int .i64 (k : Int) ∧ k ≤ 512 ∧ Hid (FInv w wr w.heap.size 5 512 (.int .u8 0) (.int .u8 x) k)) (fun i _ => 512 - (intOf i).toNat)
  case atStart => exact ⟨0, rfl, by omega, hI⟩
  case round =>
    obtain ⟨k, rfl, hkm, hJ⟩ := hrel
    by_cases hk : k < 512
    · have hc : wr.cell? ⟨w.heap.size, k, none⟩ = some ((fillTo 512 (.int .u8 0) (.int .u8 x) k)[k]'(by rw [fillTo_len _ _ _ _ hkm]; exact hk)) := by
        rw [World.ownsRow.cellAt hJ.out.row k (by omega)]; exact List.getElem?_eq_getElem _
      generalize (fillTo 512 (.int .u8 0) (.int .u8 x) k)[k]'_ = old at hc
      have hf := World.ownsRow.frozenAt hJ.out.row k
      have hst := World.ownsRow.stored hJ.out.row k (.int .u8 x)
      rw [fillTo_set _ _ _ _ hk] at hst
      have hnext : Hid (FInv w (wr.setCell ⟨w.heap.size, k, none⟩ (.int .u8 x)) w.heap.size 5 512 (.int .u8 0) (.int .u8 x) (k + 1)) := Lib.hid ⟨hst.1, hJ.out.below.setCell (p := ⟨w.heap.size, k, none⟩) (Nat.le_refl _) _⟩
      clear hst
      have hi0 : (0 : Int) ≤ (k : Int) := Int.natCast_nonneg k
      have hi1 : (k : Int) < 512 := by omega
      go_wp2_with fail
      go_roundw
      case rel => exact ⟨k + 1, by go_num, by omega, hnext⟩
      case measure => simp [intOf]; omega
    · obtain rfl : k = 512 := by omega
      go_wp2_with fail
      go_ret
      exact ⟨rfl, hJ.out⟩
end Go.Proofs.Ytmojieomdbfjcaa
