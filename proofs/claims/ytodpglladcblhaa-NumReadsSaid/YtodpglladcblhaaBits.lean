/- Contracts of Bits, the program's and the document's. -/
import Derived.Test.YtodpglladcblhaaBase
import Derived.LoopTactic
import Derived.Outline
import Derived.Laws.BytesArg
namespace Go.Proofs.Ytodpglladcblhaa
open Go.ChangeShapes Go.WideShapes Go.ChangeAt Go.RowKit

/-- one cell of a block that the call has made -/
theorem blk_cell {w : World} {g : Nat} {t : TypeId} {cs : Array Value} (h : w.heap[g]? = some (.cells cs t (0, 0))) (i : Nat) : w.cell? ⟨g, i, none⟩ = cs[i]? := by
  simp [World.cell?, h]
theorem blk_frozen {w : World} {g : Nat} {t : TypeId} {cs : Array Value} (h : w.heap[g]? = some (.cells cs t (0, 0))) (i : Nat) : w.frozen? ⟨g, i, none⟩ = false := by
  simp [World.frozen?, h]
theorem blk_set {w : World} {g : Nat} {t : TypeId} {cs : Array Value} (h : w.heap[g]? = some (.cells cs t (0, 0))) (i : Nat) (v : Value) : (w.setCell ⟨g, i, none⟩ v).heap[g]? = some (.cells (cs.setIfInBounds i v) t (0, 0)) := by
  simp [World.setCell, Array.getElem?_modify, h]
theorem blk_new (w : World) (cs : Array Value) (t : TypeId) : (w.alloc (.cells cs t)).heap[w.heap.size]? = some (.cells cs t (0, 0)) := by
  exact Array.getElem?_push_size

def hexS : ByteArray := { data := #[48, 49, 50, 51, 52, 53, 54, 55, 56, 57, 97, 98, 99, 100, 101, 102] }
/-- the place j's digit -/
def nib (x j : Nat) : Nat := x / 16 ^ j % 16
def hexN (x j : Nat) : Int := ((hexS.data.toList.getD (nib x j) 0).toNat : Int)
/-- the block behind k rounds -/
def hexCells (x k : Nat) : Array Value := Array.ofFn (n := 16) fun j => .int .u8 (if 16 - k ≤ j.val then hexN x (15 - j.val) else 0)
theorem hex_set (x k : Nat) (h : k < 16) : (hexCells x k).setIfInBounds (15 - k) (.int .u8 (hexN x k)) = hexCells x (k + 1) := by
  apply Array.ext
  · simp [hexCells]
  · intro i h1 h2
    simp only [hexCells, Array.size_setIfInBounds, Array.size_ofFn] at h1
    rw [Array.getElem_setIfInBounds (by simpa [hexCells] using h1)]
    simp only [hexCells, Array.getElem_ofFn]
    by_cases e : 15 - k = i
    · rw [if_pos e, if_pos (by omega)]
      subst e
      rw [show 15 - (15 - k) = k by omega]
    · rw [if_neg e]
      by_cases g : 16 - k ≤ i
      · rw [if_pos g, if_pos (by omega)]
      · rw [if_neg g, if_neg (by omega)]
/-- what the loop's rounds keep -/
def HexAt (w : World) (x k : Nat) (wr : World) : Prop := wr.heap[w.heap.size]? = some (.cells (hexCells x k) 5 (0, 0)) ∧ Grown w wr

def sh (x k : Nat) : Int := ((x / 16 ^ k : Nat) : Int)
theorem sh_zero (x : Nat) : sh x 0 = (x : Int) := by simp [sh]
theorem sh_nonneg (x k : Nat) : 0 ≤ sh x k := by unfold sh; exact Int.natCast_nonneg _
theorem sh_succ (x k : Nat) : sh x k / 16 = sh x (k + 1) := by
  unfold sh
  rw [Nat.pow_succ, ← Nat.div_div_eq_div_mul]
  rfl
theorem sh_and (x k : Nat) (hx : x < 18446744073709551616) : bits .and .u64 (sh x k) 15 = (nib x k : Int) := by
  have := u64_and_nat (x / 16 ^ k) 15 (Nat.lt_of_le_of_lt (Nat.div_le_self _ _) hx) (by decide)
  rw [nat_mask4] at this
  exact this
theorem nib_lt (x k : Nat) : nib x k < 16 := Nat.mod_lt _ (by decide)
theorem index_hex (n : Nat) (h : n < 16) : ∀ w, (Instr.index 9 (.string hexS) (.int .u64 (n : Int))).run Try.prog w = .ok (.int .u8 ((hexS.data.toList.getD n 0).toNat : Int)) w := by
  intro w
  have : n = 0 ∨ n = 1 ∨ n = 2 ∨ n = 3 ∨ n = 4 ∨ n = 5 ∨ n = 6 ∨ n = 7 ∨ n = 8 ∨ n = 9 ∨ n = 10 ∨ n = 11 ∨ n = 12 ∨ n = 13 ∨ n = 14 ∨ n = 15 := by omega
  rcases this with rfl | rfl | rfl | rfl | rfl | rfl | rfl | rfl | rfl | rfl | rfl | rfl | rfl | rfl | rfl | rfl <;> (show _ = _; kernel_rfl)

theorem index_nib (x k : Nat) (w : World) : (Instr.index 9 (.string { data := #[48, 49, 50, 51, 52, 53, 54, 55, 56, 57, 97, 98, 99, 100, 101, 102] }) (.int .u64 (nib x k : Int))).run Try.prog w = .ok (.int .u8 (hexN x k)) w := index_hex (nib x k) (nib_lt x k) w
attribute [local go_sem ↓] index_nib
theorem hex_get (x k : Nat) (h : k < 16) : (hexCells x k)[15 - k]? = some (.int .u8 0) := by
  unfold hexCells
  rw [Array.getElem?_eq_getElem (by simp; omega)]
  simp only [Array.getElem_ofFn]
  rw [if_neg (by omega)]
/-- all sixteen digits, and the first j of them -/
def hexNums (x : Nat) : List Int := (List.range 16).map fun j => hexN x (15 - j)
theorem hexNums_len (x : Nat) : (hexNums x).length = 16 := by simp [hexNums]
theorem hexNums_get (x i : Nat) (h : i < 16) : (hexCells x 16)[i]? = some (.int .u8 ((hexNums x).getD i 0)) := by
  unfold hexCells hexNums
  rw [Array.getElem?_eq_getElem (by simpa using h)]
  simp only [Array.getElem_ofFn]
  rw [if_pos (by omega)]
  simp [List.getD, h]
theorem bits_any (x : Nat) (hx : x < 18446744073709551616) (w : World) : Calls Try.prog 43 #[.int .u64 (x : Int)] w fun e w' => e = .returned (.string (strOfNums (hexNums x))) ∧ Grown w w' := by
  have hmk : ∀ w, (Instr.makeSlice 68 (.int .i64 16) (.int .i64 16)).run Try.prog w = .ok (.slice (some ⟨w.heap.size, 0, none⟩) 16 16) (w.alloc (.cells (hexCells 0 0) 5)) := fun _ => by kernel_rfl
  have HX := Lib.hid hx
  have hz : Hid (hexCells 0 0 = hexCells x 0) := Lib.hid (by unfold hexCells; rfl)
  clear hx
  go_enter Try.func43, Try.ntmps43
  go_wp2_with fail
  go_loopw [0, 4, 8] (fun y u i wr => ∃ k : Nat, k ≤ 16 ∧ i = .int .i64 k ∧ y = .int .u64 (sh x k) ∧ HexAt w x k wr) (fun _ _ i _ => 16 - (intOf i).toNat)
  case atStart => exact ⟨0, by omega, rfl, by rw [sh_zero], ⟨by rw [← hz.out]; exact blk_new _ _ _, (Grown.refl _).alloc _ _⟩⟩
  case round =>
    obtain ⟨k, hk, rfl, rfl, hw⟩ := hrel
    by_cases hlt : k < 16
    · have hc : wr.cell? ⟨w.heap.size, 15 - k, none⟩ = some (.int .u8 0) := by rw [blk_cell hw.1 _, hex_get x k hlt]
      have hf : wr.frozen? ⟨w.heap.size, 15 - k, none⟩ = false := blk_frozen hw.1 _
      have h1 := sh_nonneg x k
      have h2 := sh_and x k HX.out
      go_wp2_with fail
      go_roundw
      case rel => exact ⟨k + 1, by omega, by go_num, by rw [sh_succ], ⟨by have := blk_set hw.1 (15 - k) (.int .u8 (hexN x k)); rwa [hex_set x k hlt] at this, hw.2.setCell (Nat.le_refl _) _⟩⟩
      case measure => simp [intOf]; omega
    · obtain rfl : k = 16 := by omega
      have hcv := run_convert_bytes_arg (P := Try.prog) wr 68 5 Try.underlying68 Try.underlying5 w.heap.size 0 16 16 (hexNums x) (hexNums_len x) (fun i hi => by rw [Nat.zero_add, blk_cell hw.1, hexNums_get x i hi]) 9 Try.underlying9
      go_wp2_with fail
      go_ret
      exact ⟨rfl, hw.2⟩
theorem shr_nib (x k : Nat) (h : k < 16) : ((x : Int) / 2 ^ (60 - 4 * (k : Int)).toNat).tmod 16 = (nib x (15 - k) : Int) := by
  have e : (60 - 4 * (k : Int)).toNat = 4 * (15 - k) := by omega
  have e2 : (2 : Int) ^ (4 * (15 - k)) = ((16 ^ (15 - k) : Nat) : Int) := by rw [Int.natCast_pow, Int.pow_mul]; rfl
  have e3 : (x : Int) / ((16 ^ (15 - k) : Nat) : Int) = ((x / 16 ^ (15 - k) : Nat) : Int) := rfl
  rw [e, e2, e3, Int.tmod_eq_emod_of_nonneg (Int.natCast_nonneg _)]
  rfl
theorem slice_hex (n : Nat) (h : n < 16) (w : World) : (Instr.slice 9 (.string hexS) (some (.int .u64 (n : Int))) (some (.int .u64 ((n : Int) + 1))) none).run Try.prog w = .ok (.string (strOfNums [((hexS.data.toList.getD n 0).toNat : Int)])) w := by
  have : n = 0 ∨ n = 1 ∨ n = 2 ∨ n = 3 ∨ n = 4 ∨ n = 5 ∨ n = 6 ∨ n = 7 ∨ n = 8 ∨ n = 9 ∨ n = 10 ∨ n = 11 ∨ n = 12 ∨ n = 13 ∨ n = 14 ∨ n = 15 := by omega
  rcases this with rfl | rfl | rfl | rfl | rfl | rfl | rfl | rfl | rfl | rfl | rfl | rfl | rfl | rfl | rfl | rfl <;> (show _ = _; kernel_rfl)
theorem slice_nib (x k : Nat) (w : World) : (Instr.slice 9 (.string { data := #[48, 49, 50, 51, 52, 53, 54, 55, 56, 57, 97, 98, 99, 100, 101, 102] }) (some (.int .u64 (nib x k : Int))) (some (.int .u64 ((nib x k : Int) + 1))) none).run Try.prog w = .ok (.string (strOfNums [hexN x k])) w := slice_hex (nib x k) (nib_lt x k) w
attribute [local go_sem ↓] slice_nib
theorem strOf_snoc (xs : List Int) (n : Int) : strOfNums xs ++ strOfNums [n] = strOfNums (xs ++ [n]) := by
  apply ByteArray.ext
  apply Array.toList_inj.1
  simp [strOfNums]
theorem str_add (xs : List Int) (n : Int) (h : xs.length ≤ 16) : ∀ w, (Op.stringOp .add (strOfNums xs) (strOfNums [n])).run Try.prog w = .ok (.string (strOfNums (xs ++ [n]))) w := by
  intro w
  rw [run_string_add_sum w _ _ (by rw [strOfNums_size, strOfNums_size]; simp; omega), strOf_snoc]
theorem hex_take (x k : Nat) (h : k < 16) : (hexNums x).take (k + 1) = (hexNums x).take k ++ [hexN x (15 - k)] := by
  rw [List.take_succ_eq_append_getElem (by rw [hexNums_len]; exact h)]
  simp [hexNums]
theorem ret_val {k : IntKind} {a b : Int} (h : a = b) : Value.int k a = Value.int k b := by rw [h]
theorem refBits_any (x : Nat) (w : World) : Calls Try.prog 44 #[.int .u64 (x : Int)] w fun e w' => e = .returned (.string (strOfNums (hexNums x))) ∧ ∃ n, w' = w.drewN n := by
  have HT : Hid ((hexNums x).take 16 = hexNums x) := Lib.hid (List.take_of_length_le (by rw [hexNums_len]; exact Nat.le_refl _))
  go_enter Try.func44, Try.ntmps44
  go_wp2_with fail
  go_loopw [4, 5] (fun s i wr => ∃ k n : Nat, k ≤ 16 ∧ i = .int .i64 (60 - 4 * (k : Int)) ∧ s = .string (strOfNums ((hexNums x).take k)) ∧ wr = w.drewN n) (fun _ i _ => (intOf i + 4).toNat)
  case atStart => exact ⟨0, 0, by omega, rfl, rfl, rfl⟩
  case round =>
    obtain ⟨k, n, hk, rfl, rfl, rfl⟩ := hrel
    by_cases hlt : k < 16
    · have e1 := shr_nib x k hlt
      have b1 : (0 : Int) ≤ (nib x (15 - k) : Int) := Int.natCast_nonneg _
      have b2 : (nib x (15 - k) : Int) < 16 := by have := nib_lt x (15 - k); omega
      have e2 : IntKind.u64.wrap ((nib x (15 - k) : Int) + 1) = (nib x (15 - k) : Int) + 1 := IntWalk.u64_in _ ⟨by omega, by omega⟩
      have hadd := str_add ((hexNums x).take k) (hexN x (15 - k)) (by rw [List.length_take]; omega)
      rw [← hex_take x k hlt] at hadd
      go_wp2_with fail
      go_quiet (fail)
      go_wp2_with fail
      go_roundw
      case rel => exact ⟨k + 1, n + nq, by omega, ret_val (by omega), rfl, rfl⟩
      case measure => simp [intOf]; omega
    · obtain rfl : k = 16 := by omega
      go_wp2_with fail
      go_ret
      exact ⟨by rw [← HT.out]; rfl, _, rfl⟩
end Go.Proofs.Ytodpglladcblhaa
