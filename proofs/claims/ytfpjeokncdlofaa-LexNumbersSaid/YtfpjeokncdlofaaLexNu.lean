/- LexNumbers, at whatever integer and count of blanks. -/
import Derived.Test.YtfpjeokncdlofaaLexX
namespace Go.Proofs.Ytfpjeokncdlofaa
open Go.ChangeShapes Go.WideShapes Go.ChangeAt Go.RowKit Go.Joins
open Go.Proofs.Ytfpjeokncdlofaa.Fn (st st_size st_list st_extract)
open Go.Proofs.Ytfpjeokncdlofaa.Fd (w63 w63_lo w63_hi)
set_option linter.unusedVariables false
set_option maxRecDepth 20000

theorem numbers_one : scanL [52, 54, 49, 49, 54, 56, 54, 48, 49, 56, 52, 50, 55, 51, 56, 55, 57, 48, 52] = some (.error (1, 1)) := by kernel_rfl
theorem numbers_two : scanL [45, 52, 54, 49, 49, 54, 56, 54, 48, 49, 56, 52, 50, 55, 51, 56, 55, 57, 48, 53] = some (.error (1, 1)) := by kernel_rfl
theorem rep_snoc (j : Nat) (c : UInt8) : List.replicate j c ++ [c] = List.replicate (j + 1) c := by
  rw [List.replicate_succ']
set_option maxHeartbeats 4000000 in
theorem lexNumbers_walk (n : Int) (b : Int) (h1 : -9223372036854775808 ≤ n) (h2 : n ≤ 9223372036854775807) (w : World) :
    Calls Try.prog 8 #[.int .i64 n, .int .i64 b] w fun e w' => e = .returned (.bool true) ∧ Below w.heap.size w w' := by
  have hw1 := Fd.shl_shr n
  have hlo := w63_lo n
  have hhi := w63_hi n
  obtain ⟨m, hm, hm20⟩ : ∃ m : Nat, wrap64 ((IntKind.u64.wrap b).tmod 20) = (m : Int) ∧ m < 20 := by
    have h := IntKind.wrap_u64 b
    have h2 : 0 ≤ IntKind.u64.wrap b := by rw [h]; omega
    have e : (IntKind.u64.wrap b).tmod 20 = IntKind.u64.wrap b % 20 := Int.tmod_eq_emod_of_nonneg h2
    refine ⟨(IntKind.u64.wrap b % 20).toNat, ?_, by omega⟩
    rw [e]; unfold wrap64; omega
  go_enter Try.func8, Try.ntmps8
  go_wp2_with fail
  go_loopw [5, 6] (fun u v wr => ∃ j : Nat, j ≤ m ∧ u = .string (st (List.replicate j 32)) ∧ v = .int .i64 (j : Int) ∧ wr = w) (fun _ v _ => m - (intOf v).toNat)
  case atStart => exact ⟨0, by omega, rfl, rfl, rfl⟩
  case round =>
    obtain ⟨j, hj, rfl, rfl, rfl⟩ := hrel
    by_cases hjm : j < m
    · have hjI : (j : Int) < (m : Int) := by omega
      have hadd : ∀ w, (Op.stringOp .add (st (List.replicate j 32)) { data := #[32] }).run Try.prog w = .ok (.string (st (List.replicate j 32 ++ [32]))) w := st_add (List.replicate j 32) [32] (by simp; omega)
      go_wp2_with fail
      go_roundw
      case rel => exact ⟨j + 1, by omega, by rw [← rep_snoc], by go_num, by first | rfl | trivial⟩
      case measure => simp only [intOf]; omega
    · obtain rfl : j = m := by omega
      have HN := Lib.hid (number_any (w63 n) hlo hhi wr)
      have HS := Lib.hid (scan_number j (w63 n) hlo hhi)
      have HLe := Lib.hid (itoa_len (w63 n) hlo hhi)
      have hadd := st_add (List.replicate j 32) (Lib.itoa (w63 n)) (by have := HLe.out; simp; omega)
      have hadd2 : ∀ w, (Op.stringOp .add (st (List.replicate j 32 ++ Lib.itoa (w63 n))) { data := #[41] }).run Try.prog w = .ok (.string (st (List.replicate j 32 ++ Lib.itoa (w63 n) ++ [41]))) w := st_add (List.replicate j 32 ++ Lib.itoa (w63 n)) [41] (by have := HLe.out; simp; omega)
      have HC := Lib.hid (fun W => lexScan_ok (List.replicate j 32 ++ Lib.itoa (w63 n) ++ [41]) (by have := HLe.out; simp; omega) _ HS.out W)
      have H2 := Lib.hid (fun W => lexScan_no _ (by decide) _ numbers_one W)
      have H3 := Lib.hid (fun W => lexScan_no _ (by decide) _ numbers_two W)
      have HL := Lib.hid (fun W => lexes_any W)
      have hsz : (st (List.replicate j 32)).size = j := by rw [st_size]; simp
      generalize w63 n = i at *
      generalize st (List.replicate j 32) = sa at *
      generalize st (Lib.itoa i) = sb at *
      generalize st (List.replicate j 32 ++ Lib.itoa i) = sc at *
      generalize st (List.replicate j 32 ++ Lib.itoa i ++ [41]) = sd at *
      clear HLe HS
      go_wp2_with fail
      refine HN.out.mono ?_
      rintro e w1 ⟨rfl, hb1⟩
      clear HN
      go_wp2_with fail
      refine (HC.out w1).mono ?_
      rintro e w2 ⟨v, rfl, ho2, hb2⟩
      obtain ⟨g, cap, rfl, hg0, hg1, hcap, hcell⟩ := row_cell ho2.out (Nat.succ_pos _)
      have HCell := Lib.hid hcell
      have hcapI : (2 : Int) ≤ (cap : Int) := by simp at hcap; omega
      clear hcell ho2 HC hadd hadd2
      go_wp2_with fail
      generalize h3 : World.alloc w2 _ = w3
      have hb3 : Below w2.heap.size w2 w3 := by rw [← h3]; exact (Below.refl _ _).alloc (Nat.le_refl _) _
      clear h3
      refine (H2.out w3).mono ?_
      rintro e w4 ⟨rfl, hb4⟩
      go_wp2_with fail
      generalize h5 : World.alloc w4 _ = w5
      have hb5 : Below w4.heap.size w4 w5 := by rw [← h5]; exact (Below.refl _ _).alloc (Nat.le_refl _) _
      clear h5
      refine (H3.out w5).mono ?_
      rintro e w6 ⟨rfl, hb6⟩
      go_wp2_with fail
      generalize h7 : World.alloc w6 _ = w7
      have hb7 : Below w6.heap.size w6 w7 := by rw [← h7]; exact (Below.refl _ _).alloc (Nat.le_refl _) _
      clear h7
      refine (HL.out w7).mono ?_
      rintro e w8 ⟨rfl, hb8⟩
      have hb28 : Below w2.heap.size w2 w8 := hb3.trans ((hb4.out.trans ((hb5.trans ((hb6.out.trans ((hb7.trans (hb8.out.mono hb7.size)).mono hb6.out.size)).mono hb5.size)).mono hb4.out.size)).mono hb3.size)
      have hgw : w8.heap[g]? = w2.heap[g]? := hb28.block g hg1
      have k0 : w8.cell? ⟨g, 0, none⟩ = some (.int .i64 2) := HCell.out 0 _ rfl _ hgw
      have k1 : w8.cell? ⟨g, 1, none⟩ = some (.int .i64 1) := HCell.out 1 _ rfl _ hgw
      have k2 : w8.cell? ⟨g, 2, none⟩ = some (.int .i64 ((j : Int) + 1)) := HCell.out 2 _ rfl _ hgw
      have k3 : w8.cell? ⟨g, 3, none⟩ = some (.int .i64 i) := HCell.out 3 _ rfl _ hgw
      have k5 : w8.cell? ⟨g, 5, none⟩ = some (.int .i64 1) := HCell.out 5 _ rfl _ hgw
      have hwj : wrap64 ((j : Int) + 1) = (j : Int) + 1 := by unfold wrap64; omega
      have HB : Below wr.heap.size wr w8 := hb1.out.trans ((hb2.out.trans (hb28.mono hb2.out.size)).mono hb1.out.size)
      have HBB := Lib.hid HB
      clear HB hgw hb28 hb8 hb7 hb6 hb5 hb4 hb3 hb2 hb1 HCell HL H2 H3
      go_wp2_with fail
      go_ret
      exact ⟨rfl, HBB.out⟩
end Go.Proofs.Ytfpjeokncdlofaa
