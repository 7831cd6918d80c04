/- Format. -/
import Derived.Test.YtfhgdcljhncjmaaDoorWalH
namespace Go.Proofs.YtfhgdcljhncjmaaDoor
open Go.ChangeShapes Go.WideShapes Go.ChangeAt Go.RowKit
set_option linter.unusedVariables false
set_option maxRecDepth 20000

theorem tab_keep {B : Nat} {w w' : World} (hG : 0 < B) (h : Fc.Tab w) (hb : Below B w w') : Fc.Tab w' := fun i hi => by
  rw [hb.cell hG]; exact h i hi
set_option maxHeartbeats 1000000 in
theorem format_any {B : Nat} {w : World} {g L k : Nat} {ns : List ByteArray} (h : Dq B w g L ns k) (a b : Nat) (hb : 3 ≤ b) (hab : a + b ≤ L) (hL : L ≤ 1000) (hk : k ≤ 50000) (hG : 0 < B) (ht : Hid (Fc.Tab w)) :
    Calls Tryd.prog 24 #[.pointer (some ⟨g, 0, none⟩), .int .i64 (a : Int), .int .i64 (b : Int)] w fun e w' => e = .returned (.int .i64 0) ∧ Dq B w' g L (fmt ns a b) (k + b + 3) ∧ Below B w w' ∧ KeepT g w w' ∧ Fc.Tab w' := by
  have hBs := (dq_lt h).2.2
  have HH := Lib.hid (has_ok h a b hb hab hL)
  have HS := Lib.hid (fun W => sector_none W)
  have HW := Lib.hid (fun W j gb (hj : j < b - 1) (hd : Dq B W g L (zer ns a j) (k + j)) (hr : SecRow W gb []) => dq_write hd (by omega) ((a : Int) + 1 + (j : Int)) (a + 1 + j) (by omega) (by omega) gb [] hr (by decide))
  have HA := Lib.hid (fun W (hT : Hid (Fc.Tab W)) => head_any 1 (by decide) (by decide) W hT)
  have HWB := Lib.hid (fun W gb (hd : Dq B W g L (zer ns a (b - 1)) (k + (b - 1))) (hr : SecRow W gb (headL 1)) => wb_any hd (by omega) (a : Int) a rfl (by omega) gb (headL 1) hr (by decide +kernel))
  have H0 := Lib.hid h
  have hw1 : IntKind.i64.wrap ((a : Int) + 1) = (a : Int) + 1 := by rw [IntKind.wrap_i64]; omega
  have hw2 : IntKind.i64.wrap ((a : Int) + (b : Int)) = (a : Int) + (b : Int) := by rw [IntKind.wrap_i64]; omega
  clear h
  go_enter Tryd.func24, Tryd.ntmps24
  go_wp2_with fail
  refine HH.out.mono ?_
  rintro e w' ⟨rfl, rfl⟩
  go_wp2_with fail
  go_loopw [7] (fun n wr => ∃ j : Nat, n = .int .i64 ((a : Int) + 1 + (j : Int)) ∧ j ≤ b - 1 ∧ Hid (Dq B wr g L (zer ns a j) (k + j)) ∧ Hid (Below B w wr) ∧ Hid (KeepT g w wr) ∧ Hid (Fc.Tab wr)) (fun n _ => ((a : Int) + (b : Int) - intOf n).toNat)
  case atStart => exact ⟨0, by simp, by omega, H0, Lib.hid (Below.refl _ _), Lib.hid (KeepT.refl _), ht⟩
  case round =>
    obtain ⟨j, rfl, hj, hD, hBl, hK, hT⟩ := hrel
    by_cases hjb : j < b - 1
    · have hw3 : IntKind.i64.wrap ((a : Int) + 1 + (j : Int) + 1) = (a : Int) + 1 + ((j + 1 : Nat) : Int) := by rw [IntKind.wrap_i64]; omega
      have hlt : (a : Int) + 1 + (j : Int) < (a : Int) + (b : Int) := by omega
      go_wp2_with fail
      refine (HS.out wr).mono ?_
      rintro e w1 ⟨rfl, a1, a2, a3⟩
      go_wp2_with fail
      refine (HW.out w1 j _ hjb (dq_below hD.out a2) a1).mono ?_
      rintro e w2 ⟨rfl, b1, b2, b3⟩
      have hb12 : Below B wr w2 := (a2.mono (dq_lt hD.out).2.2).trans b2
      have hk12 : KeepT g wr w2 := (KeepT.of_below (g := g) a2).trans b3
      have HB2 := Lib.hid (hBl.out.trans hb12)
      have HK2 := Lib.hid (hK.out.trans hk12)
      have HD2 := Lib.hid b1
      have HT2 := Lib.hid (tab_keep hG hT.out hb12)
      clear hb12 hk12 b1 b2 b3 a1 a2 a3 hD hBl hK hT
      go_wp2_with fail
      go_roundw
      case rel => exact ⟨j + 1, by first | rfl | (congr 1; push_cast; omega), by omega, HD2, HB2, HK2, HT2⟩
      case measure => simp [intOf]; omega
    · obtain rfl : j = b - 1 := by omega
      have hge : ¬ ((a : Int) + 1 + ((b - 1 : Nat) : Int) < (a : Int) + (b : Int)) := by omega
      go_wp2_with fail
      refine (HA.out wr hT).mono ?_
      rintro e w1 ⟨gh, rfl, hgh, a1, a2, a3⟩
      have hT1 := Fc.tab_later hT.out a2
      have hb1 := a2.mono (dq_lt hD.out).2.2
      have hD1 := dq_below hD.out a2
      have hK1 := KeepT.of_below (g := g) a2
      go_wp2_with fail
      refine (HWB.out w1 gh hD1 a1).mono ?_
      rintro e w2 ⟨rfl, b1, b2, b3⟩
      go_wp2_with fail
      go_ret
      refine ⟨rfl, dq_mono b1 (by omega), hBl.out.trans (hb1.trans b2), hK.out.trans (hK1.trans b3), ?_⟩
      exact tab_keep hG hT1 b2
end Go.Proofs.YtfhgdcljhncjmaaDoor
