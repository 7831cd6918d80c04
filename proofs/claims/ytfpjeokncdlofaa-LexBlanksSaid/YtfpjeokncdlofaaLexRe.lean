/- The document's words of package lex: a float's bytes. -/
import Derived.Test.YtfpjeokncdlofaaLexRw
namespace Go.Proofs.Ytfpjeokncdlofaa
open Go.ChangeShapes Go.WideShapes Go.ChangeAt Go.RowKit Go.Joins
open Go.Proofs.Ytfpjeokncdlofaa.Fn (st st_size st_list st_extract)
set_option linter.unusedVariables false
set_option maxRecDepth 20000

set_option maxHeartbeats 4000000 in
theorem eight_any (x : Nat) (hx : x < 18446744073709551616) (w : World) : Calls Try.prog 24 #[.int .u64 (x : Int)] w fun e w' => e = .returned (.string (st (eightB x))) ∧ Hid (Below w.heap.size w w') := by
  go_enter Try.func24, Try.ntmps24
  go_wp2_with fail
  go_loopw [3, 4] (fun u i wr => ∃ j : Nat, j ≤ 8 ∧ i = .int .i64 (56 - 8 * (j : Int)) ∧ Hid (wr.ownsRow w.heap.size 5 1 u ((eightB x).take j).length (cellsU ((eightB x).take j))) ∧ Hid (Below w.heap.size w wr)) (fun _ i _ => (intOf i + 8).toNat)
  case atStart => exact ⟨0, by omega, rfl, Lib.hid (World.ownsRow_nil _ _ _ _), Lib.hid (Below.refl _ _)⟩
  case round =>
    obtain ⟨j, hj, rfl, HO, HB⟩ := hrel
    obtain ⟨wo, rfl⟩ : ∃ wo : World, wo = wr := ⟨_, rfl⟩
    by_cases hj8 : j < 8
    · have hc : j = 0 ∨ j = 1 ∨ j = 2 ∨ j = 3 ∨ j = 4 ∨ j = 5 ∨ j = 6 ∨ j = 7 := by omega
      obtain ⟨va, vc, rfl⟩ := own_sl HO.out
      rcases hc with rfl | rfl | rfl | rfl | rfl | rfl | rfl | rfl
      · obtain ⟨b, hbe⟩ : ∃ b, UInt8.ofNat (x / 256 ^ 7 % 256) = b := ⟨_, rfl⟩
        have hby : b.toNat = x / 72057594037927936 % 256 := by rw [← hbe, UInt8.toNat_ofNat']; omega
        have HT : Hid ((eightB x).take 1 = (eightB x).take 0 ++ [b]) := Lib.hid (by rw [← hbe]; rfl)
        clear hbe
        obtain ⟨z, hz⟩ : ∃ z, x / 72057594037927936 = z := ⟨_, rfl⟩
        rw [hz] at hby
        have q1 : (x : Int) / 72057594037927936 = (z : Int) := by omega
        obtain ⟨y, hy⟩ : ∃ y, z % 256 = y := ⟨_, rfl⟩
        rw [hy] at hby
        have q2 : IntKind.u8.wrap (z : Int) = (y : Int) := by rw [IntKind.wrap_u8']; omega
        have q3 : (z : Int) % 256 = (y : Int) := by omega
        have q4 : (z : Int) = (y : Int) := by omega
        obtain ⟨v', w6, hrun, hov, hbv⟩ := app_byte HO.out HB.out.size b y hby (show 0 ≤ 1000000 by decide) 46
        have HO6 : Hid (w6.ownsRow w.heap.size 5 1 v' ((eightB x).take 1).length (cellsU ((eightB x).take 1))) := Lib.hid (by rw [HT.out]; exact hov)
        have HB6 : Hid (Below w.heap.size w w6) := Lib.hid (HB.out.trans hbv)
        clear hov hbv hz hy hby
        obtain rfl : z = y := by omega
        go_wp2_with (at_builtin; refine Lib.wpList_append_run _ rfl _ _ _ _ rfl _ _ rfl rfl _ _ hrun ?_)
        go_roundw
        case rel => exact ⟨1, by omega, by first | rfl | go_num, HO6, HB6⟩
        case measure => simp only [intOf]; first | omega | decide
      · obtain ⟨b, hbe⟩ : ∃ b, UInt8.ofNat (x / 256 ^ 6 % 256) = b := ⟨_, rfl⟩
        have hby : b.toNat = x / 281474976710656 % 256 := by rw [← hbe, UInt8.toNat_ofNat']; omega
        have HT : Hid ((eightB x).take 2 = (eightB x).take 1 ++ [b]) := Lib.hid (by rw [← hbe]; rfl)
        clear hbe
        obtain ⟨z, hz⟩ : ∃ z, x / 281474976710656 = z := ⟨_, rfl⟩
        rw [hz] at hby
        have q1 : (x : Int) / 281474976710656 = (z : Int) := by omega
        obtain ⟨y, hy⟩ : ∃ y, z % 256 = y := ⟨_, rfl⟩
        rw [hy] at hby
        have q2 : IntKind.u8.wrap (z : Int) = (y : Int) := by rw [IntKind.wrap_u8']; omega
        have q3 : (z : Int) % 256 = (y : Int) := by omega
        obtain ⟨v', w6, hrun, hov, hbv⟩ := app_byte HO.out HB.out.size b y hby (show 1 ≤ 1000000 by decide) 46
        have HO6 : Hid (w6.ownsRow w.heap.size 5 1 v' ((eightB x).take 2).length (cellsU ((eightB x).take 2))) := Lib.hid (by rw [HT.out]; exact hov)
        have HB6 : Hid (Below w.heap.size w w6) := Lib.hid (HB.out.trans hbv)
        clear hov hbv hz hy hby
        go_wp2_with (at_builtin; refine Lib.wpList_append_run _ rfl _ _ _ _ rfl _ _ rfl rfl _ _ hrun ?_)
        go_roundw
        case rel => exact ⟨2, by omega, by first | rfl | go_num, HO6, HB6⟩
        case measure => simp only [intOf]; first | omega | decide
      · obtain ⟨b, hbe⟩ : ∃ b, UInt8.ofNat (x / 256 ^ 5 % 256) = b := ⟨_, rfl⟩
        have hby : b.toNat = x / 1099511627776 % 256 := by rw [← hbe, UInt8.toNat_ofNat']; omega
        have HT : Hid ((eightB x).take 3 = (eightB x).take 2 ++ [b]) := Lib.hid (by rw [← hbe]; rfl)
        clear hbe
        obtain ⟨z, hz⟩ : ∃ z, x / 1099511627776 = z := ⟨_, rfl⟩
        rw [hz] at hby
        have q1 : (x : Int) / 1099511627776 = (z : Int) := by omega
        obtain ⟨y, hy⟩ : ∃ y, z % 256 = y := ⟨_, rfl⟩
        rw [hy] at hby
        have q2 : IntKind.u8.wrap (z : Int) = (y : Int) := by rw [IntKind.wrap_u8']; omega
        have q3 : (z : Int) % 256 = (y : Int) := by omega
        obtain ⟨v', w6, hrun, hov, hbv⟩ := app_byte HO.out HB.out.size b y hby (show 2 ≤ 1000000 by decide) 46
        have HO6 : Hid (w6.ownsRow w.heap.size 5 1 v' ((eightB x).take 3).length (cellsU ((eightB x).take 3))) := Lib.hid (by rw [HT.out]; exact hov)
        have HB6 : Hid (Below w.heap.size w w6) := Lib.hid (HB.out.trans hbv)
        clear hov hbv hz hy hby
        go_wp2_with (at_builtin; refine Lib.wpList_append_run _ rfl _ _ _ _ rfl _ _ rfl rfl _ _ hrun ?_)
        go_roundw
        case rel => exact ⟨3, by omega, by first | rfl | go_num, HO6, HB6⟩
        case measure => simp only [intOf]; first | omega | decide
      · obtain ⟨b, hbe⟩ : ∃ b, UInt8.ofNat (x / 256 ^ 4 % 256) = b := ⟨_, rfl⟩
        have hby : b.toNat = x / 4294967296 % 256 := by rw [← hbe, UInt8.toNat_ofNat']; omega
        have HT : Hid ((eightB x).take 4 = (eightB x).take 3 ++ [b]) := Lib.hid (by rw [← hbe]; rfl)
        clear hbe
        obtain ⟨z, hz⟩ : ∃ z, x / 4294967296 = z := ⟨_, rfl⟩
        rw [hz] at hby
        have q1 : (x : Int) / 4294967296 = (z : Int) := by omega
        obtain ⟨y, hy⟩ : ∃ y, z % 256 = y := ⟨_, rfl⟩
        rw [hy] at hby
        have q2 : IntKind.u8.wrap (z : Int) = (y : Int) := by rw [IntKind.wrap_u8']; omega
        have q3 : (z : Int) % 256 = (y : Int) := by omega
        obtain ⟨v', w6, hrun, hov, hbv⟩ := app_byte HO.out HB.out.size b y hby (show 3 ≤ 1000000 by decide) 46
        have HO6 : Hid (w6.ownsRow w.heap.size 5 1 v' ((eightB x).take 4).length (cellsU ((eightB x).take 4))) := Lib.hid (by rw [HT.out]; exact hov)
        have HB6 : Hid (Below w.heap.size w w6) := Lib.hid (HB.out.trans hbv)
        clear hov hbv hz hy hby
        go_wp2_with (at_builtin; refine Lib.wpList_append_run _ rfl _ _ _ _ rfl _ _ rfl rfl _ _ hrun ?_)
        go_roundw
        case rel => exact ⟨4, by omega, by first | rfl | go_num, HO6, HB6⟩
        case measure => simp only [intOf]; first | omega | decide
      · obtain ⟨b, hbe⟩ : ∃ b, UInt8.ofNat (x / 256 ^ 3 % 256) = b := ⟨_, rfl⟩
        have hby : b.toNat = x / 16777216 % 256 := by rw [← hbe, UInt8.toNat_ofNat']; omega
        have HT : Hid ((eightB x).take 5 = (eightB x).take 4 ++ [b]) := Lib.hid (by rw [← hbe]; rfl)
        clear hbe
        obtain ⟨z, hz⟩ : ∃ z, x / 16777216 = z := ⟨_, rfl⟩
        rw [hz] at hby
        have q1 : (x : Int) / 16777216 = (z : Int) := by omega
        obtain ⟨y, hy⟩ : ∃ y, z % 256 = y := ⟨_, rfl⟩
        rw [hy] at hby
        have q2 : IntKind.u8.wrap (z : Int) = (y : Int) := by rw [IntKind.wrap_u8']; omega
        have q3 : (z : Int) % 256 = (y : Int) := by omega
        obtain ⟨v', w6, hrun, hov, hbv⟩ := app_byte HO.out HB.out.size b y hby (show 4 ≤ 1000000 by decide) 46
        have HO6 : Hid (w6.ownsRow w.heap.size 5 1 v' ((eightB x).take 5).length (cellsU ((eightB x).take 5))) := Lib.hid (by rw [HT.out]; exact hov)
        have HB6 : Hid (Below w.heap.size w w6) := Lib.hid (HB.out.trans hbv)
        clear hov hbv hz hy hby
        go_wp2_with (at_builtin; refine Lib.wpList_append_run _ rfl _ _ _ _ rfl _ _ rfl rfl _ _ hrun ?_)
        go_roundw
        case rel => exact ⟨5, by omega, by first | rfl | go_num, HO6, HB6⟩
        case measure => simp only [intOf]; first | omega | decide
      · obtain ⟨b, hbe⟩ : ∃ b, UInt8.ofNat (x / 256 ^ 2 % 256) = b := ⟨_, rfl⟩
        have hby : b.toNat = x / 65536 % 256 := by rw [← hbe, UInt8.toNat_ofNat']; omega
        have HT : Hid ((eightB x).take 6 = (eightB x).take 5 ++ [b]) := Lib.hid (by rw [← hbe]; rfl)
        clear hbe
        obtain ⟨z, hz⟩ : ∃ z, x / 65536 = z := ⟨_, rfl⟩
        rw [hz] at hby
        have q1 : (x : Int) / 65536 = (z : Int) := by omega
        obtain ⟨y, hy⟩ : ∃ y, z % 256 = y := ⟨_, rfl⟩
        rw [hy] at hby
        have q2 : IntKind.u8.wrap (z : Int) = (y : Int) := by rw [IntKind.wrap_u8']; omega
        have q3 : (z : Int) % 256 = (y : Int) := by omega
        obtain ⟨v', w6, hrun, hov, hbv⟩ := app_byte HO.out HB.out.size b y hby (show 5 ≤ 1000000 by decide) 46
        have HO6 : Hid (w6.ownsRow w.heap.size 5 1 v' ((eightB x).take 6).length (cellsU ((eightB x).take 6))) := Lib.hid (by rw [HT.out]; exact hov)
        have HB6 : Hid (Below w.heap.size w w6) := Lib.hid (HB.out.trans hbv)
        clear hov hbv hz hy hby
        go_wp2_with (at_builtin; refine Lib.wpList_append_run _ rfl _ _ _ _ rfl _ _ rfl rfl _ _ hrun ?_)
        go_roundw
        case rel => exact ⟨6, by omega, by first | rfl | go_num, HO6, HB6⟩
        case measure => simp only [intOf]; first | omega | decide
      · obtain ⟨b, hbe⟩ : ∃ b, UInt8.ofNat (x / 256 ^ 1 % 256) = b := ⟨_, rfl⟩
        have hby : b.toNat = x / 256 % 256 := by rw [← hbe, UInt8.toNat_ofNat']; omega
        have HT : Hid ((eightB x).take 7 = (eightB x).take 6 ++ [b]) := Lib.hid (by rw [← hbe]; rfl)
        clear hbe
        obtain ⟨z, hz⟩ : ∃ z, x / 256 = z := ⟨_, rfl⟩
        rw [hz] at hby
        have q1 : (x : Int) / 256 = (z : Int) := by omega
        obtain ⟨y, hy⟩ : ∃ y, z % 256 = y := ⟨_, rfl⟩
        rw [hy] at hby
        have q2 : IntKind.u8.wrap (z : Int) = (y : Int) := by rw [IntKind.wrap_u8']; omega
        have q3 : (z : Int) % 256 = (y : Int) := by omega
        obtain ⟨v', w6, hrun, hov, hbv⟩ := app_byte HO.out HB.out.size b y hby (show 6 ≤ 1000000 by decide) 46
        have HO6 : Hid (w6.ownsRow w.heap.size 5 1 v' ((eightB x).take 7).length (cellsU ((eightB x).take 7))) := Lib.hid (by rw [HT.out]; exact hov)
        have HB6 : Hid (Below w.heap.size w w6) := Lib.hid (HB.out.trans hbv)
        clear hov hbv hz hy hby
        go_wp2_with (at_builtin; refine Lib.wpList_append_run _ rfl _ _ _ _ rfl _ _ rfl rfl _ _ hrun ?_)
        go_roundw
        case rel => exact ⟨7, by omega, by first | rfl | go_num, HO6, HB6⟩
        case measure => simp only [intOf]; first | omega | decide
      · obtain ⟨b, hbe⟩ : ∃ b, UInt8.ofNat (x / 256 ^ 0 % 256) = b := ⟨_, rfl⟩
        have hby : b.toNat = x / 1 % 256 := by rw [← hbe, UInt8.toNat_ofNat']; omega
        have HT : Hid ((eightB x).take 8 = (eightB x).take 7 ++ [b]) := Lib.hid (by rw [← hbe]; rfl)
        clear hbe
        obtain ⟨z, hz⟩ : ∃ z, x / 1 = z := ⟨_, rfl⟩
        rw [hz] at hby
        have q1 : (x : Int) / 1 = (z : Int) := by omega
        obtain ⟨y, hy⟩ : ∃ y, z % 256 = y := ⟨_, rfl⟩
        rw [hy] at hby
        have q2 : IntKind.u8.wrap (z : Int) = (y : Int) := by rw [IntKind.wrap_u8']; omega
        have q3 : (z : Int) % 256 = (y : Int) := by omega
        obtain ⟨v', w6, hrun, hov, hbv⟩ := app_byte HO.out HB.out.size b y hby (show 7 ≤ 1000000 by decide) 46
        have HO6 : Hid (w6.ownsRow w.heap.size 5 1 v' ((eightB x).take 8).length (cellsU ((eightB x).take 8))) := Lib.hid (by rw [HT.out]; exact hov)
        have HB6 : Hid (Below w.heap.size w w6) := Lib.hid (HB.out.trans hbv)
        clear hov hbv hz hy hby
        go_wp2_with (at_builtin; refine Lib.wpList_append_run _ rfl _ _ _ _ rfl _ _ rfl rfl _ _ hrun ?_)
        go_roundw
        case rel => exact ⟨8, by omega, by first | rfl | go_num, HO6, HB6⟩
        case measure => simp only [intOf]; first | omega | decide
    · obtain rfl : j = 8 := by omega
      have hcv := own_conv HO.out
      go_wp2_with fail
      go_ret
      exact ⟨rfl, HB⟩
end Go.Proofs.Ytfpjeokncdlofaa
