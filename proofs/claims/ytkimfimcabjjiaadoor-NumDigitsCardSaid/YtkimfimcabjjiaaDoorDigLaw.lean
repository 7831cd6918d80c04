/- The walk of the law NumDigits; the table, out of the row's condition. -/
import Derived.Test.YtkimfimcabjjiaaDoorRefText
import Derived.LaidMore
import Derived.Lib.LaidTab
import Derived.Lib.LaidU8
import Derived.Outline
namespace Go.Proofs.YtkimfimcabjjiaaDoor
open Go.ChangeShapes Go.WideShapes Go.ChangeAt Go.RowKit
set_option linter.unusedVariables false

theorem gPow : Tryd.prog.globalNamed "internal/strconv.uint64pow10" = some 0 := by kernel_rfl
theorem tPow : (Tryd.prog.globals[0]?).map (·.type) = some 45 := by kernel_rfl
theorem cPow : Tryd.prog.cellsOf 45 = 20 := by kernel_rfl
theorem cU64 : Tryd.prog.cellsOf 34 = 1 := by kernel_rfl
theorem dPow : (Rows.laid_internal_strconv_uint64pow10 : DataW Unit) = Lib.tabData .u64 Lib.pow10Tab := by rfl
theorem tab_of_laid {W : World} (h : laidMetH Tryd.prog [("math/bits.deBruijn32tab", Rows.laid_math_bits_deBruijn32tab), ("math/bits.deBruijn64tab", Rows.laid_math_bits_deBruijn64tab), ("internal/strconv.uint64pow10", Rows.laid_internal_strconv_uint64pow10)] W) : Lib.TabIs Tryd.prog W "internal/strconv.uint64pow10" .u64 Lib.pow10Tab := by
  rw [MakeChecks.laidMetH_plain _ _ _ (by kernel_rfl)] at h
  obtain ⟨g, t, cs, fuel, p, hg, ht, hv, hd⟩ := Lib.laidMet.reads h (n := "internal/strconv.uint64pow10") (d := Rows.laid_internal_strconv_uint64pow10) (by simp)
  obtain rfl := Option.some.inj (gPow.symm.trans hg)
  obtain rfl := Option.some.inj (tPow.symm.trans ht)
  rw [dPow] at hd
  have := Lib.cells_of_tab Tryd.underlying45 Tryd.underlying34 cU64 cPow hd
  unfold Lib.TabIs
  rw [hv, ← this]
set_option maxRecDepth 20000 in
theorem digits_long (s : ByteArray) (n : Int) (hs : 2000 < s.size) (w : World) :
    Calls Tryd.prog 3 #[.string s, .int .i64 n] w fun e w' => e = .returned (.bool true) ∧ Below w.heap.size w w' := by
  go_enter Tryd.func3, Tryd.ntmps3
  go_wp2_with fail
  refine (counts_any _).mono ?_
  rintro e w' ⟨rfl, rfl⟩
  go_wp2_with fail
  go_ret
  exact ⟨rfl, Below.refl _ _⟩
set_option maxRecDepth 20000 in
set_option maxHeartbeats 2000000 in
theorem digits_short (s : ByteArray) (l : List UInt8) (hsl : s = st l) (hs : s.size ≤ 2000) (n : Int) (w : World) (ht : Lib.TabIs Tryd.prog w "internal/strconv.uint64pow10" .u64 Lib.pow10Tab) :
    Calls Tryd.prog 3 #[.string s, .int .i64 n] w fun e w' => e = .returned (.bool true) ∧ Below w.heap.size w w' := by
  have hl : l.length ≤ 2000 := by rw [hsl, st_size] at hs; exact hs
  have h1 := w63_lo n
  have h2 := w63_hi n
  have HR := Lib.hid (read_any l hl w)
  have HF := Lib.hid (refRead_any l hl w)
  have HT := Lib.hid (text_any n w ht)
  have HB := Lib.hid (fun W => read_any (Lib.itoa (w63 n)) (Nat.le_trans (itoa_len _ h1 h2) (by decide)) W)
  rw [out_itoa _ h1 h2] at HB
  have HX := Lib.hid (fun W => refText_any n W)
  rw [← hsl] at HR HF
  generalize (out l).1 = x at *
  generalize (out l).2 = y at *
  generalize st (Lib.itoa (w63 n)) = t at *
  have HW := Lib.hid (fun W => wrap_any n W)
  generalize w63 n = m at *
  clear ht hsl hl
  go_enter Tryd.func3, Tryd.ntmps3
  go_wp2_with fail
  refine HR.out.mono ?_
  rintro e w' ⟨rfl, rfl⟩
  go_wp2_with fail
  refine HF.out.mono ?_
  rintro e w' ⟨rfl, rfl⟩
  go_wp2_with fail
  refine HT.out.mono ?_
  rintro e w1 ⟨rfl, hb1⟩
  go_wp2_with fail
  refine (HB.out _).mono ?_
  rintro e w' ⟨rfl, rfl⟩
  go_wp2_with fail
  refine (counts_any _).mono ?_
  rintro e w' ⟨rfl, rfl⟩
  go_wp2_with fail
  refine (HX.out _).mono ?_
  rintro e w2 ⟨rfl, hb2⟩
  go_wp2_with fail
  refine (HW.out _).mono ?_
  rintro e w' ⟨rfl, rfl⟩
  go_wp2_with fail
  go_ret
  exact ⟨rfl, hb1.out.trans (hb2.out.mono hb1.out.size)⟩
theorem numDigits_walk (s : ByteArray) (n : Int) (w : World) (hl : laidMetH Tryd.prog [("math/bits.deBruijn32tab", Rows.laid_math_bits_deBruijn32tab), ("math/bits.deBruijn64tab", Rows.laid_math_bits_deBruijn64tab), ("internal/strconv.uint64pow10", Rows.laid_internal_strconv_uint64pow10)] w) (hs : s.size ≤ maxLen) :
    Calls Tryd.prog 3 #[.string s, .int .i64 n] w fun e w' => e = .returned (.bool true) ∧ Below w.heap.size w w' := by
  rcases Nat.lt_or_ge 2000 s.size with h | h
  · unfold maxLen at hs
    exact digits_long s n h w
  · exact digits_short s s.data.toList (st_eq s) h n w (tab_of_laid hl)
end Go.Proofs.YtkimfimcabjjiaaDoor
