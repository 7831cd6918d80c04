/- LexWords, at whatever word and count. -/
import Derived.Test.YtfpjeokncdlofaaLexRx
import Derived.Test.YtfpjeokncdlofaaLexWw
namespace Go.Proofs.Ytfpjeokncdlofaa
open Go.ChangeShapes Go.WideShapes Go.ChangeAt Go.RowKit Go.Joins
open Go.Proofs.Ytfpjeokncdlofaa.Fn (st st_size st_list st_extract)
open Go.Proofs.Ytfpjeokncdlofaa.Fd (out)
set_option linter.unusedVariables false
set_option maxRecDepth 20000

theorem refWord_any (c : UInt8) (t : List UInt8) (hl : (c :: t).length ≤ 6000) (w : World) :
    Calls Try.prog 14 #[.string (st (c :: t))] w fun e w' =>
      ((∃ k n b, wordS (c :: t) = some (k, n, b) ∧ e = .returned (.tuple #[tokV (0, 0) k n b, .bool true])) ∨ (wordS (c :: t) = none ∧ e = .returned (.tuple #[tokV (0, 0) 0 0 [], .bool false]))) ∧ Hid (Below w.heap.size w w') := by
  by_cases h : (out (c :: t)).2 = 0 ∨ (fltL (c :: t)).2 = 0 ∨ 40 < (c :: t).length
  · exact refWord_num c t hl h w
  · exact refWord_rest c t (fun e => h (.inl e)) (fun e => h (.inr (.inl e))) (fun e => h (.inr (.inr e))) w
theorem lexWords_all (s : ByteArray) (b : Int) (hsl : s.size ≤ maxLen) (w : World) :
    Calls Try.prog 4 #[.string s, .int .i64 b] w fun e w' => e = .returned (.bool true) ∧ Below w.heap.size w w' :=
  lexWords_walk refWord_any s b hsl w
end Go.Proofs.Ytfpjeokncdlofaa
