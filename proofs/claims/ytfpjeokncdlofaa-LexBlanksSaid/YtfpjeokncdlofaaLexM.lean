/- Words of package lex: a float's bits fit; what a word is, whatever the float. -/
import Derived.Test.YtfpjeokncdlofaaLexL
namespace Go.Proofs.Ytfpjeokncdlofaa
open Go.ChangeShapes Go.WideShapes Go.ChangeAt Go.RowKit Go.Joins
open Go.Proofs.Ytfpjeokncdlofaa.Fn (st st_size st_list st_extract)
set_option linter.unusedVariables false

theorem opp_lt (x : Nat) (h : x < 18446744073709551616) : Fn.opp x < 18446744073709551616 := by
  unfold Fn.opp
  split <;> omega
theorem negW_lt (x : Nat) (h : x < 18446744073709551616) : Fn.negW x < 18446744073709551616 := by
  unfold Fn.negW
  split
  · decide
  · exact opp_lt x h
theorem rfX_lt (neg : Bool) (l : List UInt8) : Fn.rfX neg l < 18446744073709551616 := by
  unfold Fn.rfX
  split
  · split
    · split
      · exact negW_lt _ (Fn.quoN_lt l)
      · exact Fn.quoN_lt l
    · decide
  · decide
theorem fltL_lt (L : List UInt8) : (fltL L).1 < 18446744073709551616 := by
  unfold fltL
  split
  · exact rfX_lt true _
  · exact rfX_lt false _
theorem wordToken_all (c : UInt8) (t : List UInt8) (hl : (c :: t).length ≤ 6000) (p : Nat × Nat) (w : World) :
    Calls Try.prog 36 #[.string (st (c :: t)), .agg #[.int .i64 (p.1 : Int), .int .i64 (p.2 : Int)]] w fun e w' =>
      ((∃ k n b, wordS (c :: t) = some (k, n, b) ∧ e = .returned (tokV p k n b)) ∨ (wordS (c :: t) = none ∧ e = thrown p.1 p.2 10)) ∧ Hid (Below w.heap.size w w') :=
  wordToken_any c t hl p (fltL_lt _) w

end Go.Proofs.Ytfpjeokncdlofaa
