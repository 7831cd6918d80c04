/- LexBlanks, with the document's word. -/
import Derived.Test.YtfpjeokncdlofaaLexWx
import Derived.Test.YtfpjeokncdlofaaLexBl
namespace Go.Proofs.Ytfpjeokncdlofaa
open Go.ChangeShapes Go.WideShapes Go.ChangeAt Go.RowKit Go.Joins
open Go.Proofs.Ytfpjeokncdlofaa.Fn (st st_size st_list st_extract)
set_option linter.unusedVariables false
set_option maxRecDepth 20000

theorem half_any (w : World) : Calls Try.prog 14 #[.string ⟨#[48, 46, 53]⟩] w fun e w' => e = .returned (.tuple #[.agg #[.int .i64 3, .int .i64 0, .int .i64 0, .int .i64 0, .string (st half)], .bool true]) ∧ Hid (Below w.heap.size w w') := by
  refine (refWord_any 48 [46, 53] (by decide) w).mono ?_
  rintro e w' ⟨h, hb⟩
  refine ⟨?_, hb⟩
  rcases h with ⟨k, n, b, h1, rfl⟩ | ⟨h1, _⟩
  · rw [half_word] at h1
    cases h1
    rfl
  · rw [half_word] at h1
    cases h1
theorem lexBlanks_all (sa : ByteArray) (a1 : Option Addr) (len1 cap1 : Nat) (z1 : List Int) (w : World)
    (w1 : (a1 = none ∧ len1 = 0 ∧ cap1 = 0 ∧ z1 = []) ∨ ∃ x, a1 = some x ∧ len1 ≤ cap1 ∧ cap1 ≤ maxLen ∧ z1.length = cap1 ∧ (∀ i, i < z1.length → w.cell? (x.add i) = some (.int .i64 (z1.getD i 0))) ∧ ∀ n ∈ z1, (Lit.int .i64 n).wf = true) :
    Calls Try.prog 5 #[.string sa, .slice a1 len1 cap1] w fun e w' => e = .returned (.bool true) ∧ Below w.heap.size w w' :=
  lexBlanks_walk half_any sa a1 len1 cap1 z1 w w1
end Go.Proofs.Ytfpjeokncdlofaa
