/- LexWords, at whatever word and count. -/
import Derived.Test.YtfpjeokncdlofaaLexRv
import Derived.Test.YtfpjeokncdlofaaLexSa
import Derived.Deep.RegionWith
namespace Go.Proofs.Ytfpjeokncdlofaa
open Go.ChangeShapes Go.WideShapes Go.ChangeAt Go.RowKit Go.Joins
open Go.Proofs.Ytfpjeokncdlofaa.Fn (st st_size st_list st_extract)
open Go.Proofs.Ytfpjeokncdlofaa.Fd (out)
set_option linter.unusedVariables false
set_option maxRecDepth 20000

/-- a word between brackets -/
theorem scan_word (W : List UInt8) (hne : W ≠ []) (hw : ∀ c ∈ W, ofW c = true) (hl : W.length ≤ 6000) :
    scanL ([40] ++ W ++ [41]) = some (match wordS W with
      | some (k, n, b) => .ok [((1, 1), 0, 0, []), ((1, 2), k, n, b), ((1, 2 + W.length), 1, 0, [])]
      | none => .error (1, 2)) := by
  have hb : ∀ (d : UInt8) (u : List UInt8), [41] = d :: u → ofW d = false := fun d u h => by cases h; decide
  unfold scanL
  have e0 : skipB false ([40] ++ W ++ [41]) (1, 1) = (40 :: (W ++ [41]), (1, 1)) := skipB_stay (by decide) (by decide)
  rw [e0]
  obtain ⟨k, hk⟩ : ∃ k, ([40] ++ W ++ [41]).length = k + 1 + 1 + 1 := ⟨W.length - 1, by
    have : 0 < W.length := (by cases W with | nil => exact absurd rfl hne | cons c t => simp)
    simp; omega⟩
  rw [hk]
  refine scanS_open.trans ?_
  have e1 : skipB false (W ++ [41]) (1, 2) = (W ++ [41], (1, 2)) := by
    cases W with
    | nil => exact absurd rfl hne
    | cons c t =>
      obtain ⟨h0, _, _, _, h59, _⟩ := ofW_not (hw c (List.mem_cons_self ..))
      exact skipB_stay h0 h59
  show scanS (k + 1 + 1) (skipB false (W ++ [41]) (1, 2)).1 (skipB false (W ++ [41]) (1, 2)).2 _ = _
  rw [e1]
  cases hs : wordS W with
  | none => exact scanS_wordno hne hw hb hs hl
  | some v =>
    obtain ⟨kk, n, x⟩ := v
    refine (scanS_word hne hw hb hs hl).trans ?_
    have e2 : skipB false [41] (1, 2 + W.length) = ([41], (1, 2 + W.length)) := skipB_stay (by decide) (by decide)
    show scanS (k + 1) (skipB false [41] (1, 2 + W.length)).1 (skipB false [41] (1, 2 + W.length)).2 _ = _
    rw [e2]
    refine scanS_close.trans ?_
    exact scanS_nil _ _ _
theorem ofW_good (y : UInt8) (h1 : ¬ y.toNat ≤ 32) (h2 : ¬ y.toNat = 40) (h3 : ¬ y.toNat = 41) (h4 : ¬ y.toNat = 34) (h5 : ¬ y.toNat = 59) : ofW y = true := by
  refine ofW_of ?_ ?_ ?_ ?_ ?_
  · rw [blank_num]; simp; omega
  all_goals (rintro rfl; simp_all)
end Go.Proofs.Ytfpjeokncdlofaa
