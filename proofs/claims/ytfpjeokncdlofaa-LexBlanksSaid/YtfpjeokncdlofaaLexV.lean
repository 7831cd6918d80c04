/- The statements of package lex: is a word with digits in front none? -/
import Derived.Test.YtfpjeokncdlofaaLexU
namespace Go.Proofs.Ytfpjeokncdlofaa
open Go.ChangeShapes Go.WideShapes Go.ChangeAt Go.RowKit Go.Joins
open Go.Proofs.Ytfpjeokncdlofaa.Fn (st st_size st_list st_extract)
set_option linter.unusedVariables false
set_option maxRecDepth 20000

theorem lexes_one : scanL [40, 97, 32, 45, 49, 32, 34, 120, 92, 110, 34, 41] = some (.ok [((1, 1), 0, 0, []), ((1, 2), 5, 0, [97]), ((1, 4), 2, -1, []), ((1, 7), 4, 0, [120, 10]), ((1, 12), 1, 0, [])]) := by kernel_rfl
theorem lexes_two : scanL [49, 50, 97] = some (.error (1, 1)) := by kernel_rfl
/-- a cell of a row of tokens -/
theorem row_cell {w : World} {B n : Nat} {v : Value} {xs : List Value} (h : w.ownsRow B 44 5 v n xs) (hn : 0 < n) : ∃ g cap, v = .slice (some ⟨g, 0, none⟩) n cap ∧ B ≤ g ∧ g < w.heap.size ∧ n ≤ cap ∧ ∀ j u, xs[j]? = some u → ∀ W : World, W.heap[g]? = w.heap[g]? → W.cell? ⟨g, j, none⟩ = some u := by
  rcases h.2 with ⟨_, h0⟩ | ⟨g, cap, cur, hv, hb, hg, hc, hm, hs, ht⟩
  · omega
  · refine ⟨g, cap, hv, hb, (Array.getElem?_eq_some_iff.1 hg).1, hc, fun j u hu W hW => ?_⟩
    rw [World.cell?_of_block (w := w) (a := ⟨g, j, none⟩) hW]
    have h1 := World.ownsRow.cells h (g := g) (by rw [hv]; rfl) j u hu
    have hadd : (⟨g, 0, none⟩ : Addr).add j = ⟨g, j, none⟩ := by unfold Addr.add; split <;> simp_all
    rw [hadd] at h1
    exact h1
set_option maxHeartbeats 2000000 in
theorem lexes_any (w : World) : Calls Try.prog 9 #[] w fun e w' => e = .returned (.bool true) ∧ Hid (Below w.heap.size w w') := by
  have H1 := Lib.hid (fun W => lexScan_ok [40, 97, 32, 45, 49, 32, 34, 120, 92, 110, 34, 41] (by decide) _ lexes_one W)
  have H2 := Lib.hid (fun W => lexScan_no [49, 50, 97] (by decide) _ lexes_two W)
  go_enter Try.func9, Try.ntmps9
  go_wp2_with fail
  refine (H1.out w).mono ?_
  rintro e w1 ⟨v, rfl, ho1, hb1⟩
  obtain ⟨g, cap, rfl, hg0, hg1, hcap, hcell⟩ := row_cell ho1.out (by decide)
  have HC := Lib.hid hcell
  have hcapI : (5 : Int) ≤ (cap : Int) := by simp at hcap; omega
  clear hcell ho1
  go_wp2_with fail
  generalize h2 : World.alloc w1 _ = w2
  have hb2 : Below w1.heap.size w1 w2 := by rw [← h2]; exact (Below.refl _ _).alloc (Nat.le_refl _) _
  refine (H2.out w2).mono ?_
  rintro e w3 ⟨rfl, hb3⟩
  have hgw : ∀ W : World, W.heap[g]? = w3.heap[g]? → W.heap[g]? = w1.heap[g]? := fun W h => (h.trans (hb3.out.block g (Nat.lt_of_lt_of_le hg1 hb2.size))).trans (hb2.block g hg1)
  have hb4 : Below w3.heap.size w3 (w3.alloc (.cells #[.int .i64 1, .int .i64 1] 25)) := (Below.refl _ _).alloc (Nat.le_refl _) _
  have hg3 : g < w3.heap.size := Nat.lt_of_lt_of_le (Nat.lt_of_lt_of_le hg1 hb2.size) hb3.out.size
  have k19 : (w3.alloc (.cells #[.int .i64 1, .int .i64 1] 25)).cell? ⟨g, 19, none⟩ = some (.string ⟨#[120, 10]⟩) := HC.out 19 _ rfl _ (hgw _ (hb4.block g hg3))
  have k13 : (w3.alloc (.cells #[.int .i64 1, .int .i64 1] 25)).cell? ⟨g, 13, none⟩ = some (.int .i64 (-1)) := HC.out 13 _ rfl _ (hgw _ (hb4.block g hg3))
  have HB : Hid (Below w.heap.size w (w3.alloc (.cells #[.int .i64 1, .int .i64 1] 25))) := Lib.hid (hb1.out.trans ((hb2.trans (hb3.out.trans (hb4.mono hb3.out.size) |>.mono hb2.size |> fun h => h)).mono hb1.out.size))
  clear hgw hb4 h2 hb2 hb3 HC
  go_wp2_with fail
  go_ret
  exact ⟨rfl, HB⟩
end Go.Proofs.Ytfpjeokncdlofaa
