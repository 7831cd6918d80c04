/- LexBlanks: what its walk wants. -/
import Derived.Test.YtfpjeokncdlofaaLexBs
import Derived.Test.YtfpjeokncdlofaaLexRv
import Derived.Deep.CutRange
namespace Go.Proofs.Ytfpjeokncdlofaa
open Go.ChangeShapes Go.WideShapes Go.ChangeAt Go.RowKit Go.Joins
open Go.Proofs.Ytfpjeokncdlofaa.Fn (st st_size st_list st_extract)
set_option linter.unusedVariables false
set_option maxRecDepth 20000

theorem outT_snoc : ∀ (r : List (List UInt8 × TokD)) (x : List UInt8 × TokD), outT (r ++ [x]) = outT r ++ (x.1 ++ spS x.2)
  | [], (g, d) => by show g ++ spS d ++ [] = [] ++ (g ++ spS d); simp
  | (g, d) :: r, x => by
    show g ++ spS d ++ outT (r ++ [x]) = g ++ spS d ++ outT r ++ _
    rw [outT_snoc r x, List.append_assoc (g ++ spS d)]
theorem wantT_snoc : ∀ (r : List (List UInt8 × TokD)) (x : List UInt8 × TokD) (p : Nat × Nat), wantT (r ++ [x]) p = wantT r p ++ [(adL x.1 (adL (outT r) p), wtD x.2)]
  | [], (g, d), p => rfl
  | (g, d) :: r, x, p => by
    show (adL g p, wtD d) :: wantT (r ++ [x]) (adL (g ++ spS d) p) = (adL g p, wtD d) :: (wantT r (adL (g ++ spS d) p) ++ [(adL x.1 (adL (g ++ spS d ++ outT r) p), wtD x.2)])
    rw [wantT_snoc r x, adL_app (g ++ spS d) (outT r)]
theorem wantT_len : ∀ (r : List (List UInt8 × TokD)) (p : Nat × Nat), (wantT r p).length = r.length
  | [], p => rfl
  | (g, d) :: r, p => by show (wantT r _).length + 1 = r.length + 1; rw [wantT_len r]
theorem adL_step (a : List UInt8) (k : Nat) (h : k < a.length) (p : Nat × Nat) : adL (a.take (k + 1)) p = adv a[k] (adL (a.take k) p) := by
  rw [← List.take_append_getElem h, adL_app]
  rfl
theorem adL_le : ∀ (a : List UInt8) (p : Nat × Nat), (adL a p).1 ≤ p.1 + a.length ∧ (adL a p).2 ≤ p.2 + 1 + a.length
  | [], p => ⟨Nat.le_refl _, by show p.2 ≤ _; omega⟩
  | c :: t, p => by
    obtain ⟨h1, h2⟩ := adL_le t (adv c p)
    rw [List.length_cons]
    show (adL t (adv c p)).1 ≤ _ ∧ (adL t (adv c p)).2 ≤ _
    unfold adv at h1 h2 ⊢
    split at h1
    · rename_i hc
      rw [if_pos hc] at h2 ⊢
      exact ⟨by simp at h1; omega, by simp at h2; omega⟩
    · rename_i hc
      rw [if_neg hc] at h2 ⊢
      exact ⟨by simp at h1; omega, by simp at h2; omega⟩
abbrev gapO : Obj := .cells #[.string ⟨#[32]⟩, .string ⟨#[9]⟩, .string ⟨#[10]⟩, .string ⟨#[59, 32, 40, 120, 32, 34, 32, 121, 10]⟩, .string ⟨#[32, 32, 10, 32]⟩] 9
theorem gap_at {W : World} {F : Nat} (h : W.heap[F]? = some gapO) (m : Nat) (hm : m < 5) : ∃ g, g ∈ gapL ∧ g.length ≤ 9 ∧ W.cell? ⟨F, m, none⟩ = some (.string (st g)) := by
  have hc : m = 0 ∨ m = 1 ∨ m = 2 ∨ m = 3 ∨ m = 4 := by omega
  rcases hc with rfl | rfl | rfl | rfl | rfl
  · exact ⟨[32], by decide, by decide, by rw [cell_of_block h]; rfl⟩
  · exact ⟨[9], by decide, by decide, by rw [cell_of_block h]; rfl⟩
  · exact ⟨[10], by decide, by decide, by rw [cell_of_block h]; rfl⟩
  · exact ⟨[59, 32, 40, 120, 32, 34, 32, 121, 10], by decide, by decide, by rw [cell_of_block h]; rfl⟩
  · exact ⟨[32, 32, 10, 32], by decide, by decide, by rw [cell_of_block h]; rfl⟩
theorem arg_ints {a0 : Option Addr} {len0 cap0 : Nat} {z0 : List Int} {w : World}
    (w0 : (a0 = none ∧ len0 = 0 ∧ cap0 = 0 ∧ z0 = []) ∨ ∃ x, a0 = some x ∧ len0 ≤ cap0 ∧ cap0 ≤ maxLen ∧ z0.length = cap0 ∧ (∀ i, i < z0.length → w.cell? (x.add i) = some (.int .i64 (z0.getD i 0))) ∧ ∀ n ∈ z0, (Lit.int .i64 n).wf = true) :
    ∀ i, i < len0 → ∃ g o gv, a0 = some ⟨g, o, none⟩ ∧ len0 ≤ cap0 ∧ ∀ W, Below w.heap.size w W → W.cell? ⟨g, o + i, none⟩ = some (.int .i64 gv) := by
  intro i hi
  rcases w0 with ⟨_, h, _⟩ | ⟨x, rfl, h1, h2, h3, h4, h5⟩
  · omega
  · obtain ⟨g, o, s⟩ := x
    have hx : s = none := by
      cases s with
      | none => rfl
      | some s =>
        have h := h4 0 (by omega)
        simp [World.cell?, Addr.add] at h
        split at h <;> cases h
    subst hx
    have hadd : (⟨g, o, none⟩ : Addr).add i = ⟨g, o + i, none⟩ := by unfold Addr.add; split <;> simp_all
    have h6 := h4 i (by omega)
    rw [hadd] at h6
    exact ⟨g, o, _, rfl, h1, fun W hW => by rw [hW.cell (World.block_lt_of_cell? w _ h6)]; exact h6⟩
end Go.Proofs.Ytfpjeokncdlofaa
