/- WireReads: from what the statement's arguments hold. -/
import Derived.Test.YtflgodphphbbjaaReadsLaw
import Derived.Test.YtflgodphphbbjaaRows3
namespace Go.Proofs.Ytflgodphphbbjaa
open Go.ChangeShapes Go.WideShapes Go.ChangeAt Go.RowKit Go.Lib

theorem spot_none {w : World} {x : Addr} {v : Value} (h : w.cell? (x.add 0) = some v) : ∃ g o, x = ⟨g, o, none⟩ := by
  obtain ⟨g, o, s⟩ := x
  cases s with
  | none => exact ⟨g, o, rfl⟩
  | some s =>
    simp [World.cell?, Addr.add] at h
    split at h <;> cases h
theorem add_at (g o i : Nat) : (⟨g, o, none⟩ : Addr).add i = ⟨g, o + i, none⟩ := by unfold Addr.add; split <;> simp_all
theorem r3_bounds {z : List (Int × Int × Int)} (h : ∀ n ∈ z, (Lit.int .i64 n.1).wf = true ∧ (Lit.int .i64 n.2.1).wf = true ∧ (Lit.int .i64 n.2.2).wf = true) (i : Nat) :
    (-9223372036854775808 ≤ (z.getD i (0, 0, 0)).1 ∧ (z.getD i (0, 0, 0)).1 ≤ 9223372036854775807) ∧ (-9223372036854775808 ≤ (z.getD i (0, 0, 0)).2.1 ∧ (z.getD i (0, 0, 0)).2.1 ≤ 9223372036854775807) := by
  by_cases hi : i < z.length
  · have e : z.getD i (0, 0, 0) = z[i] := by simp [List.getD, hi]
    rw [e]
    obtain ⟨h1, h2, _⟩ := h _ (List.getElem_mem hi)
    exact ⟨bounds_i64 h1, bounds_i64 h2⟩
  · have e : z.getD i (0, 0, 0) = (0, 0, 0) := by simp [List.getD, hi]
    rw [e]
    exact ⟨by decide, by decide⟩
theorem wireReads_walk (a0 : Option Addr) (len0 cap0 : Nat) (z0 : List Int) (a1 : Option Addr) (len1 cap1 : Nat) (z1 : List (Int × Int × Int)) (w : World)
    (w0 : (a0 = none ∧ len0 = 0 ∧ cap0 = 0 ∧ z0 = []) ∨ ∃ x, a0 = some x ∧ len0 ≤ cap0 ∧ cap0 ≤ maxLen ∧ z0.length = cap0 ∧ (∀ i, i < z0.length → w.cell? (x.add i) = some (.int .u8 (z0.getD i 0))) ∧ ∀ n ∈ z0, (Lit.int .u8 n).wf = true)
    (w1 : IsR3 3 .i64 .i64 .i64 w a1 len1 cap1 z1) :
    Calls Try.prog 4 #[.slice a0 len0 cap0, .slice a1 len1 cap1] w fun e w' => e = .returned (.bool true) ∧ Below w.heap.size w w' := by
  by_cases hl : 3000 < len0
  · exact reads_long a0 len0 cap0 a1 len1 cap1 w hl
  · obtain ⟨L, hL, hLb, hS⟩ := once_src w0 len0 (Nat.le_refl _)
    have hA : (a0 = none ∧ cap0 = 0 ∧ len0 = 0) ∨ ∃ x, a0 = some x := by
      rcases w0 with ⟨h1, h2, h3, _⟩ | ⟨x, h, _⟩
      · exact .inl ⟨h1, h3, h2⟩
      · exact .inr ⟨x, h⟩
    have hb := bytesOf_sv L hLb
    refine reads_short a0 len0 cap0 a1 len1 cap1 w (by omega) (sv L) (by rw [sv_size, hL]) (by rw [hb]; exact hS) hA ?_ (fun i => (z1.getD i (0, 0, 0)).1) (fun i => (z1.getD i (0, 0, 0)).2.1) (fun i => (z1.getD i (0, 0, 0)).2.2) ?_ ?_ ?_
    · rcases w1 with ⟨_, h, _, _⟩ | ⟨x, _, h1, h2, _⟩
      · omega
      · unfold maxLen at h2; omega
    · rcases w1 with ⟨_, h, _, _⟩ | ⟨x, rfl, h1, h2, h3, h4, _⟩
      · intro i hi; omega
      · intro i hi
        obtain ⟨g, o, rfl⟩ := spot_none (by have := (h4 0 (by omega)).1; rwa [Nat.zero_mul] at this)
        obtain ⟨c0, c1, c2⟩ := h4 i (by omega)
        rw [add_at] at c0 c1 c2
        exact ⟨g, o, rfl, c0, c1, c2⟩
    · rcases w1 with ⟨_, _, _, rfl⟩ | ⟨x, rfl, h1, h2, h3, h4, h5⟩
      · exact fun i => (r3_bounds (by simp) i).1
      · exact fun i => (r3_bounds h5 i).1
    · rcases w1 with ⟨_, _, _, rfl⟩ | ⟨x, rfl, h1, h2, h3, h4, h5⟩
      · exact fun i => (r3_bounds (by simp) i).2
      · exact fun i => (r3_bounds h5 i).2
end Go.Proofs.Ytflgodphphbbjaa
