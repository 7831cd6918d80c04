/- Package lex: what Scan does when something was thrown. -/
import Derived.Test.YtfpjeokncdlofaaLexS
import Derived.Defers
import Derived.Recover
namespace Go.Proofs.Ytfpjeokncdlofaa
open Go.ChangeShapes Go.WideShapes Go.ChangeAt Go.RowKit Go.Joins
open Go.Proofs.Ytfpjeokncdlofaa.Fn (st st_size st_list st_extract)
set_option linter.unusedVariables false
set_option maxRecDepth 20000

/-- the three results' variables -/
structure Vars (w : World) (b : Nat) (v0 v1 v2 v3 : Value) : Prop where
  c0 : w.cell? ⟨b, 0, none⟩ = some v0
  c1 : w.cell? ⟨b + 1, 0, none⟩ = some v1
  c2 : w.cell? ⟨b + 1, 1, none⟩ = some v2
  c3 : w.cell? ⟨b + 2, 0, none⟩ = some v3
  f0 : w.frozen? ⟨b, 0, none⟩ = false
  f1 : w.frozen? ⟨b + 1, 0, none⟩ = false
  f2 : w.frozen? ⟨b + 1, 1, none⟩ = false
  f3 : w.frozen? ⟨b + 2, 0, none⟩ = false
theorem Vars.set {w : World} {b : Nat} {v0 v1 v2 v3 : Value} (h : Vars w b v0 v1 v2 v3) (u0 u1 u2 u3 : Value) : Vars ((((w.setCell ⟨b, 0, none⟩ u0).setCell ⟨b + 1, 0, none⟩ u1).setCell ⟨b + 1, 1, none⟩ u2).setCell ⟨b + 2, 0, none⟩ u3) b u0 u1 u2 u3 := by
  obtain ⟨c0, c1, c2, c3, f0, f1, f2, f3⟩ := h
  have o : ∀ (W : World) (i j k l : Nat) (u : Value), ¬ (i = k ∧ j = l) → (W.setCell ⟨i, j, none⟩ u).cell? ⟨k, l, none⟩ = W.cell? ⟨k, l, none⟩ := fun W i j k l u hn => World.cell?_setCell_other W _ _ u (fun e => hn (by cases e; exact ⟨rfl, rfl⟩))
  have s : ∀ (W : World) (i j : Nat) (u v : Value), W.cell? ⟨i, j, none⟩ = some v → (W.setCell ⟨i, j, none⟩ u).cell? ⟨i, j, none⟩ = some u := fun W i j u v h => World.cell?_setCell_same W _ u h
  have f : ∀ (W : World) (p q : Addr) (u : Value), (W.setCell p u).frozen? q = W.frozen? q := fun W p q u => by simp
  refine ⟨?_, ?_, ?_, ?_, ?_, ?_, ?_, ?_⟩
  · rw [o _ _ _ _ _ _ (by omega), o _ _ _ _ _ _ (by omega), o _ _ _ _ _ _ (by omega)]; exact s _ _ _ _ _ c0
  · rw [o _ _ _ _ _ _ (by omega), o _ _ _ _ _ _ (by omega)]; exact s _ _ _ _ _ (by rw [o _ _ _ _ _ _ (by omega)]; exact c1)
  · rw [o _ _ _ _ _ _ (by omega)]; exact s _ _ _ _ _ (by rw [o _ _ _ _ _ _ (by omega), o _ _ _ _ _ _ (by omega)]; exact c2)
  · exact s _ _ _ _ _ (by rw [o _ _ _ _ _ _ (by omega), o _ _ _ _ _ _ (by omega), o _ _ _ _ _ _ (by omega)]; exact c3)
  all_goals rw [f, f, f, f]; assumption
theorem Vars.later {w w' : World} {b : Nat} {v0 v1 v2 v3 : Value} (h : Vars w b v0 v1 v2 v3) (hb : ∀ k, b ≤ k → k < b + 3 → w'.heap[k]? = w.heap[k]?) : Vars w' b v0 v1 v2 v3 := by
  obtain ⟨c0, c1, c2, c3, f0, f1, f2, f3⟩ := h
  have e0 := hb b (by omega) (by omega)
  have e1 := hb (b + 1) (by omega) (by omega)
  have e2 := hb (b + 2) (by omega) (by omega)
  exact ⟨(World.cell?_of_block (w := w) e0).trans c0, (World.cell?_of_block (w := w) e1).trans c1, (World.cell?_of_block (w := w) e1).trans c2, (World.cell?_of_block (w := w) e2).trans c3,
    (World.frozen?_of_block (w := w) e0).trans f0, (World.frozen?_of_block (w := w) e1).trans f1, (World.frozen?_of_block (w := w) e1).trans f2, (World.frozen?_of_block (w := w) e2).trans f3⟩
set_option maxHeartbeats 2000000 in
/-- the deferred call of one that panics with what the package throws -/
theorem catch_thrown (b : Nat) (ln cl er : Int) (v0 v1 v2 v3 : Value) (w : World) (hv : Hid (Vars w b v0 v1 v2 v3)) (hb : b + 2 < w.heap.size) :
    CallsD Try.prog 17 #[.pointer (some ⟨b, 0, none⟩), .pointer (some ⟨b + 1, 0, none⟩), .pointer (some ⟨b + 2, 0, none⟩)] (.panicking [{ v := .iface 53 (.agg #[.int .i64 ln, .int .i64 cl, .int .i64 er]), recovered := false }]) w fun e u' w' => e = .returned (.tuple #[]) ∧
      u' = .panicking [{ v := .iface 53 (.agg #[.int .i64 ln, .int .i64 cl, .int .i64 er]), recovered := true }] ∧ (Vars w' b (.slice none 0 0) (.int .i64 ln) (.int .i64 cl) (.int .i64 er) ∧ Below b w w') := by
  have hne : ∀ W : World, (binOp BinOp.neq 20 (.iface 53 (.agg #[.int .i64 ln, .int .i64 cl, .int .i64 er])) .nilIface).run Try.prog W = .ok (.bool true) W := fun _ => by kernel_rfl
  have hta : ∀ W : World, (Instr.typeAssert (.iface 53 (.agg #[.int .i64 ln, .int .i64 cl, .int .i64 er])) 20 53 true).run Try.prog W = .ok (.tuple #[.agg #[.int .i64 ln, .int .i64 cl, .int .i64 er], .bool true]) W := fun _ => by kernel_rfl
  obtain ⟨c0, c1, c2, c3, f0, f1, f2, f3⟩ := hv.out
  refine callsD_of_wpS Try.func17 rfl fun c₀ cs hu => ?_
  apply wpS_seq
  apply wpS_region
  simp [wpOpsS, go_sem, recoverD, hu, Try.ntmps17, Exit.thenS]
  refine wpS_of_wp (wp_whatever (R := fun w' => Vars w' b (.slice none 0 0) (.int .i64 ln) (.int .i64 cl) (.int .i64 er) ∧ Below b w w') { tmps := #[.pointer (some ⟨b, 0, none⟩), .pointer (some ⟨b + 1, 0, none⟩), .pointer (some ⟨b + 2, 0, none⟩), .iface 53 (.agg #[.int .i64 ln, .int .i64 cl, .int .i64 er]), undef, undef, .iface 53 (.agg #[.int .i64 ln, .int .i64 cl, .int .i64 er]), undef, undef, undef, undef, undef, undef, undef, undef, undef, undef, undef, undef, undef, undef], defers := [] } rfl (fun Q' hn hr => ?_) ?_ ?_)
  · clear hu
    have HN := Lib.hid hn
    clear hn hr
    go_wp2_with fail
    clear c0 c1 c2 c3 f0 f1 f2 f3 hne hta
    generalize hW : w.alloc _ = W1
    have hbl : Below w.heap.size w W1 := by rw [← hW]; exact (Below.refl _ _).alloc (Nat.le_refl _) _
    have hv1 : Vars W1 b v0 v1 v2 v3 := hv.out.later fun k _ hk => hbl.block k (by omega)
    have h9 : W1.heap[w.heap.size]? = some (.cells #[.int .i64 ln, .int .i64 cl, .int .i64 er] 53 (0, 0)) := by
      rw [← hW]; show (w.heap.push _)[w.heap.size]? = _; simp
    have d0 : W1.cell? ⟨w.heap.size, 0, none⟩ = some (.int .i64 ln) := by rw [cell_of_block h9]; rfl
    have d1 : W1.cell? ⟨w.heap.size, 1, none⟩ = some (.int .i64 cl) := by rw [cell_of_block h9]; rfl
    have d2 : W1.cell? ⟨w.heap.size, 2, none⟩ = some (.int .i64 er) := by rw [cell_of_block h9]; rfl
    have HV := Lib.hid hv1
    obtain ⟨c0, c1, c2, c3, f0, f1, f2, f3⟩ := hv1
    have HBl : Hid (Below b w W1) := Lib.hid (hbl.mono (by omega))
    obtain ⟨N, hN⟩ : ∃ N, w.heap.size = N := ⟨_, rfl⟩
    rw [hN] at d0 d1 d2 hb ⊢
    have n0 : ¬ b = N := by omega
    have n1 : ¬ b + 1 = N := by omega
    have n2 : ¬ b + 2 = N := by omega
    clear hbl h9 hW hN hv
    go_region
    all_goals
      have hb9 := ((((HBl.out.setCell (p := ⟨b, 0, none⟩) (Nat.le_refl b) (.slice none 0 0)).setCell (p := ⟨b + 1, 0, none⟩) (Nat.le_succ b) (.int .i64 ln)).setCell (p := ⟨b + 1, 1, none⟩) (Nat.le_succ b) (.int .i64 cl)).setCell (p := ⟨b + 2, 0, none⟩) (Nat.le_add_right b 2) (.int .i64 er))
      exact HN.out _ _ ⟨(HV.out.set _ _ _ _).later fun _ _ _ => rfl, ⟨hb9.os, hb9.tape, hb9.output, hb9.size, hb9.block⟩⟩
  · rintro t w' hw
    cases c₀
    simp_all [bodyPostS, results, Try.results17]
  · rintro t w' hw
    cases c₀
    simp_all [bodyPostS, results, Try.results17]
end Go.Proofs.Ytfpjeokncdlofaa
