/- Package lex: Scan. -/
import Derived.Test.YtfpjeokncdlofaaLexT
namespace Go.Proofs.Ytfpjeokncdlofaa
open Go.ChangeShapes Go.WideShapes Go.ChangeAt Go.RowKit Go.Joins
open Go.Proofs.Ytfpjeokncdlofaa.Fn (st st_size st_list st_extract)
set_option linter.unusedVariables false
set_option maxRecDepth 20000

/-- the world in which scan is called -/
theorem scan_start (w : World) (W : World) (hW : ((w.alloc (.cells #[.slice none 0 0] 23)).alloc (.cells #[.int .i64 0, .int .i64 0] 25)).alloc (.cells #[.int .i64 0] 26) = W) :
    Below w.heap.size w W ∧ Vars W w.heap.size (.slice none 0 0) (.int .i64 0) (.int .i64 0) (.int .i64 0) ∧ W.heap.size = w.heap.size + 3 := by
  subst hW
  have e0 : (((w.alloc (.cells #[.slice none 0 0] 23)).alloc (.cells #[.int .i64 0, .int .i64 0] 25)).alloc (.cells #[.int .i64 0] 26)).heap[w.heap.size]? = some (.cells #[.slice none 0 0] 23 (0, 0)) := by
    show (((w.heap.push _).push _).push _)[w.heap.size]? = _
    rw [Array.getElem?_push, if_neg (by simp; omega), Array.getElem?_push, if_neg (by simp), Array.getElem?_push_size]
  have e1 : (((w.alloc (.cells #[.slice none 0 0] 23)).alloc (.cells #[.int .i64 0, .int .i64 0] 25)).alloc (.cells #[.int .i64 0] 26)).heap[w.heap.size + 1]? = some (.cells #[.int .i64 0, .int .i64 0] 25 (0, 0)) := by
    show (((w.heap.push _).push _).push _)[w.heap.size + 1]? = _
    rw [Array.getElem?_push, if_neg (by simp), Array.getElem?_push, if_pos (by simp)]
  have e2 : (((w.alloc (.cells #[.slice none 0 0] 23)).alloc (.cells #[.int .i64 0, .int .i64 0] 25)).alloc (.cells #[.int .i64 0] 26)).heap[w.heap.size + 2]? = some (.cells #[.int .i64 0] 26 (0, 0)) := by
    show (((w.heap.push _).push _).push _)[w.heap.size + 2]? = _
    rw [Array.getElem?_push, if_pos (by simp)]
  refine ⟨(((Below.refl _ w).alloc (Nat.le_refl _) _).alloc (by simp) _).alloc (by simp; omega) _, ⟨?_, ?_, ?_, ?_, unfrozen_of_block e0 _, unfrozen_of_block e1 _, unfrozen_of_block e1 _, unfrozen_of_block e2 _⟩, by simp⟩
  · rw [cell_of_block e0]; rfl
  · rw [cell_of_block e1]; rfl
  · rw [cell_of_block e1]; rfl
  · rw [cell_of_block e2]; rfl
set_option maxHeartbeats 2000000 in
theorem lexScan_ok (l : List UInt8) (hl : l.length ≤ 65536) (L : List Tok) (hR : scanL l = some (.ok L)) (w : World) :
    Calls Try.prog 10 #[.string (st l)] w fun e w' => ∃ v, e = .returned (.tuple #[v, .agg #[.int .i64 0, .int .i64 0], .int .i64 0]) ∧ Hid (w'.ownsRow w.heap.size 44 5 v L.length (cellsT L)) ∧ Hid (Below w.heap.size w w') := by
  have hmf : ∀ (fn : Fn) (first cap : Array Value) (w : World), (Instr.makeFunc fn first cap).run Try.prog w = .ok (.func fn first cap) w := fun _ _ _ _ => rfl
  have HS : Hid (∀ W, Calls Try.prog 18 #[.string (st l)] W fun e w' => ∃ v, e = .returned v ∧ Hid (w'.ownsRow W.heap.size 44 5 v L.length (cellsT L)) ∧ Hid (Below W.heap.size W w')) := Lib.hid (fun W => (scan_any l hl (.ok L) hR W).mono (by
    rintro e w9 ⟨(⟨L2, v, he, rfl, hown⟩ | ⟨r, he, rfl⟩), hb⟩
    · cases he; exact ⟨v, rfl, hown, hb⟩
    · cases he))
  clear hR hl
  generalize st l = s at *
  go_enter_defers Try.func10, Try.ntmps10
  go_wp2_with fail
  generalize hW : World.alloc _ _ = W1
  obtain ⟨hb1, hv1, hs1⟩ := scan_start w W1 hW
  have HB1 := Lib.hid hb1
  have HV1 := Lib.hid hv1
  have HS1 := Lib.hid hs1
  clear hW hb1 hv1 hs1
  refine (HS.out W1).mono ?_
  rintro e w9 ⟨v, rfl, hown, hb⟩
  obtain ⟨va, vc, rfl⟩ := own_sl hown.out
  have hv9 : Vars w9 w.heap.size (.slice none 0 0) (.int .i64 0) (.int .i64 0) (.int .i64 0) := HV1.out.later (fun k _ hk => hb.out.block k (by have := HS1.out; omega))
  have HV9 := Lib.hid hv9
  have HB9 : Hid (Below w.heap.size w w9) := Lib.hid (HB1.out.trans (hb.out.mono (by have := HS1.out; omega)))
  have HO9 : Hid (w9.ownsRow (w.heap.size + 3) 44 5 (.slice va L.length vc) L.length (cellsT L)) := Lib.hid (HS1.out ▸ hown.out)
  obtain ⟨c0, c1, c2, c3, f0, f1, f2, f3⟩ := hv9
  have c3' : w9.cell? ⟨w.heap.size + 1 + 1, 0, none⟩ = some (.int .i64 0) := c3
  have f3' : w9.frozen? ⟨w.heap.size + 1 + 1, 0, none⟩ = false := f3
  clear c3 f3 HS hown hb HB1 HV1 HS1
  go_wp2_with fail
  refine leaves_cons (f := 17) (args := #[.pointer (some ⟨w.heap.size, 0, none⟩), .pointer (some ⟨w.heap.size + 1, 0, none⟩), .pointer (some ⟨w.heap.size + 1 + 1, 0, none⟩)]) (by simp) (by simp [go_sem]) ?_
  refine (catch_idle _ _ _ _).mono ?_
  rintro e u' w'' ⟨rfl, rfl, rfl⟩
  have hvF := HV9.out.set (.slice va L.length vc) (.int .i64 0) (.int .i64 0) (.int .i64 0)
  have HOF : Hid (((((w9.setCell ⟨w.heap.size, 0, none⟩ (.slice va L.length vc)).setCell ⟨w.heap.size + 1, 0, none⟩ (.int .i64 0)).setCell ⟨w.heap.size + 1, 1, none⟩ (.int .i64 0)).setCell ⟨w.heap.size + 2, 0, none⟩ (.int .i64 0)).ownsRow w.heap.size 44 5 (.slice va L.length vc) L.length (cellsT L)) := Lib.hid (by
    refine ⟨HO9.out.1, ?_⟩
    rcases HO9.out.2 with h0 | ⟨g', cap, cur, hv, hb, hg, rest⟩
    · exact .inl h0
    · refine .inr ⟨g', cap, cur, hv, by omega, ?_, rest⟩
      rw [Below.heap_setCell _ _ _ _ (by show g' ≠ w.heap.size + 2; omega), Below.heap_setCell _ _ _ _ (by show g' ≠ w.heap.size + 1; omega), Below.heap_setCell _ _ _ _ (by show g' ≠ w.heap.size + 1; omega), Below.heap_setCell _ _ _ _ (by show g' ≠ w.heap.size; omega)]
      exact hg)
  have HBF : Hid (Below w.heap.size w ((((w9.setCell ⟨w.heap.size, 0, none⟩ (.slice va L.length vc)).setCell ⟨w.heap.size + 1, 0, none⟩ (.int .i64 0)).setCell ⟨w.heap.size + 1, 1, none⟩ (.int .i64 0)).setCell ⟨w.heap.size + 2, 0, none⟩ (.int .i64 0))) := Lib.hid
    ((((HB9.out.setCell (p := ⟨w.heap.size, 0, none⟩) (Nat.le_refl _) _).setCell (p := ⟨w.heap.size + 1, 0, none⟩) (Nat.le_succ _) _).setCell (p := ⟨w.heap.size + 1, 1, none⟩) (Nat.le_succ _) _).setCell (p := ⟨w.heap.size + 2, 0, none⟩) (Nat.le_add_right _ 2) _)
  generalize ((((w9.setCell ⟨w.heap.size, 0, none⟩ (.slice va L.length vc)).setCell ⟨w.heap.size + 1, 0, none⟩ (.int .i64 0)).setCell ⟨w.heap.size + 1, 1, none⟩ (.int .i64 0)).setCell ⟨w.heap.size + 2, 0, none⟩ (.int .i64 0)) = WF at *
  obtain ⟨d0, d1, d2, d3, g0, g1, g2, g3⟩ := hvF
  have d3' : WF.cell? ⟨w.heap.size + 1 + 1, 0, none⟩ = some (.int .i64 0) := d3
  change Leaves Try.prog Try.f10 _ _ [] FrameMode.returning WF
  simp only [Leaves]
  refine ⟨.tuple #[.slice va L.length vc, .agg #[.int .i64 0, .int .i64 0], .int .i64 0], ?_, _, rfl, HOF, HBF⟩
  simp [results, Try.results10]
  go_simp
set_option maxHeartbeats 2000000 in
theorem lexScan_no (l : List UInt8) (hl : l.length ≤ 65536) (r : Nat × Nat) (hR : scanL l = some (.error r)) (w : World) :
    Calls Try.prog 10 #[.string (st l)] w fun e w' => e = .returned (.tuple #[.slice none 0 0, .agg #[.int .i64 (r.1 : Int), .int .i64 (r.2 : Int)], .int .i64 10]) ∧ Hid (Below w.heap.size w w') := by
  have hmf : ∀ (fn : Fn) (first cap : Array Value) (w : World), (Instr.makeFunc fn first cap).run Try.prog w = .ok (.func fn first cap) w := fun _ _ _ _ => rfl
  have HS : Hid (∀ W, Calls Try.prog 18 #[.string (st l)] W fun e w' => e = .panicked [{ v := .iface 53 (.agg #[.int .i64 (r.1 : Int), .int .i64 (r.2 : Int), .int .i64 10]), recovered := false }] ∧ Hid (Below W.heap.size W w')) := Lib.hid (fun W => (scan_any l hl (.error r) hR W).mono (by
    rintro e w9 ⟨(⟨L2, v, he, rfl, hown⟩ | ⟨r2, he, rfl⟩), hb⟩
    · cases he
    · cases he; exact ⟨rfl, hb⟩))
  clear hR hl
  generalize st l = s at *
  go_enter_defers Try.func10, Try.ntmps10
  go_wp2_with fail
  generalize hW : World.alloc _ _ = W1
  obtain ⟨hb1, hv1, hs1⟩ := scan_start w W1 hW
  have HB1 := Lib.hid hb1
  have HV1 := Lib.hid hv1
  have HS1 := Lib.hid hs1
  clear hW hb1 hv1 hs1
  refine (HS.out W1).mono ?_
  rintro e w9 ⟨rfl, hb⟩
  have HV9 : Hid (Vars w9 w.heap.size (.slice none 0 0) (.int .i64 0) (.int .i64 0) (.int .i64 0)) := Lib.hid (HV1.out.later (fun k _ hk => hb.out.block k (by have := HS1.out; omega)))
  have HB9 : Hid (Below w.heap.size w w9) := Lib.hid (HB1.out.trans (hb.out.mono (by have := HS1.out; omega)))
  have hsz : w.heap.size + 2 < w9.heap.size := by have h1 := HS1.out; have h2 := hb.out.size; omega
  clear HS HB1 HV1 HS1 hb
  refine leaves_cons (f := 17) (args := #[.pointer (some ⟨w.heap.size, 0, none⟩), .pointer (some ⟨w.heap.size + 1, 0, none⟩), .pointer (some ⟨w.heap.size + 1 + 1, 0, none⟩)]) (by simp) (by simp [go_sem]) ?_
  refine (catch_thrown w.heap.size (r.1 : Int) (r.2 : Int) 10 _ _ _ _ w9 HV9 hsz).mono ?_
  rintro e u' WF ⟨rfl, rfl, hvF, hbF⟩
  obtain ⟨d0, d1, d2, d3, g0, g1, g2, g3⟩ := hvF
  have d3' : WF.cell? ⟨w.heap.size + 1 + 1, 0, none⟩ = some (.int .i64 10) := d3
  have HBF : Hid (Below w.heap.size w WF) := Lib.hid (HB9.out.trans hbF)
  change Leaves Try.prog Try.f10 _ _ [] FrameMode.returning WF
  simp only [Leaves]
  refine ⟨.tuple #[.slice none 0 0, .agg #[.int .i64 (r.1 : Int), .int .i64 (r.2 : Int)], .int .i64 10], ?_, rfl, HBF⟩
  simp [results, Try.results10]
  go_simp
end Go.Proofs.Ytfpjeokncdlofaa
