/- A log in memory: what its fields hold; Room, Age, how many sectors a record has. -/
import Derived.Test.YtfhgdcljhncjmaaDoorWalQ
namespace Go.Proofs.YtfhgdcljhncjmaaDoor
open Go.ChangeShapes Go.WideShapes Go.ChangeAt Go.RowKit
set_option linter.unusedVariables false
set_option maxRecDepth 20000

/-- a log: its disk, first sector, end, next, number, age, head, failed -/
def LogAt (w : World) (l g : Nat) (f en nx nr ag hd fl : Int) : Prop :=
  w.heap[l]? = some (.cells #[.pointer (some ⟨g, 0, none⟩), .int .i64 f, .int .i64 en, .int .i64 nx, .int .i64 nr, .int .i64 ag, .int .i64 hd, .int .i64 fl] 71 (0, 0))
section
variable {w w' : World} {l g : Nat} {f en nx nr ag hd fl : Int}
theorem log_cells (h : LogAt w l g f en nx nr ag hd fl) : w.cell? ⟨l, 0, none⟩ = some (.pointer (some ⟨g, 0, none⟩)) ∧ w.cell? ⟨l, 1, none⟩ = some (.int .i64 f) ∧ w.cell? ⟨l, 2, none⟩ = some (.int .i64 en) ∧ w.cell? ⟨l, 3, none⟩ = some (.int .i64 nx) ∧ w.cell? ⟨l, 4, none⟩ = some (.int .i64 nr) ∧ w.cell? ⟨l, 5, none⟩ = some (.int .i64 ag) ∧ w.cell? ⟨l, 6, none⟩ = some (.int .i64 hd) ∧ w.cell? ⟨l, 7, none⟩ = some (.int .i64 fl) := by
  unfold LogAt at h
  refine ⟨?_, ?_, ?_, ?_, ?_, ?_, ?_, ?_⟩ <;> simp [World.cell?, h]
theorem log_free (h : LogAt w l g f en nx nr ag hd fl) (i : Nat) : w.frozen? ⟨l, i, none⟩ = false := by unfold LogAt at h; simp [World.frozen?, h]
theorem log_lt (h : LogAt w l g f en nx nr ag hd fl) : l < w.heap.size := by unfold LogAt at h; exact (Array.getElem?_eq_some_iff.1 h).1
theorem notTL : ¬ DiskT 71 := by unfold DiskT; decide
theorem log_keep (h : LogAt w l g f en nx nr ag hd fl) {gd : Nat} (hk : KeepT gd w w') : LogAt w' l g f en nx nr ag hd fl := hk.cells h notTL
theorem log_set3 (h : LogAt w l g f en nx nr ag hd fl) (x : Int) : LogAt (w.setCell ⟨l, 3, none⟩ (.int .i64 x)) l g f en x nr ag hd fl := by unfold LogAt at *; simp [World.setCell, Array.getElem?_modify, h]
theorem log_set4 (h : LogAt w l g f en nx nr ag hd fl) (x : Int) : LogAt (w.setCell ⟨l, 4, none⟩ (.int .i64 x)) l g f en nx x ag hd fl := by unfold LogAt at *; simp [World.setCell, Array.getElem?_modify, h]
theorem log_set5 (h : LogAt w l g f en nx nr ag hd fl) (x : Int) : LogAt (w.setCell ⟨l, 5, none⟩ (.int .i64 x)) l g f en nx nr x hd fl := by unfold LogAt at *; simp [World.setCell, Array.getElem?_modify, h]
theorem log_set6 (h : LogAt w l g f en nx nr ag hd fl) (x : Int) : LogAt (w.setCell ⟨l, 6, none⟩ (.int .i64 x)) l g f en nx nr ag x fl := by unfold LogAt at *; simp [World.setCell, Array.getElem?_modify, h]
theorem log_set7 (h : LogAt w l g f en nx nr ag hd fl) (x : Int) : LogAt (w.setCell ⟨l, 7, none⟩ (.int .i64 x)) l g f en nx nr ag hd x := by unfold LogAt at *; simp [World.setCell, Array.getElem?_modify, h]
end
/-- sectors of a record of so many bytes -/
def need (n : Nat) : Nat := 1 + (n + 510) / 511
theorem sectors_any (n : Nat) (hn : n ≤ 100000000) (w : World) : Calls Tryd.prog 32 #[.int .i64 (n : Int)] w fun e w' => e = .returned (.int .i64 (need n : Int)) ∧ w = w' := by
  have h1 : ((n : Int) + 511 - 1).tdiv 511 = (((n + 510) / 511 : Nat) : Int) := by
    rw [Int.tdiv_eq_ediv_of_nonneg (by omega)]; omega
  have h2 : (1 : Int) + (((n + 510) / 511 : Nat) : Int) = (need n : Int) := by unfold need; push_cast; rfl
  go_enter Tryd.func32, Tryd.ntmps32
  go_wp2_with fail
  go_ret
  refine ⟨Fw.ret_int ?_, rfl⟩
  first
  | (rw [← h2, ← h1]; done)
  | (rw [← h2, ← h1]; first | rfl | (simp; done) | (congr 2; omega))
theorem age_any {w : World} {l g : Nat} {f en nx nr ag hd fl : Int} (h : LogAt w l g f en nx nr ag hd fl) : Calls Tryd.prog 14 #[.pointer (some ⟨l, 0, none⟩)] w fun e w' => e = .returned (.int .i64 ag) ∧ w = w' := by
  obtain ⟨c0, c1, c2, c3, c4, c5, c6, c7⟩ := log_cells h
  clear h
  go_enter Tryd.func14, Tryd.ntmps14
  go_wp2_with fail
  go_ret
  exact ⟨rfl, rfl⟩
/-- room for the next one: -1: there is none -/
def roomI (a b : Nat) : Int := if a = b then -1 else min (((b : Int) - a - 1) * 511) 16777216
theorem room_any {w : World} {l g : Nat} {f nr ag hd fl : Int} (a b : Nat) (hab : a ≤ b) (hb : b ≤ 100000) (h : LogAt w l g f (b : Int) (a : Int) nr ag hd fl) : Calls Tryd.prog 15 #[.pointer (some ⟨l, 0, none⟩)] w fun e w' => e = .returned (.int .i64 (roomI a b)) ∧ Below w.heap.size w w' := by
  obtain ⟨c0, c1, c2, c3, c4, c5, c6, c7⟩ := log_cells h
  clear h c0 c1 c4 c5 c6 c7
  by_cases e : a = b
  · subst e
    have e1 : roomI a a = -1 := if_pos rfl
    rw [e1]
    go_enter Tryd.func15, Tryd.ntmps15
    go_wp2_with fail
    go_quiet (fail)
    go_wp2_with fail
    go_ret
    exact ⟨rfl, Fc.below_drewN (Below.refl _ _) _⟩
  · have e1 : roomI a b = min (((b : Int) - a - 1) * 511) 16777216 := if_neg e
    have hne : decide ((a : Int) = (b : Int)) = false := decide_eq_false (by omega)
    have hw1 : IntKind.i64.wrap ((b : Int) - (a : Int)) = (b : Int) - (a : Int) := by rw [IntKind.wrap_i64]; omega
    have hw2 : IntKind.i64.wrap ((b : Int) - (a : Int) - 1) = (b : Int) - (a : Int) - 1 := by rw [IntKind.wrap_i64]; omega
    have hw3 : IntKind.i64.wrap (((b : Int) - (a : Int) - 1) * 511) = ((b : Int) - (a : Int) - 1) * 511 := by rw [IntKind.wrap_i64]; omega
    rw [e1]
    go_enter Tryd.func15, Tryd.ntmps15
    go_wp2_with fail
    go_quiet (fail)
    go_wp2_with fail
    all_goals (try go_region)
    all_goals (try go_wp2_with fail)
    all_goals go_ret
    all_goals exact ⟨rfl, Fc.below_drewN (Below.refl _ _) _⟩
set_option maxHeartbeats 1000000 in
/-- the next record is the one behind that of so many bytes -/
theorem pass_any {w : World} {l g : Nat} {f en nr ag hd fl : Int} (a n : Nat) (ha : a ≤ 100000) (hn : n ≤ 100000000) (hr0 : 0 ≤ nr) (hr1 : nr ≤ 1000000) (h : LogAt w l g f en (a : Int) nr ag hd fl) : Calls Tryd.prog 34 #[.pointer (some ⟨l, 0, none⟩), .int .i64 (n : Int)] w fun e w' => e = .returned (.tuple #[]) ∧ LogAt w' l g f en ((a + need n : Nat) : Int) (nr + 1) ag hd fl ∧ Fk.Only (· = l) w w' := by
  have HS := Lib.hid (fun W => sectors_any n hn W)
  obtain ⟨c0, c1, c2, c3, c4, c5, c6, c7⟩ := log_cells h
  have f3 := log_free h 3
  have f4 := log_free h 4
  have H := Lib.hid h
  have hq : need n ≤ 1000000 := by unfold need; omega
  obtain ⟨q, hqq⟩ : ∃ q, need n = q := ⟨_, rfl⟩
  rw [hqq] at HS hq ⊢
  have hw1 : IntKind.i64.wrap ((a : Int) + (q : Int)) = ((a + q : Nat) : Int) := by rw [IntKind.wrap_i64]; omega
  have hw2 : IntKind.i64.wrap (nr + 1) = nr + 1 := by rw [IntKind.wrap_i64]; omega
  clear h c0 c1 c2 c5 c6 c7 hqq
  go_enter Tryd.func34, Tryd.ntmps34
  go_wp2_with fail
  go_region_with (go_at_call 32; refine (HS.out _).mono ?_; rintro e w' ⟨rfl, rfl⟩)
  all_goals (try go_wp2_with fail)
  all_goals (try go_end0)
  all_goals first
  | exact ⟨rfl, log_set4 (log_set3 H.out _) _, Fk.only_set (Fk.only_set (Fk.Only.refl _ w) 3 _) 4 _⟩
  | exact ⟨rfl, log_set4 (log_set3 H.out _) _, (Fk.only_set (Fk.only_set (Fk.Only.refl _ w) 3 _) 4 _).drew⟩
end Go.Proofs.YtfhgdcljhncjmaaDoor
