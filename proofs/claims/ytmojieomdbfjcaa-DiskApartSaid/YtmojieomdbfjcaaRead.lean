/- Contracts of Read, of Write where nothing is written, of full. -/
import Derived.Test.YtmojieomdbfjcaaCrash
import Derived.Laws.BytesArg
import Derived.Laws.CopyOwn
import Derived.Lib.ConvBytes
namespace Go.Proofs.Ytmojieomdbfjcaa
open Go.ChangeShapes Go.WideShapes Go.ChangeAt Go.RowKit


theorem read_world (w : World) (t : TypeId) (s : ByteArray) : (∀ j, j < s.size → (Lib.bytesWorld w t s).cell? ⟨w.heap.size, j, none⟩ = some (.int .u8 (s.data.toList.getD j 0).toNat)) ∧ w.heap.size < (Lib.bytesWorld w t s).heap.size ∧ Below w.heap.size w (Lib.bytesWorld w t s) := by
  refine ⟨fun j hj => Lib.bytesWorld_cell w t s j hj, by rw [Lib.bytesWorld_size]; omega, ?_⟩
  refine ⟨?_, ?_, ?_, by rw [Lib.bytesWorld_size]; omega, fun k hk => Lib.bytesWorld_at_old w t s k hk⟩
  · simp [Lib.bytesWorld, World.freeze, World.alloc, World.drew, -World.alloc_eq, -World.drew_eq]
  · simp [Lib.bytesWorld, World.freeze, World.alloc, World.drew, -World.alloc_eq, -World.drew_eq]
  · simp [Lib.bytesWorld, World.freeze, World.alloc, World.drew, -World.alloc_eq, -World.drew_eq]
section
variable (g : Nat) (vn vl vw : Value) (st : Int) (ar : Bool) (le : Int) (off : Bool) (w : World)
set_option maxRecDepth 20000 in
theorem write_down (n : Int) (sp : Option Addr) (cap : Nat) (gn L C : Nat) (hv : vn = .slice (some ⟨gn, 0, none⟩) L C) (hn0 : 0 ≤ n) (hn : n < (L : Int))
    (hb : Hid (Head w g vn vl vw st ar le off)) (hd : Hid ((ar = true ∧ le = 0) ∨ off = true)) :
    Calls Try.prog 8 #[.pointer (some ⟨g, 0, none⟩), .int .i64 n, .slice sp 512 cap] w fun e w' => e = .returned (.int .i64 8) ∧ Head w' g vn vl vw st ar le true ∧ Only (· = g) w w' := by
  have HC := Lib.hid (change_down g vn vl vw st ar le off w hb hd)
  have hc6 := head6 hb.out
  cases off with
  | true =>
    go_enter Try.func8, Try.ntmps8
    go_wp2_with fail
    refine HC.out.mono ?_
    rintro e w1 ⟨rfl, hb1, ho1⟩
    have h1 := Lib.hid (And.intro hb1 ho1)
    clear hb1 ho1
    go_wp2_with fail
    go_ret
    exact ⟨rfl, h1.out⟩
  | false =>
    have HH := Lib.hid (has_any g vn vl vw st ar le false w (some ⟨gn, 0, none⟩) n L C hv hb)
    have hg0 : decide ((0 : Int) ≤ n ∧ n < (L : Int)) = true := decide_eq_true ⟨hn0, hn⟩
    rw [hg0] at HH
    go_enter Try.func8, Try.ntmps8
    go_wp2_with fail
    refine HH.out.mono ?_
    rintro e w' ⟨rfl, hww⟩
    have hww := hww.symm
    subst hww
    go_wp2_with fail
    refine HC.out.mono ?_
    rintro e w1 ⟨rfl, hb1, ho1⟩
    have h1 := Lib.hid (And.intro hb1 ho1)
    clear hb1 ho1
    go_wp2_with fail
    go_ret
    exact ⟨rfl, h1.out⟩
set_option maxRecDepth 20000 in
theorem barrier_down (hb : Hid (Head w g vn vl vw st ar le off)) (hd : Hid ((ar = true ∧ le = 0) ∨ off = true)) :
    Calls Try.prog 10 #[.pointer (some ⟨g, 0, none⟩)] w fun e w' => e = .returned (.int .i64 8) ∧ Head w' g vn vl vw st ar le true ∧ Only (· = g) w w' := by
  have HC := Lib.hid (change_down g vn vl vw st ar le off w hb hd)
  go_enter Try.func10, Try.ntmps10
  go_wp2_with fail
  refine HC.out.mono ?_
  rintro e w1 ⟨rfl, hb1, ho1⟩
  have h1 := Lib.hid (And.intro hb1 ho1)
  clear hb1 ho1
  go_wp2_with fail
  go_ret
  exact ⟨rfl, h1.out⟩
set_option maxRecDepth 20000 in
theorem read_down (n : Int) (hb : Hid (Head w g vn vl vw st ar le true)) :
    Calls Try.prog 12 #[.pointer (some ⟨g, 0, none⟩), .int .i64 n] w fun e w' => e = .returned (.tuple #[.slice none 0 0, .int .i64 8]) ∧ w' = w := by
  have hc6 := head6 hb.out
  go_enter Try.func12, Try.ntmps12
  go_wp2_with fail
  go_ret2
  exact ⟨rfl, rfl⟩
set_option maxRecDepth 20000 in
theorem read_ok (n : Nat) (s : ByteArray) (gn L C : Nat) (hv : vn = .slice (some ⟨gn, 0, none⟩) L C) (hn : n < L) (hc : w.cell? ⟨gn, n, none⟩ = some (.string s)) (hb : Hid (Head w g vn vl vw st ar le false)) :
    Calls Try.prog 12 #[.pointer (some ⟨g, 0, none⟩), .int .i64 (n : Int)] w fun e w' => ∃ cap, e = .returned (.tuple #[.slice (some ⟨w.heap.size, 0, none⟩) s.size cap, .int .i64 0]) ∧ (∀ j, j < s.size → w'.cell? ⟨w.heap.size, j, none⟩ = some (.int .u8 (s.data.toList.getD j 0).toNat)) ∧ w.heap.size < w'.heap.size ∧ Below w.heap.size w w' := by
  have hcv := Lib.run_convert_string_bytes (P := Try.prog) w 9 22 5 s Try.underlying9 Try.underlying22 Try.underlying5
  have HBW := Lib.hid (read_world w 5 s)
  generalize Lib.bytesWorld w 5 s = w2 at *
  generalize grownCap w s.size 0 5 = cp at *
  have hc6 := head6 hb.out
  have hc0 := head0 hb.out
  have HH := Lib.hid (has_any g vn vl vw st ar le false w (some ⟨gn, 0, none⟩) n L C hv hb)
  have hg0 : decide ((0 : Int) ≤ (n : Int) ∧ (n : Int) < (L : Int)) = true := decide_eq_true (by omega)
  rw [hg0] at HH
  have hi0 : (0 : Int) ≤ (n : Int) := Int.natCast_nonneg n
  have hi1 : (n : Int) < (L : Int) := by omega
  go_enter Try.func12, Try.ntmps12
  go_wp2_with fail
  refine HH.out.mono ?_
  rintro e w' ⟨rfl, hww⟩
  have hww := hww.symm
  subst hww
  go_wp2_with fail
  go_ret2
  exact ⟨cp, rfl, HBW.out⟩
end
end Go.Proofs.Ytmojieomdbfjcaa
