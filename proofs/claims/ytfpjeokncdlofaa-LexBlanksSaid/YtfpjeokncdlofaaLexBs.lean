/- The statements of package lex: a token, as it is written. -/
import Derived.Test.YtfpjeokncdlofaaLexBp
namespace Go.Proofs.Ytfpjeokncdlofaa
open Go.ChangeShapes Go.WideShapes Go.ChangeAt Go.RowKit Go.Joins
open Go.Proofs.Ytfpjeokncdlofaa.Fn (st st_size st_list st_extract)
set_option linter.unusedVariables false
set_option maxRecDepth 20000

theorem spell_zero (a b : Int) (w : World) : Calls Try.prog 15 #[.agg #[.int .i64 0, .int .i64 a, .int .i64 b, .int .i64 0, .string ⟨#[]⟩]] w fun e w' => e = .returned (.string ⟨#[40]⟩) ∧ Hid (Below w.heap.size w w') := by
  go_enter Try.func15, Try.ntmps15
  go_wp2_with fail
  go_ret
  exact ⟨rfl, Lib.hid ((Below.refl _ _).alloc (Nat.le_refl _) _)⟩
theorem spell_one (a b : Int) (w : World) : Calls Try.prog 15 #[.agg #[.int .i64 1, .int .i64 a, .int .i64 b, .int .i64 0, .string ⟨#[]⟩]] w fun e w' => e = .returned (.string ⟨#[41]⟩) ∧ Hid (Below w.heap.size w w') := by
  go_enter Try.func15, Try.ntmps15
  go_wp2_with fail
  go_ret
  exact ⟨rfl, Lib.hid ((Below.refl _ _).alloc (Nat.le_refl _) _)⟩
theorem spell_three (a b : Int) (s : ByteArray) (w : World) : Calls Try.prog 15 #[.agg #[.int .i64 3, .int .i64 a, .int .i64 b, .int .i64 0, .string s]] w fun e w' => e = .returned (.string ⟨#[48, 46, 53]⟩) ∧ Hid (Below w.heap.size w w') := by
  go_enter Try.func15, Try.ntmps15
  go_wp2_with fail
  go_ret
  exact ⟨rfl, Lib.hid ((Below.refl _ _).alloc (Nat.le_refl _) _)⟩
theorem spell_five (a b : Int) (s : ByteArray) (w : World) : Calls Try.prog 15 #[.agg #[.int .i64 5, .int .i64 a, .int .i64 b, .int .i64 0, .string s]] w fun e w' => e = .returned (.string s) ∧ Hid (Below w.heap.size w w') := by
  go_enter Try.func15, Try.ntmps15
  go_wp2_with fail
  go_ret
  exact ⟨rfl, Lib.hid ((Below.refl _ _).alloc (Nat.le_refl _) _)⟩
theorem spell_six (a b : Int) (s : ByteArray) (w : World) : Calls Try.prog 15 #[.agg #[.int .i64 6, .int .i64 a, .int .i64 b, .int .i64 0, .string s]] w fun e w' => e = .returned (.string s) ∧ Hid (Below w.heap.size w w') := by
  go_enter Try.func15, Try.ntmps15
  go_wp2_with fail
  go_ret
  exact ⟨rfl, Lib.hid ((Below.refl _ _).alloc (Nat.le_refl _) _)⟩
theorem spell_two (a b n : Int) (h1 : -4611686018427387904 ≤ n) (h2 : n ≤ 4611686018427387903) (w : World) : Calls Try.prog 15 #[.agg #[.int .i64 2, .int .i64 a, .int .i64 b, .int .i64 n, .string ⟨#[]⟩]] w fun e w' => e = .returned (.string (st (Lib.itoa n))) ∧ Hid (Below w.heap.size w w') := by
  have HN := Lib.hid (fun W => number_any n h1 h2 W)
  clear h1 h2
  go_enter Try.func15, Try.ntmps15
  go_wp2_with fail
  refine (HN.out _).mono ?_
  rintro e w2 ⟨rfl, hb⟩
  have HB : Hid (Below w.heap.size w w2) := Lib.hid (((Below.refl _ _).alloc (Nat.le_refl _) _).trans (hb.out.mono (by simp)))
  go_wp2_with fail
  go_ret
  exact ⟨rfl, HB⟩
/-- whatever token it is -/
theorem spell_all (d : TokD) (hd : okD d) (a b : Int) (w : World) : Calls Try.prog 15 #[.agg #[.int .i64 d.1, .int .i64 a, .int .i64 b, .int .i64 d.2.1, .string (st d.2.2)]] w fun e w' => e = .returned (.string (st (spS d))) ∧ Hid (Below w.heap.size w w') := by
  rcases hd with rfl | rfl | ⟨n, n1, n2, rfl⟩ | ⟨x, rfl⟩ | ⟨x, hx, rfl⟩ | ⟨k, x, hk, rfl, _⟩
  · exact spell_zero a b w
  · exact spell_one a b w
  · exact spell_two a b n n1 n2 w
  · exact spell_three a b (st x) w
  · exact spell_text x (by omega) a b 0 w
  · rcases hk with rfl | rfl
    · exact spell_five a b (st x) w
    · exact spell_six a b (st x) w
/-- a token's cells with its place changed -/
theorem okD_kind {d : TokD} (hd : okD d) : (d.1 = 3 → d = (3, 0, d.2.2)) ∧ (d.1 ≠ 3 → wtD d = d) := by
  refine ⟨fun h => ?_, fun h => by unfold wtD; rw [if_neg h]⟩
  rcases hd with rfl | rfl | ⟨n, _, _, rfl⟩ | ⟨x, rfl⟩ | ⟨x, _, rfl⟩ | ⟨k, x, hk, rfl, _⟩
  · cases h
  · cases h
  · cases h
  · rfl
  · cases h
  · rcases hk with rfl | rfl <;> cases h
end Go.Proofs.Ytfpjeokncdlofaa
