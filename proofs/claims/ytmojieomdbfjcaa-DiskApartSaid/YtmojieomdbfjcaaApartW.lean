/- DiskApart: from what the statement's arguments hold. -/
import Derived.Test.YtmojieomdbfjcaaApart
namespace Go.Proofs.Ytmojieomdbfjcaa
open Go.ChangeShapes Go.WideShapes Go.ChangeAt Go.RowKit

theorem acts_of {w : World} {a : Option Addr} {len cap : Nat} {z : List (Int × Int × Int)} (h : IsR3 5 .i64 .i64 .u8 w a len cap z) :
    ActsAt w a len (fun i => (z.getD i (0, 0, 0)).1) (fun i => (z.getD i (0, 0, 0)).2.1) (fun i => (z.getD i (0, 0, 0)).2.2) := by
  rcases h with ⟨_, h, _, _⟩ | ⟨x, rfl, h1, h2, h3, h4, _⟩
  · intro i hi; omega
  · intro i hi
    obtain ⟨g, o, rfl⟩ := spot_none (by have := (h4 0 (by omega)).1; rwa [Nat.zero_mul] at this)
    obtain ⟨c0, c1, c2⟩ := h4 i (by omega)
    rw [add_at] at c0 c1 c2
    exact ⟨g, o, rfl, c0, c1, c2⟩
theorem diskApart_walk (a0 : Option Addr) (len0 cap0 : Nat) (z0 : List (Int × Int × Int)) (a1 : Option Addr) (len1 cap1 : Nat) (z1 : List (Int × Int × Int)) (w : World)
    (w0 : IsR3 5 .i64 .i64 .u8 w a0 len0 cap0 z0) (w1 : IsR3 5 .i64 .i64 .u8 w a1 len1 cap1 z1) :
    Calls Try.prog 5 #[.slice a0 len0 cap0, .slice a1 len1 cap1] w fun e w' => e = .returned (.bool true) ∧ Below w.heap.size w w' :=
  apart_mid a0 len0 cap0 a1 len1 cap1 w _ _ _ _ _ _ (acts_of w0) (acts_of w1)
end Go.Proofs.Ytmojieomdbfjcaa
