/- Package lex: Scan. -/
import Derived.Test.YtfpjeokncdlofaaLexR
import Derived.Defers
import Derived.Recover
namespace Go.Proofs.Ytfpjeokncdlofaa
open Go.ChangeShapes Go.WideShapes Go.ChangeAt Go.RowKit Go.Joins
open Go.Proofs.Ytfpjeokncdlofaa.Fn (st st_size st_list st_extract)
set_option linter.unusedVariables false
set_option maxRecDepth 20000

/-- the walk of a part of a body, whatever is asked behind it -/
theorem wp_whatever {P : Program} {c : Code} {a : Act} {w : World} {R : World → Prop} {Q : Exit → Act → World → Prop} (a2 : Act) (ha : a = a2) (h : ∀ Q' : Exit → Act → World → Prop, (∀ t w', R w' → Q' .normal { tmps := t, defers := [] } w') → (∀ t w', R w' → Q' .ret { tmps := t, defers := [] } w') → c.wp P Q' a2 w)
    (h1 : ∀ t w', R w' → Q .normal { tmps := t, defers := [] } w') (h2 : ∀ t w', R w' → Q .ret { tmps := t, defers := [] } w') : c.wp P Q a w := ha ▸ h Q h1 h2
set_option maxHeartbeats 2000000 in
/-- the deferred call of one that returns: nothing is turned -/
theorem catch_idle (p0 p1 p2 : Addr) (w : World) :
    CallsD Try.prog 17 #[.pointer (some p0), .pointer (some p1), .pointer (some p2)] .returning w fun e u' w' => e = .returned (.tuple #[]) ∧ u' = .returning ∧ w' = w := by
  have hne : ∀ W : World, (binOp BinOp.neq 20 .nilIface .nilIface).run Try.prog W = .ok (.bool false) W := fun _ => by kernel_rfl
  refine callsD_of_wpS Try.func17 rfl fun c₀ cs hu => ?_
  apply wpS_seq
  apply wpS_region
  simp [wpOpsS, go_sem, recoverD, hu, Try.ntmps17, Exit.thenS]
  refine wpS_of_wp (wp_whatever (R := fun w' => w' = w) { tmps := #[.pointer (some p0), .pointer (some p1), .pointer (some p2), .nilIface, undef, undef, .nilIface, undef, undef, undef, undef, undef, undef, undef, undef, undef, undef, undef, undef, undef, undef], defers := [] } rfl (fun Q' hn hr => ?_) ?_ ?_)
  · go_wp2_with fail
    exact hn _ _ rfl
  · rintro t w' rfl
    cases c₀
    simp_all [bodyPostS, results, Try.results17]
  · rintro t w' rfl
    cases c₀
    simp_all [bodyPostS, results, Try.results17]
end Go.Proofs.Ytfpjeokncdlofaa
