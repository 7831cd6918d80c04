/-
  DERIVED. GIVEN WITH THE SEED: THE CARDS: each row of YtpacjcgpeomnaaaDoorRows.lean that lists a variable, with what it lists TIED to the program's text (the seventh form; the later family's looks); each row that meets fmt, with fmt's text TOLD by the authors' own Lean function (tested against real Go, not proved from fmt's source: count such statements apart). THE CARD IS WHAT COUNTS. Prove the row's statement (the work); the ties are given (YtpacjcgpeomnaaaDoorTie.lean); close each card by the builder's one call (the guide's Derived/Test/ToyasCard.lean, 'card_holds'). Laid BY PROGRAM, IN A SANDBOX (cutbox-door.mjs). By AI agents, Wed Nov 11 2026. No macro, syntax, notation, axiom, sorry.
-/
import Derived.Test.YtpacjcgpeomnaaaDoorRows
import GoSem.ClaimSeven
namespace Go.Proofs.YtpacjcgpeomnaaaDoor
namespace Rows

/-- THE TIED CARD OF 'scriptorlaw06.ValBytes'. -/
def valBytesCard : Claim7 := { stood := { row := valBytesRow, standIns := [], harness := (true, "350b39af67198accd83579d59750d30167a9dd8ccdec2d87f35e5bd71a115359"), looks := false }, kinds := [], alts := [], laidByText := true, laidKinds := [.data, .data, .data], laidTests := true, laidLooks := .later }
def ValBytesCardSaid : Prop := Claim7.holds Tryd.pinned (.plain (OpenSpec.ofChange valBytesSpec)) valBytesCard

/-- THE TIED CARD OF 'scriptorlaw06.ValReads'. -/
def valReadsCard : Claim7 := { stood := { row := valReadsRow, standIns := [], harness := (true, "350b39af67198accd83579d59750d30167a9dd8ccdec2d87f35e5bd71a115359"), looks := false }, kinds := [], alts := [], laidByText := true, laidKinds := [.data, .data, .data], laidTests := true, laidLooks := .later }
def ValReadsCardSaid : Prop := Claim7.holds Tryd.pinned (.plain (OpenSpec.ofChange valReadsSpec)) valReadsCard

/-- THE TIED CARD OF 'scriptorlaw06.ValBack'. -/
def valBackCard : Claim7 := { stood := { row := valBackRow, standIns := [], harness := (true, "350b39af67198accd83579d59750d30167a9dd8ccdec2d87f35e5bd71a115359"), looks := false }, kinds := [], alts := [], laidByText := true, laidKinds := [.data, .data, .data], laidTests := true, laidLooks := .later }
def ValBackCardSaid : Prop := Claim7.holds Tryd.pinned (.plain (OpenSpec.ofChange valBackSpec)) valBackCard

/-- THE TIED CARD OF 'scriptorlaw06.ValLong'. -/
def valLongCard : Claim7 := { stood := { row := valLongRow, standIns := [], harness := (true, "350b39af67198accd83579d59750d30167a9dd8ccdec2d87f35e5bd71a115359"), looks := false }, kinds := [], alts := [], laidByText := true, laidKinds := [.data, .data, .data], laidTests := true, laidLooks := .later }
def ValLongCardSaid : Prop := Claim7.holds Tryd.pinned (.plain (OpenSpec.ofChange valLongSpec)) valLongCard

/-- THE TIED CARD OF 'scriptorlaw06.ValRefs'. -/
def valRefsCard : Claim7 := { stood := { row := valRefsRow, standIns := [], harness := (true, "350b39af67198accd83579d59750d30167a9dd8ccdec2d87f35e5bd71a115359"), looks := false }, kinds := [], alts := [], laidByText := true, laidKinds := [.data, .data, .data], laidTests := true, laidLooks := .later }
def ValRefsCardSaid : Prop := Claim7.holds Tryd.pinned (.plain (OpenSpec.ofChange valRefsSpec)) valRefsCard

/-- THE TIED CARD OF 'scriptorlaw06.ValMoves'. -/
def valMovesCard : Claim7 := { stood := { row := valMovesRow, standIns := [], harness := (true, "350b39af67198accd83579d59750d30167a9dd8ccdec2d87f35e5bd71a115359"), looks := false }, kinds := [], alts := [], laidByText := true, laidKinds := [.data, .data, .data], laidTests := true, laidLooks := .later }
def ValMovesCardSaid : Prop := Claim7.holds Tryd.pinned (.plain (OpenSpec.ofChange valMovesSpec)) valMovesCard

/-- THE TIED CARD OF 'scriptorlaw06.ValNests'. -/
def valNestsCard : Claim7 := { stood := { row := valNestsRow, standIns := [], harness := (true, "350b39af67198accd83579d59750d30167a9dd8ccdec2d87f35e5bd71a115359"), looks := false }, kinds := [], alts := [], laidByText := true, laidKinds := [.data, .data, .data], laidTests := true, laidLooks := .later }
def ValNestsCardSaid : Prop := Claim7.holds Tryd.pinned (.plain (OpenSpec.ofChange valNestsSpec)) valNestsCard

/-- THE SECOND FORM's CARD OF 'scriptorlaw06.ValBytes'. -/
def valBytesUptoCard : Claim7 := { stood := { row := valBytesUptoRow, standIns := [], harness := (true, "350b39af67198accd83579d59750d30167a9dd8ccdec2d87f35e5bd71a115359"), looks := false }, kinds := [], alts := [], laidByText := true, laidKinds := [.data, .data, .data], laidTests := true, laidLooks := .later }
def ValBytesUptoCardSaid : Prop := Claim7.holds Tryd.pinned (.plain (OpenSpec.upto valBytesSpec)) valBytesUptoCard

/-- THE SECOND FORM's CARD OF 'scriptorlaw06.ValReads'. -/
def valReadsUptoCard : Claim7 := { stood := { row := valReadsUptoRow, standIns := [], harness := (true, "350b39af67198accd83579d59750d30167a9dd8ccdec2d87f35e5bd71a115359"), looks := false }, kinds := [], alts := [], laidByText := true, laidKinds := [.data, .data, .data], laidTests := true, laidLooks := .later }
def ValReadsUptoCardSaid : Prop := Claim7.holds Tryd.pinned (.plain (OpenSpec.upto valReadsSpec)) valReadsUptoCard

/-- THE SECOND FORM's CARD OF 'scriptorlaw06.ValBack'. -/
def valBackUptoCard : Claim7 := { stood := { row := valBackUptoRow, standIns := [], harness := (true, "350b39af67198accd83579d59750d30167a9dd8ccdec2d87f35e5bd71a115359"), looks := false }, kinds := [], alts := [], laidByText := true, laidKinds := [.data, .data, .data], laidTests := true, laidLooks := .later }
def ValBackUptoCardSaid : Prop := Claim7.holds Tryd.pinned (.plain (OpenSpec.upto valBackSpec)) valBackUptoCard

/-- THE SECOND FORM's CARD OF 'scriptorlaw06.ValLong'. -/
def valLongUptoCard : Claim7 := { stood := { row := valLongUptoRow, standIns := [], harness := (true, "350b39af67198accd83579d59750d30167a9dd8ccdec2d87f35e5bd71a115359"), looks := false }, kinds := [], alts := [], laidByText := true, laidKinds := [.data, .data, .data], laidTests := true, laidLooks := .later }
def ValLongUptoCardSaid : Prop := Claim7.holds Tryd.pinned (.plain (OpenSpec.upto valLongSpec)) valLongUptoCard

/-- THE SECOND FORM's CARD OF 'scriptorlaw06.ValRefs'. -/
def valRefsUptoCard : Claim7 := { stood := { row := valRefsUptoRow, standIns := [], harness := (true, "350b39af67198accd83579d59750d30167a9dd8ccdec2d87f35e5bd71a115359"), looks := false }, kinds := [], alts := [], laidByText := true, laidKinds := [.data, .data, .data], laidTests := true, laidLooks := .later }
def ValRefsUptoCardSaid : Prop := Claim7.holds Tryd.pinned (.plain (OpenSpec.upto valRefsSpec)) valRefsUptoCard

/-- THE SECOND FORM's CARD OF 'scriptorlaw06.ValMoves'. -/
def valMovesUptoCard : Claim7 := { stood := { row := valMovesUptoRow, standIns := [], harness := (true, "350b39af67198accd83579d59750d30167a9dd8ccdec2d87f35e5bd71a115359"), looks := false }, kinds := [], alts := [], laidByText := true, laidKinds := [.data, .data, .data], laidTests := true, laidLooks := .later }
def ValMovesUptoCardSaid : Prop := Claim7.holds Tryd.pinned (.plain (OpenSpec.upto valMovesSpec)) valMovesUptoCard

/-- THE SECOND FORM's CARD OF 'scriptorlaw06.ValNests'. -/
def valNestsUptoCard : Claim7 := { stood := { row := valNestsUptoRow, standIns := [], harness := (true, "350b39af67198accd83579d59750d30167a9dd8ccdec2d87f35e5bd71a115359"), looks := false }, kinds := [], alts := [], laidByText := true, laidKinds := [.data, .data, .data], laidTests := true, laidLooks := .later }
def ValNestsUptoCardSaid : Prop := Claim7.holds Tryd.pinned (.plain (OpenSpec.upto valNestsSpec)) valNestsUptoCard
end Rows
end Go.Proofs.YtpacjcgpeomnaaaDoor
