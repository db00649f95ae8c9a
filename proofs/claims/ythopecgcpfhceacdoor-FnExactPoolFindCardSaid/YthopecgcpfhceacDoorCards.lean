/-
  DERIVED. GIVEN WITH THE SEED: THE CARDS: each row of YthopecgcpfhceacDoorRows.lean that lists a variable, with what it lists TIED to the program's text (the seventh form; the later family's looks); each row that meets fmt, with fmt's text TOLD by the authors' own Lean function (tested against real Go, not proved from fmt's source: count such statements apart). THE CARD IS WHAT COUNTS. Prove the row's statement (the work); the ties are given (YthopecgcpfhceacDoorTie.lean); close each card by the builder's one call (the guide's Derived/Test/ToyasCard.lean, 'card_holds'). Laid BY PROGRAM, IN A SANDBOX (cutbox-door.mjs). By AI agents, Wed Nov 11 2026. No macro, syntax, notation, axiom, sorry.
-/
import Derived.Test.YthopecgcpfhceacDoorRows
import GoSem.ClaimSeven
namespace Go.Proofs.YthopecgcpfhceacDoor
namespace Rows

/-- THE TIED CARD OF 'laws.FnExactNodeHash'. -/
def fnExactNodeHashCard : Claim7 := { stood := { row := fnExactNodeHashRow, standIns := [], harness := (true, "a150fb694b5dcdfa4df0eeacc6147b981d53ae016e7dc69b853f7dc20ea4c6e1"), looks := false }, kinds := [], alts := [], laidByText := true, laidKinds := [.data], laidTests := true, laidLooks := .later }
def FnExactNodeHashCardSaid : Prop := Claim7.holds Tryd.pinned (.plain (OpenSpec.ofChange fnExactNodeHashSpec)) fnExactNodeHashCard

/-- THE TIED CARD OF 'laws.FnExactPoolFind'. -/
def fnExactPoolFindCard : Claim7 := { stood := { row := fnExactPoolFindRow, standIns := [], harness := (true, "a150fb694b5dcdfa4df0eeacc6147b981d53ae016e7dc69b853f7dc20ea4c6e1"), looks := false }, kinds := [], alts := [], laidByText := true, laidKinds := [.data], laidTests := true, laidLooks := .later }
def FnExactPoolFindCardSaid : Prop := Claim7.holds Tryd.pinned (.plain (OpenSpec.ofChange fnExactPoolFindSpec)) fnExactPoolFindCard

/-- THE SECOND FORM's CARD OF 'laws.FnExactNodeHash'. -/
def fnExactNodeHashUptoCard : Claim7 := { stood := { row := fnExactNodeHashUptoRow, standIns := [], harness := (true, "a150fb694b5dcdfa4df0eeacc6147b981d53ae016e7dc69b853f7dc20ea4c6e1"), looks := false }, kinds := [], alts := [], laidByText := true, laidKinds := [.data], laidTests := true, laidLooks := .later }
def FnExactNodeHashUptoCardSaid : Prop := Claim7.holds Tryd.pinned (.plain (OpenSpec.upto fnExactNodeHashSpec)) fnExactNodeHashUptoCard

/-- THE SECOND FORM's CARD OF 'laws.FnExactPoolFind'. -/
def fnExactPoolFindUptoCard : Claim7 := { stood := { row := fnExactPoolFindUptoRow, standIns := [], harness := (true, "a150fb694b5dcdfa4df0eeacc6147b981d53ae016e7dc69b853f7dc20ea4c6e1"), looks := false }, kinds := [], alts := [], laidByText := true, laidKinds := [.data], laidTests := true, laidLooks := .later }
def FnExactPoolFindUptoCardSaid : Prop := Claim7.holds Tryd.pinned (.plain (OpenSpec.upto fnExactPoolFindSpec)) fnExactPoolFindUptoCard
end Rows
end Go.Proofs.YthopecgcpfhceacDoor
