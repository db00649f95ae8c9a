/-
  DERIVED. GIVEN WITH THE SEED: THE CARDS: each row of YtgicihmdcnelaaaGreatDoorRows.lean that lists a variable, with what it lists TIED to the program's text (the seventh form; the later family's looks); each row that meets fmt, with fmt's text TOLD by the authors' own Lean function (tested against real Go, not proved from fmt's source: count such statements apart). THE CARD IS WHAT COUNTS. Prove the row's statement (the work); the ties are given (YtgicihmdcnelaaaGreatDoorTie.lean); close each card by the builder's one call (the guide's Derived/Test/ToyasCard.lean, 'card_holds'). Laid BY PROGRAM, IN A SANDBOX (cutbox-door.mjs). By AI agents, Wed Nov 11 2026. No macro, syntax, notation, axiom, sorry.
-/
import Derived.Test.YtgicihmdcnelaaaGreatDoorRows
import GoSem.ClaimSeven
namespace Go.Proofs.YtgicihmdcnelaaaGreatDoor
namespace Rows

/-- THE TIED CARD OF 'laws.FnExactSave'. -/
def fnExactSaveCard : Claim7 := { stood := { row := fnExactSaveRow, standIns := [], harness := (true, "1bac81c2d558b02980c130083d33c15ad8bcbdc71522f2891fa66fa74d357fa5"), looks := false }, kinds := [], alts := [], laidByText := true, laidKinds := [.data], laidTests := true, laidLooks := .later }
def FnExactSaveCardSaid : Prop := Claim7.holds Tryz.pinned (.plain (OpenSpec.ofChange fnExactSaveSpec)) fnExactSaveCard

/-- THE TIED CARD OF 'laws.FnExactDel'. -/
def fnExactDelCard : Claim7 := { stood := { row := fnExactDelRow, standIns := [], harness := (true, "1bac81c2d558b02980c130083d33c15ad8bcbdc71522f2891fa66fa74d357fa5"), looks := false }, kinds := [], alts := [], laidByText := true, laidKinds := [.data], laidTests := true, laidLooks := .later }
def FnExactDelCardSaid : Prop := Claim7.holds Tryz.pinned (.plain (OpenSpec.ofChange fnExactDelSpec)) fnExactDelCard

/-- THE TIED CARD OF 'laws.FnExactPut'. -/
def fnExactPutCard : Claim7 := { stood := { row := fnExactPutRow, standIns := [], harness := (true, "1bac81c2d558b02980c130083d33c15ad8bcbdc71522f2891fa66fa74d357fa5"), looks := false }, kinds := [], alts := [], laidByText := true, laidKinds := [.data], laidTests := true, laidLooks := .later }
def FnExactPutCardSaid : Prop := Claim7.holds Tryz.pinned (.plain (OpenSpec.ofChange fnExactPutSpec)) fnExactPutCard

/-- THE SECOND FORM's CARD OF 'laws.FnExactSave'. -/
def fnExactSaveUptoCard : Claim7 := { stood := { row := fnExactSaveUptoRow, standIns := [], harness := (true, "1bac81c2d558b02980c130083d33c15ad8bcbdc71522f2891fa66fa74d357fa5"), looks := false }, kinds := [], alts := [], laidByText := true, laidKinds := [.data], laidTests := true, laidLooks := .later }
def FnExactSaveUptoCardSaid : Prop := Claim7.holds Tryz.pinned (.plain (OpenSpec.upto fnExactSaveSpec)) fnExactSaveUptoCard

/-- THE SECOND FORM's CARD OF 'laws.FnExactDel'. -/
def fnExactDelUptoCard : Claim7 := { stood := { row := fnExactDelUptoRow, standIns := [], harness := (true, "1bac81c2d558b02980c130083d33c15ad8bcbdc71522f2891fa66fa74d357fa5"), looks := false }, kinds := [], alts := [], laidByText := true, laidKinds := [.data], laidTests := true, laidLooks := .later }
def FnExactDelUptoCardSaid : Prop := Claim7.holds Tryz.pinned (.plain (OpenSpec.upto fnExactDelSpec)) fnExactDelUptoCard

/-- THE SECOND FORM's CARD OF 'laws.FnExactPut'. -/
def fnExactPutUptoCard : Claim7 := { stood := { row := fnExactPutUptoRow, standIns := [], harness := (true, "1bac81c2d558b02980c130083d33c15ad8bcbdc71522f2891fa66fa74d357fa5"), looks := false }, kinds := [], alts := [], laidByText := true, laidKinds := [.data], laidTests := true, laidLooks := .later }
def FnExactPutUptoCardSaid : Prop := Claim7.holds Tryz.pinned (.plain (OpenSpec.upto fnExactPutSpec)) fnExactPutUptoCard
end Rows
end Go.Proofs.YtgicihmdcnelaaaGreatDoor
