/-
  DERIVED. GIVEN WITH THE SEED: THE CARDS: each row of YtibjhkpgaaapaaaGreatDoorRows.lean that lists a variable, with what it lists TIED to the program's text (the seventh form; the later family's looks); each row that meets fmt, with fmt's text TOLD by the authors' own Lean function (tested against real Go, not proved from fmt's source: count such statements apart). THE CARD IS WHAT COUNTS. Prove the row's statement (the work); the ties are given (YtibjhkpgaaapaaaGreatDoorTie.lean); close each card by the builder's one call (the guide's Derived/Test/ToyasCard.lean, 'card_holds'). Laid BY PROGRAM, IN A SANDBOX (cutbox-door.mjs). By AI agents, Wed Nov 11 2026. No macro, syntax, notation, axiom, sorry.
-/
import Derived.Test.YtibjhkpgaaapaaaGreatDoorRows
import GoSem.ClaimSeven
namespace Go.Proofs.YtibjhkpgaaapaaaGreatDoor
namespace Rows

/-- THE TIED CARD OF 'laws.FnExactExtract'. -/
def fnExactExtractCard : Claim7 := { stood := { row := fnExactExtractRow, standIns := [], harness := (true, "9752752670648cd30e94539c1d07e0ebfffe27977b24f3669cdb05215ea4a93b"), looks := true }, kinds := [], alts := [], laidByText := true, laidKinds := [.data], laidTests := true, laidLooks := .later }
def FnExactExtractCardSaid : Prop := Claim7.holds Tryz.pinned (.plain (OpenSpec.ofChange fnExactExtractSpec)) fnExactExtractCard

/-- THE TIED CARD OF 'laws.FnExactProve'. -/
def fnExactProveCard : Claim7 := { stood := { row := fnExactProveRow, standIns := [], harness := (true, "9752752670648cd30e94539c1d07e0ebfffe27977b24f3669cdb05215ea4a93b"), looks := true }, kinds := [], alts := [], laidByText := true, laidKinds := [.data], laidTests := true, laidLooks := .later }
def FnExactProveCardSaid : Prop := Claim7.holds Tryz.pinned (.plain (OpenSpec.ofChange fnExactProveSpec)) fnExactProveCard

/-- THE TIED CARD OF 'laws.FnExactVerify'. -/
def fnExactVerifyCard : Claim7 := { stood := { row := fnExactVerifyRow, standIns := [], harness := (true, "9752752670648cd30e94539c1d07e0ebfffe27977b24f3669cdb05215ea4a93b"), looks := true }, kinds := [], alts := [], laidByText := true, laidKinds := [.data], laidTests := true, laidLooks := .later }
def FnExactVerifyCardSaid : Prop := Claim7.holds Tryz.pinned (.plain (OpenSpec.ofChange fnExactVerifySpec)) fnExactVerifyCard

/-- THE TIED CARD OF 'laws.FnForge'. -/
def fnForgeCard : Claim7 := { stood := { row := fnForgeRow, standIns := [], harness := (true, "9752752670648cd30e94539c1d07e0ebfffe27977b24f3669cdb05215ea4a93b"), looks := true }, kinds := [], alts := [], laidByText := true, laidKinds := [.data], laidTests := true, laidLooks := .later }
def FnForgeCardSaid : Prop := Claim7.holds Tryz.pinned (.plain (OpenSpec.ofChange fnForgeSpec)) fnForgeCard

/-- THE TIED CARD OF 'laws.FnProve'. -/
def fnProveCard : Claim7 := { stood := { row := fnProveRow, standIns := [], harness := (true, "9752752670648cd30e94539c1d07e0ebfffe27977b24f3669cdb05215ea4a93b"), looks := true }, kinds := [], alts := [], laidByText := true, laidKinds := [.data], laidTests := true, laidLooks := .later }
def FnProveCardSaid : Prop := Claim7.holds Tryz.pinned (.plain (OpenSpec.ofChange fnProveSpec)) fnProveCard

/-- THE TIED CARD OF 'laws.FnTamper'. -/
def fnTamperCard : Claim7 := { stood := { row := fnTamperRow, standIns := [], harness := (true, "9752752670648cd30e94539c1d07e0ebfffe27977b24f3669cdb05215ea4a93b"), looks := true }, kinds := [], alts := [], laidByText := true, laidKinds := [.data], laidTests := true, laidLooks := .later }
def FnTamperCardSaid : Prop := Claim7.holds Tryz.pinned (.plain (OpenSpec.ofChange fnTamperSpec)) fnTamperCard

/-- THE SECOND FORM's CARD OF 'laws.FnExactExtract'. -/
def fnExactExtractUptoCard : Claim7 := { stood := { row := fnExactExtractUptoRow, standIns := [], harness := (true, "9752752670648cd30e94539c1d07e0ebfffe27977b24f3669cdb05215ea4a93b"), looks := true }, kinds := [], alts := [], laidByText := true, laidKinds := [.data], laidTests := true, laidLooks := .later }
def FnExactExtractUptoCardSaid : Prop := Claim7.holds Tryz.pinned (.plain (OpenSpec.upto fnExactExtractSpec)) fnExactExtractUptoCard

/-- THE SECOND FORM's CARD OF 'laws.FnExactProve'. -/
def fnExactProveUptoCard : Claim7 := { stood := { row := fnExactProveUptoRow, standIns := [], harness := (true, "9752752670648cd30e94539c1d07e0ebfffe27977b24f3669cdb05215ea4a93b"), looks := true }, kinds := [], alts := [], laidByText := true, laidKinds := [.data], laidTests := true, laidLooks := .later }
def FnExactProveUptoCardSaid : Prop := Claim7.holds Tryz.pinned (.plain (OpenSpec.upto fnExactProveSpec)) fnExactProveUptoCard

/-- THE SECOND FORM's CARD OF 'laws.FnExactVerify'. -/
def fnExactVerifyUptoCard : Claim7 := { stood := { row := fnExactVerifyUptoRow, standIns := [], harness := (true, "9752752670648cd30e94539c1d07e0ebfffe27977b24f3669cdb05215ea4a93b"), looks := true }, kinds := [], alts := [], laidByText := true, laidKinds := [.data], laidTests := true, laidLooks := .later }
def FnExactVerifyUptoCardSaid : Prop := Claim7.holds Tryz.pinned (.plain (OpenSpec.upto fnExactVerifySpec)) fnExactVerifyUptoCard

/-- THE SECOND FORM's CARD OF 'laws.FnForge'. -/
def fnForgeUptoCard : Claim7 := { stood := { row := fnForgeUptoRow, standIns := [], harness := (true, "9752752670648cd30e94539c1d07e0ebfffe27977b24f3669cdb05215ea4a93b"), looks := true }, kinds := [], alts := [], laidByText := true, laidKinds := [.data], laidTests := true, laidLooks := .later }
def FnForgeUptoCardSaid : Prop := Claim7.holds Tryz.pinned (.plain (OpenSpec.upto fnForgeSpec)) fnForgeUptoCard

/-- THE SECOND FORM's CARD OF 'laws.FnProve'. -/
def fnProveUptoCard : Claim7 := { stood := { row := fnProveUptoRow, standIns := [], harness := (true, "9752752670648cd30e94539c1d07e0ebfffe27977b24f3669cdb05215ea4a93b"), looks := true }, kinds := [], alts := [], laidByText := true, laidKinds := [.data], laidTests := true, laidLooks := .later }
def FnProveUptoCardSaid : Prop := Claim7.holds Tryz.pinned (.plain (OpenSpec.upto fnProveSpec)) fnProveUptoCard

/-- THE SECOND FORM's CARD OF 'laws.FnTamper'. -/
def fnTamperUptoCard : Claim7 := { stood := { row := fnTamperUptoRow, standIns := [], harness := (true, "9752752670648cd30e94539c1d07e0ebfffe27977b24f3669cdb05215ea4a93b"), looks := true }, kinds := [], alts := [], laidByText := true, laidKinds := [.data], laidTests := true, laidLooks := .later }
def FnTamperUptoCardSaid : Prop := Claim7.holds Tryz.pinned (.plain (OpenSpec.upto fnTamperSpec)) fnTamperUptoCard
end Rows
end Go.Proofs.YtibjhkpgaaapaaaGreatDoor
