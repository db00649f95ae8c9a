/-
  DERIVED. GIVEN WITH THE SEED: THE CARDS: each row of YtofglikppppjoacDoorRows.lean that lists a variable, with what it lists TIED to the program's text (the seventh form; the later family's looks); each row that meets fmt, with fmt's text TOLD by the authors' own Lean function (tested against real Go, not proved from fmt's source: count such statements apart). THE CARD IS WHAT COUNTS. Prove the row's statement (the work); the ties are given (YtofglikppppjoacDoorTie.lean); close each card by the builder's one call (the guide's Derived/Test/ToyasCard.lean, 'card_holds'). Laid BY PROGRAM, IN A SANDBOX (cutbox-door.mjs). By AI agents, Wed Nov 11 2026. No macro, syntax, notation, axiom, sorry.
-/
import Derived.Test.YtofglikppppjoacDoorRows
import GoSem.ClaimSeven
namespace Go.Proofs.YtofglikppppjoacDoor
namespace Rows

/-- THE TIED CARD OF 'laws.FnExactNodeHash'. -/
def fnExactNodeHashCard : Claim7 := { stood := { row := fnExactNodeHashRow, standIns := [], harness := (true, "22cc609208b855ad7ee5d8deac199c4044d8f8604dac594abb527c8ea0c1a16c"), looks := false }, kinds := [], alts := [], laidByText := true, laidKinds := [.data], laidTests := true, laidLooks := .later }
def FnExactNodeHashCardSaid : Prop := Claim7.holds Tryd.pinned (.plain (OpenSpec.ofChange fnExactNodeHashSpec)) fnExactNodeHashCard

/-- THE TIED CARD OF 'laws.FnExactPoolFind'. -/
def fnExactPoolFindCard : Claim7 := { stood := { row := fnExactPoolFindRow, standIns := [], harness := (true, "22cc609208b855ad7ee5d8deac199c4044d8f8604dac594abb527c8ea0c1a16c"), looks := false }, kinds := [], alts := [], laidByText := true, laidKinds := [.data], laidTests := true, laidLooks := .later }
def FnExactPoolFindCardSaid : Prop := Claim7.holds Tryd.pinned (.plain (OpenSpec.ofChange fnExactPoolFindSpec)) fnExactPoolFindCard

/-- THE TIED CARD OF 'laws.FnExactRoot'. -/
def fnExactRootCard : Claim7 := { stood := { row := fnExactRootRow, standIns := [], harness := (true, "22cc609208b855ad7ee5d8deac199c4044d8f8604dac594abb527c8ea0c1a16c"), looks := false }, kinds := [], alts := [], laidByText := true, laidKinds := [.data], laidTests := true, laidLooks := .later }
def FnExactRootCardSaid : Prop := Claim7.holds Tryd.pinned (.plain (OpenSpec.ofChange fnExactRootSpec)) fnExactRootCard

/-- THE TIED CARD OF 'laws.FnExactClash'. -/
def fnExactClashCard : Claim7 := { stood := { row := fnExactClashRow, standIns := [], harness := (true, "22cc609208b855ad7ee5d8deac199c4044d8f8604dac594abb527c8ea0c1a16c"), looks := false }, kinds := [], alts := [], laidByText := true, laidKinds := [.data], laidTests := true, laidLooks := .later }
def FnExactClashCardSaid : Prop := Claim7.holds Tryd.pinned (.plain (OpenSpec.ofChange fnExactClashSpec)) fnExactClashCard

/-- THE SECOND FORM's CARD OF 'laws.FnExactNodeHash'. -/
def fnExactNodeHashUptoCard : Claim7 := { stood := { row := fnExactNodeHashUptoRow, standIns := [], harness := (true, "22cc609208b855ad7ee5d8deac199c4044d8f8604dac594abb527c8ea0c1a16c"), looks := false }, kinds := [], alts := [], laidByText := true, laidKinds := [.data], laidTests := true, laidLooks := .later }
def FnExactNodeHashUptoCardSaid : Prop := Claim7.holds Tryd.pinned (.plain (OpenSpec.upto fnExactNodeHashSpec)) fnExactNodeHashUptoCard

/-- THE SECOND FORM's CARD OF 'laws.FnExactPoolFind'. -/
def fnExactPoolFindUptoCard : Claim7 := { stood := { row := fnExactPoolFindUptoRow, standIns := [], harness := (true, "22cc609208b855ad7ee5d8deac199c4044d8f8604dac594abb527c8ea0c1a16c"), looks := false }, kinds := [], alts := [], laidByText := true, laidKinds := [.data], laidTests := true, laidLooks := .later }
def FnExactPoolFindUptoCardSaid : Prop := Claim7.holds Tryd.pinned (.plain (OpenSpec.upto fnExactPoolFindSpec)) fnExactPoolFindUptoCard

/-- THE SECOND FORM's CARD OF 'laws.FnExactRoot'. -/
def fnExactRootUptoCard : Claim7 := { stood := { row := fnExactRootUptoRow, standIns := [], harness := (true, "22cc609208b855ad7ee5d8deac199c4044d8f8604dac594abb527c8ea0c1a16c"), looks := false }, kinds := [], alts := [], laidByText := true, laidKinds := [.data], laidTests := true, laidLooks := .later }
def FnExactRootUptoCardSaid : Prop := Claim7.holds Tryd.pinned (.plain (OpenSpec.upto fnExactRootSpec)) fnExactRootUptoCard

/-- THE SECOND FORM's CARD OF 'laws.FnExactClash'. -/
def fnExactClashUptoCard : Claim7 := { stood := { row := fnExactClashUptoRow, standIns := [], harness := (true, "22cc609208b855ad7ee5d8deac199c4044d8f8604dac594abb527c8ea0c1a16c"), looks := false }, kinds := [], alts := [], laidByText := true, laidKinds := [.data], laidTests := true, laidLooks := .later }
def FnExactClashUptoCardSaid : Prop := Claim7.holds Tryd.pinned (.plain (OpenSpec.upto fnExactClashSpec)) fnExactClashUptoCard
end Rows
end Go.Proofs.YtofglikppppjoacDoor
