/-
  DERIVED. GIVEN WITH THE SEED: THE CARDS: each row of YtdnbhejacpjgfaaGreatDoorRows.lean that lists a variable, with what it lists TIED to the program's text (the seventh form; the later family's looks); each row that meets fmt, with fmt's text TOLD by the authors' own Lean function (tested against real Go, not proved from fmt's source: count such statements apart). THE CARD IS WHAT COUNTS. Prove the row's statement (the work); the ties are given (YtdnbhejacpjgfaaGreatDoorTie.lean); close each card by the builder's one call (the guide's Derived/Test/ToyasCard.lean, 'card_holds'). Laid BY PROGRAM, IN A SANDBOX (cutbox-door.mjs). By AI agents, Wed Nov 11 2026. No macro, syntax, notation, axiom, sorry.
-/
import Derived.Test.YtdnbhejacpjgfaaGreatDoorRows
import GoSem.ClaimSeven
namespace Go.Proofs.YtdnbhejacpjgfaaGreatDoor
namespace Rows

/-- THE TIED CARD OF 'laws.FnExactRange'. -/
def fnExactRangeCard : Claim7 := { stood := { row := fnExactRangeRow, standIns := [], harness := (true, "e9b91536aacc16d43a48d6341cd459acd837c39c9e1b08e1de4dbaa820fa0973"), looks := false }, kinds := [], alts := [], laidByText := true, laidKinds := [.data], laidTests := true, laidLooks := .later }
def FnExactRangeCardSaid : Prop := Claim7.holds Tryz.pinned (.plain (OpenSpec.ofChange fnExactRangeSpec)) fnExactRangeCard

/-- THE SECOND FORM's CARD OF 'laws.FnExactRange'. -/
def fnExactRangeUptoCard : Claim7 := { stood := { row := fnExactRangeUptoRow, standIns := [], harness := (true, "e9b91536aacc16d43a48d6341cd459acd837c39c9e1b08e1de4dbaa820fa0973"), looks := false }, kinds := [], alts := [], laidByText := true, laidKinds := [.data], laidTests := true, laidLooks := .later }
def FnExactRangeUptoCardSaid : Prop := Claim7.holds Tryz.pinned (.plain (OpenSpec.upto fnExactRangeSpec)) fnExactRangeUptoCard
end Rows
end Go.Proofs.YtdnbhejacpjgfaaGreatDoor
