/-
  DERIVED. GIVEN WITH THE SEED: THE CARDS: each row of YtcjffghdojfnbabDoorRows.lean that lists a variable, with what it lists TIED to the program's text (the seventh form; the later family's looks); each row that meets fmt, with fmt's text TOLD by the authors' own Lean function (tested against real Go, not proved from fmt's source: count such statements apart). THE CARD IS WHAT COUNTS. Prove the row's statement (the work); the ties are given (YtcjffghdojfnbabDoorTie.lean); close each card by the builder's one call (the guide's Derived/Test/ToyasCard.lean, 'card_holds'). Laid BY PROGRAM, IN A SANDBOX (cutbox-door.mjs). By AI agents, Wed Nov 11 2026. No macro, syntax, notation, axiom, sorry.
-/
import Derived.Test.YtcjffghdojfnbabDoorRows
import GoSem.ClaimSeven
namespace Go.Proofs.YtcjffghdojfnbabDoor
namespace Rows

/-- THE TIED CARD OF 'laws.FnExactDigest'. -/
def fnExactDigestCard : Claim7 := { stood := { row := fnExactDigestRow, standIns := [], harness := (true, "df41e47d26c62e94d128e13aafe0e09efe21d6466a3a06bbee786c9516f5d49c"), looks := false }, kinds := [], alts := [], laidByText := true, laidKinds := [.data], laidTests := true, laidLooks := .later }
def FnExactDigestCardSaid : Prop := Claim7.holds Tryd.pinned (.plain (OpenSpec.ofChange fnExactDigestSpec)) fnExactDigestCard

/-- THE TIED CARD OF 'laws.FnExactHigher'. -/
def fnExactHigherCard : Claim7 := { stood := { row := fnExactHigherRow, standIns := [], harness := (true, "df41e47d26c62e94d128e13aafe0e09efe21d6466a3a06bbee786c9516f5d49c"), looks := false }, kinds := [], alts := [], laidByText := true, laidKinds := [.data], laidTests := true, laidLooks := .later }
def FnExactHigherCardSaid : Prop := Claim7.holds Tryd.pinned (.plain (OpenSpec.ofChange fnExactHigherSpec)) fnExactHigherCard

/-- THE SECOND FORM's CARD OF 'laws.FnExactDigest'. -/
def fnExactDigestUptoCard : Claim7 := { stood := { row := fnExactDigestUptoRow, standIns := [], harness := (true, "df41e47d26c62e94d128e13aafe0e09efe21d6466a3a06bbee786c9516f5d49c"), looks := false }, kinds := [], alts := [], laidByText := true, laidKinds := [.data], laidTests := true, laidLooks := .later }
def FnExactDigestUptoCardSaid : Prop := Claim7.holds Tryd.pinned (.plain (OpenSpec.upto fnExactDigestSpec)) fnExactDigestUptoCard

/-- THE SECOND FORM's CARD OF 'laws.FnExactHigher'. -/
def fnExactHigherUptoCard : Claim7 := { stood := { row := fnExactHigherUptoRow, standIns := [], harness := (true, "df41e47d26c62e94d128e13aafe0e09efe21d6466a3a06bbee786c9516f5d49c"), looks := false }, kinds := [], alts := [], laidByText := true, laidKinds := [.data], laidTests := true, laidLooks := .later }
def FnExactHigherUptoCardSaid : Prop := Claim7.holds Tryd.pinned (.plain (OpenSpec.upto fnExactHigherSpec)) fnExactHigherUptoCard
end Rows
end Go.Proofs.YtcjffghdojfnbabDoor
