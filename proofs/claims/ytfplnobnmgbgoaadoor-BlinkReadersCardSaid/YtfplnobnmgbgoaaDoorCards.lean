/-
  DERIVED. GIVEN WITH THE SEED: THE CARDS: each row of YtfplnobnmgbgoaaDoorRows.lean that lists a variable, with what it lists TIED to the program's text (the seventh form; the later family's looks); each row that meets fmt, with fmt's text TOLD by the authors' own Lean function (tested against real Go, not proved from fmt's source: count such statements apart). THE CARD IS WHAT COUNTS. Prove the row's statement (the work); the ties are given (YtfplnobnmgbgoaaDoorTie.lean); close each card by the builder's one call (the guide's Derived/Test/ToyasCard.lean, 'card_holds'). Laid BY PROGRAM, IN A SANDBOX (cutbox-door.mjs). By AI agents, Wed Nov 11 2026. No macro, syntax, notation, axiom, sorry.
-/
import Derived.Test.YtfplnobnmgbgoaaDoorRows
import GoSem.ClaimSeven
namespace Go.Proofs.YtfplnobnmgbgoaaDoor
namespace Rows

/-- THE TIED CARD OF 'marshallinglaw10.BlinkReaders'. -/
def blinkReadersCard : Claim7 := { stood := { row := blinkReadersRow, standIns := [], harness := (true, "0c755030ee52d9972b8e8f627285ba978470c20e57261b72fd42ff181bdca1f7"), looks := false }, kinds := [], alts := [], laidByText := true, laidKinds := [.data], laidTests := true, laidLooks := .later }
def BlinkReadersCardSaid : Prop := Claim7.holds Tryd.pinned (.plain (OpenSpec.ofChange blinkReadersSpec)) blinkReadersCard

/-- THE TIED CARD OF 'marshallinglaw10.BlinkKeeps'. -/
def blinkKeepsCard : Claim7 := { stood := { row := blinkKeepsRow, standIns := [], harness := (true, "0c755030ee52d9972b8e8f627285ba978470c20e57261b72fd42ff181bdca1f7"), looks := false }, kinds := [], alts := [], laidByText := true, laidKinds := [.data], laidTests := true, laidLooks := .later }
def BlinkKeepsCardSaid : Prop := Claim7.holds Tryd.pinned (.plain (OpenSpec.ofChange blinkKeepsSpec)) blinkKeepsCard

/-- THE TIED CARD OF 'marshallinglaw10.BlinkAlike'. -/
def blinkAlikeCard : Claim7 := { stood := { row := blinkAlikeRow, standIns := [], harness := (true, "0c755030ee52d9972b8e8f627285ba978470c20e57261b72fd42ff181bdca1f7"), looks := false }, kinds := [], alts := [], laidByText := true, laidKinds := [.data], laidTests := true, laidLooks := .later }
def BlinkAlikeCardSaid : Prop := Claim7.holds Tryd.pinned (.plain (OpenSpec.ofChange blinkAlikeSpec)) blinkAlikeCard

/-- THE SECOND FORM's CARD OF 'marshallinglaw10.BlinkReaders'. -/
def blinkReadersUptoCard : Claim7 := { stood := { row := blinkReadersUptoRow, standIns := [], harness := (true, "0c755030ee52d9972b8e8f627285ba978470c20e57261b72fd42ff181bdca1f7"), looks := false }, kinds := [], alts := [], laidByText := true, laidKinds := [.data], laidTests := true, laidLooks := .later }
def BlinkReadersUptoCardSaid : Prop := Claim7.holds Tryd.pinned (.plain (OpenSpec.upto blinkReadersSpec)) blinkReadersUptoCard

/-- THE SECOND FORM's CARD OF 'marshallinglaw10.BlinkKeeps'. -/
def blinkKeepsUptoCard : Claim7 := { stood := { row := blinkKeepsUptoRow, standIns := [], harness := (true, "0c755030ee52d9972b8e8f627285ba978470c20e57261b72fd42ff181bdca1f7"), looks := false }, kinds := [], alts := [], laidByText := true, laidKinds := [.data], laidTests := true, laidLooks := .later }
def BlinkKeepsUptoCardSaid : Prop := Claim7.holds Tryd.pinned (.plain (OpenSpec.upto blinkKeepsSpec)) blinkKeepsUptoCard

/-- THE SECOND FORM's CARD OF 'marshallinglaw10.BlinkAlike'. -/
def blinkAlikeUptoCard : Claim7 := { stood := { row := blinkAlikeUptoRow, standIns := [], harness := (true, "0c755030ee52d9972b8e8f627285ba978470c20e57261b72fd42ff181bdca1f7"), looks := false }, kinds := [], alts := [], laidByText := true, laidKinds := [.data], laidTests := true, laidLooks := .later }
def BlinkAlikeUptoCardSaid : Prop := Claim7.holds Tryd.pinned (.plain (OpenSpec.upto blinkAlikeSpec)) blinkAlikeUptoCard
end Rows
end Go.Proofs.YtfplnobnmgbgoaaDoor
