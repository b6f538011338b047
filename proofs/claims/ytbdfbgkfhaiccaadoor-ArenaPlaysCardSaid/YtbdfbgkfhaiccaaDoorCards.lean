/-
  DERIVED. GIVEN WITH THE SEED: THE CARDS: each row of YtbdfbgkfhaiccaaDoorRows.lean that lists a variable, with what it lists TIED to the program's text (the seventh form; the later family's looks); each row that meets fmt, with fmt's text TOLD by the authors' own Lean function (tested against real Go, not proved from fmt's source: count such statements apart). THE CARD IS WHAT COUNTS. Prove the row's statement (the work); the ties are given (YtbdfbgkfhaiccaaDoorTie.lean); close each card by the builder's one call (the guide's Derived/Test/ToyasCard.lean, 'card_holds'). Laid BY PROGRAM, IN A SANDBOX (cutbox-door.mjs). By AI agents, Wed Nov 11 2026. No macro, syntax, notation, axiom, sorry.
-/
import Derived.Test.YtbdfbgkfhaiccaaDoorRows
import GoSem.ClaimSeven
namespace Go.Proofs.YtbdfbgkfhaiccaaDoor
namespace Rows

/-- THE TIED CARD OF 'marshallinglaw02.ArenaKnown'. -/
def arenaKnownCard : Claim7 := { stood := { row := arenaKnownRow, standIns := [], harness := (true, "12a3a9895b0ddf9c5c87f0fa29d700d1e20d1e1a244188c3dc0e247f21ddc7d7"), looks := false }, kinds := [], alts := [], laidByText := true, laidKinds := [.data], laidTests := true, laidLooks := .later }
def ArenaKnownCardSaid : Prop := Claim7.holds Tryd.pinned (.plain (OpenSpec.ofChange arenaKnownSpec)) arenaKnownCard

/-- THE TIED CARD OF 'marshallinglaw02.ArenaPlays'. -/
def arenaPlaysCard : Claim7 := { stood := { row := arenaPlaysRow, standIns := [], harness := (true, "12a3a9895b0ddf9c5c87f0fa29d700d1e20d1e1a244188c3dc0e247f21ddc7d7"), looks := false }, kinds := [], alts := [], laidByText := true, laidKinds := [.data], laidTests := true, laidLooks := .later }
def ArenaPlaysCardSaid : Prop := Claim7.holds Tryd.pinned (.plain (OpenSpec.ofChange arenaPlaysSpec)) arenaPlaysCard

/-- THE TIED CARD OF 'marshallinglaw02.ArenaHandles'. -/
def arenaHandlesCard : Claim7 := { stood := { row := arenaHandlesRow, standIns := [], harness := (true, "12a3a9895b0ddf9c5c87f0fa29d700d1e20d1e1a244188c3dc0e247f21ddc7d7"), looks := false }, kinds := [], alts := [], laidByText := true, laidKinds := [.data], laidTests := true, laidLooks := .later }
def ArenaHandlesCardSaid : Prop := Claim7.holds Tryd.pinned (.plain (OpenSpec.ofChange arenaHandlesSpec)) arenaHandlesCard

/-- THE TIED CARD OF 'marshallinglaw02.ArenaLeast'. -/
def arenaLeastCard : Claim7 := { stood := { row := arenaLeastRow, standIns := [], harness := (true, "12a3a9895b0ddf9c5c87f0fa29d700d1e20d1e1a244188c3dc0e247f21ddc7d7"), looks := false }, kinds := [], alts := [], laidByText := true, laidKinds := [.data], laidTests := true, laidLooks := .later }
def ArenaLeastCardSaid : Prop := Claim7.holds Tryd.pinned (.plain (OpenSpec.ofChange arenaLeastSpec)) arenaLeastCard

/-- THE TIED CARD OF 'marshallinglaw02.ArenaRoom'. -/
def arenaRoomCard : Claim7 := { stood := { row := arenaRoomRow, standIns := [], harness := (true, "12a3a9895b0ddf9c5c87f0fa29d700d1e20d1e1a244188c3dc0e247f21ddc7d7"), looks := false }, kinds := [], alts := [], laidByText := true, laidKinds := [.data], laidTests := true, laidLooks := .later }
def ArenaRoomCardSaid : Prop := Claim7.holds Tryd.pinned (.plain (OpenSpec.ofChange arenaRoomSpec)) arenaRoomCard

/-- THE SECOND FORM's CARD OF 'marshallinglaw02.ArenaKnown'. -/
def arenaKnownUptoCard : Claim7 := { stood := { row := arenaKnownUptoRow, standIns := [], harness := (true, "12a3a9895b0ddf9c5c87f0fa29d700d1e20d1e1a244188c3dc0e247f21ddc7d7"), looks := false }, kinds := [], alts := [], laidByText := true, laidKinds := [.data], laidTests := true, laidLooks := .later }
def ArenaKnownUptoCardSaid : Prop := Claim7.holds Tryd.pinned (.plain (OpenSpec.upto arenaKnownSpec)) arenaKnownUptoCard

/-- THE SECOND FORM's CARD OF 'marshallinglaw02.ArenaPlays'. -/
def arenaPlaysUptoCard : Claim7 := { stood := { row := arenaPlaysUptoRow, standIns := [], harness := (true, "12a3a9895b0ddf9c5c87f0fa29d700d1e20d1e1a244188c3dc0e247f21ddc7d7"), looks := false }, kinds := [], alts := [], laidByText := true, laidKinds := [.data], laidTests := true, laidLooks := .later }
def ArenaPlaysUptoCardSaid : Prop := Claim7.holds Tryd.pinned (.plain (OpenSpec.upto arenaPlaysSpec)) arenaPlaysUptoCard

/-- THE SECOND FORM's CARD OF 'marshallinglaw02.ArenaHandles'. -/
def arenaHandlesUptoCard : Claim7 := { stood := { row := arenaHandlesUptoRow, standIns := [], harness := (true, "12a3a9895b0ddf9c5c87f0fa29d700d1e20d1e1a244188c3dc0e247f21ddc7d7"), looks := false }, kinds := [], alts := [], laidByText := true, laidKinds := [.data], laidTests := true, laidLooks := .later }
def ArenaHandlesUptoCardSaid : Prop := Claim7.holds Tryd.pinned (.plain (OpenSpec.upto arenaHandlesSpec)) arenaHandlesUptoCard

/-- THE SECOND FORM's CARD OF 'marshallinglaw02.ArenaLeast'. -/
def arenaLeastUptoCard : Claim7 := { stood := { row := arenaLeastUptoRow, standIns := [], harness := (true, "12a3a9895b0ddf9c5c87f0fa29d700d1e20d1e1a244188c3dc0e247f21ddc7d7"), looks := false }, kinds := [], alts := [], laidByText := true, laidKinds := [.data], laidTests := true, laidLooks := .later }
def ArenaLeastUptoCardSaid : Prop := Claim7.holds Tryd.pinned (.plain (OpenSpec.upto arenaLeastSpec)) arenaLeastUptoCard

/-- THE SECOND FORM's CARD OF 'marshallinglaw02.ArenaRoom'. -/
def arenaRoomUptoCard : Claim7 := { stood := { row := arenaRoomUptoRow, standIns := [], harness := (true, "12a3a9895b0ddf9c5c87f0fa29d700d1e20d1e1a244188c3dc0e247f21ddc7d7"), looks := false }, kinds := [], alts := [], laidByText := true, laidKinds := [.data], laidTests := true, laidLooks := .later }
def ArenaRoomUptoCardSaid : Prop := Claim7.holds Tryd.pinned (.plain (OpenSpec.upto arenaRoomSpec)) arenaRoomUptoCard
end Rows
end Go.Proofs.YtbdfbgkfhaiccaaDoor
