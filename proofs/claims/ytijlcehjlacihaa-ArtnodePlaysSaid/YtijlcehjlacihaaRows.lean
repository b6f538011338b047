/-
  No cell of these rows narrows 'for every input' (looked for: loops, veiled, ifaces, maps, wideKeys, modest, calm, conditions, laid).
  DERIVED. THE GIVEN ROWS OF THIS SEAT. 5 by the template 'for every input the law returns true; each argument reads behind the call as it read before'; 0 by the template 'total and deterministic' (their statements: YtijlcehjlacihaaTotals.lean).
  GIVEN WITH THE SEED: the statements are not yours to turn. If you find one false, say at which input.
  Laid BY PROGRAM, IN A SANDBOX (cutbox-rows.mjs): the forced cells as the released guide's own fill.sh prints them over the translation 3f1e0a9a5993bc5e… (all of the seat's roots in one cut). By AI agents, Wed Nov 11 2026. No macro, syntax, notation, axiom, sorry.
-/
import Derived.Test.YtijlcehjlacihaaChecked
import GoSem.Claim
import GoSem.ClaimJoined
import GoSem.ClaimMapViews
import Derived.JoinedTies
import Derived.KernelRfl
namespace Go.Proofs.Ytijlcehjlacihaa
/- THE CELL 'sum', in the pinned program and in every row, IS THE sha256 OF THE DUMP (.gsa) THAT YtijlcehjlacihaaProg.lean LOADS. Nothing in Lean hashes anything: it is a label: what it is worth is what the hold of that sum in a sandbox is worth. -/
noncomputable def Try.pinned : Pinned := { name := "ytijlcehjlacihaa", sum := "3f1e0a9a5993bc5e1cbea34e2356e364af0a916afc8a5f2d84dee5adcd3c72e5", checked := Try.checked }
namespace Rows
def none {H : Type} : Left H := { results := [], args := [] }

/-- 'marshallinglaw11.ArtnodePlays': WHATEVER THE INPUT: true; the input reads as it did. -/
def artnodePlaysSpec : ChangeSpec := { name := "artnodePlays", fn := fun _ => fun
  | [d] => { results := [.lit (.bool true)], args := [d] }
  | _ => none }
def artnodePlaysRow : OpenClaim := { program := "ytijlcehjlacihaa", sum := "3f1e0a9a5993bc5e1cbea34e2356e364af0a916afc8a5f2d84dee5adcd3c72e5", func := "marshalling/marshallinglaw11.ArtnodePlays", spec := "artnodePlays", unfollowed := true, recurses := true, apart := false }
def ArtnodePlaysSaid : Prop := artnodePlaysRow.holds Try.pinned (OpenSpec.ofChange artnodePlaysSpec)

/-- ITS FALSE NEIGHBOUR: 'it returns false'. Refute it at one input. -/
def artnodePlaysWrong : ChangeSpec := { name := "artnodePlays", fn := fun _ => fun
  | [d] => { results := [.lit (.bool false)], args := [d] }
  | _ => none }
def ArtnodePlaysWrongFalsely : Prop := artnodePlaysRow.holds Try.pinned (OpenSpec.ofChange artnodePlaysWrong)

/-- 'marshallinglaw11.ArtnodeNobody': WHATEVER THE INPUT: true; the input reads as it did. -/
def artnodeNobodySpec : ChangeSpec := { name := "artnodeNobody", fn := fun _ => fun
  | [d1, d2] => { results := [.lit (.bool true)], args := [d1, d2] }
  | _ => none }
def artnodeNobodyRow : OpenClaim := { program := "ytijlcehjlacihaa", sum := "3f1e0a9a5993bc5e1cbea34e2356e364af0a916afc8a5f2d84dee5adcd3c72e5", func := "marshalling/marshallinglaw11.ArtnodeNobody", spec := "artnodeNobody", unfollowed := true, recurses := true, apart := false }
def ArtnodeNobodySaid : Prop := artnodeNobodyRow.holds Try.pinned (OpenSpec.ofChange artnodeNobodySpec)

/-- ITS FALSE NEIGHBOUR: 'it returns false'. Refute it at one input. -/
def artnodeNobodyWrong : ChangeSpec := { name := "artnodeNobody", fn := fun _ => fun
  | [d1, d2] => { results := [.lit (.bool false)], args := [d1, d2] }
  | _ => none }
def ArtnodeNobodyWrongFalsely : Prop := artnodeNobodyRow.holds Try.pinned (OpenSpec.ofChange artnodeNobodyWrong)

/-- 'marshallinglaw11.ArtnodeKinds': WHATEVER THE INPUT: true; the input reads as it did. -/
def artnodeKindsSpec : ChangeSpec := { name := "artnodeKinds", fn := fun _ => fun
  | [d1, d2] => { results := [.lit (.bool true)], args := [d1, d2] }
  | _ => none }
def artnodeKindsRow : OpenClaim := { program := "ytijlcehjlacihaa", sum := "3f1e0a9a5993bc5e1cbea34e2356e364af0a916afc8a5f2d84dee5adcd3c72e5", func := "marshalling/marshallinglaw11.ArtnodeKinds", spec := "artnodeKinds", unfollowed := true, recurses := true, apart := false }
def ArtnodeKindsSaid : Prop := artnodeKindsRow.holds Try.pinned (OpenSpec.ofChange artnodeKindsSpec)

/-- ITS FALSE NEIGHBOUR: 'it returns false'. Refute it at one input. -/
def artnodeKindsWrong : ChangeSpec := { name := "artnodeKinds", fn := fun _ => fun
  | [d1, d2] => { results := [.lit (.bool false)], args := [d1, d2] }
  | _ => none }
def ArtnodeKindsWrongFalsely : Prop := artnodeKindsRow.holds Try.pinned (OpenSpec.ofChange artnodeKindsWrong)

/-- 'marshallinglaw11.ArtnodeKnown': WHATEVER THE INPUT: true; the input reads as it did. -/
def artnodeKnownSpec : ChangeSpec := { name := "artnodeKnown", fn := fun _ => fun
  | [] => { results := [.lit (.bool true)], args := [] }
  | _ => none }
def artnodeKnownRow : OpenClaim := { program := "ytijlcehjlacihaa", sum := "3f1e0a9a5993bc5e1cbea34e2356e364af0a916afc8a5f2d84dee5adcd3c72e5", func := "marshalling/marshallinglaw11.ArtnodeKnown", spec := "artnodeKnown", unfollowed := true, recurses := true, apart := false }
def ArtnodeKnownSaid : Prop := artnodeKnownRow.holds Try.pinned (OpenSpec.ofChange artnodeKnownSpec)

/-- ITS FALSE NEIGHBOUR: 'it returns false'. Refute it at one input. -/
def artnodeKnownWrong : ChangeSpec := { name := "artnodeKnown", fn := fun _ => fun
  | [] => { results := [.lit (.bool false)], args := [] }
  | _ => none }
def ArtnodeKnownWrongFalsely : Prop := artnodeKnownRow.holds Try.pinned (OpenSpec.ofChange artnodeKnownWrong)

/-- 'marshallinglaw11.ArtnodeRows': WHATEVER THE INPUT: true; the input reads as it did. -/
def artnodeRowsSpec : ChangeSpec := { name := "artnodeRows", fn := fun _ => fun
  | [d1, d2] => { results := [.lit (.bool true)], args := [d1, d2] }
  | _ => none }
def artnodeRowsRow : OpenClaim := { program := "ytijlcehjlacihaa", sum := "3f1e0a9a5993bc5e1cbea34e2356e364af0a916afc8a5f2d84dee5adcd3c72e5", func := "marshalling/marshallinglaw11.ArtnodeRows", spec := "artnodeRows", unfollowed := true, recurses := true, apart := false }
def ArtnodeRowsSaid : Prop := artnodeRowsRow.holds Try.pinned (OpenSpec.ofChange artnodeRowsSpec)

/-- ITS FALSE NEIGHBOUR: 'it returns false'. Refute it at one input. -/
def artnodeRowsWrong : ChangeSpec := { name := "artnodeRows", fn := fun _ => fun
  | [d1, d2] => { results := [.lit (.bool false)], args := [d1, d2] }
  | _ => none }
def ArtnodeRowsWrongFalsely : Prop := artnodeRowsRow.holds Try.pinned (OpenSpec.ofChange artnodeRowsWrong)

/- THE SECOND FORM. 'bulk': how many values and letters a reading holds, each counted each time it is reached (what is shared counts as often as it is met; a slice's spare places count too). A statement '..UptoSaid' is the law's where the arguments, and the package variables that the reading takes, are together of bulk at most 1048576: NARROWER than '..Said'. Prove '..Said' where nothing that the law and all that it calls make is longer than what came in: it says more and counts as full. Else prove '..UptoSaid'. A law counts once. -/
mutual
def uptoBulk {H : Type} : DataW H → Nat
  | .lit (.string bytes) => bytes.length + 1
  | .lit _ => 1
  | .nil => 1
  | .ptr d => uptoBulk d + 1
  | .slice elems spare => uptoBulkAll elems + uptoBulkAll spare + 1
  | .agg parts => uptoBulkAll parts + 1
  | .iface _ d => uptoBulk d + 1
  | .map entries => uptoBulkEntries entries + 1
  | .held _ => 1
def uptoBulkAll {H : Type} : List (DataW H) → Nat
  | [] => 0
  | d :: r => uptoBulk d + uptoBulkAll r
def uptoBulkEntries {H : Type} : List (Lit × DataW H) → Nat
  | [] => 0
  | x :: r => uptoBulkEntry x + uptoBulkEntries r
def uptoBulkEntry {H : Type} : Lit × DataW H → Nat
  | (.string bytes, d) => bytes.length + uptoBulk d + 1
  | (_, d) => uptoBulk d + 1
 end
def uptoSmall : (H : Type) → List (DataW H) → Bool := fun _ ds => decide (uptoBulkAll ds ≤ 1048576)
def OpenSpec.upto (s : _root_.Go.ChangeSpec) : _root_.Go.OpenSpec := { _root_.Go.OpenSpec.ofChange s with cond := some uptoSmall }

/-- 'marshallinglaw11.ArtnodePlays', WHERE WHAT IT READS IS OF BULK AT MOST 1048576: true; the input reads as it did. -/
def artnodePlaysUptoRow : OpenClaim := { program := "ytijlcehjlacihaa", sum := "3f1e0a9a5993bc5e1cbea34e2356e364af0a916afc8a5f2d84dee5adcd3c72e5", func := "marshalling/marshallinglaw11.ArtnodePlays", spec := "artnodePlays", unfollowed := true, recurses := true, apart := false, narrowed := true }
def ArtnodePlaysUptoSaid : Prop := artnodePlaysUptoRow.holds Try.pinned (OpenSpec.upto artnodePlaysSpec)

/-- 'marshallinglaw11.ArtnodeNobody', WHERE WHAT IT READS IS OF BULK AT MOST 1048576: true; the input reads as it did. -/
def artnodeNobodyUptoRow : OpenClaim := { program := "ytijlcehjlacihaa", sum := "3f1e0a9a5993bc5e1cbea34e2356e364af0a916afc8a5f2d84dee5adcd3c72e5", func := "marshalling/marshallinglaw11.ArtnodeNobody", spec := "artnodeNobody", unfollowed := true, recurses := true, apart := false, narrowed := true }
def ArtnodeNobodyUptoSaid : Prop := artnodeNobodyUptoRow.holds Try.pinned (OpenSpec.upto artnodeNobodySpec)

/-- 'marshallinglaw11.ArtnodeKinds', WHERE WHAT IT READS IS OF BULK AT MOST 1048576: true; the input reads as it did. -/
def artnodeKindsUptoRow : OpenClaim := { program := "ytijlcehjlacihaa", sum := "3f1e0a9a5993bc5e1cbea34e2356e364af0a916afc8a5f2d84dee5adcd3c72e5", func := "marshalling/marshallinglaw11.ArtnodeKinds", spec := "artnodeKinds", unfollowed := true, recurses := true, apart := false, narrowed := true }
def ArtnodeKindsUptoSaid : Prop := artnodeKindsUptoRow.holds Try.pinned (OpenSpec.upto artnodeKindsSpec)

/-- 'marshallinglaw11.ArtnodeKnown', WHERE WHAT IT READS IS OF BULK AT MOST 1048576: true; the input reads as it did. -/
def artnodeKnownUptoRow : OpenClaim := { program := "ytijlcehjlacihaa", sum := "3f1e0a9a5993bc5e1cbea34e2356e364af0a916afc8a5f2d84dee5adcd3c72e5", func := "marshalling/marshallinglaw11.ArtnodeKnown", spec := "artnodeKnown", unfollowed := true, recurses := true, apart := false, narrowed := true }
def ArtnodeKnownUptoSaid : Prop := artnodeKnownUptoRow.holds Try.pinned (OpenSpec.upto artnodeKnownSpec)

/-- 'marshallinglaw11.ArtnodeRows', WHERE WHAT IT READS IS OF BULK AT MOST 1048576: true; the input reads as it did. -/
def artnodeRowsUptoRow : OpenClaim := { program := "ytijlcehjlacihaa", sum := "3f1e0a9a5993bc5e1cbea34e2356e364af0a916afc8a5f2d84dee5adcd3c72e5", func := "marshalling/marshallinglaw11.ArtnodeRows", spec := "artnodeRows", unfollowed := true, recurses := true, apart := false, narrowed := true }
def ArtnodeRowsUptoSaid : Prop := artnodeRowsUptoRow.holds Try.pinned (OpenSpec.upto artnodeRowsSpec)

end Rows
end Go.Proofs.Ytijlcehjlacihaa
