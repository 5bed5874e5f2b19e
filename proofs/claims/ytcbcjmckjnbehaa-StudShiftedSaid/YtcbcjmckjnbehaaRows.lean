/-
  No cell of these rows narrows 'for every input' (looked for: loops, veiled, ifaces, maps, wideKeys, modest, calm, conditions, laid).
  DERIVED. THE GIVEN ROWS OF THIS SEAT. 6 by the template 'for every input the law returns true; each argument reads behind the call as it read before'; 0 by the template 'total and deterministic' (their statements: YtcbcjmckjnbehaaTotals.lean).
  GIVEN WITH THE SEED: the statements are not yours to turn. If you find one false, say at which input.
  Laid BY PROGRAM, IN A SANDBOX (cutbox-rows.mjs): the forced cells as the released guide's own fill.sh prints them over the translation 014fa88c985eb612… (all of the seat's roots in one cut). By AI agents, Wed Nov 11 2026. No macro, syntax, notation, axiom, sorry.
-/
import Derived.Test.YtcbcjmckjnbehaaChecked
import GoSem.Claim
import GoSem.ClaimJoined
import GoSem.ClaimMapViews
import Derived.JoinedTies
import Derived.KernelRfl
namespace Go.Proofs.Ytcbcjmckjnbehaa
/- THE CELL 'sum', in the pinned program and in every row, IS THE sha256 OF THE DUMP (.gsa) THAT YtcbcjmckjnbehaaProg.lean LOADS. Nothing in Lean hashes anything: it is a label: what it is worth is what the hold of that sum in a sandbox is worth. -/
noncomputable def Try.pinned : Pinned := { name := "ytcbcjmckjnbehaa", sum := "014fa88c985eb61211b82652263a479e7c09cd67897011a7418bde44a032251c", checked := Try.checked }
namespace Rows
def none {H : Type} : Left H := { results := [], args := [] }

/-- 'remouldlaw03.StudRoots': WHATEVER THE INPUT: true; the input reads as it did. -/
def studRootsSpec : ChangeSpec := { name := "studRoots", fn := fun _ => fun
  | [d] => { results := [.lit (.bool true)], args := [d] }
  | _ => none }
def studRootsRow : OpenClaim := { program := "ytcbcjmckjnbehaa", sum := "014fa88c985eb61211b82652263a479e7c09cd67897011a7418bde44a032251c", func := "remould/remouldlaw03.StudRoots", spec := "studRoots", unfollowed := true, recurses := true, apart := false }
def StudRootsSaid : Prop := studRootsRow.holds Try.pinned (OpenSpec.ofChange studRootsSpec)

/-- ITS FALSE NEIGHBOUR: 'it returns false'. Refute it at one input. -/
def studRootsWrong : ChangeSpec := { name := "studRoots", fn := fun _ => fun
  | [d] => { results := [.lit (.bool false)], args := [d] }
  | _ => none }
def StudRootsWrongFalsely : Prop := studRootsRow.holds Try.pinned (OpenSpec.ofChange studRootsWrong)

/-- 'remouldlaw03.StudPowers': WHATEVER THE INPUT: true; the input reads as it did. -/
def studPowersSpec : ChangeSpec := { name := "studPowers", fn := fun _ => fun
  | [d1, d2, d3] => { results := [.lit (.bool true)], args := [d1, d2, d3] }
  | _ => none }
def studPowersRow : OpenClaim := { program := "ytcbcjmckjnbehaa", sum := "014fa88c985eb61211b82652263a479e7c09cd67897011a7418bde44a032251c", func := "remould/remouldlaw03.StudPowers", spec := "studPowers", unfollowed := true, recurses := true, apart := false }
def StudPowersSaid : Prop := studPowersRow.holds Try.pinned (OpenSpec.ofChange studPowersSpec)

/-- ITS FALSE NEIGHBOUR: 'it returns false'. Refute it at one input. -/
def studPowersWrong : ChangeSpec := { name := "studPowers", fn := fun _ => fun
  | [d1, d2, d3] => { results := [.lit (.bool false)], args := [d1, d2, d3] }
  | _ => none }
def StudPowersWrongFalsely : Prop := studPowersRow.holds Try.pinned (OpenSpec.ofChange studPowersWrong)

/-- 'remouldlaw03.StudLogs': WHATEVER THE INPUT: true; the input reads as it did. -/
def studLogsSpec : ChangeSpec := { name := "studLogs", fn := fun _ => fun
  | [d1, d2, d3] => { results := [.lit (.bool true)], args := [d1, d2, d3] }
  | _ => none }
def studLogsRow : OpenClaim := { program := "ytcbcjmckjnbehaa", sum := "014fa88c985eb61211b82652263a479e7c09cd67897011a7418bde44a032251c", func := "remould/remouldlaw03.StudLogs", spec := "studLogs", unfollowed := true, recurses := true, apart := false }
def StudLogsSaid : Prop := studLogsRow.holds Try.pinned (OpenSpec.ofChange studLogsSpec)

/-- ITS FALSE NEIGHBOUR: 'it returns false'. Refute it at one input. -/
def studLogsWrong : ChangeSpec := { name := "studLogs", fn := fun _ => fun
  | [d1, d2, d3] => { results := [.lit (.bool false)], args := [d1, d2, d3] }
  | _ => none }
def StudLogsWrongFalsely : Prop := studLogsRow.holds Try.pinned (OpenSpec.ofChange studLogsWrong)

/-- 'remouldlaw03.StudKnown': WHATEVER THE INPUT: true; the input reads as it did. -/
def studKnownSpec : ChangeSpec := { name := "studKnown", fn := fun _ => fun
  | [d1, d2, d3, d4] => { results := [.lit (.bool true)], args := [d1, d2, d3, d4] }
  | _ => none }
def studKnownRow : OpenClaim := { program := "ytcbcjmckjnbehaa", sum := "014fa88c985eb61211b82652263a479e7c09cd67897011a7418bde44a032251c", func := "remould/remouldlaw03.StudKnown", spec := "studKnown", unfollowed := true, recurses := true, apart := false }
def StudKnownSaid : Prop := studKnownRow.holds Try.pinned (OpenSpec.ofChange studKnownSpec)

/-- ITS FALSE NEIGHBOUR: 'it returns false'. Refute it at one input. -/
def studKnownWrong : ChangeSpec := { name := "studKnown", fn := fun _ => fun
  | [d1, d2, d3, d4] => { results := [.lit (.bool false)], args := [d1, d2, d3, d4] }
  | _ => none }
def StudKnownWrongFalsely : Prop := studKnownRow.holds Try.pinned (OpenSpec.ofChange studKnownWrong)

/-- 'remouldlaw03.StudShifted': WHATEVER THE INPUT: true; the input reads as it did. -/
def studShiftedSpec : ChangeSpec := { name := "studShifted", fn := fun _ => fun
  | [d1, d2, d3] => { results := [.lit (.bool true)], args := [d1, d2, d3] }
  | _ => none }
def studShiftedRow : OpenClaim := { program := "ytcbcjmckjnbehaa", sum := "014fa88c985eb61211b82652263a479e7c09cd67897011a7418bde44a032251c", func := "remould/remouldlaw03.StudShifted", spec := "studShifted", unfollowed := true, recurses := true, apart := false }
def StudShiftedSaid : Prop := studShiftedRow.holds Try.pinned (OpenSpec.ofChange studShiftedSpec)

/-- ITS FALSE NEIGHBOUR: 'it returns false'. Refute it at one input. -/
def studShiftedWrong : ChangeSpec := { name := "studShifted", fn := fun _ => fun
  | [d1, d2, d3] => { results := [.lit (.bool false)], args := [d1, d2, d3] }
  | _ => none }
def StudShiftedWrongFalsely : Prop := studShiftedRow.holds Try.pinned (OpenSpec.ofChange studShiftedWrong)

/-- 'remouldlaw03.StudClears': WHATEVER THE INPUT: true; the input reads as it did. -/
def studClearsSpec : ChangeSpec := { name := "studClears", fn := fun _ => fun
  | [d] => { results := [.lit (.bool true)], args := [d] }
  | _ => none }
def studClearsRow : OpenClaim := { program := "ytcbcjmckjnbehaa", sum := "014fa88c985eb61211b82652263a479e7c09cd67897011a7418bde44a032251c", func := "remould/remouldlaw03.StudClears", spec := "studClears", unfollowed := true, recurses := true, apart := false }
def StudClearsSaid : Prop := studClearsRow.holds Try.pinned (OpenSpec.ofChange studClearsSpec)

/-- ITS FALSE NEIGHBOUR: 'it returns false'. Refute it at one input. -/
def studClearsWrong : ChangeSpec := { name := "studClears", fn := fun _ => fun
  | [d] => { results := [.lit (.bool false)], args := [d] }
  | _ => none }
def StudClearsWrongFalsely : Prop := studClearsRow.holds Try.pinned (OpenSpec.ofChange studClearsWrong)

/- THE SECOND FORM. 'bulk': how many values and letters a reading holds, each counted each time it is reached (what is shared counts as often as it is met; a slice's spare places count too). A statement '..UptoSaid' is the law's where the arguments, and the package variables that the reading takes, are together of bulk at most 1048576: NARROWER than '..Said'. Prove '..Said' where nothing that the law and all that it calls make is longer than what came in: it says more and counts as full. Else prove '..UptoSaid'. A law counts once. -/
mutual
def uptoBulk {H : Type} : DataW H → Nat
  | .lit (.string bytes) => bytes.length + 1
  | .lit _ => 1
  | .nil => 1
  | .ptr d => uptoBulk d + 1
  | .slice elems spare => uptoBulkAll elems + uptoBulkAll spare + 1
  | .agg parts => uptoBulkAll parts + 1
  | .iface _ d => uptoBulk d + 1
  | .map entries => uptoBulkEntries entries + 1
  | .held _ => 1
def uptoBulkAll {H : Type} : List (DataW H) → Nat
  | [] => 0
  | d :: r => uptoBulk d + uptoBulkAll r
def uptoBulkEntries {H : Type} : List (Lit × DataW H) → Nat
  | [] => 0
  | x :: r => uptoBulkEntry x + uptoBulkEntries r
def uptoBulkEntry {H : Type} : Lit × DataW H → Nat
  | (.string bytes, d) => bytes.length + uptoBulk d + 1
  | (_, d) => uptoBulk d + 1
 end
def uptoSmall : (H : Type) → List (DataW H) → Bool := fun _ ds => decide (uptoBulkAll ds ≤ 1048576)
def OpenSpec.upto (s : _root_.Go.ChangeSpec) : _root_.Go.OpenSpec := { _root_.Go.OpenSpec.ofChange s with cond := some uptoSmall }

/-- 'remouldlaw03.StudRoots', WHERE WHAT IT READS IS OF BULK AT MOST 1048576: true; the input reads as it did. -/
def studRootsUptoRow : OpenClaim := { program := "ytcbcjmckjnbehaa", sum := "014fa88c985eb61211b82652263a479e7c09cd67897011a7418bde44a032251c", func := "remould/remouldlaw03.StudRoots", spec := "studRoots", unfollowed := true, recurses := true, apart := false, narrowed := true }
def StudRootsUptoSaid : Prop := studRootsUptoRow.holds Try.pinned (OpenSpec.upto studRootsSpec)

/-- 'remouldlaw03.StudPowers', WHERE WHAT IT READS IS OF BULK AT MOST 1048576: true; the input reads as it did. -/
def studPowersUptoRow : OpenClaim := { program := "ytcbcjmckjnbehaa", sum := "014fa88c985eb61211b82652263a479e7c09cd67897011a7418bde44a032251c", func := "remould/remouldlaw03.StudPowers", spec := "studPowers", unfollowed := true, recurses := true, apart := false, narrowed := true }
def StudPowersUptoSaid : Prop := studPowersUptoRow.holds Try.pinned (OpenSpec.upto studPowersSpec)

/-- 'remouldlaw03.StudLogs', WHERE WHAT IT READS IS OF BULK AT MOST 1048576: true; the input reads as it did. -/
def studLogsUptoRow : OpenClaim := { program := "ytcbcjmckjnbehaa", sum := "014fa88c985eb61211b82652263a479e7c09cd67897011a7418bde44a032251c", func := "remould/remouldlaw03.StudLogs", spec := "studLogs", unfollowed := true, recurses := true, apart := false, narrowed := true }
def StudLogsUptoSaid : Prop := studLogsUptoRow.holds Try.pinned (OpenSpec.upto studLogsSpec)

/-- 'remouldlaw03.StudKnown', WHERE WHAT IT READS IS OF BULK AT MOST 1048576: true; the input reads as it did. -/
def studKnownUptoRow : OpenClaim := { program := "ytcbcjmckjnbehaa", sum := "014fa88c985eb61211b82652263a479e7c09cd67897011a7418bde44a032251c", func := "remould/remouldlaw03.StudKnown", spec := "studKnown", unfollowed := true, recurses := true, apart := false, narrowed := true }
def StudKnownUptoSaid : Prop := studKnownUptoRow.holds Try.pinned (OpenSpec.upto studKnownSpec)

/-- 'remouldlaw03.StudShifted', WHERE WHAT IT READS IS OF BULK AT MOST 1048576: true; the input reads as it did. -/
def studShiftedUptoRow : OpenClaim := { program := "ytcbcjmckjnbehaa", sum := "014fa88c985eb61211b82652263a479e7c09cd67897011a7418bde44a032251c", func := "remould/remouldlaw03.StudShifted", spec := "studShifted", unfollowed := true, recurses := true, apart := false, narrowed := true }
def StudShiftedUptoSaid : Prop := studShiftedUptoRow.holds Try.pinned (OpenSpec.upto studShiftedSpec)

/-- 'remouldlaw03.StudClears', WHERE WHAT IT READS IS OF BULK AT MOST 1048576: true; the input reads as it did. -/
def studClearsUptoRow : OpenClaim := { program := "ytcbcjmckjnbehaa", sum := "014fa88c985eb61211b82652263a479e7c09cd67897011a7418bde44a032251c", func := "remould/remouldlaw03.StudClears", spec := "studClears", unfollowed := true, recurses := true, apart := false, narrowed := true }
def StudClearsUptoSaid : Prop := studClearsUptoRow.holds Try.pinned (OpenSpec.upto studClearsSpec)

end Rows
end Go.Proofs.Ytcbcjmckjnbehaa
