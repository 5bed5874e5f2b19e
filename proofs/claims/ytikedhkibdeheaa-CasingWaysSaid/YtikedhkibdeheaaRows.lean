/-
  No cell of these rows narrows 'for every input' (looked for: loops, veiled, ifaces, maps, wideKeys, modest, calm, conditions, laid).
  DERIVED. THE GIVEN ROWS OF THIS SEAT. 6 by the template 'for every input the law returns true; each argument reads behind the call as it read before'; 0 by the template 'total and deterministic' (their statements: YtikedhkibdeheaaTotals.lean).
  GIVEN WITH THE SEED: the statements are not yours to turn. If you find one false, say at which input.
  Laid BY PROGRAM, IN A SANDBOX (cutbox-rows.mjs): the forced cells as the released guide's own fill.sh prints them over the translation 4dfab4938cb89378… (all of the seat's roots in one cut). By AI agents, Wed Nov 11 2026. No macro, syntax, notation, axiom, sorry.
-/
import Derived.Test.YtikedhkibdeheaaChecked
import GoSem.Claim
import GoSem.ClaimJoined
import GoSem.ClaimMapViews
import Derived.JoinedTies
import Derived.KernelRfl
namespace Go.Proofs.Ytikedhkibdeheaa
/- THE CELL 'sum', in the pinned program and in every row, IS THE sha256 OF THE DUMP (.gsa) THAT YtikedhkibdeheaaProg.lean LOADS. Nothing in Lean hashes anything: it is a label: what it is worth is what the hold of that sum in a sandbox is worth. -/
noncomputable def Try.pinned : Pinned := { name := "ytikedhkibdeheaa", sum := "4dfab4938cb893786a1ebe7c04216d5444f6dba74762cb682f2dda1a69d00fca", checked := Try.checked }
namespace Rows
def none {H : Type} : Left H := { results := [], args := [] }

/-- 'remouldlaw01.CasingFree': WHATEVER THE INPUT: true; the input reads as it did. -/
def casingFreeSpec : ChangeSpec := { name := "casingFree", fn := fun _ => fun
  | [d1, d2, d3] => { results := [.lit (.bool true)], args := [d1, d2, d3] }
  | _ => none }
def casingFreeRow : OpenClaim := { program := "ytikedhkibdeheaa", sum := "4dfab4938cb893786a1ebe7c04216d5444f6dba74762cb682f2dda1a69d00fca", func := "remould/remouldlaw01.CasingFree", spec := "casingFree", inPlace := ["internal/bytealg.IndexByteString"], unfollowed := true, recurses := true, apart := false }
def CasingFreeSaid : Prop := casingFreeRow.holds Try.pinned (OpenSpec.ofChange casingFreeSpec)

/-- ITS FALSE NEIGHBOUR: 'it returns false'. Refute it at one input. -/
def casingFreeWrong : ChangeSpec := { name := "casingFree", fn := fun _ => fun
  | [d1, d2, d3] => { results := [.lit (.bool false)], args := [d1, d2, d3] }
  | _ => none }
def CasingFreeWrongFalsely : Prop := casingFreeRow.holds Try.pinned (OpenSpec.ofChange casingFreeWrong)

/-- 'remouldlaw01.CasingCyclic': WHATEVER THE INPUT: true; the input reads as it did. -/
def casingCyclicSpec : ChangeSpec := { name := "casingCyclic", fn := fun _ => fun
  | [d1, d2] => { results := [.lit (.bool true)], args := [d1, d2] }
  | _ => none }
def casingCyclicRow : OpenClaim := { program := "ytikedhkibdeheaa", sum := "4dfab4938cb893786a1ebe7c04216d5444f6dba74762cb682f2dda1a69d00fca", func := "remould/remouldlaw01.CasingCyclic", spec := "casingCyclic", inPlace := ["internal/bytealg.IndexByteString"], unfollowed := true, recurses := true, apart := false }
def CasingCyclicSaid : Prop := casingCyclicRow.holds Try.pinned (OpenSpec.ofChange casingCyclicSpec)

/-- ITS FALSE NEIGHBOUR: 'it returns false'. Refute it at one input. -/
def casingCyclicWrong : ChangeSpec := { name := "casingCyclic", fn := fun _ => fun
  | [d1, d2] => { results := [.lit (.bool false)], args := [d1, d2] }
  | _ => none }
def CasingCyclicWrongFalsely : Prop := casingCyclicRow.holds Try.pinned (OpenSpec.ofChange casingCyclicWrong)

/-- 'remouldlaw01.CasingPairs': WHATEVER THE INPUT: true; the input reads as it did. -/
def casingPairsSpec : ChangeSpec := { name := "casingPairs", fn := fun _ => fun
  | [d1, d2] => { results := [.lit (.bool true)], args := [d1, d2] }
  | _ => none }
def casingPairsRow : OpenClaim := { program := "ytikedhkibdeheaa", sum := "4dfab4938cb893786a1ebe7c04216d5444f6dba74762cb682f2dda1a69d00fca", func := "remould/remouldlaw01.CasingPairs", spec := "casingPairs", inPlace := ["internal/bytealg.IndexByteString"], unfollowed := true, recurses := true, apart := false }
def CasingPairsSaid : Prop := casingPairsRow.holds Try.pinned (OpenSpec.ofChange casingPairsSpec)

/-- ITS FALSE NEIGHBOUR: 'it returns false'. Refute it at one input. -/
def casingPairsWrong : ChangeSpec := { name := "casingPairs", fn := fun _ => fun
  | [d1, d2] => { results := [.lit (.bool false)], args := [d1, d2] }
  | _ => none }
def CasingPairsWrongFalsely : Prop := casingPairsRow.holds Try.pinned (OpenSpec.ofChange casingPairsWrong)

/-- 'remouldlaw01.CasingTables': WHATEVER THE INPUT: true; the input reads as it did. -/
def casingTablesSpec : ChangeSpec := { name := "casingTables", fn := fun _ => fun
  | [d1, d2] => { results := [.lit (.bool true)], args := [d1, d2] }
  | _ => none }
def casingTablesRow : OpenClaim := { program := "ytikedhkibdeheaa", sum := "4dfab4938cb893786a1ebe7c04216d5444f6dba74762cb682f2dda1a69d00fca", func := "remould/remouldlaw01.CasingTables", spec := "casingTables", inPlace := ["internal/bytealg.IndexByteString"], unfollowed := true, recurses := true, apart := false }
def CasingTablesSaid : Prop := casingTablesRow.holds Try.pinned (OpenSpec.ofChange casingTablesSpec)

/-- ITS FALSE NEIGHBOUR: 'it returns false'. Refute it at one input. -/
def casingTablesWrong : ChangeSpec := { name := "casingTables", fn := fun _ => fun
  | [d1, d2] => { results := [.lit (.bool false)], args := [d1, d2] }
  | _ => none }
def CasingTablesWrongFalsely : Prop := casingTablesRow.holds Try.pinned (OpenSpec.ofChange casingTablesWrong)

/-- 'remouldlaw01.CasingWays': WHATEVER THE INPUT: true; the input reads as it did. -/
def casingWaysSpec : ChangeSpec := { name := "casingWays", fn := fun _ => fun
  | [d] => { results := [.lit (.bool true)], args := [d] }
  | _ => none }
def casingWaysRow : OpenClaim := { program := "ytikedhkibdeheaa", sum := "4dfab4938cb893786a1ebe7c04216d5444f6dba74762cb682f2dda1a69d00fca", func := "remould/remouldlaw01.CasingWays", spec := "casingWays", inPlace := ["internal/bytealg.IndexByteString"], unfollowed := true, recurses := true, apart := false }
def CasingWaysSaid : Prop := casingWaysRow.holds Try.pinned (OpenSpec.ofChange casingWaysSpec)

/-- ITS FALSE NEIGHBOUR: 'it returns false'. Refute it at one input. -/
def casingWaysWrong : ChangeSpec := { name := "casingWays", fn := fun _ => fun
  | [d] => { results := [.lit (.bool false)], args := [d] }
  | _ => none }
def CasingWaysWrongFalsely : Prop := casingWaysRow.holds Try.pinned (OpenSpec.ofChange casingWaysWrong)

/-- 'remouldlaw01.CasingComposed': WHATEVER THE INPUT: true; the input reads as it did. -/
def casingComposedSpec : ChangeSpec := { name := "casingComposed", fn := fun _ => fun
  | [d1, d2, d3, d4, d5, d6] => { results := [.lit (.bool true)], args := [d1, d2, d3, d4, d5, d6] }
  | _ => none }
def casingComposedRow : OpenClaim := { program := "ytikedhkibdeheaa", sum := "4dfab4938cb893786a1ebe7c04216d5444f6dba74762cb682f2dda1a69d00fca", func := "remould/remouldlaw01.CasingComposed", spec := "casingComposed", inPlace := ["internal/bytealg.IndexByteString"], unfollowed := true, recurses := true, apart := false }
def CasingComposedSaid : Prop := casingComposedRow.holds Try.pinned (OpenSpec.ofChange casingComposedSpec)

/-- ITS FALSE NEIGHBOUR: 'it returns false'. Refute it at one input. -/
def casingComposedWrong : ChangeSpec := { name := "casingComposed", fn := fun _ => fun
  | [d1, d2, d3, d4, d5, d6] => { results := [.lit (.bool false)], args := [d1, d2, d3, d4, d5, d6] }
  | _ => none }
def CasingComposedWrongFalsely : Prop := casingComposedRow.holds Try.pinned (OpenSpec.ofChange casingComposedWrong)

/- THE SECOND FORM. 'bulk': how many values and letters a reading holds, each counted each time it is reached (what is shared counts as often as it is met; a slice's spare places count too). A statement '..UptoSaid' is the law's where the arguments, and the package variables that the reading takes, are together of bulk at most 1048576: NARROWER than '..Said'. Prove '..Said' where nothing that the law and all that it calls make is longer than what came in: it says more and counts as full. Else prove '..UptoSaid'. A law counts once. -/
mutual
def uptoBulk {H : Type} : DataW H → Nat
  | .lit (.string bytes) => bytes.length + 1
  | .lit _ => 1
  | .nil => 1
  | .ptr d => uptoBulk d + 1
  | .slice elems spare => uptoBulkAll elems + uptoBulkAll spare + 1
  | .agg parts => uptoBulkAll parts + 1
  | .iface _ d => uptoBulk d + 1
  | .map entries => uptoBulkEntries entries + 1
  | .held _ => 1
def uptoBulkAll {H : Type} : List (DataW H) → Nat
  | [] => 0
  | d :: r => uptoBulk d + uptoBulkAll r
def uptoBulkEntries {H : Type} : List (Lit × DataW H) → Nat
  | [] => 0
  | x :: r => uptoBulkEntry x + uptoBulkEntries r
def uptoBulkEntry {H : Type} : Lit × DataW H → Nat
  | (.string bytes, d) => bytes.length + uptoBulk d + 1
  | (_, d) => uptoBulk d + 1
 end
def uptoSmall : (H : Type) → List (DataW H) → Bool := fun _ ds => decide (uptoBulkAll ds ≤ 1048576)
def OpenSpec.upto (s : _root_.Go.ChangeSpec) : _root_.Go.OpenSpec := { _root_.Go.OpenSpec.ofChange s with cond := some uptoSmall }

/-- 'remouldlaw01.CasingFree', WHERE WHAT IT READS IS OF BULK AT MOST 1048576: true; the input reads as it did. -/
def casingFreeUptoRow : OpenClaim := { program := "ytikedhkibdeheaa", sum := "4dfab4938cb893786a1ebe7c04216d5444f6dba74762cb682f2dda1a69d00fca", func := "remould/remouldlaw01.CasingFree", spec := "casingFree", inPlace := ["internal/bytealg.IndexByteString"], unfollowed := true, recurses := true, apart := false, narrowed := true }
def CasingFreeUptoSaid : Prop := casingFreeUptoRow.holds Try.pinned (OpenSpec.upto casingFreeSpec)

/-- 'remouldlaw01.CasingCyclic', WHERE WHAT IT READS IS OF BULK AT MOST 1048576: true; the input reads as it did. -/
def casingCyclicUptoRow : OpenClaim := { program := "ytikedhkibdeheaa", sum := "4dfab4938cb893786a1ebe7c04216d5444f6dba74762cb682f2dda1a69d00fca", func := "remould/remouldlaw01.CasingCyclic", spec := "casingCyclic", inPlace := ["internal/bytealg.IndexByteString"], unfollowed := true, recurses := true, apart := false, narrowed := true }
def CasingCyclicUptoSaid : Prop := casingCyclicUptoRow.holds Try.pinned (OpenSpec.upto casingCyclicSpec)

/-- 'remouldlaw01.CasingPairs', WHERE WHAT IT READS IS OF BULK AT MOST 1048576: true; the input reads as it did. -/
def casingPairsUptoRow : OpenClaim := { program := "ytikedhkibdeheaa", sum := "4dfab4938cb893786a1ebe7c04216d5444f6dba74762cb682f2dda1a69d00fca", func := "remould/remouldlaw01.CasingPairs", spec := "casingPairs", inPlace := ["internal/bytealg.IndexByteString"], unfollowed := true, recurses := true, apart := false, narrowed := true }
def CasingPairsUptoSaid : Prop := casingPairsUptoRow.holds Try.pinned (OpenSpec.upto casingPairsSpec)

/-- 'remouldlaw01.CasingTables', WHERE WHAT IT READS IS OF BULK AT MOST 1048576: true; the input reads as it did. -/
def casingTablesUptoRow : OpenClaim := { program := "ytikedhkibdeheaa", sum := "4dfab4938cb893786a1ebe7c04216d5444f6dba74762cb682f2dda1a69d00fca", func := "remould/remouldlaw01.CasingTables", spec := "casingTables", inPlace := ["internal/bytealg.IndexByteString"], unfollowed := true, recurses := true, apart := false, narrowed := true }
def CasingTablesUptoSaid : Prop := casingTablesUptoRow.holds Try.pinned (OpenSpec.upto casingTablesSpec)

/-- 'remouldlaw01.CasingWays', WHERE WHAT IT READS IS OF BULK AT MOST 1048576: true; the input reads as it did. -/
def casingWaysUptoRow : OpenClaim := { program := "ytikedhkibdeheaa", sum := "4dfab4938cb893786a1ebe7c04216d5444f6dba74762cb682f2dda1a69d00fca", func := "remould/remouldlaw01.CasingWays", spec := "casingWays", inPlace := ["internal/bytealg.IndexByteString"], unfollowed := true, recurses := true, apart := false, narrowed := true }
def CasingWaysUptoSaid : Prop := casingWaysUptoRow.holds Try.pinned (OpenSpec.upto casingWaysSpec)

/-- 'remouldlaw01.CasingComposed', WHERE WHAT IT READS IS OF BULK AT MOST 1048576: true; the input reads as it did. -/
def casingComposedUptoRow : OpenClaim := { program := "ytikedhkibdeheaa", sum := "4dfab4938cb893786a1ebe7c04216d5444f6dba74762cb682f2dda1a69d00fca", func := "remould/remouldlaw01.CasingComposed", spec := "casingComposed", inPlace := ["internal/bytealg.IndexByteString"], unfollowed := true, recurses := true, apart := false, narrowed := true }
def CasingComposedUptoSaid : Prop := casingComposedUptoRow.holds Try.pinned (OpenSpec.upto casingComposedSpec)

end Rows
end Go.Proofs.Ytikedhkibdeheaa
