/-
  No cell of these rows narrows 'for every input' (looked for: loops, veiled, ifaces, maps, wideKeys, modest, calm, conditions, laid).
  DERIVED. THE GIVEN ROWS OF THIS SEAT. 4 by the template 'for every input the law returns true; each argument reads behind the call as it read before'; 0 by the template 'total and deterministic' (their statements: YtodopdfjjgpdeaaTotals.lean).
  GIVEN WITH THE SEED: the statements are not yours to turn. If you find one false, say at which input.
  Laid BY PROGRAM, IN A SANDBOX (cutbox-rows.mjs): the forced cells as the released guide's own fill.sh prints them over the translation bfb0c0fcc4453182… (all of the seat's roots in one cut). By AI agents, Wed Nov 11 2026. No macro, syntax, notation, axiom, sorry.
-/
import Derived.Test.YtodopdfjjgpdeaaChecked
import GoSem.Claim
import GoSem.ClaimJoined
import GoSem.ClaimMapViews
import Derived.JoinedTies
import Derived.KernelRfl
namespace Go.Proofs.Ytodopdfjjgpdeaa
/- THE CELL 'sum', in the pinned program and in every row, IS THE sha256 OF THE DUMP (.gsa) THAT YtodopdfjjgpdeaaProg.lean LOADS. Nothing in Lean hashes anything: it is a label: what it is worth is what the hold of that sum in a sandbox is worth. -/
noncomputable def Try.pinned : Pinned := { name := "ytodopdfjjgpdeaa", sum := "bfb0c0fcc4453182594e66469ab7b00e25cdc4da88268ccb2791ee531070fb9c", checked := Try.checked }
namespace Rows
def none {H : Type} : Left H := { results := [], args := [] }

/-- 'remouldlaw03.StudBetween': WHATEVER THE INPUT: true; the input reads as it did. -/
def studBetweenSpec : ChangeSpec := { name := "studBetween", fn := fun _ => fun
  | [d1, d2, d3] => { results := [.lit (.bool true)], args := [d1, d2, d3] }
  | _ => none }
def studBetweenRow : OpenClaim := { program := "ytodopdfjjgpdeaa", sum := "bfb0c0fcc4453182594e66469ab7b00e25cdc4da88268ccb2791ee531070fb9c", func := "remould/remouldlaw03.StudBetween", spec := "studBetween", unfollowed := true, recurses := true, apart := false }
def StudBetweenSaid : Prop := studBetweenRow.holds Try.pinned (OpenSpec.ofChange studBetweenSpec)

/-- ITS FALSE NEIGHBOUR: 'it returns false'. Refute it at one input. -/
def studBetweenWrong : ChangeSpec := { name := "studBetween", fn := fun _ => fun
  | [d1, d2, d3] => { results := [.lit (.bool false)], args := [d1, d2, d3] }
  | _ => none }
def StudBetweenWrongFalsely : Prop := studBetweenRow.holds Try.pinned (OpenSpec.ofChange studBetweenWrong)

/-- 'remouldlaw03.StudTurns': WHATEVER THE INPUT: true; the input reads as it did. -/
def studTurnsSpec : ChangeSpec := { name := "studTurns", fn := fun _ => fun
  | [d1, d2] => { results := [.lit (.bool true)], args := [d1, d2] }
  | _ => none }
def studTurnsRow : OpenClaim := { program := "ytodopdfjjgpdeaa", sum := "bfb0c0fcc4453182594e66469ab7b00e25cdc4da88268ccb2791ee531070fb9c", func := "remould/remouldlaw03.StudTurns", spec := "studTurns", unfollowed := true, recurses := true, apart := false }
def StudTurnsSaid : Prop := studTurnsRow.holds Try.pinned (OpenSpec.ofChange studTurnsSpec)

/-- ITS FALSE NEIGHBOUR: 'it returns false'. Refute it at one input. -/
def studTurnsWrong : ChangeSpec := { name := "studTurns", fn := fun _ => fun
  | [d1, d2] => { results := [.lit (.bool false)], args := [d1, d2] }
  | _ => none }
def StudTurnsWrongFalsely : Prop := studTurnsRow.holds Try.pinned (OpenSpec.ofChange studTurnsWrong)

/-- 'remouldlaw03.StudTwo': WHATEVER THE INPUT: true; the input reads as it did. -/
def studTwoSpec : ChangeSpec := { name := "studTwo", fn := fun _ => fun
  | [d1, d2, d3, d4] => { results := [.lit (.bool true)], args := [d1, d2, d3, d4] }
  | _ => none }
def studTwoRow : OpenClaim := { program := "ytodopdfjjgpdeaa", sum := "bfb0c0fcc4453182594e66469ab7b00e25cdc4da88268ccb2791ee531070fb9c", func := "remould/remouldlaw03.StudTwo", spec := "studTwo", unfollowed := true, recurses := true, apart := false }
def StudTwoSaid : Prop := studTwoRow.holds Try.pinned (OpenSpec.ofChange studTwoSpec)

/-- ITS FALSE NEIGHBOUR: 'it returns false'. Refute it at one input. -/
def studTwoWrong : ChangeSpec := { name := "studTwo", fn := fun _ => fun
  | [d1, d2, d3, d4] => { results := [.lit (.bool false)], args := [d1, d2, d3, d4] }
  | _ => none }
def StudTwoWrongFalsely : Prop := studTwoRow.holds Try.pinned (OpenSpec.ofChange studTwoWrong)

/-- 'remouldlaw03.StudMirrored': WHATEVER THE INPUT: true; the input reads as it did. -/
def studMirroredSpec : ChangeSpec := { name := "studMirrored", fn := fun _ => fun
  | [d1, d2, d3] => { results := [.lit (.bool true)], args := [d1, d2, d3] }
  | _ => none }
def studMirroredRow : OpenClaim := { program := "ytodopdfjjgpdeaa", sum := "bfb0c0fcc4453182594e66469ab7b00e25cdc4da88268ccb2791ee531070fb9c", func := "remould/remouldlaw03.StudMirrored", spec := "studMirrored", unfollowed := true, recurses := true, apart := false }
def StudMirroredSaid : Prop := studMirroredRow.holds Try.pinned (OpenSpec.ofChange studMirroredSpec)

/-- ITS FALSE NEIGHBOUR: 'it returns false'. Refute it at one input. -/
def studMirroredWrong : ChangeSpec := { name := "studMirrored", fn := fun _ => fun
  | [d1, d2, d3] => { results := [.lit (.bool false)], args := [d1, d2, d3] }
  | _ => none }
def StudMirroredWrongFalsely : Prop := studMirroredRow.holds Try.pinned (OpenSpec.ofChange studMirroredWrong)

/- THE SECOND FORM. 'bulk': how many values and letters a reading holds, each counted each time it is reached (what is shared counts as often as it is met; a slice's spare places count too). A statement '..UptoSaid' is the law's where the arguments, and the package variables that the reading takes, are together of bulk at most 1048576: NARROWER than '..Said'. Prove '..Said' where nothing that the law and all that it calls make is longer than what came in: it says more and counts as full. Else prove '..UptoSaid'. A law counts once. -/
mutual
def uptoBulk {H : Type} : DataW H → Nat
  | .lit (.string bytes) => bytes.length + 1
  | .lit _ => 1
  | .nil => 1
  | .ptr d => uptoBulk d + 1
  | .slice elems spare => uptoBulkAll elems + uptoBulkAll spare + 1
  | .agg parts => uptoBulkAll parts + 1
  | .iface _ d => uptoBulk d + 1
  | .map entries => uptoBulkEntries entries + 1
  | .held _ => 1
def uptoBulkAll {H : Type} : List (DataW H) → Nat
  | [] => 0
  | d :: r => uptoBulk d + uptoBulkAll r
def uptoBulkEntries {H : Type} : List (Lit × DataW H) → Nat
  | [] => 0
  | x :: r => uptoBulkEntry x + uptoBulkEntries r
def uptoBulkEntry {H : Type} : Lit × DataW H → Nat
  | (.string bytes, d) => bytes.length + uptoBulk d + 1
  | (_, d) => uptoBulk d + 1
 end
def uptoSmall : (H : Type) → List (DataW H) → Bool := fun _ ds => decide (uptoBulkAll ds ≤ 1048576)
def OpenSpec.upto (s : _root_.Go.ChangeSpec) : _root_.Go.OpenSpec := { _root_.Go.OpenSpec.ofChange s with cond := some uptoSmall }

/-- 'remouldlaw03.StudBetween', WHERE WHAT IT READS IS OF BULK AT MOST 1048576: true; the input reads as it did. -/
def studBetweenUptoRow : OpenClaim := { program := "ytodopdfjjgpdeaa", sum := "bfb0c0fcc4453182594e66469ab7b00e25cdc4da88268ccb2791ee531070fb9c", func := "remould/remouldlaw03.StudBetween", spec := "studBetween", unfollowed := true, recurses := true, apart := false, narrowed := true }
def StudBetweenUptoSaid : Prop := studBetweenUptoRow.holds Try.pinned (OpenSpec.upto studBetweenSpec)

/-- 'remouldlaw03.StudTurns', WHERE WHAT IT READS IS OF BULK AT MOST 1048576: true; the input reads as it did. -/
def studTurnsUptoRow : OpenClaim := { program := "ytodopdfjjgpdeaa", sum := "bfb0c0fcc4453182594e66469ab7b00e25cdc4da88268ccb2791ee531070fb9c", func := "remould/remouldlaw03.StudTurns", spec := "studTurns", unfollowed := true, recurses := true, apart := false, narrowed := true }
def StudTurnsUptoSaid : Prop := studTurnsUptoRow.holds Try.pinned (OpenSpec.upto studTurnsSpec)

/-- 'remouldlaw03.StudTwo', WHERE WHAT IT READS IS OF BULK AT MOST 1048576: true; the input reads as it did. -/
def studTwoUptoRow : OpenClaim := { program := "ytodopdfjjgpdeaa", sum := "bfb0c0fcc4453182594e66469ab7b00e25cdc4da88268ccb2791ee531070fb9c", func := "remould/remouldlaw03.StudTwo", spec := "studTwo", unfollowed := true, recurses := true, apart := false, narrowed := true }
def StudTwoUptoSaid : Prop := studTwoUptoRow.holds Try.pinned (OpenSpec.upto studTwoSpec)

/-- 'remouldlaw03.StudMirrored', WHERE WHAT IT READS IS OF BULK AT MOST 1048576: true; the input reads as it did. -/
def studMirroredUptoRow : OpenClaim := { program := "ytodopdfjjgpdeaa", sum := "bfb0c0fcc4453182594e66469ab7b00e25cdc4da88268ccb2791ee531070fb9c", func := "remould/remouldlaw03.StudMirrored", spec := "studMirrored", unfollowed := true, recurses := true, apart := false, narrowed := true }
def StudMirroredUptoSaid : Prop := studMirroredUptoRow.holds Try.pinned (OpenSpec.upto studMirroredSpec)

end Rows
end Go.Proofs.Ytodopdfjjgpdeaa
