/-
  No cell of these rows narrows 'for every input' (looked for: loops, veiled, ifaces, maps, wideKeys, modest, calm, conditions, laid).
  DERIVED. THE GIVEN ROWS OF THIS SEAT. 3 by the template 'for every input the law returns true; each argument reads behind the call as it read before'; 0 by the template 'total and deterministic' (their statements: YtdploccpobpjjaaTotals.lean).
  GIVEN WITH THE SEED: the statements are not yours to turn. If you find one false, say at which input.
  Laid BY PROGRAM, IN A SANDBOX (cutbox-rows.mjs): the forced cells as the released guide's own fill.sh prints them over the translation 2a88c3f7380600a9… (all of the seat's roots in one cut). By AI agents, Wed Nov 11 2026. No macro, syntax, notation, axiom, sorry.
-/
import Derived.Test.YtdploccpobpjjaaChecked
import GoSem.Claim
import GoSem.ClaimJoined
import GoSem.ClaimMapViews
import Derived.JoinedTies
import Derived.KernelRfl
namespace Go.Proofs.Ytdploccpobpjjaa
/- THE CELL 'sum', in the pinned program and in every row, IS THE sha256 OF THE DUMP (.gsa) THAT YtdploccpobpjjaaProg.lean LOADS. Nothing in Lean hashes anything: it is a label: what it is worth is what the hold of that sum in a sandbox is worth. -/
noncomputable def Try.pinned : Pinned := { name := "ytdploccpobpjjaa", sum := "2a88c3f7380600a97ec780b91a0ff9b619fead44de536913f6284f34d3e8f49f", checked := Try.checked }
namespace Rows
def none {H : Type} : Left H := { results := [], args := [] }

/-- 'remouldlaw03.StudCornered': WHATEVER THE INPUT: true; the input reads as it did. -/
def studCorneredSpec : ChangeSpec := { name := "studCornered", fn := fun _ => fun
  | [d1, d2] => { results := [.lit (.bool true)], args := [d1, d2] }
  | _ => none }
def studCorneredRow : OpenClaim := { program := "ytdploccpobpjjaa", sum := "2a88c3f7380600a97ec780b91a0ff9b619fead44de536913f6284f34d3e8f49f", func := "remould/remouldlaw03.StudCornered", spec := "studCornered", inPlace := ["slices.overlaps[int]"], unfollowed := true, recurses := true, plainKeys := false, apart := false }
def StudCorneredSaid : Prop := studCorneredRow.holds Try.pinned (OpenSpec.ofChange studCorneredSpec)

/-- ITS FALSE NEIGHBOUR: 'it returns false'. Refute it at one input. -/
def studCorneredWrong : ChangeSpec := { name := "studCornered", fn := fun _ => fun
  | [d1, d2] => { results := [.lit (.bool false)], args := [d1, d2] }
  | _ => none }
def StudCorneredWrongFalsely : Prop := studCorneredRow.holds Try.pinned (OpenSpec.ofChange studCorneredWrong)

/-- 'remouldlaw03.StudWorsts': WHATEVER THE INPUT: true; the input reads as it did. -/
def studWorstsSpec : ChangeSpec := { name := "studWorsts", fn := fun _ => fun
  | [d] => { results := [.lit (.bool true)], args := [d] }
  | _ => none }
def studWorstsRow : OpenClaim := { program := "ytdploccpobpjjaa", sum := "2a88c3f7380600a97ec780b91a0ff9b619fead44de536913f6284f34d3e8f49f", func := "remould/remouldlaw03.StudWorsts", spec := "studWorsts", inPlace := ["slices.overlaps[int]"], unfollowed := true, recurses := true, plainKeys := false, apart := false }
def StudWorstsSaid : Prop := studWorstsRow.holds Try.pinned (OpenSpec.ofChange studWorstsSpec)

/-- ITS FALSE NEIGHBOUR: 'it returns false'. Refute it at one input. -/
def studWorstsWrong : ChangeSpec := { name := "studWorsts", fn := fun _ => fun
  | [d] => { results := [.lit (.bool false)], args := [d] }
  | _ => none }
def StudWorstsWrongFalsely : Prop := studWorstsRow.holds Try.pinned (OpenSpec.ofChange studWorstsWrong)

/-- 'remouldlaw03.StudEither': WHATEVER THE INPUT: true; the input reads as it did. -/
def studEitherSpec : ChangeSpec := { name := "studEither", fn := fun _ => fun
  | [d1, d2] => { results := [.lit (.bool true)], args := [d1, d2] }
  | _ => none }
def studEitherRow : OpenClaim := { program := "ytdploccpobpjjaa", sum := "2a88c3f7380600a97ec780b91a0ff9b619fead44de536913f6284f34d3e8f49f", func := "remould/remouldlaw03.StudEither", spec := "studEither", unfollowed := true, recurses := true, plainKeys := false, apart := false }
def StudEitherSaid : Prop := studEitherRow.holds Try.pinned (OpenSpec.ofChange studEitherSpec)

/-- ITS FALSE NEIGHBOUR: 'it returns false'. Refute it at one input. -/
def studEitherWrong : ChangeSpec := { name := "studEither", fn := fun _ => fun
  | [d1, d2] => { results := [.lit (.bool false)], args := [d1, d2] }
  | _ => none }
def StudEitherWrongFalsely : Prop := studEitherRow.holds Try.pinned (OpenSpec.ofChange studEitherWrong)

/- THE SECOND FORM. 'bulk': how many values and letters a reading holds, each counted each time it is reached (what is shared counts as often as it is met; a slice's spare places count too). A statement '..UptoSaid' is the law's where the arguments, and the package variables that the reading takes, are together of bulk at most 1048576: NARROWER than '..Said'. Prove '..Said' where nothing that the law and all that it calls make is longer than what came in: it says more and counts as full. Else prove '..UptoSaid'. A law counts once. -/
mutual
def uptoBulk {H : Type} : DataW H → Nat
  | .lit (.string bytes) => bytes.length + 1
  | .lit _ => 1
  | .nil => 1
  | .ptr d => uptoBulk d + 1
  | .slice elems spare => uptoBulkAll elems + uptoBulkAll spare + 1
  | .agg parts => uptoBulkAll parts + 1
  | .iface _ d => uptoBulk d + 1
  | .map entries => uptoBulkEntries entries + 1
  | .held _ => 1
def uptoBulkAll {H : Type} : List (DataW H) → Nat
  | [] => 0
  | d :: r => uptoBulk d + uptoBulkAll r
def uptoBulkEntries {H : Type} : List (Lit × DataW H) → Nat
  | [] => 0
  | x :: r => uptoBulkEntry x + uptoBulkEntries r
def uptoBulkEntry {H : Type} : Lit × DataW H → Nat
  | (.string bytes, d) => bytes.length + uptoBulk d + 1
  | (_, d) => uptoBulk d + 1
 end
def uptoSmall : (H : Type) → List (DataW H) → Bool := fun _ ds => decide (uptoBulkAll ds ≤ 1048576)
def OpenSpec.upto (s : _root_.Go.ChangeSpec) : _root_.Go.OpenSpec := { _root_.Go.OpenSpec.ofChange s with cond := some uptoSmall }

/-- 'remouldlaw03.StudCornered', WHERE WHAT IT READS IS OF BULK AT MOST 1048576: true; the input reads as it did. -/
def studCorneredUptoRow : OpenClaim := { program := "ytdploccpobpjjaa", sum := "2a88c3f7380600a97ec780b91a0ff9b619fead44de536913f6284f34d3e8f49f", func := "remould/remouldlaw03.StudCornered", spec := "studCornered", inPlace := ["slices.overlaps[int]"], unfollowed := true, recurses := true, plainKeys := false, apart := false, narrowed := true }
def StudCorneredUptoSaid : Prop := studCorneredUptoRow.holds Try.pinned (OpenSpec.upto studCorneredSpec)

/-- 'remouldlaw03.StudWorsts', WHERE WHAT IT READS IS OF BULK AT MOST 1048576: true; the input reads as it did. -/
def studWorstsUptoRow : OpenClaim := { program := "ytdploccpobpjjaa", sum := "2a88c3f7380600a97ec780b91a0ff9b619fead44de536913f6284f34d3e8f49f", func := "remould/remouldlaw03.StudWorsts", spec := "studWorsts", inPlace := ["slices.overlaps[int]"], unfollowed := true, recurses := true, plainKeys := false, apart := false, narrowed := true }
def StudWorstsUptoSaid : Prop := studWorstsUptoRow.holds Try.pinned (OpenSpec.upto studWorstsSpec)

/-- 'remouldlaw03.StudEither', WHERE WHAT IT READS IS OF BULK AT MOST 1048576: true; the input reads as it did. -/
def studEitherUptoRow : OpenClaim := { program := "ytdploccpobpjjaa", sum := "2a88c3f7380600a97ec780b91a0ff9b619fead44de536913f6284f34d3e8f49f", func := "remould/remouldlaw03.StudEither", spec := "studEither", unfollowed := true, recurses := true, plainKeys := false, apart := false, narrowed := true }
def StudEitherUptoSaid : Prop := studEitherUptoRow.holds Try.pinned (OpenSpec.upto studEitherSpec)

end Rows
end Go.Proofs.Ytdploccpobpjjaa
