/-
  No cell of these rows narrows 'for every input' (looked for: loops, veiled, ifaces, maps, wideKeys, modest, calm, conditions, laid).
  DERIVED. THE GIVEN ROWS OF THIS SEAT. 6 by the template 'for every input the law returns true; each argument reads behind the call as it read before'; 0 by the template 'total and deterministic' (their statements: YtngonghgkeobhaaTotals.lean).
  GIVEN WITH THE SEED: the statements are not yours to turn. If you find one false, say at which input.
  Laid BY PROGRAM, IN A SANDBOX (cutbox-rows.mjs): the forced cells as the released guide's own fill.sh prints them over the translation ad62d2baecaf3899… (all of the seat's roots in one cut). By AI agents, Wed Nov 11 2026. No macro, syntax, notation, axiom, sorry.
-/
import Derived.Test.YtngonghgkeobhaaChecked
import GoSem.Claim
import GoSem.ClaimJoined
import GoSem.ClaimMapViews
import Derived.JoinedTies
import Derived.KernelRfl
namespace Go.Proofs.Ytngonghgkeobhaa
/- THE CELL 'sum', in the pinned program and in every row, IS THE sha256 OF THE DUMP (.gsa) THAT YtngonghgkeobhaaProg.lean LOADS. Nothing in Lean hashes anything: it is a label: what it is worth is what the hold of that sum in a sandbox is worth. -/
noncomputable def Try.pinned : Pinned := { name := "ytngonghgkeobhaa", sum := "ad62d2baecaf3899d8a86b3062629ba2c1d0b1f4b72e7decf1d2511a21770fb7", checked := Try.checked }
namespace Rows
def none {H : Type} : Left H := { results := [], args := [] }

/-- 'remouldlaw05.BeltFurther': WHATEVER THE INPUT: true; the input reads as it did. -/
def beltFurtherSpec : ChangeSpec := { name := "beltFurther", fn := fun _ => fun
  | [d1, d2, d3] => { results := [.lit (.bool true)], args := [d1, d2, d3] }
  | _ => none }
def beltFurtherRow : OpenClaim := { program := "ytngonghgkeobhaa", sum := "ad62d2baecaf3899d8a86b3062629ba2c1d0b1f4b72e7decf1d2511a21770fb7", func := "remould/remouldlaw05.BeltFurther", spec := "beltFurther", unfollowed := true, recurses := true, apart := false }
def BeltFurtherSaid : Prop := beltFurtherRow.holds Try.pinned (OpenSpec.ofChange beltFurtherSpec)

/-- ITS FALSE NEIGHBOUR: 'it returns false'. Refute it at one input. -/
def beltFurtherWrong : ChangeSpec := { name := "beltFurther", fn := fun _ => fun
  | [d1, d2, d3] => { results := [.lit (.bool false)], args := [d1, d2, d3] }
  | _ => none }
def BeltFurtherWrongFalsely : Prop := beltFurtherRow.holds Try.pinned (OpenSpec.ofChange beltFurtherWrong)

/-- 'remouldlaw05.BeltOpposite': WHATEVER THE INPUT: true; the input reads as it did. -/
def beltOppositeSpec : ChangeSpec := { name := "beltOpposite", fn := fun _ => fun
  | [d1, d2, d3] => { results := [.lit (.bool true)], args := [d1, d2, d3] }
  | _ => none }
def beltOppositeRow : OpenClaim := { program := "ytngonghgkeobhaa", sum := "ad62d2baecaf3899d8a86b3062629ba2c1d0b1f4b72e7decf1d2511a21770fb7", func := "remould/remouldlaw05.BeltOpposite", spec := "beltOpposite", unfollowed := true, recurses := true, apart := false }
def BeltOppositeSaid : Prop := beltOppositeRow.holds Try.pinned (OpenSpec.ofChange beltOppositeSpec)

/-- ITS FALSE NEIGHBOUR: 'it returns false'. Refute it at one input. -/
def beltOppositeWrong : ChangeSpec := { name := "beltOpposite", fn := fun _ => fun
  | [d1, d2, d3] => { results := [.lit (.bool false)], args := [d1, d2, d3] }
  | _ => none }
def BeltOppositeWrongFalsely : Prop := beltOppositeRow.holds Try.pinned (OpenSpec.ofChange beltOppositeWrong)

/-- 'remouldlaw05.BeltSwitched': WHATEVER THE INPUT: true; the input reads as it did. -/
def beltSwitchedSpec : ChangeSpec := { name := "beltSwitched", fn := fun _ => fun
  | [d1, d2, d3, d4] => { results := [.lit (.bool true)], args := [d1, d2, d3, d4] }
  | _ => none }
def beltSwitchedRow : OpenClaim := { program := "ytngonghgkeobhaa", sum := "ad62d2baecaf3899d8a86b3062629ba2c1d0b1f4b72e7decf1d2511a21770fb7", func := "remould/remouldlaw05.BeltSwitched", spec := "beltSwitched", unfollowed := true, recurses := true, apart := false }
def BeltSwitchedSaid : Prop := beltSwitchedRow.holds Try.pinned (OpenSpec.ofChange beltSwitchedSpec)

/-- ITS FALSE NEIGHBOUR: 'it returns false'. Refute it at one input. -/
def beltSwitchedWrong : ChangeSpec := { name := "beltSwitched", fn := fun _ => fun
  | [d1, d2, d3, d4] => { results := [.lit (.bool false)], args := [d1, d2, d3, d4] }
  | _ => none }
def BeltSwitchedWrongFalsely : Prop := beltSwitchedRow.holds Try.pinned (OpenSpec.ofChange beltSwitchedWrong)

/-- 'remouldlaw05.BeltGreatest': WHATEVER THE INPUT: true; the input reads as it did. -/
def beltGreatestSpec : ChangeSpec := { name := "beltGreatest", fn := fun _ => fun
  | [d1, d2, d3] => { results := [.lit (.bool true)], args := [d1, d2, d3] }
  | _ => none }
def beltGreatestRow : OpenClaim := { program := "ytngonghgkeobhaa", sum := "ad62d2baecaf3899d8a86b3062629ba2c1d0b1f4b72e7decf1d2511a21770fb7", func := "remould/remouldlaw05.BeltGreatest", spec := "beltGreatest", unfollowed := true, recurses := true, apart := false }
def BeltGreatestSaid : Prop := beltGreatestRow.holds Try.pinned (OpenSpec.ofChange beltGreatestSpec)

/-- ITS FALSE NEIGHBOUR: 'it returns false'. Refute it at one input. -/
def beltGreatestWrong : ChangeSpec := { name := "beltGreatest", fn := fun _ => fun
  | [d1, d2, d3] => { results := [.lit (.bool false)], args := [d1, d2, d3] }
  | _ => none }
def BeltGreatestWrongFalsely : Prop := beltGreatestRow.holds Try.pinned (OpenSpec.ofChange beltGreatestWrong)

/-- 'remouldlaw05.BeltBalanced': WHATEVER THE INPUT: true; the input reads as it did. -/
def beltBalancedSpec : ChangeSpec := { name := "beltBalanced", fn := fun _ => fun
  | [d1, d2, d3] => { results := [.lit (.bool true)], args := [d1, d2, d3] }
  | _ => none }
def beltBalancedRow : OpenClaim := { program := "ytngonghgkeobhaa", sum := "ad62d2baecaf3899d8a86b3062629ba2c1d0b1f4b72e7decf1d2511a21770fb7", func := "remould/remouldlaw05.BeltBalanced", spec := "beltBalanced", unfollowed := true, recurses := true, apart := false }
def BeltBalancedSaid : Prop := beltBalancedRow.holds Try.pinned (OpenSpec.ofChange beltBalancedSpec)

/-- ITS FALSE NEIGHBOUR: 'it returns false'. Refute it at one input. -/
def beltBalancedWrong : ChangeSpec := { name := "beltBalanced", fn := fun _ => fun
  | [d1, d2, d3] => { results := [.lit (.bool false)], args := [d1, d2, d3] }
  | _ => none }
def BeltBalancedWrongFalsely : Prop := beltBalancedRow.holds Try.pinned (OpenSpec.ofChange beltBalancedWrong)

/-- 'remouldlaw05.BeltAlls': WHATEVER THE INPUT: true; the input reads as it did. -/
def beltAllsSpec : ChangeSpec := { name := "beltAlls", fn := fun _ => fun
  | [d1, d2] => { results := [.lit (.bool true)], args := [d1, d2] }
  | _ => none }
def beltAllsRow : OpenClaim := { program := "ytngonghgkeobhaa", sum := "ad62d2baecaf3899d8a86b3062629ba2c1d0b1f4b72e7decf1d2511a21770fb7", func := "remould/remouldlaw05.BeltAlls", spec := "beltAlls", unfollowed := true, recurses := true, apart := false }
def BeltAllsSaid : Prop := beltAllsRow.holds Try.pinned (OpenSpec.ofChange beltAllsSpec)

/-- ITS FALSE NEIGHBOUR: 'it returns false'. Refute it at one input. -/
def beltAllsWrong : ChangeSpec := { name := "beltAlls", fn := fun _ => fun
  | [d1, d2] => { results := [.lit (.bool false)], args := [d1, d2] }
  | _ => none }
def BeltAllsWrongFalsely : Prop := beltAllsRow.holds Try.pinned (OpenSpec.ofChange beltAllsWrong)

/- THE SECOND FORM. 'bulk': how many values and letters a reading holds, each counted each time it is reached (what is shared counts as often as it is met; a slice's spare places count too). A statement '..UptoSaid' is the law's where the arguments, and the package variables that the reading takes, are together of bulk at most 1048576: NARROWER than '..Said'. Prove '..Said' where nothing that the law and all that it calls make is longer than what came in: it says more and counts as full. Else prove '..UptoSaid'. A law counts once. -/
mutual
def uptoBulk {H : Type} : DataW H → Nat
  | .lit (.string bytes) => bytes.length + 1
  | .lit _ => 1
  | .nil => 1
  | .ptr d => uptoBulk d + 1
  | .slice elems spare => uptoBulkAll elems + uptoBulkAll spare + 1
  | .agg parts => uptoBulkAll parts + 1
  | .iface _ d => uptoBulk d + 1
  | .map entries => uptoBulkEntries entries + 1
  | .held _ => 1
def uptoBulkAll {H : Type} : List (DataW H) → Nat
  | [] => 0
  | d :: r => uptoBulk d + uptoBulkAll r
def uptoBulkEntries {H : Type} : List (Lit × DataW H) → Nat
  | [] => 0
  | x :: r => uptoBulkEntry x + uptoBulkEntries r
def uptoBulkEntry {H : Type} : Lit × DataW H → Nat
  | (.string bytes, d) => bytes.length + uptoBulk d + 1
  | (_, d) => uptoBulk d + 1
 end
def uptoSmall : (H : Type) → List (DataW H) → Bool := fun _ ds => decide (uptoBulkAll ds ≤ 1048576)
def OpenSpec.upto (s : _root_.Go.ChangeSpec) : _root_.Go.OpenSpec := { _root_.Go.OpenSpec.ofChange s with cond := some uptoSmall }

/-- 'remouldlaw05.BeltFurther', WHERE WHAT IT READS IS OF BULK AT MOST 1048576: true; the input reads as it did. -/
def beltFurtherUptoRow : OpenClaim := { program := "ytngonghgkeobhaa", sum := "ad62d2baecaf3899d8a86b3062629ba2c1d0b1f4b72e7decf1d2511a21770fb7", func := "remould/remouldlaw05.BeltFurther", spec := "beltFurther", unfollowed := true, recurses := true, apart := false, narrowed := true }
def BeltFurtherUptoSaid : Prop := beltFurtherUptoRow.holds Try.pinned (OpenSpec.upto beltFurtherSpec)

/-- 'remouldlaw05.BeltOpposite', WHERE WHAT IT READS IS OF BULK AT MOST 1048576: true; the input reads as it did. -/
def beltOppositeUptoRow : OpenClaim := { program := "ytngonghgkeobhaa", sum := "ad62d2baecaf3899d8a86b3062629ba2c1d0b1f4b72e7decf1d2511a21770fb7", func := "remould/remouldlaw05.BeltOpposite", spec := "beltOpposite", unfollowed := true, recurses := true, apart := false, narrowed := true }
def BeltOppositeUptoSaid : Prop := beltOppositeUptoRow.holds Try.pinned (OpenSpec.upto beltOppositeSpec)

/-- 'remouldlaw05.BeltSwitched', WHERE WHAT IT READS IS OF BULK AT MOST 1048576: true; the input reads as it did. -/
def beltSwitchedUptoRow : OpenClaim := { program := "ytngonghgkeobhaa", sum := "ad62d2baecaf3899d8a86b3062629ba2c1d0b1f4b72e7decf1d2511a21770fb7", func := "remould/remouldlaw05.BeltSwitched", spec := "beltSwitched", unfollowed := true, recurses := true, apart := false, narrowed := true }
def BeltSwitchedUptoSaid : Prop := beltSwitchedUptoRow.holds Try.pinned (OpenSpec.upto beltSwitchedSpec)

/-- 'remouldlaw05.BeltGreatest', WHERE WHAT IT READS IS OF BULK AT MOST 1048576: true; the input reads as it did. -/
def beltGreatestUptoRow : OpenClaim := { program := "ytngonghgkeobhaa", sum := "ad62d2baecaf3899d8a86b3062629ba2c1d0b1f4b72e7decf1d2511a21770fb7", func := "remould/remouldlaw05.BeltGreatest", spec := "beltGreatest", unfollowed := true, recurses := true, apart := false, narrowed := true }
def BeltGreatestUptoSaid : Prop := beltGreatestUptoRow.holds Try.pinned (OpenSpec.upto beltGreatestSpec)

/-- 'remouldlaw05.BeltBalanced', WHERE WHAT IT READS IS OF BULK AT MOST 1048576: true; the input reads as it did. -/
def beltBalancedUptoRow : OpenClaim := { program := "ytngonghgkeobhaa", sum := "ad62d2baecaf3899d8a86b3062629ba2c1d0b1f4b72e7decf1d2511a21770fb7", func := "remould/remouldlaw05.BeltBalanced", spec := "beltBalanced", unfollowed := true, recurses := true, apart := false, narrowed := true }
def BeltBalancedUptoSaid : Prop := beltBalancedUptoRow.holds Try.pinned (OpenSpec.upto beltBalancedSpec)

/-- 'remouldlaw05.BeltAlls', WHERE WHAT IT READS IS OF BULK AT MOST 1048576: true; the input reads as it did. -/
def beltAllsUptoRow : OpenClaim := { program := "ytngonghgkeobhaa", sum := "ad62d2baecaf3899d8a86b3062629ba2c1d0b1f4b72e7decf1d2511a21770fb7", func := "remould/remouldlaw05.BeltAlls", spec := "beltAlls", unfollowed := true, recurses := true, apart := false, narrowed := true }
def BeltAllsUptoSaid : Prop := beltAllsUptoRow.holds Try.pinned (OpenSpec.upto beltAllsSpec)

end Rows
end Go.Proofs.Ytngonghgkeobhaa
