/-
  No cell of these rows narrows 'for every input' (looked for: loops, veiled, ifaces, maps, wideKeys, modest, calm, conditions, laid).
  DERIVED. THE GIVEN ROWS OF THIS SEAT. 6 by the template 'for every input the law returns true; each argument reads behind the call as it read before'; 0 by the template 'total and deterministic' (their statements: YtkecigfgggeleaaTotals.lean).
  GIVEN WITH THE SEED: the statements are not yours to turn. If you find one false, say at which input.
  Laid BY PROGRAM, IN A SANDBOX (cutbox-rows.mjs): the forced cells as the released guide's own fill.sh prints them over the translation b270164ffe15ee9b… (all of the seat's roots in one cut). By AI agents, Wed Nov 11 2026. No macro, syntax, notation, axiom, sorry.
-/
import Derived.Test.YtkecigfgggeleaaChecked
import GoSem.Claim
import GoSem.ClaimJoined
import GoSem.ClaimMapViews
import Derived.JoinedTies
import Derived.KernelRfl
namespace Go.Proofs.Ytkecigfgggeleaa
/- THE CELL 'sum', in the pinned program and in every row, IS THE sha256 OF THE DUMP (.gsa) THAT YtkecigfgggeleaaProg.lean LOADS. Nothing in Lean hashes anything: it is a label: what it is worth is what the hold of that sum in a sandbox is worth. -/
noncomputable def Try.pinned : Pinned := { name := "ytkecigfgggeleaa", sum := "b270164ffe15ee9bb01276925fbc78b518d6396800f7dd0189e3cd9ec258c684", checked := Try.checked }
namespace Rows
def none {H : Type} : Left H := { results := [], args := [] }

/-- 'remouldlaw05.BeltSwitches': WHATEVER THE INPUT: true; the input reads as it did. -/
def beltSwitchesSpec : ChangeSpec := { name := "beltSwitches", fn := fun _ => fun
  | [d1, d2, d3] => { results := [.lit (.bool true)], args := [d1, d2, d3] }
  | _ => none }
def beltSwitchesRow : OpenClaim := { program := "ytkecigfgggeleaa", sum := "b270164ffe15ee9bb01276925fbc78b518d6396800f7dd0189e3cd9ec258c684", func := "remould/remouldlaw05.BeltSwitches", spec := "beltSwitches", unfollowed := true, recurses := true, apart := false }
def BeltSwitchesSaid : Prop := beltSwitchesRow.holds Try.pinned (OpenSpec.ofChange beltSwitchesSpec)

/-- ITS FALSE NEIGHBOUR: 'it returns false'. Refute it at one input. -/
def beltSwitchesWrong : ChangeSpec := { name := "beltSwitches", fn := fun _ => fun
  | [d1, d2, d3] => { results := [.lit (.bool false)], args := [d1, d2, d3] }
  | _ => none }
def BeltSwitchesWrongFalsely : Prop := beltSwitchesRow.holds Try.pinned (OpenSpec.ofChange beltSwitchesWrong)

/-- 'remouldlaw05.BeltGained': WHATEVER THE INPUT: true; the input reads as it did. -/
def beltGainedSpec : ChangeSpec := { name := "beltGained", fn := fun _ => fun
  | [d1, d2, d3, d4] => { results := [.lit (.bool true)], args := [d1, d2, d3, d4] }
  | _ => none }
def beltGainedRow : OpenClaim := { program := "ytkecigfgggeleaa", sum := "b270164ffe15ee9bb01276925fbc78b518d6396800f7dd0189e3cd9ec258c684", func := "remould/remouldlaw05.BeltGained", spec := "beltGained", unfollowed := true, recurses := true, apart := false }
def BeltGainedSaid : Prop := beltGainedRow.holds Try.pinned (OpenSpec.ofChange beltGainedSpec)

/-- ITS FALSE NEIGHBOUR: 'it returns false'. Refute it at one input. -/
def beltGainedWrong : ChangeSpec := { name := "beltGained", fn := fun _ => fun
  | [d1, d2, d3, d4] => { results := [.lit (.bool false)], args := [d1, d2, d3, d4] }
  | _ => none }
def BeltGainedWrongFalsely : Prop := beltGainedRow.holds Try.pinned (OpenSpec.ofChange beltGainedWrong)

/-- 'remouldlaw05.BeltClimbs': WHATEVER THE INPUT: true; the input reads as it did. -/
def beltClimbsSpec : ChangeSpec := { name := "beltClimbs", fn := fun _ => fun
  | [d1, d2, d3] => { results := [.lit (.bool true)], args := [d1, d2, d3] }
  | _ => none }
def beltClimbsRow : OpenClaim := { program := "ytkecigfgggeleaa", sum := "b270164ffe15ee9bb01276925fbc78b518d6396800f7dd0189e3cd9ec258c684", func := "remould/remouldlaw05.BeltClimbs", spec := "beltClimbs", unfollowed := true, recurses := true, apart := false }
def BeltClimbsSaid : Prop := beltClimbsRow.holds Try.pinned (OpenSpec.ofChange beltClimbsSpec)

/-- ITS FALSE NEIGHBOUR: 'it returns false'. Refute it at one input. -/
def beltClimbsWrong : ChangeSpec := { name := "beltClimbs", fn := fun _ => fun
  | [d1, d2, d3] => { results := [.lit (.bool false)], args := [d1, d2, d3] }
  | _ => none }
def BeltClimbsWrongFalsely : Prop := beltClimbsRow.holds Try.pinned (OpenSpec.ofChange beltClimbsWrong)

/-- 'remouldlaw05.BeltBests': WHATEVER THE INPUT: true; the input reads as it did. -/
def beltBestsSpec : ChangeSpec := { name := "beltBests", fn := fun _ => fun
  | [d1, d2] => { results := [.lit (.bool true)], args := [d1, d2] }
  | _ => none }
def beltBestsRow : OpenClaim := { program := "ytkecigfgggeleaa", sum := "b270164ffe15ee9bb01276925fbc78b518d6396800f7dd0189e3cd9ec258c684", func := "remould/remouldlaw05.BeltBests", spec := "beltBests", unfollowed := true, recurses := true, apart := false }
def BeltBestsSaid : Prop := beltBestsRow.holds Try.pinned (OpenSpec.ofChange beltBestsSpec)

/-- ITS FALSE NEIGHBOUR: 'it returns false'. Refute it at one input. -/
def beltBestsWrong : ChangeSpec := { name := "beltBests", fn := fun _ => fun
  | [d1, d2] => { results := [.lit (.bool false)], args := [d1, d2] }
  | _ => none }
def BeltBestsWrongFalsely : Prop := beltBestsRow.holds Try.pinned (OpenSpec.ofChange beltBestsWrong)

/-- 'remouldlaw05.BeltTop': WHATEVER THE INPUT: true; the input reads as it did. -/
def beltTopSpec : ChangeSpec := { name := "beltTop", fn := fun _ => fun
  | [d1, d2, d3] => { results := [.lit (.bool true)], args := [d1, d2, d3] }
  | _ => none }
def beltTopRow : OpenClaim := { program := "ytkecigfgggeleaa", sum := "b270164ffe15ee9bb01276925fbc78b518d6396800f7dd0189e3cd9ec258c684", func := "remould/remouldlaw05.BeltTop", spec := "beltTop", unfollowed := true, recurses := true, apart := false }
def BeltTopSaid : Prop := beltTopRow.holds Try.pinned (OpenSpec.ofChange beltTopSpec)

/-- ITS FALSE NEIGHBOUR: 'it returns false'. Refute it at one input. -/
def beltTopWrong : ChangeSpec := { name := "beltTop", fn := fun _ => fun
  | [d1, d2, d3] => { results := [.lit (.bool false)], args := [d1, d2, d3] }
  | _ => none }
def BeltTopWrongFalsely : Prop := beltTopRow.holds Try.pinned (OpenSpec.ofChange beltTopWrong)

/-- 'remouldlaw05.BeltHalf': WHATEVER THE INPUT: true; the input reads as it did. -/
def beltHalfSpec : ChangeSpec := { name := "beltHalf", fn := fun _ => fun
  | [d1, d2, d3] => { results := [.lit (.bool true)], args := [d1, d2, d3] }
  | _ => none }
def beltHalfRow : OpenClaim := { program := "ytkecigfgggeleaa", sum := "b270164ffe15ee9bb01276925fbc78b518d6396800f7dd0189e3cd9ec258c684", func := "remould/remouldlaw05.BeltHalf", spec := "beltHalf", unfollowed := true, recurses := true, apart := false }
def BeltHalfSaid : Prop := beltHalfRow.holds Try.pinned (OpenSpec.ofChange beltHalfSpec)

/-- ITS FALSE NEIGHBOUR: 'it returns false'. Refute it at one input. -/
def beltHalfWrong : ChangeSpec := { name := "beltHalf", fn := fun _ => fun
  | [d1, d2, d3] => { results := [.lit (.bool false)], args := [d1, d2, d3] }
  | _ => none }
def BeltHalfWrongFalsely : Prop := beltHalfRow.holds Try.pinned (OpenSpec.ofChange beltHalfWrong)

/- THE SECOND FORM. 'bulk': how many values and letters a reading holds, each counted each time it is reached (what is shared counts as often as it is met; a slice's spare places count too). A statement '..UptoSaid' is the law's where the arguments, and the package variables that the reading takes, are together of bulk at most 1048576: NARROWER than '..Said'. Prove '..Said' where nothing that the law and all that it calls make is longer than what came in: it says more and counts as full. Else prove '..UptoSaid'. A law counts once. -/
mutual
def uptoBulk {H : Type} : DataW H → Nat
  | .lit (.string bytes) => bytes.length + 1
  | .lit _ => 1
  | .nil => 1
  | .ptr d => uptoBulk d + 1
  | .slice elems spare => uptoBulkAll elems + uptoBulkAll spare + 1
  | .agg parts => uptoBulkAll parts + 1
  | .iface _ d => uptoBulk d + 1
  | .map entries => uptoBulkEntries entries + 1
  | .held _ => 1
def uptoBulkAll {H : Type} : List (DataW H) → Nat
  | [] => 0
  | d :: r => uptoBulk d + uptoBulkAll r
def uptoBulkEntries {H : Type} : List (Lit × DataW H) → Nat
  | [] => 0
  | x :: r => uptoBulkEntry x + uptoBulkEntries r
def uptoBulkEntry {H : Type} : Lit × DataW H → Nat
  | (.string bytes, d) => bytes.length + uptoBulk d + 1
  | (_, d) => uptoBulk d + 1
 end
def uptoSmall : (H : Type) → List (DataW H) → Bool := fun _ ds => decide (uptoBulkAll ds ≤ 1048576)
def OpenSpec.upto (s : _root_.Go.ChangeSpec) : _root_.Go.OpenSpec := { _root_.Go.OpenSpec.ofChange s with cond := some uptoSmall }

/-- 'remouldlaw05.BeltSwitches', WHERE WHAT IT READS IS OF BULK AT MOST 1048576: true; the input reads as it did. -/
def beltSwitchesUptoRow : OpenClaim := { program := "ytkecigfgggeleaa", sum := "b270164ffe15ee9bb01276925fbc78b518d6396800f7dd0189e3cd9ec258c684", func := "remould/remouldlaw05.BeltSwitches", spec := "beltSwitches", unfollowed := true, recurses := true, apart := false, narrowed := true }
def BeltSwitchesUptoSaid : Prop := beltSwitchesUptoRow.holds Try.pinned (OpenSpec.upto beltSwitchesSpec)

/-- 'remouldlaw05.BeltGained', WHERE WHAT IT READS IS OF BULK AT MOST 1048576: true; the input reads as it did. -/
def beltGainedUptoRow : OpenClaim := { program := "ytkecigfgggeleaa", sum := "b270164ffe15ee9bb01276925fbc78b518d6396800f7dd0189e3cd9ec258c684", func := "remould/remouldlaw05.BeltGained", spec := "beltGained", unfollowed := true, recurses := true, apart := false, narrowed := true }
def BeltGainedUptoSaid : Prop := beltGainedUptoRow.holds Try.pinned (OpenSpec.upto beltGainedSpec)

/-- 'remouldlaw05.BeltClimbs', WHERE WHAT IT READS IS OF BULK AT MOST 1048576: true; the input reads as it did. -/
def beltClimbsUptoRow : OpenClaim := { program := "ytkecigfgggeleaa", sum := "b270164ffe15ee9bb01276925fbc78b518d6396800f7dd0189e3cd9ec258c684", func := "remould/remouldlaw05.BeltClimbs", spec := "beltClimbs", unfollowed := true, recurses := true, apart := false, narrowed := true }
def BeltClimbsUptoSaid : Prop := beltClimbsUptoRow.holds Try.pinned (OpenSpec.upto beltClimbsSpec)

/-- 'remouldlaw05.BeltBests', WHERE WHAT IT READS IS OF BULK AT MOST 1048576: true; the input reads as it did. -/
def beltBestsUptoRow : OpenClaim := { program := "ytkecigfgggeleaa", sum := "b270164ffe15ee9bb01276925fbc78b518d6396800f7dd0189e3cd9ec258c684", func := "remould/remouldlaw05.BeltBests", spec := "beltBests", unfollowed := true, recurses := true, apart := false, narrowed := true }
def BeltBestsUptoSaid : Prop := beltBestsUptoRow.holds Try.pinned (OpenSpec.upto beltBestsSpec)

/-- 'remouldlaw05.BeltTop', WHERE WHAT IT READS IS OF BULK AT MOST 1048576: true; the input reads as it did. -/
def beltTopUptoRow : OpenClaim := { program := "ytkecigfgggeleaa", sum := "b270164ffe15ee9bb01276925fbc78b518d6396800f7dd0189e3cd9ec258c684", func := "remould/remouldlaw05.BeltTop", spec := "beltTop", unfollowed := true, recurses := true, apart := false, narrowed := true }
def BeltTopUptoSaid : Prop := beltTopUptoRow.holds Try.pinned (OpenSpec.upto beltTopSpec)

/-- 'remouldlaw05.BeltHalf', WHERE WHAT IT READS IS OF BULK AT MOST 1048576: true; the input reads as it did. -/
def beltHalfUptoRow : OpenClaim := { program := "ytkecigfgggeleaa", sum := "b270164ffe15ee9bb01276925fbc78b518d6396800f7dd0189e3cd9ec258c684", func := "remould/remouldlaw05.BeltHalf", spec := "beltHalf", unfollowed := true, recurses := true, apart := false, narrowed := true }
def BeltHalfUptoSaid : Prop := beltHalfUptoRow.holds Try.pinned (OpenSpec.upto beltHalfSpec)

end Rows
end Go.Proofs.Ytkecigfgggeleaa
