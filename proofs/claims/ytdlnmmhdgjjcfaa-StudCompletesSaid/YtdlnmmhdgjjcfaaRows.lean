/-
  No cell of these rows narrows 'for every input' (looked for: loops, veiled, ifaces, maps, wideKeys, modest, calm, conditions, laid).
  DERIVED. THE GIVEN ROWS OF THIS SEAT. 4 by the template 'for every input the law returns true; each argument reads behind the call as it read before'; 0 by the template 'total and deterministic' (their statements: YtdlnmmhdgjjcfaaTotals.lean).
  GIVEN WITH THE SEED: the statements are not yours to turn. If you find one false, say at which input.
  Laid BY PROGRAM, IN A SANDBOX (cutbox-rows.mjs): the forced cells as the released guide's own fill.sh prints them over the translation 0e7a90ab01a0fb59… (all of the seat's roots in one cut). By AI agents, Wed Nov 11 2026. No macro, syntax, notation, axiom, sorry.
-/
import Derived.Test.YtdlnmmhdgjjcfaaChecked
import GoSem.Claim
import GoSem.ClaimJoined
import GoSem.ClaimMapViews
import Derived.JoinedTies
import Derived.KernelRfl
namespace Go.Proofs.Ytdlnmmhdgjjcfaa
/- THE CELL 'sum', in the pinned program and in every row, IS THE sha256 OF THE DUMP (.gsa) THAT YtdlnmmhdgjjcfaaProg.lean LOADS. Nothing in Lean hashes anything: it is a label: what it is worth is what the hold of that sum in a sandbox is worth. -/
noncomputable def Try.pinned : Pinned := { name := "ytdlnmmhdgjjcfaa", sum := "0e7a90ab01a0fb5913fe2a7027129bcd28558f3d604ecc627254eb3553b7e207", checked := Try.checked }
namespace Rows
def none {H : Type} : Left H := { results := [], args := [] }

/-- 'remouldlaw03.StudCompletes': WHATEVER THE INPUT: true; the input reads as it did. -/
def studCompletesSpec : ChangeSpec := { name := "studCompletes", fn := fun _ => fun
  | [d1, d2] => { results := [.lit (.bool true)], args := [d1, d2] }
  | _ => none }
def studCompletesRow : OpenClaim := { program := "ytdlnmmhdgjjcfaa", sum := "0e7a90ab01a0fb5913fe2a7027129bcd28558f3d604ecc627254eb3553b7e207", func := "remould/remouldlaw03.StudCompletes", spec := "studCompletes", unfollowed := true, recurses := true, apart := false }
def StudCompletesSaid : Prop := studCompletesRow.holds Try.pinned (OpenSpec.ofChange studCompletesSpec)

/-- ITS FALSE NEIGHBOUR: 'it returns false'. Refute it at one input. -/
def studCompletesWrong : ChangeSpec := { name := "studCompletes", fn := fun _ => fun
  | [d1, d2] => { results := [.lit (.bool false)], args := [d1, d2] }
  | _ => none }
def StudCompletesWrongFalsely : Prop := studCompletesRow.holds Try.pinned (OpenSpec.ofChange studCompletesWrong)

/-- 'remouldlaw03.StudNexts': WHATEVER THE INPUT: true; the input reads as it did. -/
def studNextsSpec : ChangeSpec := { name := "studNexts", fn := fun _ => fun
  | [d] => { results := [.lit (.bool true)], args := [d] }
  | _ => none }
def studNextsRow : OpenClaim := { program := "ytdlnmmhdgjjcfaa", sum := "0e7a90ab01a0fb5913fe2a7027129bcd28558f3d604ecc627254eb3553b7e207", func := "remould/remouldlaw03.StudNexts", spec := "studNexts", unfollowed := true, recurses := true, apart := false }
def StudNextsSaid : Prop := studNextsRow.holds Try.pinned (OpenSpec.ofChange studNextsSpec)

/-- ITS FALSE NEIGHBOUR: 'it returns false'. Refute it at one input. -/
def studNextsWrong : ChangeSpec := { name := "studNexts", fn := fun _ => fun
  | [d] => { results := [.lit (.bool false)], args := [d] }
  | _ => none }
def StudNextsWrongFalsely : Prop := studNextsRow.holds Try.pinned (OpenSpec.ofChange studNextsWrong)

/-- 'remouldlaw03.StudItems': WHATEVER THE INPUT: true; the input reads as it did. -/
def studItemsSpec : ChangeSpec := { name := "studItems", fn := fun _ => fun
  | [d1, d2] => { results := [.lit (.bool true)], args := [d1, d2] }
  | _ => none }
def studItemsRow : OpenClaim := { program := "ytdlnmmhdgjjcfaa", sum := "0e7a90ab01a0fb5913fe2a7027129bcd28558f3d604ecc627254eb3553b7e207", func := "remould/remouldlaw03.StudItems", spec := "studItems", unfollowed := true, recurses := true, apart := false }
def StudItemsSaid : Prop := studItemsRow.holds Try.pinned (OpenSpec.ofChange studItemsSpec)

/-- ITS FALSE NEIGHBOUR: 'it returns false'. Refute it at one input. -/
def studItemsWrong : ChangeSpec := { name := "studItems", fn := fun _ => fun
  | [d1, d2] => { results := [.lit (.bool false)], args := [d1, d2] }
  | _ => none }
def StudItemsWrongFalsely : Prop := studItemsRow.holds Try.pinned (OpenSpec.ofChange studItemsWrong)

/-- 'remouldlaw03.StudListed': WHATEVER THE INPUT: true; the input reads as it did. -/
def studListedSpec : ChangeSpec := { name := "studListed", fn := fun _ => fun
  | [d1, d2] => { results := [.lit (.bool true)], args := [d1, d2] }
  | _ => none }
def studListedRow : OpenClaim := { program := "ytdlnmmhdgjjcfaa", sum := "0e7a90ab01a0fb5913fe2a7027129bcd28558f3d604ecc627254eb3553b7e207", func := "remould/remouldlaw03.StudListed", spec := "studListed", unfollowed := true, recurses := true, apart := false }
def StudListedSaid : Prop := studListedRow.holds Try.pinned (OpenSpec.ofChange studListedSpec)

/-- ITS FALSE NEIGHBOUR: 'it returns false'. Refute it at one input. -/
def studListedWrong : ChangeSpec := { name := "studListed", fn := fun _ => fun
  | [d1, d2] => { results := [.lit (.bool false)], args := [d1, d2] }
  | _ => none }
def StudListedWrongFalsely : Prop := studListedRow.holds Try.pinned (OpenSpec.ofChange studListedWrong)

/- THE SECOND FORM. 'bulk': how many values and letters a reading holds, each counted each time it is reached (what is shared counts as often as it is met; a slice's spare places count too). A statement '..UptoSaid' is the law's where the arguments, and the package variables that the reading takes, are together of bulk at most 1048576: NARROWER than '..Said'. Prove '..Said' where nothing that the law and all that it calls make is longer than what came in: it says more and counts as full. Else prove '..UptoSaid'. A law counts once. -/
mutual
def uptoBulk {H : Type} : DataW H → Nat
  | .lit (.string bytes) => bytes.length + 1
  | .lit _ => 1
  | .nil => 1
  | .ptr d => uptoBulk d + 1
  | .slice elems spare => uptoBulkAll elems + uptoBulkAll spare + 1
  | .agg parts => uptoBulkAll parts + 1
  | .iface _ d => uptoBulk d + 1
  | .map entries => uptoBulkEntries entries + 1
  | .held _ => 1
def uptoBulkAll {H : Type} : List (DataW H) → Nat
  | [] => 0
  | d :: r => uptoBulk d + uptoBulkAll r
def uptoBulkEntries {H : Type} : List (Lit × DataW H) → Nat
  | [] => 0
  | x :: r => uptoBulkEntry x + uptoBulkEntries r
def uptoBulkEntry {H : Type} : Lit × DataW H → Nat
  | (.string bytes, d) => bytes.length + uptoBulk d + 1
  | (_, d) => uptoBulk d + 1
 end
def uptoSmall : (H : Type) → List (DataW H) → Bool := fun _ ds => decide (uptoBulkAll ds ≤ 1048576)
def OpenSpec.upto (s : _root_.Go.ChangeSpec) : _root_.Go.OpenSpec := { _root_.Go.OpenSpec.ofChange s with cond := some uptoSmall }

/-- 'remouldlaw03.StudCompletes', WHERE WHAT IT READS IS OF BULK AT MOST 1048576: true; the input reads as it did. -/
def studCompletesUptoRow : OpenClaim := { program := "ytdlnmmhdgjjcfaa", sum := "0e7a90ab01a0fb5913fe2a7027129bcd28558f3d604ecc627254eb3553b7e207", func := "remould/remouldlaw03.StudCompletes", spec := "studCompletes", unfollowed := true, recurses := true, apart := false, narrowed := true }
def StudCompletesUptoSaid : Prop := studCompletesUptoRow.holds Try.pinned (OpenSpec.upto studCompletesSpec)

/-- 'remouldlaw03.StudNexts', WHERE WHAT IT READS IS OF BULK AT MOST 1048576: true; the input reads as it did. -/
def studNextsUptoRow : OpenClaim := { program := "ytdlnmmhdgjjcfaa", sum := "0e7a90ab01a0fb5913fe2a7027129bcd28558f3d604ecc627254eb3553b7e207", func := "remould/remouldlaw03.StudNexts", spec := "studNexts", unfollowed := true, recurses := true, apart := false, narrowed := true }
def StudNextsUptoSaid : Prop := studNextsUptoRow.holds Try.pinned (OpenSpec.upto studNextsSpec)

/-- 'remouldlaw03.StudItems', WHERE WHAT IT READS IS OF BULK AT MOST 1048576: true; the input reads as it did. -/
def studItemsUptoRow : OpenClaim := { program := "ytdlnmmhdgjjcfaa", sum := "0e7a90ab01a0fb5913fe2a7027129bcd28558f3d604ecc627254eb3553b7e207", func := "remould/remouldlaw03.StudItems", spec := "studItems", unfollowed := true, recurses := true, apart := false, narrowed := true }
def StudItemsUptoSaid : Prop := studItemsUptoRow.holds Try.pinned (OpenSpec.upto studItemsSpec)

/-- 'remouldlaw03.StudListed', WHERE WHAT IT READS IS OF BULK AT MOST 1048576: true; the input reads as it did. -/
def studListedUptoRow : OpenClaim := { program := "ytdlnmmhdgjjcfaa", sum := "0e7a90ab01a0fb5913fe2a7027129bcd28558f3d604ecc627254eb3553b7e207", func := "remould/remouldlaw03.StudListed", spec := "studListed", unfollowed := true, recurses := true, apart := false, narrowed := true }
def StudListedUptoSaid : Prop := studListedUptoRow.holds Try.pinned (OpenSpec.upto studListedSpec)

end Rows
end Go.Proofs.Ytdlnmmhdgjjcfaa
