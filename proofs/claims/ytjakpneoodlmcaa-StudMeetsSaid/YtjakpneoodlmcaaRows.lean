/-
  No cell of these rows narrows 'for every input' (looked for: loops, veiled, ifaces, maps, wideKeys, modest, calm, conditions, laid).
  DERIVED. THE GIVEN ROWS OF THIS SEAT. 5 by the template 'for every input the law returns true; each argument reads behind the call as it read before'; 0 by the template 'total and deterministic' (their statements: YtjakpneoodlmcaaTotals.lean).
  GIVEN WITH THE SEED: the statements are not yours to turn. If you find one false, say at which input.
  Laid BY PROGRAM, IN A SANDBOX (cutbox-rows.mjs): the forced cells as the released guide's own fill.sh prints them over the translation 70efdbd8dd57b3fa… (all of the seat's roots in one cut). By AI agents, Wed Nov 11 2026. No macro, syntax, notation, axiom, sorry.
-/
import Derived.Test.YtjakpneoodlmcaaChecked
import GoSem.Claim
import GoSem.ClaimJoined
import GoSem.ClaimMapViews
import Derived.JoinedTies
import Derived.KernelRfl
namespace Go.Proofs.Ytjakpneoodlmcaa
/- THE CELL 'sum', in the pinned program and in every row, IS THE sha256 OF THE DUMP (.gsa) THAT YtjakpneoodlmcaaProg.lean LOADS. Nothing in Lean hashes anything: it is a label: what it is worth is what the hold of that sum in a sandbox is worth. -/
noncomputable def Try.pinned : Pinned := { name := "ytjakpneoodlmcaa", sum := "70efdbd8dd57b3fa58c283254b9a6feb4204a866c63c229141dea830d290ed98", checked := Try.checked }
namespace Rows
def none {H : Type} : Left H := { results := [], args := [] }

/-- 'remouldlaw03.StudMeetings': WHATEVER THE INPUT: true; the input reads as it did. -/
def studMeetingsSpec : ChangeSpec := { name := "studMeetings", fn := fun _ => fun
  | [d1, d2, d3] => { results := [.lit (.bool true)], args := [d1, d2, d3] }
  | _ => none }
def studMeetingsRow : OpenClaim := { program := "ytjakpneoodlmcaa", sum := "70efdbd8dd57b3fa58c283254b9a6feb4204a866c63c229141dea830d290ed98", func := "remould/remouldlaw03.StudMeetings", spec := "studMeetings", unfollowed := true, recurses := true, apart := false }
def StudMeetingsSaid : Prop := studMeetingsRow.holds Try.pinned (OpenSpec.ofChange studMeetingsSpec)

/-- ITS FALSE NEIGHBOUR: 'it returns false'. Refute it at one input. -/
def studMeetingsWrong : ChangeSpec := { name := "studMeetings", fn := fun _ => fun
  | [d1, d2, d3] => { results := [.lit (.bool false)], args := [d1, d2, d3] }
  | _ => none }
def StudMeetingsWrongFalsely : Prop := studMeetingsRow.holds Try.pinned (OpenSpec.ofChange studMeetingsWrong)

/-- 'remouldlaw03.StudMeets': WHATEVER THE INPUT: true; the input reads as it did. -/
def studMeetsSpec : ChangeSpec := { name := "studMeets", fn := fun _ => fun
  | [d1, d2, d3, d4] => { results := [.lit (.bool true)], args := [d1, d2, d3, d4] }
  | _ => none }
def studMeetsRow : OpenClaim := { program := "ytjakpneoodlmcaa", sum := "70efdbd8dd57b3fa58c283254b9a6feb4204a866c63c229141dea830d290ed98", func := "remould/remouldlaw03.StudMeets", spec := "studMeets", unfollowed := true, recurses := true, apart := false }
def StudMeetsSaid : Prop := studMeetsRow.holds Try.pinned (OpenSpec.ofChange studMeetsSpec)

/-- ITS FALSE NEIGHBOUR: 'it returns false'. Refute it at one input. -/
def studMeetsWrong : ChangeSpec := { name := "studMeets", fn := fun _ => fun
  | [d1, d2, d3, d4] => { results := [.lit (.bool false)], args := [d1, d2, d3, d4] }
  | _ => none }
def StudMeetsWrongFalsely : Prop := studMeetsRow.holds Try.pinned (OpenSpec.ofChange studMeetsWrong)

/-- 'remouldlaw03.StudItems': WHATEVER THE INPUT: true; the input reads as it did. -/
def studItemsSpec : ChangeSpec := { name := "studItems", fn := fun _ => fun
  | [d1, d2] => { results := [.lit (.bool true)], args := [d1, d2] }
  | _ => none }
def studItemsRow : OpenClaim := { program := "ytjakpneoodlmcaa", sum := "70efdbd8dd57b3fa58c283254b9a6feb4204a866c63c229141dea830d290ed98", func := "remould/remouldlaw03.StudItems", spec := "studItems", unfollowed := true, recurses := true, apart := false }
def StudItemsSaid : Prop := studItemsRow.holds Try.pinned (OpenSpec.ofChange studItemsSpec)

/-- ITS FALSE NEIGHBOUR: 'it returns false'. Refute it at one input. -/
def studItemsWrong : ChangeSpec := { name := "studItems", fn := fun _ => fun
  | [d1, d2] => { results := [.lit (.bool false)], args := [d1, d2] }
  | _ => none }
def StudItemsWrongFalsely : Prop := studItemsRow.holds Try.pinned (OpenSpec.ofChange studItemsWrong)

/-- 'remouldlaw03.StudListed': WHATEVER THE INPUT: true; the input reads as it did. -/
def studListedSpec : ChangeSpec := { name := "studListed", fn := fun _ => fun
  | [d1, d2] => { results := [.lit (.bool true)], args := [d1, d2] }
  | _ => none }
def studListedRow : OpenClaim := { program := "ytjakpneoodlmcaa", sum := "70efdbd8dd57b3fa58c283254b9a6feb4204a866c63c229141dea830d290ed98", func := "remould/remouldlaw03.StudListed", spec := "studListed", unfollowed := true, recurses := true, apart := false }
def StudListedSaid : Prop := studListedRow.holds Try.pinned (OpenSpec.ofChange studListedSpec)

/-- ITS FALSE NEIGHBOUR: 'it returns false'. Refute it at one input. -/
def studListedWrong : ChangeSpec := { name := "studListed", fn := fun _ => fun
  | [d1, d2] => { results := [.lit (.bool false)], args := [d1, d2] }
  | _ => none }
def StudListedWrongFalsely : Prop := studListedRow.holds Try.pinned (OpenSpec.ofChange studListedWrong)

/-- 'remouldlaw03.StudCompleted': WHATEVER THE INPUT: true; the input reads as it did. -/
def studCompletedSpec : ChangeSpec := { name := "studCompleted", fn := fun _ => fun
  | [d1, d2, d3, d4] => { results := [.lit (.bool true)], args := [d1, d2, d3, d4] }
  | _ => none }
def studCompletedRow : OpenClaim := { program := "ytjakpneoodlmcaa", sum := "70efdbd8dd57b3fa58c283254b9a6feb4204a866c63c229141dea830d290ed98", func := "remould/remouldlaw03.StudCompleted", spec := "studCompleted", unfollowed := true, recurses := true, apart := false }
def StudCompletedSaid : Prop := studCompletedRow.holds Try.pinned (OpenSpec.ofChange studCompletedSpec)

/-- ITS FALSE NEIGHBOUR: 'it returns false'. Refute it at one input. -/
def studCompletedWrong : ChangeSpec := { name := "studCompleted", fn := fun _ => fun
  | [d1, d2, d3, d4] => { results := [.lit (.bool false)], args := [d1, d2, d3, d4] }
  | _ => none }
def StudCompletedWrongFalsely : Prop := studCompletedRow.holds Try.pinned (OpenSpec.ofChange studCompletedWrong)

/- THE SECOND FORM. 'bulk': how many values and letters a reading holds, each counted each time it is reached (what is shared counts as often as it is met; a slice's spare places count too). A statement '..UptoSaid' is the law's where the arguments, and the package variables that the reading takes, are together of bulk at most 1048576: NARROWER than '..Said'. Prove '..Said' where nothing that the law and all that it calls make is longer than what came in: it says more and counts as full. Else prove '..UptoSaid'. A law counts once. -/
mutual
def uptoBulk {H : Type} : DataW H → Nat
  | .lit (.string bytes) => bytes.length + 1
  | .lit _ => 1
  | .nil => 1
  | .ptr d => uptoBulk d + 1
  | .slice elems spare => uptoBulkAll elems + uptoBulkAll spare + 1
  | .agg parts => uptoBulkAll parts + 1
  | .iface _ d => uptoBulk d + 1
  | .map entries => uptoBulkEntries entries + 1
  | .held _ => 1
def uptoBulkAll {H : Type} : List (DataW H) → Nat
  | [] => 0
  | d :: r => uptoBulk d + uptoBulkAll r
def uptoBulkEntries {H : Type} : List (Lit × DataW H) → Nat
  | [] => 0
  | x :: r => uptoBulkEntry x + uptoBulkEntries r
def uptoBulkEntry {H : Type} : Lit × DataW H → Nat
  | (.string bytes, d) => bytes.length + uptoBulk d + 1
  | (_, d) => uptoBulk d + 1
 end
def uptoSmall : (H : Type) → List (DataW H) → Bool := fun _ ds => decide (uptoBulkAll ds ≤ 1048576)
def OpenSpec.upto (s : _root_.Go.ChangeSpec) : _root_.Go.OpenSpec := { _root_.Go.OpenSpec.ofChange s with cond := some uptoSmall }

/-- 'remouldlaw03.StudMeetings', WHERE WHAT IT READS IS OF BULK AT MOST 1048576: true; the input reads as it did. -/
def studMeetingsUptoRow : OpenClaim := { program := "ytjakpneoodlmcaa", sum := "70efdbd8dd57b3fa58c283254b9a6feb4204a866c63c229141dea830d290ed98", func := "remould/remouldlaw03.StudMeetings", spec := "studMeetings", unfollowed := true, recurses := true, apart := false, narrowed := true }
def StudMeetingsUptoSaid : Prop := studMeetingsUptoRow.holds Try.pinned (OpenSpec.upto studMeetingsSpec)

/-- 'remouldlaw03.StudMeets', WHERE WHAT IT READS IS OF BULK AT MOST 1048576: true; the input reads as it did. -/
def studMeetsUptoRow : OpenClaim := { program := "ytjakpneoodlmcaa", sum := "70efdbd8dd57b3fa58c283254b9a6feb4204a866c63c229141dea830d290ed98", func := "remould/remouldlaw03.StudMeets", spec := "studMeets", unfollowed := true, recurses := true, apart := false, narrowed := true }
def StudMeetsUptoSaid : Prop := studMeetsUptoRow.holds Try.pinned (OpenSpec.upto studMeetsSpec)

/-- 'remouldlaw03.StudItems', WHERE WHAT IT READS IS OF BULK AT MOST 1048576: true; the input reads as it did. -/
def studItemsUptoRow : OpenClaim := { program := "ytjakpneoodlmcaa", sum := "70efdbd8dd57b3fa58c283254b9a6feb4204a866c63c229141dea830d290ed98", func := "remould/remouldlaw03.StudItems", spec := "studItems", unfollowed := true, recurses := true, apart := false, narrowed := true }
def StudItemsUptoSaid : Prop := studItemsUptoRow.holds Try.pinned (OpenSpec.upto studItemsSpec)

/-- 'remouldlaw03.StudListed', WHERE WHAT IT READS IS OF BULK AT MOST 1048576: true; the input reads as it did. -/
def studListedUptoRow : OpenClaim := { program := "ytjakpneoodlmcaa", sum := "70efdbd8dd57b3fa58c283254b9a6feb4204a866c63c229141dea830d290ed98", func := "remould/remouldlaw03.StudListed", spec := "studListed", unfollowed := true, recurses := true, apart := false, narrowed := true }
def StudListedUptoSaid : Prop := studListedUptoRow.holds Try.pinned (OpenSpec.upto studListedSpec)

/-- 'remouldlaw03.StudCompleted', WHERE WHAT IT READS IS OF BULK AT MOST 1048576: true; the input reads as it did. -/
def studCompletedUptoRow : OpenClaim := { program := "ytjakpneoodlmcaa", sum := "70efdbd8dd57b3fa58c283254b9a6feb4204a866c63c229141dea830d290ed98", func := "remould/remouldlaw03.StudCompleted", spec := "studCompleted", unfollowed := true, recurses := true, apart := false, narrowed := true }
def StudCompletedUptoSaid : Prop := studCompletedUptoRow.holds Try.pinned (OpenSpec.upto studCompletedSpec)

end Rows
end Go.Proofs.Ytjakpneoodlmcaa
