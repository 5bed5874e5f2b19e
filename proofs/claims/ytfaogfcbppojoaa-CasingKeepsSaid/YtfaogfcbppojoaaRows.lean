/-
  No cell of these rows narrows 'for every input' (looked for: loops, veiled, ifaces, maps, wideKeys, modest, calm, conditions, laid).
  DERIVED. THE GIVEN ROWS OF THIS SEAT. 4 by the template 'for every input the law returns true; each argument reads behind the call as it read before'; 0 by the template 'total and deterministic' (their statements: YtfaogfcbppojoaaTotals.lean).
  GIVEN WITH THE SEED: the statements are not yours to turn. If you find one false, say at which input.
  Laid BY PROGRAM, IN A SANDBOX (cutbox-rows.mjs): the forced cells as the released guide's own fill.sh prints them over the translation 3235c90c7e63a696… (all of the seat's roots in one cut). By AI agents, Wed Nov 11 2026. No macro, syntax, notation, axiom, sorry.
-/
import Derived.Test.YtfaogfcbppojoaaChecked
import GoSem.Claim
import GoSem.ClaimJoined
import GoSem.ClaimMapViews
import Derived.JoinedTies
import Derived.KernelRfl
namespace Go.Proofs.Ytfaogfcbppojoaa
/- THE CELL 'sum', in the pinned program and in every row, IS THE sha256 OF THE DUMP (.gsa) THAT YtfaogfcbppojoaaProg.lean LOADS. Nothing in Lean hashes anything: it is a label: what it is worth is what the hold of that sum in a sandbox is worth. -/
noncomputable def Try.pinned : Pinned := { name := "ytfaogfcbppojoaa", sum := "3235c90c7e63a6965e78d8c7ac6c90d2fb8733707cae633da7c58ed4d8e19a06", checked := Try.checked }
namespace Rows
def none {H : Type} : Left H := { results := [], args := [] }

/-- 'remouldlaw01.CasingReduces': WHATEVER THE INPUT: true; the input reads as it did. -/
def casingReducesSpec : ChangeSpec := { name := "casingReduces", fn := fun _ => fun
  | [d1, d2] => { results := [.lit (.bool true)], args := [d1, d2] }
  | _ => none }
def casingReducesRow : OpenClaim := { program := "ytfaogfcbppojoaa", sum := "3235c90c7e63a6965e78d8c7ac6c90d2fb8733707cae633da7c58ed4d8e19a06", func := "remould/remouldlaw01.CasingReduces", spec := "casingReduces", inPlace := ["internal/bytealg.IndexByteString"], unfollowed := true, recurses := true, apart := false }
def CasingReducesSaid : Prop := casingReducesRow.holds Try.pinned (OpenSpec.ofChange casingReducesSpec)

/-- ITS FALSE NEIGHBOUR: 'it returns false'. Refute it at one input. -/
def casingReducesWrong : ChangeSpec := { name := "casingReduces", fn := fun _ => fun
  | [d1, d2] => { results := [.lit (.bool false)], args := [d1, d2] }
  | _ => none }
def CasingReducesWrongFalsely : Prop := casingReducesRow.holds Try.pinned (OpenSpec.ofChange casingReducesWrong)

/-- 'remouldlaw01.CasingFactors': WHATEVER THE INPUT: true; the input reads as it did. -/
def casingFactorsSpec : ChangeSpec := { name := "casingFactors", fn := fun _ => fun
  | [d] => { results := [.lit (.bool true)], args := [d] }
  | _ => none }
def casingFactorsRow : OpenClaim := { program := "ytfaogfcbppojoaa", sum := "3235c90c7e63a6965e78d8c7ac6c90d2fb8733707cae633da7c58ed4d8e19a06", func := "remould/remouldlaw01.CasingFactors", spec := "casingFactors", inPlace := ["internal/bytealg.IndexByteString"], unfollowed := true, recurses := true, apart := false }
def CasingFactorsSaid : Prop := casingFactorsRow.holds Try.pinned (OpenSpec.ofChange casingFactorsSpec)

/-- ITS FALSE NEIGHBOUR: 'it returns false'. Refute it at one input. -/
def casingFactorsWrong : ChangeSpec := { name := "casingFactors", fn := fun _ => fun
  | [d] => { results := [.lit (.bool false)], args := [d] }
  | _ => none }
def CasingFactorsWrongFalsely : Prop := casingFactorsRow.holds Try.pinned (OpenSpec.ofChange casingFactorsWrong)

/-- 'remouldlaw01.CasingSends': WHATEVER THE INPUT: true; the input reads as it did. -/
def casingSendsSpec : ChangeSpec := { name := "casingSends", fn := fun _ => fun
  | [d1, d2, d3] => { results := [.lit (.bool true)], args := [d1, d2, d3] }
  | _ => none }
def casingSendsRow : OpenClaim := { program := "ytfaogfcbppojoaa", sum := "3235c90c7e63a6965e78d8c7ac6c90d2fb8733707cae633da7c58ed4d8e19a06", func := "remould/remouldlaw01.CasingSends", spec := "casingSends", inPlace := ["internal/bytealg.IndexByteString"], unfollowed := true, recurses := true, apart := false }
def CasingSendsSaid : Prop := casingSendsRow.holds Try.pinned (OpenSpec.ofChange casingSendsSpec)

/-- ITS FALSE NEIGHBOUR: 'it returns false'. Refute it at one input. -/
def casingSendsWrong : ChangeSpec := { name := "casingSends", fn := fun _ => fun
  | [d1, d2, d3] => { results := [.lit (.bool false)], args := [d1, d2, d3] }
  | _ => none }
def CasingSendsWrongFalsely : Prop := casingSendsRow.holds Try.pinned (OpenSpec.ofChange casingSendsWrong)

/-- 'remouldlaw01.CasingKeeps': WHATEVER THE INPUT: true; the input reads as it did. -/
def casingKeepsSpec : ChangeSpec := { name := "casingKeeps", fn := fun _ => fun
  | [d1, d2] => { results := [.lit (.bool true)], args := [d1, d2] }
  | _ => none }
def casingKeepsRow : OpenClaim := { program := "ytfaogfcbppojoaa", sum := "3235c90c7e63a6965e78d8c7ac6c90d2fb8733707cae633da7c58ed4d8e19a06", func := "remould/remouldlaw01.CasingKeeps", spec := "casingKeeps", inPlace := ["internal/bytealg.IndexByteString"], unfollowed := true, recurses := true, apart := false }
def CasingKeepsSaid : Prop := casingKeepsRow.holds Try.pinned (OpenSpec.ofChange casingKeepsSpec)

/-- ITS FALSE NEIGHBOUR: 'it returns false'. Refute it at one input. -/
def casingKeepsWrong : ChangeSpec := { name := "casingKeeps", fn := fun _ => fun
  | [d1, d2] => { results := [.lit (.bool false)], args := [d1, d2] }
  | _ => none }
def CasingKeepsWrongFalsely : Prop := casingKeepsRow.holds Try.pinned (OpenSpec.ofChange casingKeepsWrong)

/- THE SECOND FORM. 'bulk': how many values and letters a reading holds, each counted each time it is reached (what is shared counts as often as it is met; a slice's spare places count too). A statement '..UptoSaid' is the law's where the arguments, and the package variables that the reading takes, are together of bulk at most 1048576: NARROWER than '..Said'. Prove '..Said' where nothing that the law and all that it calls make is longer than what came in: it says more and counts as full. Else prove '..UptoSaid'. A law counts once. -/
mutual
def uptoBulk {H : Type} : DataW H → Nat
  | .lit (.string bytes) => bytes.length + 1
  | .lit _ => 1
  | .nil => 1
  | .ptr d => uptoBulk d + 1
  | .slice elems spare => uptoBulkAll elems + uptoBulkAll spare + 1
  | .agg parts => uptoBulkAll parts + 1
  | .iface _ d => uptoBulk d + 1
  | .map entries => uptoBulkEntries entries + 1
  | .held _ => 1
def uptoBulkAll {H : Type} : List (DataW H) → Nat
  | [] => 0
  | d :: r => uptoBulk d + uptoBulkAll r
def uptoBulkEntries {H : Type} : List (Lit × DataW H) → Nat
  | [] => 0
  | x :: r => uptoBulkEntry x + uptoBulkEntries r
def uptoBulkEntry {H : Type} : Lit × DataW H → Nat
  | (.string bytes, d) => bytes.length + uptoBulk d + 1
  | (_, d) => uptoBulk d + 1
 end
def uptoSmall : (H : Type) → List (DataW H) → Bool := fun _ ds => decide (uptoBulkAll ds ≤ 1048576)
def OpenSpec.upto (s : _root_.Go.ChangeSpec) : _root_.Go.OpenSpec := { _root_.Go.OpenSpec.ofChange s with cond := some uptoSmall }

/-- 'remouldlaw01.CasingReduces', WHERE WHAT IT READS IS OF BULK AT MOST 1048576: true; the input reads as it did. -/
def casingReducesUptoRow : OpenClaim := { program := "ytfaogfcbppojoaa", sum := "3235c90c7e63a6965e78d8c7ac6c90d2fb8733707cae633da7c58ed4d8e19a06", func := "remould/remouldlaw01.CasingReduces", spec := "casingReduces", inPlace := ["internal/bytealg.IndexByteString"], unfollowed := true, recurses := true, apart := false, narrowed := true }
def CasingReducesUptoSaid : Prop := casingReducesUptoRow.holds Try.pinned (OpenSpec.upto casingReducesSpec)

/-- 'remouldlaw01.CasingFactors', WHERE WHAT IT READS IS OF BULK AT MOST 1048576: true; the input reads as it did. -/
def casingFactorsUptoRow : OpenClaim := { program := "ytfaogfcbppojoaa", sum := "3235c90c7e63a6965e78d8c7ac6c90d2fb8733707cae633da7c58ed4d8e19a06", func := "remould/remouldlaw01.CasingFactors", spec := "casingFactors", inPlace := ["internal/bytealg.IndexByteString"], unfollowed := true, recurses := true, apart := false, narrowed := true }
def CasingFactorsUptoSaid : Prop := casingFactorsUptoRow.holds Try.pinned (OpenSpec.upto casingFactorsSpec)

/-- 'remouldlaw01.CasingSends', WHERE WHAT IT READS IS OF BULK AT MOST 1048576: true; the input reads as it did. -/
def casingSendsUptoRow : OpenClaim := { program := "ytfaogfcbppojoaa", sum := "3235c90c7e63a6965e78d8c7ac6c90d2fb8733707cae633da7c58ed4d8e19a06", func := "remould/remouldlaw01.CasingSends", spec := "casingSends", inPlace := ["internal/bytealg.IndexByteString"], unfollowed := true, recurses := true, apart := false, narrowed := true }
def CasingSendsUptoSaid : Prop := casingSendsUptoRow.holds Try.pinned (OpenSpec.upto casingSendsSpec)

/-- 'remouldlaw01.CasingKeeps', WHERE WHAT IT READS IS OF BULK AT MOST 1048576: true; the input reads as it did. -/
def casingKeepsUptoRow : OpenClaim := { program := "ytfaogfcbppojoaa", sum := "3235c90c7e63a6965e78d8c7ac6c90d2fb8733707cae633da7c58ed4d8e19a06", func := "remould/remouldlaw01.CasingKeeps", spec := "casingKeeps", inPlace := ["internal/bytealg.IndexByteString"], unfollowed := true, recurses := true, apart := false, narrowed := true }
def CasingKeepsUptoSaid : Prop := casingKeepsUptoRow.holds Try.pinned (OpenSpec.upto casingKeepsSpec)

end Rows
end Go.Proofs.Ytfaogfcbppojoaa
