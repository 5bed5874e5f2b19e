/-
  NARROWER THAN 'FOR EVERY INPUT', by the rows' own cells (each row's printed sentence says how): GaugeDivides: laid · GaugeOrdered: laid · GaugeWhole: laid · GaugeUnits: laid · GaugeLeft: laid · GaugeEuclid: laid.
  DERIVED. THE GIVEN ROWS OF THIS SEAT. 6 by the template 'for every input the law returns true; each argument reads behind the call as it read before'; 0 by the template 'total and deterministic' (their statements: YtahkoihlpkaohaaDoorTotals.lean).
  GIVEN WITH THE SEED: the statements are not yours to turn. If you find one false, say at which input.
  Laid BY PROGRAM, IN A SANDBOX (cutbox-rows.mjs): the forced cells as the released guide's own fill.sh prints them over the translation 9b65cb784f55b586… (all of the seat's roots in one cut). By AI agents, Wed Nov 11 2026. No macro, syntax, notation, axiom, sorry.
-/
import Derived.Test.YtahkoihlpkaohaaDoorChecked
import GoSem.PinnedTables
import GoSem.Claim
import GoSem.ClaimJoined
import GoSem.ClaimMapViews
import Derived.JoinedTies
import Derived.KernelRfl
namespace Go.Proofs.YtahkoihlpkaohaaDoor
/- THE CELL 'sum', in the pinned program and in every row, IS THE sha256 OF THE DUMP (.gsa) THAT YtahkoihlpkaohaaDoorProg.lean LOADS. Nothing in Lean hashes anything: it is a label: what it is worth is what the hold of that sum in a sandbox is worth. -/
noncomputable def Tryd.pinned : Pinned := { name := "ytahkoihlpkaohaadoor", sum := "9b65cb784f55b5865dd8f0d0c558a15c782f9365eb9b80b570013afe861e0872", checked := Tryd.checked }
namespace Rows
def none {H : Type} : Left H := { results := [], args := [] }

/- WHAT THE LISTED PACKAGE-LEVEL VARIABLES READ AS WHEN THE CALL BEGINS. Each datum BY PROGRAM (the guide's laid-datum.mjs) off the statement by which the dump's own 'gosem.cut.vars' lays the variable. In a bare row this is a premise. The card (YtahkoihlpkaohaaDoorCards.lean) ties it to the program's text. -/
def laid_unicode_utf8_acceptRanges {H : Type} : DataW H := .agg [.agg [.lit (.int .u8 128), .lit (.int .u8 191)], .agg [.lit (.int .u8 160), .lit (.int .u8 191)], .agg [.lit (.int .u8 128), .lit (.int .u8 159)], .agg [.lit (.int .u8 144), .lit (.int .u8 191)], .agg [.lit (.int .u8 128), .lit (.int .u8 143)], .agg [.lit (.int .u8 0), .lit (.int .u8 0)], .agg [.lit (.int .u8 0), .lit (.int .u8 0)], .agg [.lit (.int .u8 0), .lit (.int .u8 0)], .agg [.lit (.int .u8 0), .lit (.int .u8 0)], .agg [.lit (.int .u8 0), .lit (.int .u8 0)], .agg [.lit (.int .u8 0), .lit (.int .u8 0)], .agg [.lit (.int .u8 0), .lit (.int .u8 0)], .agg [.lit (.int .u8 0), .lit (.int .u8 0)], .agg [.lit (.int .u8 0), .lit (.int .u8 0)], .agg [.lit (.int .u8 0), .lit (.int .u8 0)], .agg [.lit (.int .u8 0), .lit (.int .u8 0)]]
/-- One of Go's own tables, pinned by name: the form's constant. -/
def laid_unicode_utf8_first : DataW Unit := Go.Pinned.utf8First

/-- 'remouldlaw04.GaugeDivides': WHATEVER THE INPUT: true; the input reads as it did. -/
def gaugeDividesSpec : ChangeSpec := { name := "gaugeDivides", fn := fun _ => fun
  | [d1, d2] => { results := [.lit (.bool true)], args := [d1, d2] }
  | _ => none }
def gaugeDividesRow : OpenClaim := { program := "ytahkoihlpkaohaadoor", sum := "9b65cb784f55b5865dd8f0d0c558a15c782f9365eb9b80b570013afe861e0872", func := "remould/remouldlaw04.GaugeDivides", spec := "gaugeDivides", inPlace := ["internal/abi.NoEscape", "internal/bytealg.MakeNoZero", "internal/bytealg.IndexByteString", "internal/bytealg.IndexString"], unfollowed := true, recurses := true, named := ["unicode/utf8.first", "unicode/utf8.acceptRanges", "internal/bytealg.MaxLen"], apart := false, laid := [("unicode/utf8.acceptRanges", laid_unicode_utf8_acceptRanges), ("unicode/utf8.first", laid_unicode_utf8_first)] }
def GaugeDividesSaid : Prop := gaugeDividesRow.holds Tryd.pinned (OpenSpec.ofChange gaugeDividesSpec)

/-- ITS FALSE NEIGHBOUR: 'it returns false'. Refute it at one input. -/
def gaugeDividesWrong : ChangeSpec := { name := "gaugeDivides", fn := fun _ => fun
  | [d1, d2] => { results := [.lit (.bool false)], args := [d1, d2] }
  | _ => none }
def GaugeDividesWrongFalsely : Prop := gaugeDividesRow.holds Tryd.pinned (OpenSpec.ofChange gaugeDividesWrong)

/-- 'remouldlaw04.GaugeOrdered': WHATEVER THE INPUT: true; the input reads as it did. -/
def gaugeOrderedSpec : ChangeSpec := { name := "gaugeOrdered", fn := fun _ => fun
  | [d1, d2, d3] => { results := [.lit (.bool true)], args := [d1, d2, d3] }
  | _ => none }
def gaugeOrderedRow : OpenClaim := { program := "ytahkoihlpkaohaadoor", sum := "9b65cb784f55b5865dd8f0d0c558a15c782f9365eb9b80b570013afe861e0872", func := "remould/remouldlaw04.GaugeOrdered", spec := "gaugeOrdered", inPlace := ["internal/abi.NoEscape", "internal/bytealg.MakeNoZero", "internal/bytealg.IndexByteString", "internal/bytealg.IndexString"], unfollowed := true, recurses := true, named := ["unicode/utf8.first", "unicode/utf8.acceptRanges", "internal/bytealg.MaxLen"], apart := false, laid := [("unicode/utf8.acceptRanges", laid_unicode_utf8_acceptRanges), ("unicode/utf8.first", laid_unicode_utf8_first)] }
def GaugeOrderedSaid : Prop := gaugeOrderedRow.holds Tryd.pinned (OpenSpec.ofChange gaugeOrderedSpec)

/-- ITS FALSE NEIGHBOUR: 'it returns false'. Refute it at one input. -/
def gaugeOrderedWrong : ChangeSpec := { name := "gaugeOrdered", fn := fun _ => fun
  | [d1, d2, d3] => { results := [.lit (.bool false)], args := [d1, d2, d3] }
  | _ => none }
def GaugeOrderedWrongFalsely : Prop := gaugeOrderedRow.holds Tryd.pinned (OpenSpec.ofChange gaugeOrderedWrong)

/-- 'remouldlaw04.GaugeWhole': WHATEVER THE INPUT: true; the input reads as it did. -/
def gaugeWholeSpec : ChangeSpec := { name := "gaugeWhole", fn := fun _ => fun
  | [d1, d2] => { results := [.lit (.bool true)], args := [d1, d2] }
  | _ => none }
def gaugeWholeRow : OpenClaim := { program := "ytahkoihlpkaohaadoor", sum := "9b65cb784f55b5865dd8f0d0c558a15c782f9365eb9b80b570013afe861e0872", func := "remould/remouldlaw04.GaugeWhole", spec := "gaugeWhole", inPlace := ["internal/abi.NoEscape", "internal/bytealg.MakeNoZero", "internal/bytealg.IndexByteString", "internal/bytealg.IndexString"], unfollowed := true, recurses := true, named := ["unicode/utf8.first", "unicode/utf8.acceptRanges", "internal/bytealg.MaxLen"], apart := false, laid := [("unicode/utf8.acceptRanges", laid_unicode_utf8_acceptRanges), ("unicode/utf8.first", laid_unicode_utf8_first)] }
def GaugeWholeSaid : Prop := gaugeWholeRow.holds Tryd.pinned (OpenSpec.ofChange gaugeWholeSpec)

/-- ITS FALSE NEIGHBOUR: 'it returns false'. Refute it at one input. -/
def gaugeWholeWrong : ChangeSpec := { name := "gaugeWhole", fn := fun _ => fun
  | [d1, d2] => { results := [.lit (.bool false)], args := [d1, d2] }
  | _ => none }
def GaugeWholeWrongFalsely : Prop := gaugeWholeRow.holds Tryd.pinned (OpenSpec.ofChange gaugeWholeWrong)

/-- 'remouldlaw04.GaugeUnits': WHATEVER THE INPUT: true; the input reads as it did. -/
def gaugeUnitsSpec : ChangeSpec := { name := "gaugeUnits", fn := fun _ => fun
  | [d1, d2] => { results := [.lit (.bool true)], args := [d1, d2] }
  | _ => none }
def gaugeUnitsRow : OpenClaim := { program := "ytahkoihlpkaohaadoor", sum := "9b65cb784f55b5865dd8f0d0c558a15c782f9365eb9b80b570013afe861e0872", func := "remould/remouldlaw04.GaugeUnits", spec := "gaugeUnits", inPlace := ["internal/abi.NoEscape", "internal/bytealg.MakeNoZero", "internal/bytealg.IndexByteString", "internal/bytealg.IndexString"], unfollowed := true, recurses := true, named := ["unicode/utf8.first", "unicode/utf8.acceptRanges", "internal/bytealg.MaxLen"], apart := false, laid := [("unicode/utf8.acceptRanges", laid_unicode_utf8_acceptRanges), ("unicode/utf8.first", laid_unicode_utf8_first)] }
def GaugeUnitsSaid : Prop := gaugeUnitsRow.holds Tryd.pinned (OpenSpec.ofChange gaugeUnitsSpec)

/-- ITS FALSE NEIGHBOUR: 'it returns false'. Refute it at one input. -/
def gaugeUnitsWrong : ChangeSpec := { name := "gaugeUnits", fn := fun _ => fun
  | [d1, d2] => { results := [.lit (.bool false)], args := [d1, d2] }
  | _ => none }
def GaugeUnitsWrongFalsely : Prop := gaugeUnitsRow.holds Tryd.pinned (OpenSpec.ofChange gaugeUnitsWrong)

/-- 'remouldlaw04.GaugeLeft': WHATEVER THE INPUT: true; the input reads as it did. -/
def gaugeLeftSpec : ChangeSpec := { name := "gaugeLeft", fn := fun _ => fun
  | [d1, d2] => { results := [.lit (.bool true)], args := [d1, d2] }
  | _ => none }
def gaugeLeftRow : OpenClaim := { program := "ytahkoihlpkaohaadoor", sum := "9b65cb784f55b5865dd8f0d0c558a15c782f9365eb9b80b570013afe861e0872", func := "remould/remouldlaw04.GaugeLeft", spec := "gaugeLeft", inPlace := ["internal/abi.NoEscape", "internal/bytealg.MakeNoZero", "internal/bytealg.IndexByteString", "internal/bytealg.IndexString"], unfollowed := true, recurses := true, named := ["unicode/utf8.first", "unicode/utf8.acceptRanges", "internal/bytealg.MaxLen"], apart := false, laid := [("unicode/utf8.acceptRanges", laid_unicode_utf8_acceptRanges), ("unicode/utf8.first", laid_unicode_utf8_first)] }
def GaugeLeftSaid : Prop := gaugeLeftRow.holds Tryd.pinned (OpenSpec.ofChange gaugeLeftSpec)

/-- ITS FALSE NEIGHBOUR: 'it returns false'. Refute it at one input. -/
def gaugeLeftWrong : ChangeSpec := { name := "gaugeLeft", fn := fun _ => fun
  | [d1, d2] => { results := [.lit (.bool false)], args := [d1, d2] }
  | _ => none }
def GaugeLeftWrongFalsely : Prop := gaugeLeftRow.holds Tryd.pinned (OpenSpec.ofChange gaugeLeftWrong)

/-- 'remouldlaw04.GaugeEuclid': WHATEVER THE INPUT: true; the input reads as it did. -/
def gaugeEuclidSpec : ChangeSpec := { name := "gaugeEuclid", fn := fun _ => fun
  | [d1, d2] => { results := [.lit (.bool true)], args := [d1, d2] }
  | _ => none }
def gaugeEuclidRow : OpenClaim := { program := "ytahkoihlpkaohaadoor", sum := "9b65cb784f55b5865dd8f0d0c558a15c782f9365eb9b80b570013afe861e0872", func := "remould/remouldlaw04.GaugeEuclid", spec := "gaugeEuclid", inPlace := ["internal/abi.NoEscape", "internal/bytealg.MakeNoZero", "internal/bytealg.IndexByteString", "internal/bytealg.IndexString"], unfollowed := true, recurses := true, named := ["unicode/utf8.first", "unicode/utf8.acceptRanges", "internal/bytealg.MaxLen"], apart := false, laid := [("unicode/utf8.acceptRanges", laid_unicode_utf8_acceptRanges), ("unicode/utf8.first", laid_unicode_utf8_first)] }
def GaugeEuclidSaid : Prop := gaugeEuclidRow.holds Tryd.pinned (OpenSpec.ofChange gaugeEuclidSpec)

/-- ITS FALSE NEIGHBOUR: 'it returns false'. Refute it at one input. -/
def gaugeEuclidWrong : ChangeSpec := { name := "gaugeEuclid", fn := fun _ => fun
  | [d1, d2] => { results := [.lit (.bool false)], args := [d1, d2] }
  | _ => none }
def GaugeEuclidWrongFalsely : Prop := gaugeEuclidRow.holds Tryd.pinned (OpenSpec.ofChange gaugeEuclidWrong)

/- THE SECOND FORM. 'bulk': how many values and letters a reading holds, each counted each time it is reached (what is shared counts as often as it is met; a slice's spare places count too). A statement '..UptoSaid' is the law's where the arguments, and the package variables that the reading takes, are together of bulk at most 1048576: NARROWER than '..Said'. Prove '..Said' where nothing that the law and all that it calls make is longer than what came in: it says more and counts as full. Else prove '..UptoSaid'. A law counts once. -/
mutual
def uptoBulk {H : Type} : DataW H → Nat
  | .lit (.string bytes) => bytes.length + 1
  | .lit _ => 1
  | .nil => 1
  | .ptr d => uptoBulk d + 1
  | .slice elems spare => uptoBulkAll elems + uptoBulkAll spare + 1
  | .agg parts => uptoBulkAll parts + 1
  | .iface _ d => uptoBulk d + 1
  | .map entries => uptoBulkEntries entries + 1
  | .held _ => 1
def uptoBulkAll {H : Type} : List (DataW H) → Nat
  | [] => 0
  | d :: r => uptoBulk d + uptoBulkAll r
def uptoBulkEntries {H : Type} : List (Lit × DataW H) → Nat
  | [] => 0
  | x :: r => uptoBulkEntry x + uptoBulkEntries r
def uptoBulkEntry {H : Type} : Lit × DataW H → Nat
  | (.string bytes, d) => bytes.length + uptoBulk d + 1
  | (_, d) => uptoBulk d + 1
 end
def uptoSmall : (H : Type) → List (DataW H) → Bool := fun _ ds => decide (uptoBulkAll ds ≤ 1048576)
def OpenSpec.upto (s : _root_.Go.ChangeSpec) : _root_.Go.OpenSpec := { _root_.Go.OpenSpec.ofChange s with cond := some uptoSmall }

/-- 'remouldlaw04.GaugeDivides', WHERE WHAT IT READS IS OF BULK AT MOST 1048576: true; the input reads as it did. -/
def gaugeDividesUptoRow : OpenClaim := { program := "ytahkoihlpkaohaadoor", sum := "9b65cb784f55b5865dd8f0d0c558a15c782f9365eb9b80b570013afe861e0872", func := "remould/remouldlaw04.GaugeDivides", spec := "gaugeDivides", inPlace := ["internal/abi.NoEscape", "internal/bytealg.MakeNoZero", "internal/bytealg.IndexByteString", "internal/bytealg.IndexString"], unfollowed := true, recurses := true, named := ["unicode/utf8.first", "unicode/utf8.acceptRanges", "internal/bytealg.MaxLen"], apart := false, laid := [("unicode/utf8.acceptRanges", laid_unicode_utf8_acceptRanges), ("unicode/utf8.first", laid_unicode_utf8_first)], narrowed := true }
def GaugeDividesUptoSaid : Prop := gaugeDividesUptoRow.holds Tryd.pinned (OpenSpec.upto gaugeDividesSpec)

/-- 'remouldlaw04.GaugeOrdered', WHERE WHAT IT READS IS OF BULK AT MOST 1048576: true; the input reads as it did. -/
def gaugeOrderedUptoRow : OpenClaim := { program := "ytahkoihlpkaohaadoor", sum := "9b65cb784f55b5865dd8f0d0c558a15c782f9365eb9b80b570013afe861e0872", func := "remould/remouldlaw04.GaugeOrdered", spec := "gaugeOrdered", inPlace := ["internal/abi.NoEscape", "internal/bytealg.MakeNoZero", "internal/bytealg.IndexByteString", "internal/bytealg.IndexString"], unfollowed := true, recurses := true, named := ["unicode/utf8.first", "unicode/utf8.acceptRanges", "internal/bytealg.MaxLen"], apart := false, laid := [("unicode/utf8.acceptRanges", laid_unicode_utf8_acceptRanges), ("unicode/utf8.first", laid_unicode_utf8_first)], narrowed := true }
def GaugeOrderedUptoSaid : Prop := gaugeOrderedUptoRow.holds Tryd.pinned (OpenSpec.upto gaugeOrderedSpec)

/-- 'remouldlaw04.GaugeWhole', WHERE WHAT IT READS IS OF BULK AT MOST 1048576: true; the input reads as it did. -/
def gaugeWholeUptoRow : OpenClaim := { program := "ytahkoihlpkaohaadoor", sum := "9b65cb784f55b5865dd8f0d0c558a15c782f9365eb9b80b570013afe861e0872", func := "remould/remouldlaw04.GaugeWhole", spec := "gaugeWhole", inPlace := ["internal/abi.NoEscape", "internal/bytealg.MakeNoZero", "internal/bytealg.IndexByteString", "internal/bytealg.IndexString"], unfollowed := true, recurses := true, named := ["unicode/utf8.first", "unicode/utf8.acceptRanges", "internal/bytealg.MaxLen"], apart := false, laid := [("unicode/utf8.acceptRanges", laid_unicode_utf8_acceptRanges), ("unicode/utf8.first", laid_unicode_utf8_first)], narrowed := true }
def GaugeWholeUptoSaid : Prop := gaugeWholeUptoRow.holds Tryd.pinned (OpenSpec.upto gaugeWholeSpec)

/-- 'remouldlaw04.GaugeUnits', WHERE WHAT IT READS IS OF BULK AT MOST 1048576: true; the input reads as it did. -/
def gaugeUnitsUptoRow : OpenClaim := { program := "ytahkoihlpkaohaadoor", sum := "9b65cb784f55b5865dd8f0d0c558a15c782f9365eb9b80b570013afe861e0872", func := "remould/remouldlaw04.GaugeUnits", spec := "gaugeUnits", inPlace := ["internal/abi.NoEscape", "internal/bytealg.MakeNoZero", "internal/bytealg.IndexByteString", "internal/bytealg.IndexString"], unfollowed := true, recurses := true, named := ["unicode/utf8.first", "unicode/utf8.acceptRanges", "internal/bytealg.MaxLen"], apart := false, laid := [("unicode/utf8.acceptRanges", laid_unicode_utf8_acceptRanges), ("unicode/utf8.first", laid_unicode_utf8_first)], narrowed := true }
def GaugeUnitsUptoSaid : Prop := gaugeUnitsUptoRow.holds Tryd.pinned (OpenSpec.upto gaugeUnitsSpec)

/-- 'remouldlaw04.GaugeLeft', WHERE WHAT IT READS IS OF BULK AT MOST 1048576: true; the input reads as it did. -/
def gaugeLeftUptoRow : OpenClaim := { program := "ytahkoihlpkaohaadoor", sum := "9b65cb784f55b5865dd8f0d0c558a15c782f9365eb9b80b570013afe861e0872", func := "remould/remouldlaw04.GaugeLeft", spec := "gaugeLeft", inPlace := ["internal/abi.NoEscape", "internal/bytealg.MakeNoZero", "internal/bytealg.IndexByteString", "internal/bytealg.IndexString"], unfollowed := true, recurses := true, named := ["unicode/utf8.first", "unicode/utf8.acceptRanges", "internal/bytealg.MaxLen"], apart := false, laid := [("unicode/utf8.acceptRanges", laid_unicode_utf8_acceptRanges), ("unicode/utf8.first", laid_unicode_utf8_first)], narrowed := true }
def GaugeLeftUptoSaid : Prop := gaugeLeftUptoRow.holds Tryd.pinned (OpenSpec.upto gaugeLeftSpec)

/-- 'remouldlaw04.GaugeEuclid', WHERE WHAT IT READS IS OF BULK AT MOST 1048576: true; the input reads as it did. -/
def gaugeEuclidUptoRow : OpenClaim := { program := "ytahkoihlpkaohaadoor", sum := "9b65cb784f55b5865dd8f0d0c558a15c782f9365eb9b80b570013afe861e0872", func := "remould/remouldlaw04.GaugeEuclid", spec := "gaugeEuclid", inPlace := ["internal/abi.NoEscape", "internal/bytealg.MakeNoZero", "internal/bytealg.IndexByteString", "internal/bytealg.IndexString"], unfollowed := true, recurses := true, named := ["unicode/utf8.first", "unicode/utf8.acceptRanges", "internal/bytealg.MaxLen"], apart := false, laid := [("unicode/utf8.acceptRanges", laid_unicode_utf8_acceptRanges), ("unicode/utf8.first", laid_unicode_utf8_first)], narrowed := true }
def GaugeEuclidUptoSaid : Prop := gaugeEuclidUptoRow.holds Tryd.pinned (OpenSpec.upto gaugeEuclidSpec)

end Rows
end Go.Proofs.YtahkoihlpkaohaaDoor
