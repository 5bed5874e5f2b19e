/-
  NARROWER THAN 'FOR EVERY INPUT', by the rows' own cells (each row's printed sentence says how): GaugeBelows: laid · GaugeClimbed: laid · GaugeCounted: laid · GaugeTexts: laid · GaugeBack: laid.
  DERIVED. THE GIVEN ROWS OF THIS SEAT. 5 by the template 'for every input the law returns true; each argument reads behind the call as it read before'; 0 by the template 'total and deterministic' (their statements: YtdhhnnbcmddcaaaDoorTotals.lean).
  GIVEN WITH THE SEED: the statements are not yours to turn. If you find one false, say at which input.
  Laid BY PROGRAM, IN A SANDBOX (cutbox-rows.mjs): the forced cells as the released guide's own fill.sh prints them over the translation 45bbb61af407034f… (all of the seat's roots in one cut). By AI agents, Wed Nov 11 2026. No macro, syntax, notation, axiom, sorry.
-/
import Derived.Test.YtdhhnnbcmddcaaaDoorChecked
import GoSem.PinnedTables
import GoSem.Claim
import GoSem.ClaimJoined
import GoSem.ClaimMapViews
import Derived.JoinedTies
import Derived.KernelRfl
namespace Go.Proofs.YtdhhnnbcmddcaaaDoor
/- THE CELL 'sum', in the pinned program and in every row, IS THE sha256 OF THE DUMP (.gsa) THAT YtdhhnnbcmddcaaaDoorProg.lean LOADS. Nothing in Lean hashes anything: it is a label: what it is worth is what the hold of that sum in a sandbox is worth. -/
noncomputable def Tryd.pinned : Pinned := { name := "ytdhhnnbcmddcaaadoor", sum := "45bbb61af407034fc8dc8b63aabe59693022935238e75df20a51d8357e91858e", checked := Tryd.checked }
namespace Rows
def none {H : Type} : Left H := { results := [], args := [] }

/- WHAT THE LISTED PACKAGE-LEVEL VARIABLES READ AS WHEN THE CALL BEGINS. Each datum BY PROGRAM (the guide's laid-datum.mjs) off the statement by which the dump's own 'gosem.cut.vars' lays the variable. In a bare row this is a premise. The card (YtdhhnnbcmddcaaaDoorCards.lean) ties it to the program's text. -/
def laid_unicode_utf8_acceptRanges {H : Type} : DataW H := .agg [.agg [.lit (.int .u8 128), .lit (.int .u8 191)], .agg [.lit (.int .u8 160), .lit (.int .u8 191)], .agg [.lit (.int .u8 128), .lit (.int .u8 159)], .agg [.lit (.int .u8 144), .lit (.int .u8 191)], .agg [.lit (.int .u8 128), .lit (.int .u8 143)], .agg [.lit (.int .u8 0), .lit (.int .u8 0)], .agg [.lit (.int .u8 0), .lit (.int .u8 0)], .agg [.lit (.int .u8 0), .lit (.int .u8 0)], .agg [.lit (.int .u8 0), .lit (.int .u8 0)], .agg [.lit (.int .u8 0), .lit (.int .u8 0)], .agg [.lit (.int .u8 0), .lit (.int .u8 0)], .agg [.lit (.int .u8 0), .lit (.int .u8 0)], .agg [.lit (.int .u8 0), .lit (.int .u8 0)], .agg [.lit (.int .u8 0), .lit (.int .u8 0)], .agg [.lit (.int .u8 0), .lit (.int .u8 0)], .agg [.lit (.int .u8 0), .lit (.int .u8 0)]]
/-- One of Go's own tables, pinned by name: the form's constant. -/
def laid_unicode_utf8_first : DataW Unit := Go.Pinned.utf8First

/-- 'remouldlaw04.GaugeBelows': WHATEVER THE INPUT: true; the input reads as it did. -/
def gaugeBelowsSpec : ChangeSpec := { name := "gaugeBelows", fn := fun _ => fun
  | [d] => { results := [.lit (.bool true)], args := [d] }
  | _ => none }
def gaugeBelowsRow : OpenClaim := { program := "ytdhhnnbcmddcaaadoor", sum := "45bbb61af407034fc8dc8b63aabe59693022935238e75df20a51d8357e91858e", func := "remould/remouldlaw04.GaugeBelows", spec := "gaugeBelows", inPlace := ["internal/abi.NoEscape", "internal/bytealg.MakeNoZero", "internal/bytealg.IndexByteString", "internal/bytealg.IndexString"], unfollowed := true, recurses := true, named := ["unicode/utf8.first", "unicode/utf8.acceptRanges", "internal/bytealg.MaxLen"], apart := false, laid := [("unicode/utf8.acceptRanges", laid_unicode_utf8_acceptRanges), ("unicode/utf8.first", laid_unicode_utf8_first)] }
def GaugeBelowsSaid : Prop := gaugeBelowsRow.holds Tryd.pinned (OpenSpec.ofChange gaugeBelowsSpec)

/-- ITS FALSE NEIGHBOUR: 'it returns false'. Refute it at one input. -/
def gaugeBelowsWrong : ChangeSpec := { name := "gaugeBelows", fn := fun _ => fun
  | [d] => { results := [.lit (.bool false)], args := [d] }
  | _ => none }
def GaugeBelowsWrongFalsely : Prop := gaugeBelowsRow.holds Tryd.pinned (OpenSpec.ofChange gaugeBelowsWrong)

/-- 'remouldlaw04.GaugeClimbed': WHATEVER THE INPUT: true; the input reads as it did. -/
def gaugeClimbedSpec : ChangeSpec := { name := "gaugeClimbed", fn := fun _ => fun
  | [d] => { results := [.lit (.bool true)], args := [d] }
  | _ => none }
def gaugeClimbedRow : OpenClaim := { program := "ytdhhnnbcmddcaaadoor", sum := "45bbb61af407034fc8dc8b63aabe59693022935238e75df20a51d8357e91858e", func := "remould/remouldlaw04.GaugeClimbed", spec := "gaugeClimbed", inPlace := ["internal/abi.NoEscape", "internal/bytealg.MakeNoZero", "internal/bytealg.IndexByteString", "internal/bytealg.IndexString"], unfollowed := true, recurses := true, named := ["unicode/utf8.first", "unicode/utf8.acceptRanges", "internal/bytealg.MaxLen"], apart := false, laid := [("unicode/utf8.acceptRanges", laid_unicode_utf8_acceptRanges), ("unicode/utf8.first", laid_unicode_utf8_first)] }
def GaugeClimbedSaid : Prop := gaugeClimbedRow.holds Tryd.pinned (OpenSpec.ofChange gaugeClimbedSpec)

/-- ITS FALSE NEIGHBOUR: 'it returns false'. Refute it at one input. -/
def gaugeClimbedWrong : ChangeSpec := { name := "gaugeClimbed", fn := fun _ => fun
  | [d] => { results := [.lit (.bool false)], args := [d] }
  | _ => none }
def GaugeClimbedWrongFalsely : Prop := gaugeClimbedRow.holds Tryd.pinned (OpenSpec.ofChange gaugeClimbedWrong)

/-- 'remouldlaw04.GaugeCounted': WHATEVER THE INPUT: true; the input reads as it did. -/
def gaugeCountedSpec : ChangeSpec := { name := "gaugeCounted", fn := fun _ => fun
  | [d1, d2] => { results := [.lit (.bool true)], args := [d1, d2] }
  | _ => none }
def gaugeCountedRow : OpenClaim := { program := "ytdhhnnbcmddcaaadoor", sum := "45bbb61af407034fc8dc8b63aabe59693022935238e75df20a51d8357e91858e", func := "remould/remouldlaw04.GaugeCounted", spec := "gaugeCounted", inPlace := ["internal/abi.NoEscape", "internal/bytealg.MakeNoZero", "internal/bytealg.IndexByteString", "internal/bytealg.IndexString"], unfollowed := true, recurses := true, named := ["unicode/utf8.first", "unicode/utf8.acceptRanges", "internal/bytealg.MaxLen"], apart := false, laid := [("unicode/utf8.acceptRanges", laid_unicode_utf8_acceptRanges), ("unicode/utf8.first", laid_unicode_utf8_first)] }
def GaugeCountedSaid : Prop := gaugeCountedRow.holds Tryd.pinned (OpenSpec.ofChange gaugeCountedSpec)

/-- ITS FALSE NEIGHBOUR: 'it returns false'. Refute it at one input. -/
def gaugeCountedWrong : ChangeSpec := { name := "gaugeCounted", fn := fun _ => fun
  | [d1, d2] => { results := [.lit (.bool false)], args := [d1, d2] }
  | _ => none }
def GaugeCountedWrongFalsely : Prop := gaugeCountedRow.holds Tryd.pinned (OpenSpec.ofChange gaugeCountedWrong)

/-- 'remouldlaw04.GaugeTexts': WHATEVER THE INPUT: true; the input reads as it did. -/
def gaugeTextsSpec : ChangeSpec := { name := "gaugeTexts", fn := fun _ => fun
  | [d] => { results := [.lit (.bool true)], args := [d] }
  | _ => none }
def gaugeTextsRow : OpenClaim := { program := "ytdhhnnbcmddcaaadoor", sum := "45bbb61af407034fc8dc8b63aabe59693022935238e75df20a51d8357e91858e", func := "remould/remouldlaw04.GaugeTexts", spec := "gaugeTexts", inPlace := ["internal/abi.NoEscape", "internal/bytealg.MakeNoZero", "internal/bytealg.IndexByteString", "internal/bytealg.IndexString"], unfollowed := true, recurses := true, named := ["unicode/utf8.first", "unicode/utf8.acceptRanges", "internal/bytealg.MaxLen"], apart := false, laid := [("unicode/utf8.acceptRanges", laid_unicode_utf8_acceptRanges), ("unicode/utf8.first", laid_unicode_utf8_first)] }
def GaugeTextsSaid : Prop := gaugeTextsRow.holds Tryd.pinned (OpenSpec.ofChange gaugeTextsSpec)

/-- ITS FALSE NEIGHBOUR: 'it returns false'. Refute it at one input. -/
def gaugeTextsWrong : ChangeSpec := { name := "gaugeTexts", fn := fun _ => fun
  | [d] => { results := [.lit (.bool false)], args := [d] }
  | _ => none }
def GaugeTextsWrongFalsely : Prop := gaugeTextsRow.holds Tryd.pinned (OpenSpec.ofChange gaugeTextsWrong)

/-- 'remouldlaw04.GaugeBack': WHATEVER THE INPUT: true; the input reads as it did. -/
def gaugeBackSpec : ChangeSpec := { name := "gaugeBack", fn := fun _ => fun
  | [d] => { results := [.lit (.bool true)], args := [d] }
  | _ => none }
def gaugeBackRow : OpenClaim := { program := "ytdhhnnbcmddcaaadoor", sum := "45bbb61af407034fc8dc8b63aabe59693022935238e75df20a51d8357e91858e", func := "remould/remouldlaw04.GaugeBack", spec := "gaugeBack", inPlace := ["internal/abi.NoEscape", "internal/bytealg.MakeNoZero", "internal/bytealg.IndexByteString", "internal/bytealg.IndexString"], unfollowed := true, recurses := true, named := ["unicode/utf8.first", "unicode/utf8.acceptRanges", "internal/bytealg.MaxLen"], apart := false, laid := [("unicode/utf8.acceptRanges", laid_unicode_utf8_acceptRanges), ("unicode/utf8.first", laid_unicode_utf8_first)] }
def GaugeBackSaid : Prop := gaugeBackRow.holds Tryd.pinned (OpenSpec.ofChange gaugeBackSpec)

/-- ITS FALSE NEIGHBOUR: 'it returns false'. Refute it at one input. -/
def gaugeBackWrong : ChangeSpec := { name := "gaugeBack", fn := fun _ => fun
  | [d] => { results := [.lit (.bool false)], args := [d] }
  | _ => none }
def GaugeBackWrongFalsely : Prop := gaugeBackRow.holds Tryd.pinned (OpenSpec.ofChange gaugeBackWrong)

/- THE SECOND FORM. 'bulk': how many values and letters a reading holds, each counted each time it is reached (what is shared counts as often as it is met; a slice's spare places count too). A statement '..UptoSaid' is the law's where the arguments, and the package variables that the reading takes, are together of bulk at most 1048576: NARROWER than '..Said'. Prove '..Said' where nothing that the law and all that it calls make is longer than what came in: it says more and counts as full. Else prove '..UptoSaid'. A law counts once. -/
mutual
def uptoBulk {H : Type} : DataW H → Nat
  | .lit (.string bytes) => bytes.length + 1
  | .lit _ => 1
  | .nil => 1
  | .ptr d => uptoBulk d + 1
  | .slice elems spare => uptoBulkAll elems + uptoBulkAll spare + 1
  | .agg parts => uptoBulkAll parts + 1
  | .iface _ d => uptoBulk d + 1
  | .map entries => uptoBulkEntries entries + 1
  | .held _ => 1
def uptoBulkAll {H : Type} : List (DataW H) → Nat
  | [] => 0
  | d :: r => uptoBulk d + uptoBulkAll r
def uptoBulkEntries {H : Type} : List (Lit × DataW H) → Nat
  | [] => 0
  | x :: r => uptoBulkEntry x + uptoBulkEntries r
def uptoBulkEntry {H : Type} : Lit × DataW H → Nat
  | (.string bytes, d) => bytes.length + uptoBulk d + 1
  | (_, d) => uptoBulk d + 1
 end
def uptoSmall : (H : Type) → List (DataW H) → Bool := fun _ ds => decide (uptoBulkAll ds ≤ 1048576)
def OpenSpec.upto (s : _root_.Go.ChangeSpec) : _root_.Go.OpenSpec := { _root_.Go.OpenSpec.ofChange s with cond := some uptoSmall }

/-- 'remouldlaw04.GaugeBelows', WHERE WHAT IT READS IS OF BULK AT MOST 1048576: true; the input reads as it did. -/
def gaugeBelowsUptoRow : OpenClaim := { program := "ytdhhnnbcmddcaaadoor", sum := "45bbb61af407034fc8dc8b63aabe59693022935238e75df20a51d8357e91858e", func := "remould/remouldlaw04.GaugeBelows", spec := "gaugeBelows", inPlace := ["internal/abi.NoEscape", "internal/bytealg.MakeNoZero", "internal/bytealg.IndexByteString", "internal/bytealg.IndexString"], unfollowed := true, recurses := true, named := ["unicode/utf8.first", "unicode/utf8.acceptRanges", "internal/bytealg.MaxLen"], apart := false, laid := [("unicode/utf8.acceptRanges", laid_unicode_utf8_acceptRanges), ("unicode/utf8.first", laid_unicode_utf8_first)], narrowed := true }
def GaugeBelowsUptoSaid : Prop := gaugeBelowsUptoRow.holds Tryd.pinned (OpenSpec.upto gaugeBelowsSpec)

/-- 'remouldlaw04.GaugeClimbed', WHERE WHAT IT READS IS OF BULK AT MOST 1048576: true; the input reads as it did. -/
def gaugeClimbedUptoRow : OpenClaim := { program := "ytdhhnnbcmddcaaadoor", sum := "45bbb61af407034fc8dc8b63aabe59693022935238e75df20a51d8357e91858e", func := "remould/remouldlaw04.GaugeClimbed", spec := "gaugeClimbed", inPlace := ["internal/abi.NoEscape", "internal/bytealg.MakeNoZero", "internal/bytealg.IndexByteString", "internal/bytealg.IndexString"], unfollowed := true, recurses := true, named := ["unicode/utf8.first", "unicode/utf8.acceptRanges", "internal/bytealg.MaxLen"], apart := false, laid := [("unicode/utf8.acceptRanges", laid_unicode_utf8_acceptRanges), ("unicode/utf8.first", laid_unicode_utf8_first)], narrowed := true }
def GaugeClimbedUptoSaid : Prop := gaugeClimbedUptoRow.holds Tryd.pinned (OpenSpec.upto gaugeClimbedSpec)

/-- 'remouldlaw04.GaugeCounted', WHERE WHAT IT READS IS OF BULK AT MOST 1048576: true; the input reads as it did. -/
def gaugeCountedUptoRow : OpenClaim := { program := "ytdhhnnbcmddcaaadoor", sum := "45bbb61af407034fc8dc8b63aabe59693022935238e75df20a51d8357e91858e", func := "remould/remouldlaw04.GaugeCounted", spec := "gaugeCounted", inPlace := ["internal/abi.NoEscape", "internal/bytealg.MakeNoZero", "internal/bytealg.IndexByteString", "internal/bytealg.IndexString"], unfollowed := true, recurses := true, named := ["unicode/utf8.first", "unicode/utf8.acceptRanges", "internal/bytealg.MaxLen"], apart := false, laid := [("unicode/utf8.acceptRanges", laid_unicode_utf8_acceptRanges), ("unicode/utf8.first", laid_unicode_utf8_first)], narrowed := true }
def GaugeCountedUptoSaid : Prop := gaugeCountedUptoRow.holds Tryd.pinned (OpenSpec.upto gaugeCountedSpec)

/-- 'remouldlaw04.GaugeTexts', WHERE WHAT IT READS IS OF BULK AT MOST 1048576: true; the input reads as it did. -/
def gaugeTextsUptoRow : OpenClaim := { program := "ytdhhnnbcmddcaaadoor", sum := "45bbb61af407034fc8dc8b63aabe59693022935238e75df20a51d8357e91858e", func := "remould/remouldlaw04.GaugeTexts", spec := "gaugeTexts", inPlace := ["internal/abi.NoEscape", "internal/bytealg.MakeNoZero", "internal/bytealg.IndexByteString", "internal/bytealg.IndexString"], unfollowed := true, recurses := true, named := ["unicode/utf8.first", "unicode/utf8.acceptRanges", "internal/bytealg.MaxLen"], apart := false, laid := [("unicode/utf8.acceptRanges", laid_unicode_utf8_acceptRanges), ("unicode/utf8.first", laid_unicode_utf8_first)], narrowed := true }
def GaugeTextsUptoSaid : Prop := gaugeTextsUptoRow.holds Tryd.pinned (OpenSpec.upto gaugeTextsSpec)

/-- 'remouldlaw04.GaugeBack', WHERE WHAT IT READS IS OF BULK AT MOST 1048576: true; the input reads as it did. -/
def gaugeBackUptoRow : OpenClaim := { program := "ytdhhnnbcmddcaaadoor", sum := "45bbb61af407034fc8dc8b63aabe59693022935238e75df20a51d8357e91858e", func := "remould/remouldlaw04.GaugeBack", spec := "gaugeBack", inPlace := ["internal/abi.NoEscape", "internal/bytealg.MakeNoZero", "internal/bytealg.IndexByteString", "internal/bytealg.IndexString"], unfollowed := true, recurses := true, named := ["unicode/utf8.first", "unicode/utf8.acceptRanges", "internal/bytealg.MaxLen"], apart := false, laid := [("unicode/utf8.acceptRanges", laid_unicode_utf8_acceptRanges), ("unicode/utf8.first", laid_unicode_utf8_first)], narrowed := true }
def GaugeBackUptoSaid : Prop := gaugeBackUptoRow.holds Tryd.pinned (OpenSpec.upto gaugeBackSpec)

end Rows
end Go.Proofs.YtdhhnnbcmddcaaaDoor
