/-
  NARROWER THAN 'FOR EVERY INPUT', by the rows' own cells (each row's printed sentence says how): GaugeCompares: laid · GaugeFloors: laid · GaugeProducts: laid · GaugePowers: laid · GaugeDivides: laid · GaugeNorms: laid.
  DERIVED. THE GIVEN ROWS OF THIS SEAT. 6 by the template 'for every input the law returns true; each argument reads behind the call as it read before'; 0 by the template 'total and deterministic' (their statements: YtnpelnhfbbihkaaDoorTotals.lean).
  GIVEN WITH THE SEED: the statements are not yours to turn. If you find one false, say at which input.
  Laid BY PROGRAM, IN A SANDBOX (cutbox-rows.mjs): the forced cells as the released guide's own fill.sh prints them over the translation ba2b2903fb1606bc… (all of the seat's roots in one cut). By AI agents, Wed Nov 11 2026. No macro, syntax, notation, axiom, sorry.
-/
import Derived.Test.YtnpelnhfbbihkaaDoorChecked
import GoSem.PinnedTables
import GoSem.Claim
import GoSem.ClaimJoined
import GoSem.ClaimMapViews
import Derived.JoinedTies
import Derived.KernelRfl
namespace Go.Proofs.YtnpelnhfbbihkaaDoor
/- THE CELL 'sum', in the pinned program and in every row, IS THE sha256 OF THE DUMP (.gsa) THAT YtnpelnhfbbihkaaDoorProg.lean LOADS. Nothing in Lean hashes anything: it is a label: what it is worth is what the hold of that sum in a sandbox is worth. -/
noncomputable def Tryd.pinned : Pinned := { name := "ytnpelnhfbbihkaadoor", sum := "ba2b2903fb1606bc0b505fb4d5f6b9a7cd843111ebd43a3f6ca893283212747f", checked := Tryd.checked }
namespace Rows
def none {H : Type} : Left H := { results := [], args := [] }

/- WHAT THE LISTED PACKAGE-LEVEL VARIABLES READ AS WHEN THE CALL BEGINS. Each datum BY PROGRAM (the guide's laid-datum.mjs) off the statement by which the dump's own 'gosem.cut.vars' lays the variable. In a bare row this is a premise. The card (YtnpelnhfbbihkaaDoorCards.lean) ties it to the program's text. -/
def laid_unicode_utf8_acceptRanges {H : Type} : DataW H := .agg [.agg [.lit (.int .u8 128), .lit (.int .u8 191)], .agg [.lit (.int .u8 160), .lit (.int .u8 191)], .agg [.lit (.int .u8 128), .lit (.int .u8 159)], .agg [.lit (.int .u8 144), .lit (.int .u8 191)], .agg [.lit (.int .u8 128), .lit (.int .u8 143)], .agg [.lit (.int .u8 0), .lit (.int .u8 0)], .agg [.lit (.int .u8 0), .lit (.int .u8 0)], .agg [.lit (.int .u8 0), .lit (.int .u8 0)], .agg [.lit (.int .u8 0), .lit (.int .u8 0)], .agg [.lit (.int .u8 0), .lit (.int .u8 0)], .agg [.lit (.int .u8 0), .lit (.int .u8 0)], .agg [.lit (.int .u8 0), .lit (.int .u8 0)], .agg [.lit (.int .u8 0), .lit (.int .u8 0)], .agg [.lit (.int .u8 0), .lit (.int .u8 0)], .agg [.lit (.int .u8 0), .lit (.int .u8 0)], .agg [.lit (.int .u8 0), .lit (.int .u8 0)]]
/-- One of Go's own tables, pinned by name: the form's constant. -/
def laid_unicode_utf8_first : DataW Unit := Go.Pinned.utf8First

/-- 'remouldlaw04.GaugeCompares': WHATEVER THE INPUT: true; the input reads as it did. -/
def gaugeComparesSpec : ChangeSpec := { name := "gaugeCompares", fn := fun _ => fun
  | [d1, d2] => { results := [.lit (.bool true)], args := [d1, d2] }
  | _ => none }
def gaugeComparesRow : OpenClaim := { program := "ytnpelnhfbbihkaadoor", sum := "ba2b2903fb1606bc0b505fb4d5f6b9a7cd843111ebd43a3f6ca893283212747f", func := "remould/remouldlaw04.GaugeCompares", spec := "gaugeCompares", inPlace := ["internal/abi.NoEscape", "internal/bytealg.MakeNoZero", "internal/bytealg.IndexByteString", "internal/bytealg.IndexString"], unfollowed := true, recurses := true, named := ["unicode/utf8.first", "unicode/utf8.acceptRanges", "internal/bytealg.MaxLen"], apart := false, laid := [("unicode/utf8.acceptRanges", laid_unicode_utf8_acceptRanges), ("unicode/utf8.first", laid_unicode_utf8_first)] }
def GaugeComparesSaid : Prop := gaugeComparesRow.holds Tryd.pinned (OpenSpec.ofChange gaugeComparesSpec)

/-- ITS FALSE NEIGHBOUR: 'it returns false'. Refute it at one input. -/
def gaugeComparesWrong : ChangeSpec := { name := "gaugeCompares", fn := fun _ => fun
  | [d1, d2] => { results := [.lit (.bool false)], args := [d1, d2] }
  | _ => none }
def GaugeComparesWrongFalsely : Prop := gaugeComparesRow.holds Tryd.pinned (OpenSpec.ofChange gaugeComparesWrong)

/-- 'remouldlaw04.GaugeFloors': WHATEVER THE INPUT: true; the input reads as it did. -/
def gaugeFloorsSpec : ChangeSpec := { name := "gaugeFloors", fn := fun _ => fun
  | [d] => { results := [.lit (.bool true)], args := [d] }
  | _ => none }
def gaugeFloorsRow : OpenClaim := { program := "ytnpelnhfbbihkaadoor", sum := "ba2b2903fb1606bc0b505fb4d5f6b9a7cd843111ebd43a3f6ca893283212747f", func := "remould/remouldlaw04.GaugeFloors", spec := "gaugeFloors", inPlace := ["internal/abi.NoEscape", "internal/bytealg.MakeNoZero", "internal/bytealg.IndexByteString", "internal/bytealg.IndexString"], unfollowed := true, recurses := true, named := ["unicode/utf8.first", "unicode/utf8.acceptRanges", "internal/bytealg.MaxLen"], apart := false, laid := [("unicode/utf8.acceptRanges", laid_unicode_utf8_acceptRanges), ("unicode/utf8.first", laid_unicode_utf8_first)] }
def GaugeFloorsSaid : Prop := gaugeFloorsRow.holds Tryd.pinned (OpenSpec.ofChange gaugeFloorsSpec)

/-- ITS FALSE NEIGHBOUR: 'it returns false'. Refute it at one input. -/
def gaugeFloorsWrong : ChangeSpec := { name := "gaugeFloors", fn := fun _ => fun
  | [d] => { results := [.lit (.bool false)], args := [d] }
  | _ => none }
def GaugeFloorsWrongFalsely : Prop := gaugeFloorsRow.holds Tryd.pinned (OpenSpec.ofChange gaugeFloorsWrong)

/-- 'remouldlaw04.GaugeProducts': WHATEVER THE INPUT: true; the input reads as it did. -/
def gaugeProductsSpec : ChangeSpec := { name := "gaugeProducts", fn := fun _ => fun
  | [d1, d2] => { results := [.lit (.bool true)], args := [d1, d2] }
  | _ => none }
def gaugeProductsRow : OpenClaim := { program := "ytnpelnhfbbihkaadoor", sum := "ba2b2903fb1606bc0b505fb4d5f6b9a7cd843111ebd43a3f6ca893283212747f", func := "remould/remouldlaw04.GaugeProducts", spec := "gaugeProducts", inPlace := ["internal/abi.NoEscape", "internal/bytealg.MakeNoZero", "internal/bytealg.IndexByteString", "internal/bytealg.IndexString"], unfollowed := true, recurses := true, named := ["unicode/utf8.first", "unicode/utf8.acceptRanges", "internal/bytealg.MaxLen"], apart := false, laid := [("unicode/utf8.acceptRanges", laid_unicode_utf8_acceptRanges), ("unicode/utf8.first", laid_unicode_utf8_first)] }
def GaugeProductsSaid : Prop := gaugeProductsRow.holds Tryd.pinned (OpenSpec.ofChange gaugeProductsSpec)

/-- ITS FALSE NEIGHBOUR: 'it returns false'. Refute it at one input. -/
def gaugeProductsWrong : ChangeSpec := { name := "gaugeProducts", fn := fun _ => fun
  | [d1, d2] => { results := [.lit (.bool false)], args := [d1, d2] }
  | _ => none }
def GaugeProductsWrongFalsely : Prop := gaugeProductsRow.holds Tryd.pinned (OpenSpec.ofChange gaugeProductsWrong)

/-- 'remouldlaw04.GaugePowers': WHATEVER THE INPUT: true; the input reads as it did. -/
def gaugePowersSpec : ChangeSpec := { name := "gaugePowers", fn := fun _ => fun
  | [d] => { results := [.lit (.bool true)], args := [d] }
  | _ => none }
def gaugePowersRow : OpenClaim := { program := "ytnpelnhfbbihkaadoor", sum := "ba2b2903fb1606bc0b505fb4d5f6b9a7cd843111ebd43a3f6ca893283212747f", func := "remould/remouldlaw04.GaugePowers", spec := "gaugePowers", inPlace := ["internal/abi.NoEscape", "internal/bytealg.MakeNoZero", "internal/bytealg.IndexByteString", "internal/bytealg.IndexString"], unfollowed := true, recurses := true, named := ["unicode/utf8.first", "unicode/utf8.acceptRanges", "internal/bytealg.MaxLen"], apart := false, laid := [("unicode/utf8.acceptRanges", laid_unicode_utf8_acceptRanges), ("unicode/utf8.first", laid_unicode_utf8_first)] }
def GaugePowersSaid : Prop := gaugePowersRow.holds Tryd.pinned (OpenSpec.ofChange gaugePowersSpec)

/-- ITS FALSE NEIGHBOUR: 'it returns false'. Refute it at one input. -/
def gaugePowersWrong : ChangeSpec := { name := "gaugePowers", fn := fun _ => fun
  | [d] => { results := [.lit (.bool false)], args := [d] }
  | _ => none }
def GaugePowersWrongFalsely : Prop := gaugePowersRow.holds Tryd.pinned (OpenSpec.ofChange gaugePowersWrong)

/-- 'remouldlaw04.GaugeDivides': WHATEVER THE INPUT: true; the input reads as it did. -/
def gaugeDividesSpec : ChangeSpec := { name := "gaugeDivides", fn := fun _ => fun
  | [d1, d2] => { results := [.lit (.bool true)], args := [d1, d2] }
  | _ => none }
def gaugeDividesRow : OpenClaim := { program := "ytnpelnhfbbihkaadoor", sum := "ba2b2903fb1606bc0b505fb4d5f6b9a7cd843111ebd43a3f6ca893283212747f", func := "remould/remouldlaw04.GaugeDivides", spec := "gaugeDivides", inPlace := ["internal/abi.NoEscape", "internal/bytealg.MakeNoZero", "internal/bytealg.IndexByteString", "internal/bytealg.IndexString"], unfollowed := true, recurses := true, named := ["unicode/utf8.first", "unicode/utf8.acceptRanges", "internal/bytealg.MaxLen"], apart := false, laid := [("unicode/utf8.acceptRanges", laid_unicode_utf8_acceptRanges), ("unicode/utf8.first", laid_unicode_utf8_first)] }
def GaugeDividesSaid : Prop := gaugeDividesRow.holds Tryd.pinned (OpenSpec.ofChange gaugeDividesSpec)

/-- ITS FALSE NEIGHBOUR: 'it returns false'. Refute it at one input. -/
def gaugeDividesWrong : ChangeSpec := { name := "gaugeDivides", fn := fun _ => fun
  | [d1, d2] => { results := [.lit (.bool false)], args := [d1, d2] }
  | _ => none }
def GaugeDividesWrongFalsely : Prop := gaugeDividesRow.holds Tryd.pinned (OpenSpec.ofChange gaugeDividesWrong)

/-- 'remouldlaw04.GaugeNorms': WHATEVER THE INPUT: true; the input reads as it did. -/
def gaugeNormsSpec : ChangeSpec := { name := "gaugeNorms", fn := fun _ => fun
  | [d1, d2] => { results := [.lit (.bool true)], args := [d1, d2] }
  | _ => none }
def gaugeNormsRow : OpenClaim := { program := "ytnpelnhfbbihkaadoor", sum := "ba2b2903fb1606bc0b505fb4d5f6b9a7cd843111ebd43a3f6ca893283212747f", func := "remould/remouldlaw04.GaugeNorms", spec := "gaugeNorms", inPlace := ["internal/abi.NoEscape", "internal/bytealg.MakeNoZero", "internal/bytealg.IndexByteString", "internal/bytealg.IndexString"], unfollowed := true, recurses := true, named := ["unicode/utf8.first", "unicode/utf8.acceptRanges", "internal/bytealg.MaxLen"], apart := false, laid := [("unicode/utf8.acceptRanges", laid_unicode_utf8_acceptRanges), ("unicode/utf8.first", laid_unicode_utf8_first)] }
def GaugeNormsSaid : Prop := gaugeNormsRow.holds Tryd.pinned (OpenSpec.ofChange gaugeNormsSpec)

/-- ITS FALSE NEIGHBOUR: 'it returns false'. Refute it at one input. -/
def gaugeNormsWrong : ChangeSpec := { name := "gaugeNorms", fn := fun _ => fun
  | [d1, d2] => { results := [.lit (.bool false)], args := [d1, d2] }
  | _ => none }
def GaugeNormsWrongFalsely : Prop := gaugeNormsRow.holds Tryd.pinned (OpenSpec.ofChange gaugeNormsWrong)

/- THE SECOND FORM. 'bulk': how many values and letters a reading holds, each counted each time it is reached (what is shared counts as often as it is met; a slice's spare places count too). A statement '..UptoSaid' is the law's where the arguments, and the package variables that the reading takes, are together of bulk at most 1048576: NARROWER than '..Said'. Prove '..Said' where nothing that the law and all that it calls make is longer than what came in: it says more and counts as full. Else prove '..UptoSaid'. A law counts once. -/
mutual
def uptoBulk {H : Type} : DataW H → Nat
  | .lit (.string bytes) => bytes.length + 1
  | .lit _ => 1
  | .nil => 1
  | .ptr d => uptoBulk d + 1
  | .slice elems spare => uptoBulkAll elems + uptoBulkAll spare + 1
  | .agg parts => uptoBulkAll parts + 1
  | .iface _ d => uptoBulk d + 1
  | .map entries => uptoBulkEntries entries + 1
  | .held _ => 1
def uptoBulkAll {H : Type} : List (DataW H) → Nat
  | [] => 0
  | d :: r => uptoBulk d + uptoBulkAll r
def uptoBulkEntries {H : Type} : List (Lit × DataW H) → Nat
  | [] => 0
  | x :: r => uptoBulkEntry x + uptoBulkEntries r
def uptoBulkEntry {H : Type} : Lit × DataW H → Nat
  | (.string bytes, d) => bytes.length + uptoBulk d + 1
  | (_, d) => uptoBulk d + 1
 end
def uptoSmall : (H : Type) → List (DataW H) → Bool := fun _ ds => decide (uptoBulkAll ds ≤ 1048576)
def OpenSpec.upto (s : _root_.Go.ChangeSpec) : _root_.Go.OpenSpec := { _root_.Go.OpenSpec.ofChange s with cond := some uptoSmall }

/-- 'remouldlaw04.GaugeCompares', WHERE WHAT IT READS IS OF BULK AT MOST 1048576: true; the input reads as it did. -/
def gaugeComparesUptoRow : OpenClaim := { program := "ytnpelnhfbbihkaadoor", sum := "ba2b2903fb1606bc0b505fb4d5f6b9a7cd843111ebd43a3f6ca893283212747f", func := "remould/remouldlaw04.GaugeCompares", spec := "gaugeCompares", inPlace := ["internal/abi.NoEscape", "internal/bytealg.MakeNoZero", "internal/bytealg.IndexByteString", "internal/bytealg.IndexString"], unfollowed := true, recurses := true, named := ["unicode/utf8.first", "unicode/utf8.acceptRanges", "internal/bytealg.MaxLen"], apart := false, laid := [("unicode/utf8.acceptRanges", laid_unicode_utf8_acceptRanges), ("unicode/utf8.first", laid_unicode_utf8_first)], narrowed := true }
def GaugeComparesUptoSaid : Prop := gaugeComparesUptoRow.holds Tryd.pinned (OpenSpec.upto gaugeComparesSpec)

/-- 'remouldlaw04.GaugeFloors', WHERE WHAT IT READS IS OF BULK AT MOST 1048576: true; the input reads as it did. -/
def gaugeFloorsUptoRow : OpenClaim := { program := "ytnpelnhfbbihkaadoor", sum := "ba2b2903fb1606bc0b505fb4d5f6b9a7cd843111ebd43a3f6ca893283212747f", func := "remould/remouldlaw04.GaugeFloors", spec := "gaugeFloors", inPlace := ["internal/abi.NoEscape", "internal/bytealg.MakeNoZero", "internal/bytealg.IndexByteString", "internal/bytealg.IndexString"], unfollowed := true, recurses := true, named := ["unicode/utf8.first", "unicode/utf8.acceptRanges", "internal/bytealg.MaxLen"], apart := false, laid := [("unicode/utf8.acceptRanges", laid_unicode_utf8_acceptRanges), ("unicode/utf8.first", laid_unicode_utf8_first)], narrowed := true }
def GaugeFloorsUptoSaid : Prop := gaugeFloorsUptoRow.holds Tryd.pinned (OpenSpec.upto gaugeFloorsSpec)

/-- 'remouldlaw04.GaugeProducts', WHERE WHAT IT READS IS OF BULK AT MOST 1048576: true; the input reads as it did. -/
def gaugeProductsUptoRow : OpenClaim := { program := "ytnpelnhfbbihkaadoor", sum := "ba2b2903fb1606bc0b505fb4d5f6b9a7cd843111ebd43a3f6ca893283212747f", func := "remould/remouldlaw04.GaugeProducts", spec := "gaugeProducts", inPlace := ["internal/abi.NoEscape", "internal/bytealg.MakeNoZero", "internal/bytealg.IndexByteString", "internal/bytealg.IndexString"], unfollowed := true, recurses := true, named := ["unicode/utf8.first", "unicode/utf8.acceptRanges", "internal/bytealg.MaxLen"], apart := false, laid := [("unicode/utf8.acceptRanges", laid_unicode_utf8_acceptRanges), ("unicode/utf8.first", laid_unicode_utf8_first)], narrowed := true }
def GaugeProductsUptoSaid : Prop := gaugeProductsUptoRow.holds Tryd.pinned (OpenSpec.upto gaugeProductsSpec)

/-- 'remouldlaw04.GaugePowers', WHERE WHAT IT READS IS OF BULK AT MOST 1048576: true; the input reads as it did. -/
def gaugePowersUptoRow : OpenClaim := { program := "ytnpelnhfbbihkaadoor", sum := "ba2b2903fb1606bc0b505fb4d5f6b9a7cd843111ebd43a3f6ca893283212747f", func := "remould/remouldlaw04.GaugePowers", spec := "gaugePowers", inPlace := ["internal/abi.NoEscape", "internal/bytealg.MakeNoZero", "internal/bytealg.IndexByteString", "internal/bytealg.IndexString"], unfollowed := true, recurses := true, named := ["unicode/utf8.first", "unicode/utf8.acceptRanges", "internal/bytealg.MaxLen"], apart := false, laid := [("unicode/utf8.acceptRanges", laid_unicode_utf8_acceptRanges), ("unicode/utf8.first", laid_unicode_utf8_first)], narrowed := true }
def GaugePowersUptoSaid : Prop := gaugePowersUptoRow.holds Tryd.pinned (OpenSpec.upto gaugePowersSpec)

/-- 'remouldlaw04.GaugeDivides', WHERE WHAT IT READS IS OF BULK AT MOST 1048576: true; the input reads as it did. -/
def gaugeDividesUptoRow : OpenClaim := { program := "ytnpelnhfbbihkaadoor", sum := "ba2b2903fb1606bc0b505fb4d5f6b9a7cd843111ebd43a3f6ca893283212747f", func := "remould/remouldlaw04.GaugeDivides", spec := "gaugeDivides", inPlace := ["internal/abi.NoEscape", "internal/bytealg.MakeNoZero", "internal/bytealg.IndexByteString", "internal/bytealg.IndexString"], unfollowed := true, recurses := true, named := ["unicode/utf8.first", "unicode/utf8.acceptRanges", "internal/bytealg.MaxLen"], apart := false, laid := [("unicode/utf8.acceptRanges", laid_unicode_utf8_acceptRanges), ("unicode/utf8.first", laid_unicode_utf8_first)], narrowed := true }
def GaugeDividesUptoSaid : Prop := gaugeDividesUptoRow.holds Tryd.pinned (OpenSpec.upto gaugeDividesSpec)

/-- 'remouldlaw04.GaugeNorms', WHERE WHAT IT READS IS OF BULK AT MOST 1048576: true; the input reads as it did. -/
def gaugeNormsUptoRow : OpenClaim := { program := "ytnpelnhfbbihkaadoor", sum := "ba2b2903fb1606bc0b505fb4d5f6b9a7cd843111ebd43a3f6ca893283212747f", func := "remould/remouldlaw04.GaugeNorms", spec := "gaugeNorms", inPlace := ["internal/abi.NoEscape", "internal/bytealg.MakeNoZero", "internal/bytealg.IndexByteString", "internal/bytealg.IndexString"], unfollowed := true, recurses := true, named := ["unicode/utf8.first", "unicode/utf8.acceptRanges", "internal/bytealg.MaxLen"], apart := false, laid := [("unicode/utf8.acceptRanges", laid_unicode_utf8_acceptRanges), ("unicode/utf8.first", laid_unicode_utf8_first)], narrowed := true }
def GaugeNormsUptoSaid : Prop := gaugeNormsUptoRow.holds Tryd.pinned (OpenSpec.upto gaugeNormsSpec)

end Rows
end Go.Proofs.YtnpelnhfbbihkaaDoor
