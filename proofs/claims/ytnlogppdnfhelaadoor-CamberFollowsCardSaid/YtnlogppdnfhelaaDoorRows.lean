/-
  NARROWER THAN 'FOR EVERY INPUT', by the rows' own cells (each row's printed sentence says how): CamberTriples: laid · CamberExchanges: laid · CamberParents: laid · CamberPaths: laid · CamberFollows: laid · CamberMatrices: laid.
  DERIVED. THE GIVEN ROWS OF THIS SEAT. 6 by the template 'for every input the law returns true; each argument reads behind the call as it read before'; 0 by the template 'total and deterministic' (their statements: YtnlogppdnfhelaaDoorTotals.lean).
  GIVEN WITH THE SEED: the statements are not yours to turn. If you find one false, say at which input.
  Laid BY PROGRAM, IN A SANDBOX (cutbox-rows.mjs): the forced cells as the released guide's own fill.sh prints them over the translation 36e379fc00d0dc87… (all of the seat's roots in one cut). By AI agents, Wed Nov 11 2026. No macro, syntax, notation, axiom, sorry.
-/
import Derived.Test.YtnlogppdnfhelaaDoorChecked
import GoSem.PinnedTables
import GoSem.Claim
import GoSem.ClaimJoined
import GoSem.ClaimMapViews
import Derived.JoinedTies
import Derived.KernelRfl
namespace Go.Proofs.YtnlogppdnfhelaaDoor
/- THE CELL 'sum', in the pinned program and in every row, IS THE sha256 OF THE DUMP (.gsa) THAT YtnlogppdnfhelaaDoorProg.lean LOADS. Nothing in Lean hashes anything: it is a label: what it is worth is what the hold of that sum in a sandbox is worth. -/
noncomputable def Tryd.pinned : Pinned := { name := "ytnlogppdnfhelaadoor", sum := "36e379fc00d0dc8743b50e4ac3a5c22f5f121e8fca29317c9c4ff3a61225db04", checked := Tryd.checked }
namespace Rows
def none {H : Type} : Left H := { results := [], args := [] }

/- WHAT THE LISTED PACKAGE-LEVEL VARIABLES READ AS WHEN THE CALL BEGINS. Each datum BY PROGRAM (the guide's laid-datum.mjs) off the statement by which the dump's own 'gosem.cut.vars' lays the variable. In a bare row this is a premise. The card (YtnlogppdnfhelaaDoorCards.lean) ties it to the program's text. -/
def laid_unicode_utf8_acceptRanges {H : Type} : DataW H := .agg [.agg [.lit (.int .u8 128), .lit (.int .u8 191)], .agg [.lit (.int .u8 160), .lit (.int .u8 191)], .agg [.lit (.int .u8 128), .lit (.int .u8 159)], .agg [.lit (.int .u8 144), .lit (.int .u8 191)], .agg [.lit (.int .u8 128), .lit (.int .u8 143)], .agg [.lit (.int .u8 0), .lit (.int .u8 0)], .agg [.lit (.int .u8 0), .lit (.int .u8 0)], .agg [.lit (.int .u8 0), .lit (.int .u8 0)], .agg [.lit (.int .u8 0), .lit (.int .u8 0)], .agg [.lit (.int .u8 0), .lit (.int .u8 0)], .agg [.lit (.int .u8 0), .lit (.int .u8 0)], .agg [.lit (.int .u8 0), .lit (.int .u8 0)], .agg [.lit (.int .u8 0), .lit (.int .u8 0)], .agg [.lit (.int .u8 0), .lit (.int .u8 0)], .agg [.lit (.int .u8 0), .lit (.int .u8 0)], .agg [.lit (.int .u8 0), .lit (.int .u8 0)]]
/-- One of Go's own tables, pinned by name: the form's constant. -/
def laid_unicode_utf8_first : DataW Unit := Go.Pinned.utf8First

/-- 'remouldlaw09.CamberTriples': WHATEVER THE INPUT: true; the input reads as it did. -/
def camberTriplesSpec : ChangeSpec := { name := "camberTriples", fn := fun _ => fun
  | [d] => { results := [.lit (.bool true)], args := [d] }
  | _ => none }
def camberTriplesRow : OpenClaim := { program := "ytnlogppdnfhelaadoor", sum := "36e379fc00d0dc8743b50e4ac3a5c22f5f121e8fca29317c9c4ff3a61225db04", func := "remould/remouldlaw09.CamberTriples", spec := "camberTriples", inPlace := ["internal/bytealg.IndexByteString", "internal/bytealg.IndexString"], unfollowed := true, recurses := true, named := ["unicode/utf8.first", "unicode/utf8.acceptRanges", "internal/bytealg.MaxLen"], apart := false, laid := [("unicode/utf8.acceptRanges", laid_unicode_utf8_acceptRanges), ("unicode/utf8.first", laid_unicode_utf8_first)] }
def CamberTriplesSaid : Prop := camberTriplesRow.holds Tryd.pinned (OpenSpec.ofChange camberTriplesSpec)

/-- ITS FALSE NEIGHBOUR: 'it returns false'. Refute it at one input. -/
def camberTriplesWrong : ChangeSpec := { name := "camberTriples", fn := fun _ => fun
  | [d] => { results := [.lit (.bool false)], args := [d] }
  | _ => none }
def CamberTriplesWrongFalsely : Prop := camberTriplesRow.holds Tryd.pinned (OpenSpec.ofChange camberTriplesWrong)

/-- 'remouldlaw09.CamberExchanges': WHATEVER THE INPUT: true; the input reads as it did. -/
def camberExchangesSpec : ChangeSpec := { name := "camberExchanges", fn := fun _ => fun
  | [d1, d2] => { results := [.lit (.bool true)], args := [d1, d2] }
  | _ => none }
def camberExchangesRow : OpenClaim := { program := "ytnlogppdnfhelaadoor", sum := "36e379fc00d0dc8743b50e4ac3a5c22f5f121e8fca29317c9c4ff3a61225db04", func := "remould/remouldlaw09.CamberExchanges", spec := "camberExchanges", inPlace := ["internal/bytealg.IndexByteString", "internal/bytealg.IndexString"], unfollowed := true, recurses := true, named := ["unicode/utf8.first", "unicode/utf8.acceptRanges", "internal/bytealg.MaxLen"], apart := false, laid := [("unicode/utf8.acceptRanges", laid_unicode_utf8_acceptRanges), ("unicode/utf8.first", laid_unicode_utf8_first)] }
def CamberExchangesSaid : Prop := camberExchangesRow.holds Tryd.pinned (OpenSpec.ofChange camberExchangesSpec)

/-- ITS FALSE NEIGHBOUR: 'it returns false'. Refute it at one input. -/
def camberExchangesWrong : ChangeSpec := { name := "camberExchanges", fn := fun _ => fun
  | [d1, d2] => { results := [.lit (.bool false)], args := [d1, d2] }
  | _ => none }
def CamberExchangesWrongFalsely : Prop := camberExchangesRow.holds Tryd.pinned (OpenSpec.ofChange camberExchangesWrong)

/-- 'remouldlaw09.CamberParents': WHATEVER THE INPUT: true; the input reads as it did. -/
def camberParentsSpec : ChangeSpec := { name := "camberParents", fn := fun _ => fun
  | [d] => { results := [.lit (.bool true)], args := [d] }
  | _ => none }
def camberParentsRow : OpenClaim := { program := "ytnlogppdnfhelaadoor", sum := "36e379fc00d0dc8743b50e4ac3a5c22f5f121e8fca29317c9c4ff3a61225db04", func := "remould/remouldlaw09.CamberParents", spec := "camberParents", inPlace := ["internal/bytealg.IndexByteString", "internal/bytealg.IndexString"], unfollowed := true, recurses := true, named := ["unicode/utf8.first", "unicode/utf8.acceptRanges", "internal/bytealg.MaxLen"], apart := false, laid := [("unicode/utf8.acceptRanges", laid_unicode_utf8_acceptRanges), ("unicode/utf8.first", laid_unicode_utf8_first)] }
def CamberParentsSaid : Prop := camberParentsRow.holds Tryd.pinned (OpenSpec.ofChange camberParentsSpec)

/-- ITS FALSE NEIGHBOUR: 'it returns false'. Refute it at one input. -/
def camberParentsWrong : ChangeSpec := { name := "camberParents", fn := fun _ => fun
  | [d] => { results := [.lit (.bool false)], args := [d] }
  | _ => none }
def CamberParentsWrongFalsely : Prop := camberParentsRow.holds Tryd.pinned (OpenSpec.ofChange camberParentsWrong)

/-- 'remouldlaw09.CamberPaths': WHATEVER THE INPUT: true; the input reads as it did. -/
def camberPathsSpec : ChangeSpec := { name := "camberPaths", fn := fun _ => fun
  | [d] => { results := [.lit (.bool true)], args := [d] }
  | _ => none }
def camberPathsRow : OpenClaim := { program := "ytnlogppdnfhelaadoor", sum := "36e379fc00d0dc8743b50e4ac3a5c22f5f121e8fca29317c9c4ff3a61225db04", func := "remould/remouldlaw09.CamberPaths", spec := "camberPaths", inPlace := ["internal/bytealg.IndexByteString", "internal/bytealg.IndexString"], unfollowed := true, recurses := true, named := ["unicode/utf8.first", "unicode/utf8.acceptRanges", "internal/bytealg.MaxLen"], apart := false, laid := [("unicode/utf8.acceptRanges", laid_unicode_utf8_acceptRanges), ("unicode/utf8.first", laid_unicode_utf8_first)] }
def CamberPathsSaid : Prop := camberPathsRow.holds Tryd.pinned (OpenSpec.ofChange camberPathsSpec)

/-- ITS FALSE NEIGHBOUR: 'it returns false'. Refute it at one input. -/
def camberPathsWrong : ChangeSpec := { name := "camberPaths", fn := fun _ => fun
  | [d] => { results := [.lit (.bool false)], args := [d] }
  | _ => none }
def CamberPathsWrongFalsely : Prop := camberPathsRow.holds Tryd.pinned (OpenSpec.ofChange camberPathsWrong)

/-- 'remouldlaw09.CamberFollows': WHATEVER THE INPUT: true; the input reads as it did. -/
def camberFollowsSpec : ChangeSpec := { name := "camberFollows", fn := fun _ => fun
  | [d] => { results := [.lit (.bool true)], args := [d] }
  | _ => none }
def camberFollowsRow : OpenClaim := { program := "ytnlogppdnfhelaadoor", sum := "36e379fc00d0dc8743b50e4ac3a5c22f5f121e8fca29317c9c4ff3a61225db04", func := "remould/remouldlaw09.CamberFollows", spec := "camberFollows", inPlace := ["internal/bytealg.IndexByteString", "internal/bytealg.IndexString"], unfollowed := true, recurses := true, named := ["unicode/utf8.first", "unicode/utf8.acceptRanges", "internal/bytealg.MaxLen"], apart := false, laid := [("unicode/utf8.acceptRanges", laid_unicode_utf8_acceptRanges), ("unicode/utf8.first", laid_unicode_utf8_first)] }
def CamberFollowsSaid : Prop := camberFollowsRow.holds Tryd.pinned (OpenSpec.ofChange camberFollowsSpec)

/-- ITS FALSE NEIGHBOUR: 'it returns false'. Refute it at one input. -/
def camberFollowsWrong : ChangeSpec := { name := "camberFollows", fn := fun _ => fun
  | [d] => { results := [.lit (.bool false)], args := [d] }
  | _ => none }
def CamberFollowsWrongFalsely : Prop := camberFollowsRow.holds Tryd.pinned (OpenSpec.ofChange camberFollowsWrong)

/-- 'remouldlaw09.CamberMatrices': WHATEVER THE INPUT: true; the input reads as it did. -/
def camberMatricesSpec : ChangeSpec := { name := "camberMatrices", fn := fun _ => fun
  | [d] => { results := [.lit (.bool true)], args := [d] }
  | _ => none }
def camberMatricesRow : OpenClaim := { program := "ytnlogppdnfhelaadoor", sum := "36e379fc00d0dc8743b50e4ac3a5c22f5f121e8fca29317c9c4ff3a61225db04", func := "remould/remouldlaw09.CamberMatrices", spec := "camberMatrices", inPlace := ["internal/bytealg.IndexByteString", "internal/bytealg.IndexString"], unfollowed := true, recurses := true, named := ["unicode/utf8.first", "unicode/utf8.acceptRanges", "internal/bytealg.MaxLen"], apart := false, laid := [("unicode/utf8.acceptRanges", laid_unicode_utf8_acceptRanges), ("unicode/utf8.first", laid_unicode_utf8_first)] }
def CamberMatricesSaid : Prop := camberMatricesRow.holds Tryd.pinned (OpenSpec.ofChange camberMatricesSpec)

/-- ITS FALSE NEIGHBOUR: 'it returns false'. Refute it at one input. -/
def camberMatricesWrong : ChangeSpec := { name := "camberMatrices", fn := fun _ => fun
  | [d] => { results := [.lit (.bool false)], args := [d] }
  | _ => none }
def CamberMatricesWrongFalsely : Prop := camberMatricesRow.holds Tryd.pinned (OpenSpec.ofChange camberMatricesWrong)

/- THE SECOND FORM. 'bulk': how many values and letters a reading holds, each counted each time it is reached (what is shared counts as often as it is met; a slice's spare places count too). A statement '..UptoSaid' is the law's where the arguments, and the package variables that the reading takes, are together of bulk at most 1048576: NARROWER than '..Said'. Prove '..Said' where nothing that the law and all that it calls make is longer than what came in: it says more and counts as full. Else prove '..UptoSaid'. A law counts once. -/
mutual
def uptoBulk {H : Type} : DataW H → Nat
  | .lit (.string bytes) => bytes.length + 1
  | .lit _ => 1
  | .nil => 1
  | .ptr d => uptoBulk d + 1
  | .slice elems spare => uptoBulkAll elems + uptoBulkAll spare + 1
  | .agg parts => uptoBulkAll parts + 1
  | .iface _ d => uptoBulk d + 1
  | .map entries => uptoBulkEntries entries + 1
  | .held _ => 1
def uptoBulkAll {H : Type} : List (DataW H) → Nat
  | [] => 0
  | d :: r => uptoBulk d + uptoBulkAll r
def uptoBulkEntries {H : Type} : List (Lit × DataW H) → Nat
  | [] => 0
  | x :: r => uptoBulkEntry x + uptoBulkEntries r
def uptoBulkEntry {H : Type} : Lit × DataW H → Nat
  | (.string bytes, d) => bytes.length + uptoBulk d + 1
  | (_, d) => uptoBulk d + 1
 end
def uptoSmall : (H : Type) → List (DataW H) → Bool := fun _ ds => decide (uptoBulkAll ds ≤ 1048576)
def OpenSpec.upto (s : _root_.Go.ChangeSpec) : _root_.Go.OpenSpec := { _root_.Go.OpenSpec.ofChange s with cond := some uptoSmall }

/-- 'remouldlaw09.CamberTriples', WHERE WHAT IT READS IS OF BULK AT MOST 1048576: true; the input reads as it did. -/
def camberTriplesUptoRow : OpenClaim := { program := "ytnlogppdnfhelaadoor", sum := "36e379fc00d0dc8743b50e4ac3a5c22f5f121e8fca29317c9c4ff3a61225db04", func := "remould/remouldlaw09.CamberTriples", spec := "camberTriples", inPlace := ["internal/bytealg.IndexByteString", "internal/bytealg.IndexString"], unfollowed := true, recurses := true, named := ["unicode/utf8.first", "unicode/utf8.acceptRanges", "internal/bytealg.MaxLen"], apart := false, laid := [("unicode/utf8.acceptRanges", laid_unicode_utf8_acceptRanges), ("unicode/utf8.first", laid_unicode_utf8_first)], narrowed := true }
def CamberTriplesUptoSaid : Prop := camberTriplesUptoRow.holds Tryd.pinned (OpenSpec.upto camberTriplesSpec)

/-- 'remouldlaw09.CamberExchanges', WHERE WHAT IT READS IS OF BULK AT MOST 1048576: true; the input reads as it did. -/
def camberExchangesUptoRow : OpenClaim := { program := "ytnlogppdnfhelaadoor", sum := "36e379fc00d0dc8743b50e4ac3a5c22f5f121e8fca29317c9c4ff3a61225db04", func := "remould/remouldlaw09.CamberExchanges", spec := "camberExchanges", inPlace := ["internal/bytealg.IndexByteString", "internal/bytealg.IndexString"], unfollowed := true, recurses := true, named := ["unicode/utf8.first", "unicode/utf8.acceptRanges", "internal/bytealg.MaxLen"], apart := false, laid := [("unicode/utf8.acceptRanges", laid_unicode_utf8_acceptRanges), ("unicode/utf8.first", laid_unicode_utf8_first)], narrowed := true }
def CamberExchangesUptoSaid : Prop := camberExchangesUptoRow.holds Tryd.pinned (OpenSpec.upto camberExchangesSpec)

/-- 'remouldlaw09.CamberParents', WHERE WHAT IT READS IS OF BULK AT MOST 1048576: true; the input reads as it did. -/
def camberParentsUptoRow : OpenClaim := { program := "ytnlogppdnfhelaadoor", sum := "36e379fc00d0dc8743b50e4ac3a5c22f5f121e8fca29317c9c4ff3a61225db04", func := "remould/remouldlaw09.CamberParents", spec := "camberParents", inPlace := ["internal/bytealg.IndexByteString", "internal/bytealg.IndexString"], unfollowed := true, recurses := true, named := ["unicode/utf8.first", "unicode/utf8.acceptRanges", "internal/bytealg.MaxLen"], apart := false, laid := [("unicode/utf8.acceptRanges", laid_unicode_utf8_acceptRanges), ("unicode/utf8.first", laid_unicode_utf8_first)], narrowed := true }
def CamberParentsUptoSaid : Prop := camberParentsUptoRow.holds Tryd.pinned (OpenSpec.upto camberParentsSpec)

/-- 'remouldlaw09.CamberPaths', WHERE WHAT IT READS IS OF BULK AT MOST 1048576: true; the input reads as it did. -/
def camberPathsUptoRow : OpenClaim := { program := "ytnlogppdnfhelaadoor", sum := "36e379fc00d0dc8743b50e4ac3a5c22f5f121e8fca29317c9c4ff3a61225db04", func := "remould/remouldlaw09.CamberPaths", spec := "camberPaths", inPlace := ["internal/bytealg.IndexByteString", "internal/bytealg.IndexString"], unfollowed := true, recurses := true, named := ["unicode/utf8.first", "unicode/utf8.acceptRanges", "internal/bytealg.MaxLen"], apart := false, laid := [("unicode/utf8.acceptRanges", laid_unicode_utf8_acceptRanges), ("unicode/utf8.first", laid_unicode_utf8_first)], narrowed := true }
def CamberPathsUptoSaid : Prop := camberPathsUptoRow.holds Tryd.pinned (OpenSpec.upto camberPathsSpec)

/-- 'remouldlaw09.CamberFollows', WHERE WHAT IT READS IS OF BULK AT MOST 1048576: true; the input reads as it did. -/
def camberFollowsUptoRow : OpenClaim := { program := "ytnlogppdnfhelaadoor", sum := "36e379fc00d0dc8743b50e4ac3a5c22f5f121e8fca29317c9c4ff3a61225db04", func := "remould/remouldlaw09.CamberFollows", spec := "camberFollows", inPlace := ["internal/bytealg.IndexByteString", "internal/bytealg.IndexString"], unfollowed := true, recurses := true, named := ["unicode/utf8.first", "unicode/utf8.acceptRanges", "internal/bytealg.MaxLen"], apart := false, laid := [("unicode/utf8.acceptRanges", laid_unicode_utf8_acceptRanges), ("unicode/utf8.first", laid_unicode_utf8_first)], narrowed := true }
def CamberFollowsUptoSaid : Prop := camberFollowsUptoRow.holds Tryd.pinned (OpenSpec.upto camberFollowsSpec)

/-- 'remouldlaw09.CamberMatrices', WHERE WHAT IT READS IS OF BULK AT MOST 1048576: true; the input reads as it did. -/
def camberMatricesUptoRow : OpenClaim := { program := "ytnlogppdnfhelaadoor", sum := "36e379fc00d0dc8743b50e4ac3a5c22f5f121e8fca29317c9c4ff3a61225db04", func := "remould/remouldlaw09.CamberMatrices", spec := "camberMatrices", inPlace := ["internal/bytealg.IndexByteString", "internal/bytealg.IndexString"], unfollowed := true, recurses := true, named := ["unicode/utf8.first", "unicode/utf8.acceptRanges", "internal/bytealg.MaxLen"], apart := false, laid := [("unicode/utf8.acceptRanges", laid_unicode_utf8_acceptRanges), ("unicode/utf8.first", laid_unicode_utf8_first)], narrowed := true }
def CamberMatricesUptoSaid : Prop := camberMatricesUptoRow.holds Tryd.pinned (OpenSpec.upto camberMatricesSpec)

end Rows
end Go.Proofs.YtnlogppdnfhelaaDoor
