/-
  NARROWER THAN 'FOR EVERY INPUT', by the rows' own cells (each row's printed sentence says how): CamberVieta: laid · CamberCoprime: laid · CamberRooted: laid · CamberForms: laid · CamberTree: laid · CamberDet: laid.
  DERIVED. THE GIVEN ROWS OF THIS SEAT. 6 by the template 'for every input the law returns true; each argument reads behind the call as it read before'; 0 by the template 'total and deterministic' (their statements: YteffkcnlipdgaaaDoorTotals.lean).
  GIVEN WITH THE SEED: the statements are not yours to turn. If you find one false, say at which input.
  Laid BY PROGRAM, IN A SANDBOX (cutbox-rows.mjs): the forced cells as the released guide's own fill.sh prints them over the translation 31ad7f3b0764fa00… (all of the seat's roots in one cut). By AI agents, Wed Nov 11 2026. No macro, syntax, notation, axiom, sorry.
-/
import Derived.Test.YteffkcnlipdgaaaDoorChecked
import GoSem.PinnedTables
import GoSem.Claim
import GoSem.ClaimJoined
import GoSem.ClaimMapViews
import Derived.JoinedTies
import Derived.KernelRfl
namespace Go.Proofs.YteffkcnlipdgaaaDoor
/- THE CELL 'sum', in the pinned program and in every row, IS THE sha256 OF THE DUMP (.gsa) THAT YteffkcnlipdgaaaDoorProg.lean LOADS. Nothing in Lean hashes anything: it is a label: what it is worth is what the hold of that sum in a sandbox is worth. -/
noncomputable def Tryd.pinned : Pinned := { name := "yteffkcnlipdgaaadoor", sum := "31ad7f3b0764fa00bc6554d0e687db68fd9135e50caec070d26bee22b71f02ca", checked := Tryd.checked }
namespace Rows
def none {H : Type} : Left H := { results := [], args := [] }

/- WHAT THE LISTED PACKAGE-LEVEL VARIABLES READ AS WHEN THE CALL BEGINS. Each datum BY PROGRAM (the guide's laid-datum.mjs) off the statement by which the dump's own 'gosem.cut.vars' lays the variable. In a bare row this is a premise. The card (YteffkcnlipdgaaaDoorCards.lean) ties it to the program's text. -/
def laid_unicode_utf8_acceptRanges {H : Type} : DataW H := .agg [.agg [.lit (.int .u8 128), .lit (.int .u8 191)], .agg [.lit (.int .u8 160), .lit (.int .u8 191)], .agg [.lit (.int .u8 128), .lit (.int .u8 159)], .agg [.lit (.int .u8 144), .lit (.int .u8 191)], .agg [.lit (.int .u8 128), .lit (.int .u8 143)], .agg [.lit (.int .u8 0), .lit (.int .u8 0)], .agg [.lit (.int .u8 0), .lit (.int .u8 0)], .agg [.lit (.int .u8 0), .lit (.int .u8 0)], .agg [.lit (.int .u8 0), .lit (.int .u8 0)], .agg [.lit (.int .u8 0), .lit (.int .u8 0)], .agg [.lit (.int .u8 0), .lit (.int .u8 0)], .agg [.lit (.int .u8 0), .lit (.int .u8 0)], .agg [.lit (.int .u8 0), .lit (.int .u8 0)], .agg [.lit (.int .u8 0), .lit (.int .u8 0)], .agg [.lit (.int .u8 0), .lit (.int .u8 0)], .agg [.lit (.int .u8 0), .lit (.int .u8 0)]]
/-- One of Go's own tables, pinned by name: the form's constant. -/
def laid_unicode_utf8_first : DataW Unit := Go.Pinned.utf8First

/-- 'remouldlaw09.CamberVieta': WHATEVER THE INPUT: true; the input reads as it did. -/
def camberVietaSpec : ChangeSpec := { name := "camberVieta", fn := fun _ => fun
  | [d1, d2] => { results := [.lit (.bool true)], args := [d1, d2] }
  | _ => none }
def camberVietaRow : OpenClaim := { program := "yteffkcnlipdgaaadoor", sum := "31ad7f3b0764fa00bc6554d0e687db68fd9135e50caec070d26bee22b71f02ca", func := "remould/remouldlaw09.CamberVieta", spec := "camberVieta", inPlace := ["internal/bytealg.IndexByteString", "internal/bytealg.IndexString"], unfollowed := true, recurses := true, named := ["unicode/utf8.first", "unicode/utf8.acceptRanges", "internal/bytealg.MaxLen"], apart := false, laid := [("unicode/utf8.acceptRanges", laid_unicode_utf8_acceptRanges), ("unicode/utf8.first", laid_unicode_utf8_first)] }
def CamberVietaSaid : Prop := camberVietaRow.holds Tryd.pinned (OpenSpec.ofChange camberVietaSpec)

/-- ITS FALSE NEIGHBOUR: 'it returns false'. Refute it at one input. -/
def camberVietaWrong : ChangeSpec := { name := "camberVieta", fn := fun _ => fun
  | [d1, d2] => { results := [.lit (.bool false)], args := [d1, d2] }
  | _ => none }
def CamberVietaWrongFalsely : Prop := camberVietaRow.holds Tryd.pinned (OpenSpec.ofChange camberVietaWrong)

/-- 'remouldlaw09.CamberCoprime': WHATEVER THE INPUT: true; the input reads as it did. -/
def camberCoprimeSpec : ChangeSpec := { name := "camberCoprime", fn := fun _ => fun
  | [d] => { results := [.lit (.bool true)], args := [d] }
  | _ => none }
def camberCoprimeRow : OpenClaim := { program := "yteffkcnlipdgaaadoor", sum := "31ad7f3b0764fa00bc6554d0e687db68fd9135e50caec070d26bee22b71f02ca", func := "remould/remouldlaw09.CamberCoprime", spec := "camberCoprime", inPlace := ["internal/bytealg.IndexByteString", "internal/bytealg.IndexString"], unfollowed := true, recurses := true, named := ["unicode/utf8.first", "unicode/utf8.acceptRanges", "internal/bytealg.MaxLen"], apart := false, laid := [("unicode/utf8.acceptRanges", laid_unicode_utf8_acceptRanges), ("unicode/utf8.first", laid_unicode_utf8_first)] }
def CamberCoprimeSaid : Prop := camberCoprimeRow.holds Tryd.pinned (OpenSpec.ofChange camberCoprimeSpec)

/-- ITS FALSE NEIGHBOUR: 'it returns false'. Refute it at one input. -/
def camberCoprimeWrong : ChangeSpec := { name := "camberCoprime", fn := fun _ => fun
  | [d] => { results := [.lit (.bool false)], args := [d] }
  | _ => none }
def CamberCoprimeWrongFalsely : Prop := camberCoprimeRow.holds Tryd.pinned (OpenSpec.ofChange camberCoprimeWrong)

/-- 'remouldlaw09.CamberRooted': WHATEVER THE INPUT: true; the input reads as it did. -/
def camberRootedSpec : ChangeSpec := { name := "camberRooted", fn := fun _ => fun
  | [d] => { results := [.lit (.bool true)], args := [d] }
  | _ => none }
def camberRootedRow : OpenClaim := { program := "yteffkcnlipdgaaadoor", sum := "31ad7f3b0764fa00bc6554d0e687db68fd9135e50caec070d26bee22b71f02ca", func := "remould/remouldlaw09.CamberRooted", spec := "camberRooted", inPlace := ["internal/bytealg.IndexByteString", "internal/bytealg.IndexString"], unfollowed := true, recurses := true, named := ["unicode/utf8.first", "unicode/utf8.acceptRanges", "internal/bytealg.MaxLen"], apart := false, laid := [("unicode/utf8.acceptRanges", laid_unicode_utf8_acceptRanges), ("unicode/utf8.first", laid_unicode_utf8_first)] }
def CamberRootedSaid : Prop := camberRootedRow.holds Tryd.pinned (OpenSpec.ofChange camberRootedSpec)

/-- ITS FALSE NEIGHBOUR: 'it returns false'. Refute it at one input. -/
def camberRootedWrong : ChangeSpec := { name := "camberRooted", fn := fun _ => fun
  | [d] => { results := [.lit (.bool false)], args := [d] }
  | _ => none }
def CamberRootedWrongFalsely : Prop := camberRootedRow.holds Tryd.pinned (OpenSpec.ofChange camberRootedWrong)

/-- 'remouldlaw09.CamberForms': WHATEVER THE INPUT: true; the input reads as it did. -/
def camberFormsSpec : ChangeSpec := { name := "camberForms", fn := fun _ => fun
  | [d] => { results := [.lit (.bool true)], args := [d] }
  | _ => none }
def camberFormsRow : OpenClaim := { program := "yteffkcnlipdgaaadoor", sum := "31ad7f3b0764fa00bc6554d0e687db68fd9135e50caec070d26bee22b71f02ca", func := "remould/remouldlaw09.CamberForms", spec := "camberForms", inPlace := ["internal/bytealg.IndexByteString", "internal/bytealg.IndexString"], unfollowed := true, recurses := true, named := ["unicode/utf8.first", "unicode/utf8.acceptRanges", "internal/bytealg.MaxLen"], apart := false, laid := [("unicode/utf8.acceptRanges", laid_unicode_utf8_acceptRanges), ("unicode/utf8.first", laid_unicode_utf8_first)] }
def CamberFormsSaid : Prop := camberFormsRow.holds Tryd.pinned (OpenSpec.ofChange camberFormsSpec)

/-- ITS FALSE NEIGHBOUR: 'it returns false'. Refute it at one input. -/
def camberFormsWrong : ChangeSpec := { name := "camberForms", fn := fun _ => fun
  | [d] => { results := [.lit (.bool false)], args := [d] }
  | _ => none }
def CamberFormsWrongFalsely : Prop := camberFormsRow.holds Tryd.pinned (OpenSpec.ofChange camberFormsWrong)

/-- 'remouldlaw09.CamberTree': WHATEVER THE INPUT: true; the input reads as it did. -/
def camberTreeSpec : ChangeSpec := { name := "camberTree", fn := fun _ => fun
  | [d] => { results := [.lit (.bool true)], args := [d] }
  | _ => none }
def camberTreeRow : OpenClaim := { program := "yteffkcnlipdgaaadoor", sum := "31ad7f3b0764fa00bc6554d0e687db68fd9135e50caec070d26bee22b71f02ca", func := "remould/remouldlaw09.CamberTree", spec := "camberTree", inPlace := ["internal/bytealg.IndexByteString", "internal/bytealg.IndexString"], unfollowed := true, recurses := true, named := ["unicode/utf8.first", "unicode/utf8.acceptRanges", "internal/bytealg.MaxLen"], apart := false, laid := [("unicode/utf8.acceptRanges", laid_unicode_utf8_acceptRanges), ("unicode/utf8.first", laid_unicode_utf8_first)] }
def CamberTreeSaid : Prop := camberTreeRow.holds Tryd.pinned (OpenSpec.ofChange camberTreeSpec)

/-- ITS FALSE NEIGHBOUR: 'it returns false'. Refute it at one input. -/
def camberTreeWrong : ChangeSpec := { name := "camberTree", fn := fun _ => fun
  | [d] => { results := [.lit (.bool false)], args := [d] }
  | _ => none }
def CamberTreeWrongFalsely : Prop := camberTreeRow.holds Tryd.pinned (OpenSpec.ofChange camberTreeWrong)

/-- 'remouldlaw09.CamberDet': WHATEVER THE INPUT: true; the input reads as it did. -/
def camberDetSpec : ChangeSpec := { name := "camberDet", fn := fun _ => fun
  | [d1, d2] => { results := [.lit (.bool true)], args := [d1, d2] }
  | _ => none }
def camberDetRow : OpenClaim := { program := "yteffkcnlipdgaaadoor", sum := "31ad7f3b0764fa00bc6554d0e687db68fd9135e50caec070d26bee22b71f02ca", func := "remould/remouldlaw09.CamberDet", spec := "camberDet", inPlace := ["internal/bytealg.IndexByteString", "internal/bytealg.IndexString"], unfollowed := true, recurses := true, named := ["unicode/utf8.first", "unicode/utf8.acceptRanges", "internal/bytealg.MaxLen"], apart := false, laid := [("unicode/utf8.acceptRanges", laid_unicode_utf8_acceptRanges), ("unicode/utf8.first", laid_unicode_utf8_first)] }
def CamberDetSaid : Prop := camberDetRow.holds Tryd.pinned (OpenSpec.ofChange camberDetSpec)

/-- ITS FALSE NEIGHBOUR: 'it returns false'. Refute it at one input. -/
def camberDetWrong : ChangeSpec := { name := "camberDet", fn := fun _ => fun
  | [d1, d2] => { results := [.lit (.bool false)], args := [d1, d2] }
  | _ => none }
def CamberDetWrongFalsely : Prop := camberDetRow.holds Tryd.pinned (OpenSpec.ofChange camberDetWrong)

/- THE SECOND FORM. 'bulk': how many values and letters a reading holds, each counted each time it is reached (what is shared counts as often as it is met; a slice's spare places count too). A statement '..UptoSaid' is the law's where the arguments, and the package variables that the reading takes, are together of bulk at most 1048576: NARROWER than '..Said'. Prove '..Said' where nothing that the law and all that it calls make is longer than what came in: it says more and counts as full. Else prove '..UptoSaid'. A law counts once. -/
mutual
def uptoBulk {H : Type} : DataW H → Nat
  | .lit (.string bytes) => bytes.length + 1
  | .lit _ => 1
  | .nil => 1
  | .ptr d => uptoBulk d + 1
  | .slice elems spare => uptoBulkAll elems + uptoBulkAll spare + 1
  | .agg parts => uptoBulkAll parts + 1
  | .iface _ d => uptoBulk d + 1
  | .map entries => uptoBulkEntries entries + 1
  | .held _ => 1
def uptoBulkAll {H : Type} : List (DataW H) → Nat
  | [] => 0
  | d :: r => uptoBulk d + uptoBulkAll r
def uptoBulkEntries {H : Type} : List (Lit × DataW H) → Nat
  | [] => 0
  | x :: r => uptoBulkEntry x + uptoBulkEntries r
def uptoBulkEntry {H : Type} : Lit × DataW H → Nat
  | (.string bytes, d) => bytes.length + uptoBulk d + 1
  | (_, d) => uptoBulk d + 1
 end
def uptoSmall : (H : Type) → List (DataW H) → Bool := fun _ ds => decide (uptoBulkAll ds ≤ 1048576)
def OpenSpec.upto (s : _root_.Go.ChangeSpec) : _root_.Go.OpenSpec := { _root_.Go.OpenSpec.ofChange s with cond := some uptoSmall }

/-- 'remouldlaw09.CamberVieta', WHERE WHAT IT READS IS OF BULK AT MOST 1048576: true; the input reads as it did. -/
def camberVietaUptoRow : OpenClaim := { program := "yteffkcnlipdgaaadoor", sum := "31ad7f3b0764fa00bc6554d0e687db68fd9135e50caec070d26bee22b71f02ca", func := "remould/remouldlaw09.CamberVieta", spec := "camberVieta", inPlace := ["internal/bytealg.IndexByteString", "internal/bytealg.IndexString"], unfollowed := true, recurses := true, named := ["unicode/utf8.first", "unicode/utf8.acceptRanges", "internal/bytealg.MaxLen"], apart := false, laid := [("unicode/utf8.acceptRanges", laid_unicode_utf8_acceptRanges), ("unicode/utf8.first", laid_unicode_utf8_first)], narrowed := true }
def CamberVietaUptoSaid : Prop := camberVietaUptoRow.holds Tryd.pinned (OpenSpec.upto camberVietaSpec)

/-- 'remouldlaw09.CamberCoprime', WHERE WHAT IT READS IS OF BULK AT MOST 1048576: true; the input reads as it did. -/
def camberCoprimeUptoRow : OpenClaim := { program := "yteffkcnlipdgaaadoor", sum := "31ad7f3b0764fa00bc6554d0e687db68fd9135e50caec070d26bee22b71f02ca", func := "remould/remouldlaw09.CamberCoprime", spec := "camberCoprime", inPlace := ["internal/bytealg.IndexByteString", "internal/bytealg.IndexString"], unfollowed := true, recurses := true, named := ["unicode/utf8.first", "unicode/utf8.acceptRanges", "internal/bytealg.MaxLen"], apart := false, laid := [("unicode/utf8.acceptRanges", laid_unicode_utf8_acceptRanges), ("unicode/utf8.first", laid_unicode_utf8_first)], narrowed := true }
def CamberCoprimeUptoSaid : Prop := camberCoprimeUptoRow.holds Tryd.pinned (OpenSpec.upto camberCoprimeSpec)

/-- 'remouldlaw09.CamberRooted', WHERE WHAT IT READS IS OF BULK AT MOST 1048576: true; the input reads as it did. -/
def camberRootedUptoRow : OpenClaim := { program := "yteffkcnlipdgaaadoor", sum := "31ad7f3b0764fa00bc6554d0e687db68fd9135e50caec070d26bee22b71f02ca", func := "remould/remouldlaw09.CamberRooted", spec := "camberRooted", inPlace := ["internal/bytealg.IndexByteString", "internal/bytealg.IndexString"], unfollowed := true, recurses := true, named := ["unicode/utf8.first", "unicode/utf8.acceptRanges", "internal/bytealg.MaxLen"], apart := false, laid := [("unicode/utf8.acceptRanges", laid_unicode_utf8_acceptRanges), ("unicode/utf8.first", laid_unicode_utf8_first)], narrowed := true }
def CamberRootedUptoSaid : Prop := camberRootedUptoRow.holds Tryd.pinned (OpenSpec.upto camberRootedSpec)

/-- 'remouldlaw09.CamberForms', WHERE WHAT IT READS IS OF BULK AT MOST 1048576: true; the input reads as it did. -/
def camberFormsUptoRow : OpenClaim := { program := "yteffkcnlipdgaaadoor", sum := "31ad7f3b0764fa00bc6554d0e687db68fd9135e50caec070d26bee22b71f02ca", func := "remould/remouldlaw09.CamberForms", spec := "camberForms", inPlace := ["internal/bytealg.IndexByteString", "internal/bytealg.IndexString"], unfollowed := true, recurses := true, named := ["unicode/utf8.first", "unicode/utf8.acceptRanges", "internal/bytealg.MaxLen"], apart := false, laid := [("unicode/utf8.acceptRanges", laid_unicode_utf8_acceptRanges), ("unicode/utf8.first", laid_unicode_utf8_first)], narrowed := true }
def CamberFormsUptoSaid : Prop := camberFormsUptoRow.holds Tryd.pinned (OpenSpec.upto camberFormsSpec)

/-- 'remouldlaw09.CamberTree', WHERE WHAT IT READS IS OF BULK AT MOST 1048576: true; the input reads as it did. -/
def camberTreeUptoRow : OpenClaim := { program := "yteffkcnlipdgaaadoor", sum := "31ad7f3b0764fa00bc6554d0e687db68fd9135e50caec070d26bee22b71f02ca", func := "remould/remouldlaw09.CamberTree", spec := "camberTree", inPlace := ["internal/bytealg.IndexByteString", "internal/bytealg.IndexString"], unfollowed := true, recurses := true, named := ["unicode/utf8.first", "unicode/utf8.acceptRanges", "internal/bytealg.MaxLen"], apart := false, laid := [("unicode/utf8.acceptRanges", laid_unicode_utf8_acceptRanges), ("unicode/utf8.first", laid_unicode_utf8_first)], narrowed := true }
def CamberTreeUptoSaid : Prop := camberTreeUptoRow.holds Tryd.pinned (OpenSpec.upto camberTreeSpec)

/-- 'remouldlaw09.CamberDet', WHERE WHAT IT READS IS OF BULK AT MOST 1048576: true; the input reads as it did. -/
def camberDetUptoRow : OpenClaim := { program := "yteffkcnlipdgaaadoor", sum := "31ad7f3b0764fa00bc6554d0e687db68fd9135e50caec070d26bee22b71f02ca", func := "remould/remouldlaw09.CamberDet", spec := "camberDet", inPlace := ["internal/bytealg.IndexByteString", "internal/bytealg.IndexString"], unfollowed := true, recurses := true, named := ["unicode/utf8.first", "unicode/utf8.acceptRanges", "internal/bytealg.MaxLen"], apart := false, laid := [("unicode/utf8.acceptRanges", laid_unicode_utf8_acceptRanges), ("unicode/utf8.first", laid_unicode_utf8_first)], narrowed := true }
def CamberDetUptoSaid : Prop := camberDetUptoRow.holds Tryd.pinned (OpenSpec.upto camberDetSpec)

end Rows
end Go.Proofs.YteffkcnlipdgaaaDoor
