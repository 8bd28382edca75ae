/-
  NARROWER THAN 'FOR EVERY INPUT', by the rows' own cells (each row's printed sentence says how): ZlibNumbers: laid · ZlibTells: laid · ZlibNone: laid · ZlibBack: laid · ZlibCut: laid · ZlibHead: laid.
  DERIVED. THE GIVEN ROWS OF THIS SEAT. 6 by the template 'for every input the law returns true; each argument reads behind the call as it read before'; 0 by the template 'total and deterministic' (their statements: YtbfpbmnnlckldaaDoorTotals.lean).
  GIVEN WITH THE SEED: the statements are not yours to turn. If you find one false, say at which input.
  Laid BY PROGRAM, IN A SANDBOX (cutbox-rows.mjs): the forced cells as the released guide's own fill.sh prints them over the translation c329c3d39b73ab27… (all of the seat's roots in one cut). By AI agents, Wed Nov 11 2026. No macro, syntax, notation, axiom, sorry.
-/
import Derived.Test.YtbfpbmnnlckldaaDoorChecked
import GoSem.Claim
import GoSem.ClaimJoined
import GoSem.ClaimMapViews
import Derived.JoinedTies
import Derived.KernelRfl
namespace Go.Proofs.YtbfpbmnnlckldaaDoor
/- THE CELL 'sum', in the pinned program and in every row, IS THE sha256 OF THE DUMP (.gsa) THAT YtbfpbmnnlckldaaDoorProg.lean LOADS. Nothing in Lean hashes anything: it is a label: what it is worth is what the hold of that sum in a sandbox is worth. -/
noncomputable def Tryd.pinned : Pinned := { name := "ytbfpbmnnlckldaadoor", sum := "c329c3d39b73ab27f3d29bbe87e8e13dc9921f28b5fb824c3c71fbe18bdeed96", checked := Tryd.checked }
namespace Rows
def none {H : Type} : Left H := { results := [], args := [] }

/- WHAT THE LISTED PACKAGE-LEVEL VARIABLES READ AS WHEN THE CALL BEGINS. Each datum BY PROGRAM (the guide's laid-datum.mjs) off the statement by which the dump's own 'gosem.cut.vars' lays the variable. In a bare row this is a premise. The card (YtbfpbmnnlckldaaDoorCards.lean) ties it to the program's text. -/
def laid_lightwell_inflate_lengthOrder {H : Type} : DataW H := .agg [.lit (.int .i64 16), .lit (.int .i64 17), .lit (.int .i64 18), .lit (.int .i64 0), .lit (.int .i64 8), .lit (.int .i64 7), .lit (.int .i64 9), .lit (.int .i64 6), .lit (.int .i64 10), .lit (.int .i64 5), .lit (.int .i64 11), .lit (.int .i64 4), .lit (.int .i64 12), .lit (.int .i64 3), .lit (.int .i64 13), .lit (.int .i64 2), .lit (.int .i64 14), .lit (.int .i64 1), .lit (.int .i64 15)]

/-- 'lightwelllaw08.ZlibNumbers': WHATEVER THE INPUT: true; the input reads as it did. -/
def zlibNumbersSpec : ChangeSpec := { name := "zlibNumbers", fn := fun _ => fun
  | [] => { results := [.lit (.bool true)], args := [] }
  | _ => none }
def zlibNumbersRow : OpenClaim := { program := "ytbfpbmnnlckldaadoor", sum := "c329c3d39b73ab27f3d29bbe87e8e13dc9921f28b5fb824c3c71fbe18bdeed96", func := "lightwell/lightwelllaw08.ZlibNumbers", spec := "zlibNumbers", unfollowed := true, recurses := true, named := ["lightwell/inflate.lengthOrder"], apart := false, laid := [("lightwell/inflate.lengthOrder", laid_lightwell_inflate_lengthOrder)] }
def ZlibNumbersSaid : Prop := zlibNumbersRow.holds Tryd.pinned (OpenSpec.ofChange zlibNumbersSpec)

/-- ITS FALSE NEIGHBOUR: 'it returns false'. Refute it at one input. -/
def zlibNumbersWrong : ChangeSpec := { name := "zlibNumbers", fn := fun _ => fun
  | [] => { results := [.lit (.bool false)], args := [] }
  | _ => none }
def ZlibNumbersWrongFalsely : Prop := zlibNumbersRow.holds Tryd.pinned (OpenSpec.ofChange zlibNumbersWrong)

/-- 'lightwelllaw08.ZlibTells': WHATEVER THE INPUT: true; the input reads as it did. -/
def zlibTellsSpec : ChangeSpec := { name := "zlibTells", fn := fun _ => fun
  | [d] => { results := [.lit (.bool true)], args := [d] }
  | _ => none }
def zlibTellsRow : OpenClaim := { program := "ytbfpbmnnlckldaadoor", sum := "c329c3d39b73ab27f3d29bbe87e8e13dc9921f28b5fb824c3c71fbe18bdeed96", func := "lightwell/lightwelllaw08.ZlibTells", spec := "zlibTells", unfollowed := true, recurses := true, named := ["lightwell/inflate.lengthOrder"], apart := false, laid := [("lightwell/inflate.lengthOrder", laid_lightwell_inflate_lengthOrder)] }
def ZlibTellsSaid : Prop := zlibTellsRow.holds Tryd.pinned (OpenSpec.ofChange zlibTellsSpec)

/-- ITS FALSE NEIGHBOUR: 'it returns false'. Refute it at one input. -/
def zlibTellsWrong : ChangeSpec := { name := "zlibTells", fn := fun _ => fun
  | [d] => { results := [.lit (.bool false)], args := [d] }
  | _ => none }
def ZlibTellsWrongFalsely : Prop := zlibTellsRow.holds Tryd.pinned (OpenSpec.ofChange zlibTellsWrong)

/-- 'lightwelllaw08.ZlibNone': WHATEVER THE INPUT: true; the input reads as it did. -/
def zlibNoneSpec : ChangeSpec := { name := "zlibNone", fn := fun _ => fun
  | [d] => { results := [.lit (.bool true)], args := [d] }
  | _ => none }
def zlibNoneRow : OpenClaim := { program := "ytbfpbmnnlckldaadoor", sum := "c329c3d39b73ab27f3d29bbe87e8e13dc9921f28b5fb824c3c71fbe18bdeed96", func := "lightwell/lightwelllaw08.ZlibNone", spec := "zlibNone", unfollowed := true, recurses := true, named := ["lightwell/inflate.lengthOrder"], apart := false, laid := [("lightwell/inflate.lengthOrder", laid_lightwell_inflate_lengthOrder)] }
def ZlibNoneSaid : Prop := zlibNoneRow.holds Tryd.pinned (OpenSpec.ofChange zlibNoneSpec)

/-- ITS FALSE NEIGHBOUR: 'it returns false'. Refute it at one input. -/
def zlibNoneWrong : ChangeSpec := { name := "zlibNone", fn := fun _ => fun
  | [d] => { results := [.lit (.bool false)], args := [d] }
  | _ => none }
def ZlibNoneWrongFalsely : Prop := zlibNoneRow.holds Tryd.pinned (OpenSpec.ofChange zlibNoneWrong)

/-- 'lightwelllaw08.ZlibBack': WHATEVER THE INPUT: true; the input reads as it did. -/
def zlibBackSpec : ChangeSpec := { name := "zlibBack", fn := fun _ => fun
  | [d1, d2, d3, d4] => { results := [.lit (.bool true)], args := [d1, d2, d3, d4] }
  | _ => none }
def zlibBackRow : OpenClaim := { program := "ytbfpbmnnlckldaadoor", sum := "c329c3d39b73ab27f3d29bbe87e8e13dc9921f28b5fb824c3c71fbe18bdeed96", func := "lightwell/lightwelllaw08.ZlibBack", spec := "zlibBack", unfollowed := true, recurses := true, named := ["lightwell/inflate.lengthOrder"], apart := false, laid := [("lightwell/inflate.lengthOrder", laid_lightwell_inflate_lengthOrder)] }
def ZlibBackSaid : Prop := zlibBackRow.holds Tryd.pinned (OpenSpec.ofChange zlibBackSpec)

/-- ITS FALSE NEIGHBOUR: 'it returns false'. Refute it at one input. -/
def zlibBackWrong : ChangeSpec := { name := "zlibBack", fn := fun _ => fun
  | [d1, d2, d3, d4] => { results := [.lit (.bool false)], args := [d1, d2, d3, d4] }
  | _ => none }
def ZlibBackWrongFalsely : Prop := zlibBackRow.holds Tryd.pinned (OpenSpec.ofChange zlibBackWrong)

/-- 'lightwelllaw08.ZlibCut': WHATEVER THE INPUT: true; the input reads as it did. -/
def zlibCutSpec : ChangeSpec := { name := "zlibCut", fn := fun _ => fun
  | [d1, d2, d3] => { results := [.lit (.bool true)], args := [d1, d2, d3] }
  | _ => none }
def zlibCutRow : OpenClaim := { program := "ytbfpbmnnlckldaadoor", sum := "c329c3d39b73ab27f3d29bbe87e8e13dc9921f28b5fb824c3c71fbe18bdeed96", func := "lightwell/lightwelllaw08.ZlibCut", spec := "zlibCut", unfollowed := true, recurses := true, named := ["lightwell/inflate.lengthOrder"], apart := false, laid := [("lightwell/inflate.lengthOrder", laid_lightwell_inflate_lengthOrder)] }
def ZlibCutSaid : Prop := zlibCutRow.holds Tryd.pinned (OpenSpec.ofChange zlibCutSpec)

/-- ITS FALSE NEIGHBOUR: 'it returns false'. Refute it at one input. -/
def zlibCutWrong : ChangeSpec := { name := "zlibCut", fn := fun _ => fun
  | [d1, d2, d3] => { results := [.lit (.bool false)], args := [d1, d2, d3] }
  | _ => none }
def ZlibCutWrongFalsely : Prop := zlibCutRow.holds Tryd.pinned (OpenSpec.ofChange zlibCutWrong)

/-- 'lightwelllaw08.ZlibHead': WHATEVER THE INPUT: true; the input reads as it did. -/
def zlibHeadSpec : ChangeSpec := { name := "zlibHead", fn := fun _ => fun
  | [d1, d2, d3] => { results := [.lit (.bool true)], args := [d1, d2, d3] }
  | _ => none }
def zlibHeadRow : OpenClaim := { program := "ytbfpbmnnlckldaadoor", sum := "c329c3d39b73ab27f3d29bbe87e8e13dc9921f28b5fb824c3c71fbe18bdeed96", func := "lightwell/lightwelllaw08.ZlibHead", spec := "zlibHead", unfollowed := true, recurses := true, named := ["lightwell/inflate.lengthOrder"], apart := false, laid := [("lightwell/inflate.lengthOrder", laid_lightwell_inflate_lengthOrder)] }
def ZlibHeadSaid : Prop := zlibHeadRow.holds Tryd.pinned (OpenSpec.ofChange zlibHeadSpec)

/-- ITS FALSE NEIGHBOUR: 'it returns false'. Refute it at one input. -/
def zlibHeadWrong : ChangeSpec := { name := "zlibHead", fn := fun _ => fun
  | [d1, d2, d3] => { results := [.lit (.bool false)], args := [d1, d2, d3] }
  | _ => none }
def ZlibHeadWrongFalsely : Prop := zlibHeadRow.holds Tryd.pinned (OpenSpec.ofChange zlibHeadWrong)

/- THE SECOND FORM. 'bulk': how many values and letters a reading holds, each counted each time it is reached (what is shared counts as often as it is met; a slice's spare places count too). A statement '..UptoSaid' is the law's where the arguments, and the package variables that the reading takes, are together of bulk at most 1048576: NARROWER than '..Said'. Prove '..Said' where nothing that the law and all that it calls make is longer than what came in: it says more and counts as full. Else prove '..UptoSaid'. A law counts once. -/
mutual
def uptoBulk {H : Type} : DataW H → Nat
  | .lit (.string bytes) => bytes.length + 1
  | .lit _ => 1
  | .nil => 1
  | .ptr d => uptoBulk d + 1
  | .slice elems spare => uptoBulkAll elems + uptoBulkAll spare + 1
  | .agg parts => uptoBulkAll parts + 1
  | .iface _ d => uptoBulk d + 1
  | .map entries => uptoBulkEntries entries + 1
  | .held _ => 1
def uptoBulkAll {H : Type} : List (DataW H) → Nat
  | [] => 0
  | d :: r => uptoBulk d + uptoBulkAll r
def uptoBulkEntries {H : Type} : List (Lit × DataW H) → Nat
  | [] => 0
  | x :: r => uptoBulkEntry x + uptoBulkEntries r
def uptoBulkEntry {H : Type} : Lit × DataW H → Nat
  | (.string bytes, d) => bytes.length + uptoBulk d + 1
  | (_, d) => uptoBulk d + 1
 end
def uptoSmall : (H : Type) → List (DataW H) → Bool := fun _ ds => decide (uptoBulkAll ds ≤ 1048576)
def OpenSpec.upto (s : _root_.Go.ChangeSpec) : _root_.Go.OpenSpec := { _root_.Go.OpenSpec.ofChange s with cond := some uptoSmall }

/-- 'lightwelllaw08.ZlibNumbers', WHERE WHAT IT READS IS OF BULK AT MOST 1048576: true; the input reads as it did. -/
def zlibNumbersUptoRow : OpenClaim := { program := "ytbfpbmnnlckldaadoor", sum := "c329c3d39b73ab27f3d29bbe87e8e13dc9921f28b5fb824c3c71fbe18bdeed96", func := "lightwell/lightwelllaw08.ZlibNumbers", spec := "zlibNumbers", unfollowed := true, recurses := true, named := ["lightwell/inflate.lengthOrder"], apart := false, laid := [("lightwell/inflate.lengthOrder", laid_lightwell_inflate_lengthOrder)], narrowed := true }
def ZlibNumbersUptoSaid : Prop := zlibNumbersUptoRow.holds Tryd.pinned (OpenSpec.upto zlibNumbersSpec)

/-- 'lightwelllaw08.ZlibTells', WHERE WHAT IT READS IS OF BULK AT MOST 1048576: true; the input reads as it did. -/
def zlibTellsUptoRow : OpenClaim := { program := "ytbfpbmnnlckldaadoor", sum := "c329c3d39b73ab27f3d29bbe87e8e13dc9921f28b5fb824c3c71fbe18bdeed96", func := "lightwell/lightwelllaw08.ZlibTells", spec := "zlibTells", unfollowed := true, recurses := true, named := ["lightwell/inflate.lengthOrder"], apart := false, laid := [("lightwell/inflate.lengthOrder", laid_lightwell_inflate_lengthOrder)], narrowed := true }
def ZlibTellsUptoSaid : Prop := zlibTellsUptoRow.holds Tryd.pinned (OpenSpec.upto zlibTellsSpec)

/-- 'lightwelllaw08.ZlibNone', WHERE WHAT IT READS IS OF BULK AT MOST 1048576: true; the input reads as it did. -/
def zlibNoneUptoRow : OpenClaim := { program := "ytbfpbmnnlckldaadoor", sum := "c329c3d39b73ab27f3d29bbe87e8e13dc9921f28b5fb824c3c71fbe18bdeed96", func := "lightwell/lightwelllaw08.ZlibNone", spec := "zlibNone", unfollowed := true, recurses := true, named := ["lightwell/inflate.lengthOrder"], apart := false, laid := [("lightwell/inflate.lengthOrder", laid_lightwell_inflate_lengthOrder)], narrowed := true }
def ZlibNoneUptoSaid : Prop := zlibNoneUptoRow.holds Tryd.pinned (OpenSpec.upto zlibNoneSpec)

/-- 'lightwelllaw08.ZlibBack', WHERE WHAT IT READS IS OF BULK AT MOST 1048576: true; the input reads as it did. -/
def zlibBackUptoRow : OpenClaim := { program := "ytbfpbmnnlckldaadoor", sum := "c329c3d39b73ab27f3d29bbe87e8e13dc9921f28b5fb824c3c71fbe18bdeed96", func := "lightwell/lightwelllaw08.ZlibBack", spec := "zlibBack", unfollowed := true, recurses := true, named := ["lightwell/inflate.lengthOrder"], apart := false, laid := [("lightwell/inflate.lengthOrder", laid_lightwell_inflate_lengthOrder)], narrowed := true }
def ZlibBackUptoSaid : Prop := zlibBackUptoRow.holds Tryd.pinned (OpenSpec.upto zlibBackSpec)

/-- 'lightwelllaw08.ZlibCut', WHERE WHAT IT READS IS OF BULK AT MOST 1048576: true; the input reads as it did. -/
def zlibCutUptoRow : OpenClaim := { program := "ytbfpbmnnlckldaadoor", sum := "c329c3d39b73ab27f3d29bbe87e8e13dc9921f28b5fb824c3c71fbe18bdeed96", func := "lightwell/lightwelllaw08.ZlibCut", spec := "zlibCut", unfollowed := true, recurses := true, named := ["lightwell/inflate.lengthOrder"], apart := false, laid := [("lightwell/inflate.lengthOrder", laid_lightwell_inflate_lengthOrder)], narrowed := true }
def ZlibCutUptoSaid : Prop := zlibCutUptoRow.holds Tryd.pinned (OpenSpec.upto zlibCutSpec)

/-- 'lightwelllaw08.ZlibHead', WHERE WHAT IT READS IS OF BULK AT MOST 1048576: true; the input reads as it did. -/
def zlibHeadUptoRow : OpenClaim := { program := "ytbfpbmnnlckldaadoor", sum := "c329c3d39b73ab27f3d29bbe87e8e13dc9921f28b5fb824c3c71fbe18bdeed96", func := "lightwell/lightwelllaw08.ZlibHead", spec := "zlibHead", unfollowed := true, recurses := true, named := ["lightwell/inflate.lengthOrder"], apart := false, laid := [("lightwell/inflate.lengthOrder", laid_lightwell_inflate_lengthOrder)], narrowed := true }
def ZlibHeadUptoSaid : Prop := zlibHeadUptoRow.holds Tryd.pinned (OpenSpec.upto zlibHeadSpec)

end Rows
end Go.Proofs.YtbfpbmnnlckldaaDoor
