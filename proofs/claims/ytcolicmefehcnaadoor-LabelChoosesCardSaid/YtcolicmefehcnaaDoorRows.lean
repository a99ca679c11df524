/-
  NARROWER THAN 'FOR EVERY INPUT', by the rows' own cells (each row's printed sentence says how): LabelTells: laid · LabelChooses: laid · LabelBack: laid · LabelTorn: laid.
  DERIVED. THE GIVEN ROWS OF THIS SEAT. 4 by the template 'for every input the law returns true; each argument reads behind the call as it read before'; 0 by the template 'total and deterministic' (their statements: YtcolicmefehcnaaDoorTotals.lean).
  GIVEN WITH THE SEED: the statements are not yours to turn. If you find one false, say at which input.
  Laid BY PROGRAM, IN A SANDBOX (cutbox-rows.mjs): the forced cells as the released guide's own fill.sh prints them over the translation 9c538d6265baaa87… (all of the seat's roots in one cut). By AI agents, Wed Nov 11 2026. No macro, syntax, notation, axiom, sorry.
-/
import Derived.Test.YtcolicmefehcnaaDoorChecked
import GoSem.Claim
import GoSem.ClaimJoined
import GoSem.ClaimMapViews
import Derived.JoinedTies
import Derived.KernelRfl
namespace Go.Proofs.YtcolicmefehcnaaDoor
/- THE CELL 'sum', in the pinned program and in every row, IS THE sha256 OF THE DUMP (.gsa) THAT YtcolicmefehcnaaDoorProg.lean LOADS. Nothing in Lean hashes anything: it is a label: what it is worth is what the hold of that sum in a sandbox is worth. -/
noncomputable def Tryd.pinned : Pinned := { name := "ytcolicmefehcnaadoor", sum := "9c538d6265baaa875856f826307cd6f6c94a15734e97fe152caf1056f0eca057", checked := Tryd.checked }
namespace Rows
def none {H : Type} : Left H := { results := [], args := [] }

/- WHAT THE LISTED PACKAGE-LEVEL VARIABLES READ AS WHEN THE CALL BEGINS. Each datum BY PROGRAM (the guide's laid-datum.mjs) off the statement by which the dump's own 'gosem.cut.vars' lays the variable. In a bare row this is a premise. The card (YtcolicmefehcnaaDoorCards.lean) ties it to the program's text. -/
def laid_shadowbox_crc_halves {H : Type} : DataW H := .agg [.lit (.int .u32 0), .lit (.int .u32 274646895), .lit (.int .u32 549293790), .lit (.int .u32 820201905), .lit (.int .u32 1098587580), .lit (.int .u32 1361435347), .lit (.int .u32 1640403810), .lit (.int .u32 1905808397), .lit (.int .u32 2197175160), .lit (.int .u32 2460548119), .lit (.int .u32 2722870694), .lit (.int .u32 2987750089), .lit (.int .u32 3280807620), .lit (.int .u32 3553878443), .lit (.int .u32 3811616794), .lit (.int .u32 4084100981)]

/-- 'shadowboxlaw08.LabelTells': WHATEVER THE INPUT: true; the input reads as it did. -/
def labelTellsSpec : ChangeSpec := { name := "labelTells", fn := fun _ => fun
  | [d1, d2] => { results := [.lit (.bool true)], args := [d1, d2] }
  | _ => none }
def labelTellsRow : OpenClaim := { program := "ytcolicmefehcnaadoor", sum := "9c538d6265baaa875856f826307cd6f6c94a15734e97fe152caf1056f0eca057", func := "shadowbox/shadowboxlaw08.LabelTells", spec := "labelTells", unfollowed := true, recurses := true, named := ["shadowbox/crc.halves"], apart := false, laid := [("shadowbox/crc.halves", laid_shadowbox_crc_halves)] }
def LabelTellsSaid : Prop := labelTellsRow.holds Tryd.pinned (OpenSpec.ofChange labelTellsSpec)

/-- ITS FALSE NEIGHBOUR: 'it returns false'. Refute it at one input. -/
def labelTellsWrong : ChangeSpec := { name := "labelTells", fn := fun _ => fun
  | [d1, d2] => { results := [.lit (.bool false)], args := [d1, d2] }
  | _ => none }
def LabelTellsWrongFalsely : Prop := labelTellsRow.holds Tryd.pinned (OpenSpec.ofChange labelTellsWrong)

/-- 'shadowboxlaw08.LabelChooses': WHATEVER THE INPUT: true; the input reads as it did. -/
def labelChoosesSpec : ChangeSpec := { name := "labelChooses", fn := fun _ => fun
  | [d1, d2] => { results := [.lit (.bool true)], args := [d1, d2] }
  | _ => none }
def labelChoosesRow : OpenClaim := { program := "ytcolicmefehcnaadoor", sum := "9c538d6265baaa875856f826307cd6f6c94a15734e97fe152caf1056f0eca057", func := "shadowbox/shadowboxlaw08.LabelChooses", spec := "labelChooses", unfollowed := true, recurses := true, named := ["shadowbox/crc.halves"], apart := false, laid := [("shadowbox/crc.halves", laid_shadowbox_crc_halves)] }
def LabelChoosesSaid : Prop := labelChoosesRow.holds Tryd.pinned (OpenSpec.ofChange labelChoosesSpec)

/-- ITS FALSE NEIGHBOUR: 'it returns false'. Refute it at one input. -/
def labelChoosesWrong : ChangeSpec := { name := "labelChooses", fn := fun _ => fun
  | [d1, d2] => { results := [.lit (.bool false)], args := [d1, d2] }
  | _ => none }
def LabelChoosesWrongFalsely : Prop := labelChoosesRow.holds Tryd.pinned (OpenSpec.ofChange labelChoosesWrong)

/-- 'shadowboxlaw08.LabelBack': WHATEVER THE INPUT: true; the input reads as it did. -/
def labelBackSpec : ChangeSpec := { name := "labelBack", fn := fun _ => fun
  | [d1, d2, d3] => { results := [.lit (.bool true)], args := [d1, d2, d3] }
  | _ => none }
def labelBackRow : OpenClaim := { program := "ytcolicmefehcnaadoor", sum := "9c538d6265baaa875856f826307cd6f6c94a15734e97fe152caf1056f0eca057", func := "shadowbox/shadowboxlaw08.LabelBack", spec := "labelBack", unfollowed := true, recurses := true, named := ["shadowbox/crc.halves"], apart := false, laid := [("shadowbox/crc.halves", laid_shadowbox_crc_halves)] }
def LabelBackSaid : Prop := labelBackRow.holds Tryd.pinned (OpenSpec.ofChange labelBackSpec)

/-- ITS FALSE NEIGHBOUR: 'it returns false'. Refute it at one input. -/
def labelBackWrong : ChangeSpec := { name := "labelBack", fn := fun _ => fun
  | [d1, d2, d3] => { results := [.lit (.bool false)], args := [d1, d2, d3] }
  | _ => none }
def LabelBackWrongFalsely : Prop := labelBackRow.holds Tryd.pinned (OpenSpec.ofChange labelBackWrong)

/-- 'shadowboxlaw08.LabelTorn': WHATEVER THE INPUT: true; the input reads as it did. -/
def labelTornSpec : ChangeSpec := { name := "labelTorn", fn := fun _ => fun
  | [d1, d2, d3] => { results := [.lit (.bool true)], args := [d1, d2, d3] }
  | _ => none }
def labelTornRow : OpenClaim := { program := "ytcolicmefehcnaadoor", sum := "9c538d6265baaa875856f826307cd6f6c94a15734e97fe152caf1056f0eca057", func := "shadowbox/shadowboxlaw08.LabelTorn", spec := "labelTorn", unfollowed := true, recurses := true, named := ["shadowbox/crc.halves"], apart := false, laid := [("shadowbox/crc.halves", laid_shadowbox_crc_halves)] }
def LabelTornSaid : Prop := labelTornRow.holds Tryd.pinned (OpenSpec.ofChange labelTornSpec)

/-- ITS FALSE NEIGHBOUR: 'it returns false'. Refute it at one input. -/
def labelTornWrong : ChangeSpec := { name := "labelTorn", fn := fun _ => fun
  | [d1, d2, d3] => { results := [.lit (.bool false)], args := [d1, d2, d3] }
  | _ => none }
def LabelTornWrongFalsely : Prop := labelTornRow.holds Tryd.pinned (OpenSpec.ofChange labelTornWrong)

/- THE SECOND FORM. 'bulk': how many values and letters a reading holds, each counted each time it is reached (what is shared counts as often as it is met; a slice's spare places count too). A statement '..UptoSaid' is the law's where the arguments, and the package variables that the reading takes, are together of bulk at most 1048576: NARROWER than '..Said'. Prove '..Said' where nothing that the law and all that it calls make is longer than what came in: it says more and counts as full. Else prove '..UptoSaid'. A law counts once. -/
mutual
def uptoBulk {H : Type} : DataW H → Nat
  | .lit (.string bytes) => bytes.length + 1
  | .lit _ => 1
  | .nil => 1
  | .ptr d => uptoBulk d + 1
  | .slice elems spare => uptoBulkAll elems + uptoBulkAll spare + 1
  | .agg parts => uptoBulkAll parts + 1
  | .iface _ d => uptoBulk d + 1
  | .map entries => uptoBulkEntries entries + 1
  | .held _ => 1
def uptoBulkAll {H : Type} : List (DataW H) → Nat
  | [] => 0
  | d :: r => uptoBulk d + uptoBulkAll r
def uptoBulkEntries {H : Type} : List (Lit × DataW H) → Nat
  | [] => 0
  | x :: r => uptoBulkEntry x + uptoBulkEntries r
def uptoBulkEntry {H : Type} : Lit × DataW H → Nat
  | (.string bytes, d) => bytes.length + uptoBulk d + 1
  | (_, d) => uptoBulk d + 1
 end
def uptoSmall : (H : Type) → List (DataW H) → Bool := fun _ ds => decide (uptoBulkAll ds ≤ 1048576)
def OpenSpec.upto (s : _root_.Go.ChangeSpec) : _root_.Go.OpenSpec := { _root_.Go.OpenSpec.ofChange s with cond := some uptoSmall }

/-- 'shadowboxlaw08.LabelTells', WHERE WHAT IT READS IS OF BULK AT MOST 1048576: true; the input reads as it did. -/
def labelTellsUptoRow : OpenClaim := { program := "ytcolicmefehcnaadoor", sum := "9c538d6265baaa875856f826307cd6f6c94a15734e97fe152caf1056f0eca057", func := "shadowbox/shadowboxlaw08.LabelTells", spec := "labelTells", unfollowed := true, recurses := true, named := ["shadowbox/crc.halves"], apart := false, laid := [("shadowbox/crc.halves", laid_shadowbox_crc_halves)], narrowed := true }
def LabelTellsUptoSaid : Prop := labelTellsUptoRow.holds Tryd.pinned (OpenSpec.upto labelTellsSpec)

/-- 'shadowboxlaw08.LabelChooses', WHERE WHAT IT READS IS OF BULK AT MOST 1048576: true; the input reads as it did. -/
def labelChoosesUptoRow : OpenClaim := { program := "ytcolicmefehcnaadoor", sum := "9c538d6265baaa875856f826307cd6f6c94a15734e97fe152caf1056f0eca057", func := "shadowbox/shadowboxlaw08.LabelChooses", spec := "labelChooses", unfollowed := true, recurses := true, named := ["shadowbox/crc.halves"], apart := false, laid := [("shadowbox/crc.halves", laid_shadowbox_crc_halves)], narrowed := true }
def LabelChoosesUptoSaid : Prop := labelChoosesUptoRow.holds Tryd.pinned (OpenSpec.upto labelChoosesSpec)

/-- 'shadowboxlaw08.LabelBack', WHERE WHAT IT READS IS OF BULK AT MOST 1048576: true; the input reads as it did. -/
def labelBackUptoRow : OpenClaim := { program := "ytcolicmefehcnaadoor", sum := "9c538d6265baaa875856f826307cd6f6c94a15734e97fe152caf1056f0eca057", func := "shadowbox/shadowboxlaw08.LabelBack", spec := "labelBack", unfollowed := true, recurses := true, named := ["shadowbox/crc.halves"], apart := false, laid := [("shadowbox/crc.halves", laid_shadowbox_crc_halves)], narrowed := true }
def LabelBackUptoSaid : Prop := labelBackUptoRow.holds Tryd.pinned (OpenSpec.upto labelBackSpec)

/-- 'shadowboxlaw08.LabelTorn', WHERE WHAT IT READS IS OF BULK AT MOST 1048576: true; the input reads as it did. -/
def labelTornUptoRow : OpenClaim := { program := "ytcolicmefehcnaadoor", sum := "9c538d6265baaa875856f826307cd6f6c94a15734e97fe152caf1056f0eca057", func := "shadowbox/shadowboxlaw08.LabelTorn", spec := "labelTorn", unfollowed := true, recurses := true, named := ["shadowbox/crc.halves"], apart := false, laid := [("shadowbox/crc.halves", laid_shadowbox_crc_halves)], narrowed := true }
def LabelTornUptoSaid : Prop := labelTornUptoRow.holds Tryd.pinned (OpenSpec.upto labelTornSpec)

end Rows
end Go.Proofs.YtcolicmefehcnaaDoor
