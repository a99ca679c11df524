/-
  NARROWER THAN 'FOR EVERY INPUT', by the rows' own cells (each row's printed sentence says how): UtfTells: laid · UtfPuts: laid · UtfBack: laid · UtfClean: laid.
  DERIVED. THE GIVEN ROWS OF THIS SEAT. 4 by the template 'for every input the law returns true; each argument reads behind the call as it read before'; 0 by the template 'total and deterministic' (their statements: YthifoodhndjmdaaDoorTotals.lean).
  GIVEN WITH THE SEED: the statements are not yours to turn. If you find one false, say at which input.
  Laid BY PROGRAM, IN A SANDBOX (cutbox-rows.mjs): the forced cells as the released guide's own fill.sh prints them over the translation 96549874b92ef760… (all of the seat's roots in one cut). By AI agents, Wed Nov 11 2026. No macro, syntax, notation, axiom, sorry.
-/
import Derived.Test.YthifoodhndjmdaaDoorChecked
import GoSem.Claim
import GoSem.ClaimJoined
import GoSem.ClaimMapViews
import Derived.JoinedTies
import Derived.KernelRfl
namespace Go.Proofs.YthifoodhndjmdaaDoor
/- THE CELL 'sum', in the pinned program and in every row, IS THE sha256 OF THE DUMP (.gsa) THAT YthifoodhndjmdaaDoorProg.lean LOADS. Nothing in Lean hashes anything: it is a label: what it is worth is what the hold of that sum in a sandbox is worth. -/
noncomputable def Tryd.pinned : Pinned := { name := "ythifoodhndjmdaadoor", sum := "96549874b92ef760381f3d2ebca50a59ae9116e5c7a2c0b4ba044276d99fc185", checked := Tryd.checked }
namespace Rows
def none {H : Type} : Left H := { results := [], args := [] }

/- WHAT THE LISTED PACKAGE-LEVEL VARIABLES READ AS WHEN THE CALL BEGINS. Each datum BY PROGRAM (the guide's laid-datum.mjs) off the statement by which the dump's own 'gosem.cut.vars' lays the variable. In a bare row this is a premise. The card (YthifoodhndjmdaaDoorCards.lean) ties it to the program's text. -/
def laid_shadowbox_utf_lasts {H : Type} : DataW H := .agg [.lit (.int .i32 127), .lit (.int .i32 2047), .lit (.int .i32 65535), .lit (.int .i32 1114111)]
def laid_shadowbox_utf_firstMarks {H : Type} : DataW H := .agg [.lit (.int .u8 0), .lit (.int .u8 192), .lit (.int .u8 224), .lit (.int .u8 240)]

/-- 'shadowboxlaw14.UtfTells': WHATEVER THE INPUT: true; the input reads as it did. -/
def utfTellsSpec : ChangeSpec := { name := "utfTells", fn := fun _ => fun
  | [d] => { results := [.lit (.bool true)], args := [d] }
  | _ => none }
def utfTellsRow : OpenClaim := { program := "ythifoodhndjmdaadoor", sum := "96549874b92ef760381f3d2ebca50a59ae9116e5c7a2c0b4ba044276d99fc185", func := "shadowbox/shadowboxlaw14.UtfTells", spec := "utfTells", unfollowed := true, recurses := true, named := ["shadowbox/utf.firstMarks", "shadowbox/utf.lasts"], apart := false, laid := [("shadowbox/utf.lasts", laid_shadowbox_utf_lasts), ("shadowbox/utf.firstMarks", laid_shadowbox_utf_firstMarks)] }
def UtfTellsSaid : Prop := utfTellsRow.holds Tryd.pinned (OpenSpec.ofChange utfTellsSpec)

/-- ITS FALSE NEIGHBOUR: 'it returns false'. Refute it at one input. -/
def utfTellsWrong : ChangeSpec := { name := "utfTells", fn := fun _ => fun
  | [d] => { results := [.lit (.bool false)], args := [d] }
  | _ => none }
def UtfTellsWrongFalsely : Prop := utfTellsRow.holds Tryd.pinned (OpenSpec.ofChange utfTellsWrong)

/-- 'shadowboxlaw14.UtfPuts': WHATEVER THE INPUT: true; the input reads as it did. -/
def utfPutsSpec : ChangeSpec := { name := "utfPuts", fn := fun _ => fun
  | [d1, d2] => { results := [.lit (.bool true)], args := [d1, d2] }
  | _ => none }
def utfPutsRow : OpenClaim := { program := "ythifoodhndjmdaadoor", sum := "96549874b92ef760381f3d2ebca50a59ae9116e5c7a2c0b4ba044276d99fc185", func := "shadowbox/shadowboxlaw14.UtfPuts", spec := "utfPuts", named := ["shadowbox/utf.lasts", "shadowbox/utf.firstMarks"], apart := false, laid := [("shadowbox/utf.lasts", laid_shadowbox_utf_lasts), ("shadowbox/utf.firstMarks", laid_shadowbox_utf_firstMarks)] }
def UtfPutsSaid : Prop := utfPutsRow.holds Tryd.pinned (OpenSpec.ofChange utfPutsSpec)

/-- ITS FALSE NEIGHBOUR: 'it returns false'. Refute it at one input. -/
def utfPutsWrong : ChangeSpec := { name := "utfPuts", fn := fun _ => fun
  | [d1, d2] => { results := [.lit (.bool false)], args := [d1, d2] }
  | _ => none }
def UtfPutsWrongFalsely : Prop := utfPutsRow.holds Tryd.pinned (OpenSpec.ofChange utfPutsWrong)

/-- 'shadowboxlaw14.UtfBack': WHATEVER THE INPUT: true; the input reads as it did. -/
def utfBackSpec : ChangeSpec := { name := "utfBack", fn := fun _ => fun
  | [d1, d2] => { results := [.lit (.bool true)], args := [d1, d2] }
  | _ => none }
def utfBackRow : OpenClaim := { program := "ythifoodhndjmdaadoor", sum := "96549874b92ef760381f3d2ebca50a59ae9116e5c7a2c0b4ba044276d99fc185", func := "shadowbox/shadowboxlaw14.UtfBack", spec := "utfBack", unfollowed := true, recurses := true, named := ["shadowbox/utf.lasts", "shadowbox/utf.firstMarks"], apart := false, laid := [("shadowbox/utf.lasts", laid_shadowbox_utf_lasts), ("shadowbox/utf.firstMarks", laid_shadowbox_utf_firstMarks)] }
def UtfBackSaid : Prop := utfBackRow.holds Tryd.pinned (OpenSpec.ofChange utfBackSpec)

/-- ITS FALSE NEIGHBOUR: 'it returns false'. Refute it at one input. -/
def utfBackWrong : ChangeSpec := { name := "utfBack", fn := fun _ => fun
  | [d1, d2] => { results := [.lit (.bool false)], args := [d1, d2] }
  | _ => none }
def UtfBackWrongFalsely : Prop := utfBackRow.holds Tryd.pinned (OpenSpec.ofChange utfBackWrong)

/-- 'shadowboxlaw14.UtfClean': WHATEVER THE INPUT: true; the input reads as it did. -/
def utfCleanSpec : ChangeSpec := { name := "utfClean", fn := fun _ => fun
  | [d] => { results := [.lit (.bool true)], args := [d] }
  | _ => none }
def utfCleanRow : OpenClaim := { program := "ythifoodhndjmdaadoor", sum := "96549874b92ef760381f3d2ebca50a59ae9116e5c7a2c0b4ba044276d99fc185", func := "shadowbox/shadowboxlaw14.UtfClean", spec := "utfClean", unfollowed := true, recurses := true, named := ["shadowbox/utf.firstMarks", "shadowbox/utf.lasts"], apart := false, laid := [("shadowbox/utf.lasts", laid_shadowbox_utf_lasts), ("shadowbox/utf.firstMarks", laid_shadowbox_utf_firstMarks)] }
def UtfCleanSaid : Prop := utfCleanRow.holds Tryd.pinned (OpenSpec.ofChange utfCleanSpec)

/-- ITS FALSE NEIGHBOUR: 'it returns false'. Refute it at one input. -/
def utfCleanWrong : ChangeSpec := { name := "utfClean", fn := fun _ => fun
  | [d] => { results := [.lit (.bool false)], args := [d] }
  | _ => none }
def UtfCleanWrongFalsely : Prop := utfCleanRow.holds Tryd.pinned (OpenSpec.ofChange utfCleanWrong)

/- THE SECOND FORM. 'bulk': how many values and letters a reading holds, each counted each time it is reached (what is shared counts as often as it is met; a slice's spare places count too). A statement '..UptoSaid' is the law's where the arguments, and the package variables that the reading takes, are together of bulk at most 1048576: NARROWER than '..Said'. Prove '..Said' where nothing that the law and all that it calls make is longer than what came in: it says more and counts as full. Else prove '..UptoSaid'. A law counts once. -/
mutual
def uptoBulk {H : Type} : DataW H → Nat
  | .lit (.string bytes) => bytes.length + 1
  | .lit _ => 1
  | .nil => 1
  | .ptr d => uptoBulk d + 1
  | .slice elems spare => uptoBulkAll elems + uptoBulkAll spare + 1
  | .agg parts => uptoBulkAll parts + 1
  | .iface _ d => uptoBulk d + 1
  | .map entries => uptoBulkEntries entries + 1
  | .held _ => 1
def uptoBulkAll {H : Type} : List (DataW H) → Nat
  | [] => 0
  | d :: r => uptoBulk d + uptoBulkAll r
def uptoBulkEntries {H : Type} : List (Lit × DataW H) → Nat
  | [] => 0
  | x :: r => uptoBulkEntry x + uptoBulkEntries r
def uptoBulkEntry {H : Type} : Lit × DataW H → Nat
  | (.string bytes, d) => bytes.length + uptoBulk d + 1
  | (_, d) => uptoBulk d + 1
 end
def uptoSmall : (H : Type) → List (DataW H) → Bool := fun _ ds => decide (uptoBulkAll ds ≤ 1048576)
def OpenSpec.upto (s : _root_.Go.ChangeSpec) : _root_.Go.OpenSpec := { _root_.Go.OpenSpec.ofChange s with cond := some uptoSmall }

/-- 'shadowboxlaw14.UtfTells', WHERE WHAT IT READS IS OF BULK AT MOST 1048576: true; the input reads as it did. -/
def utfTellsUptoRow : OpenClaim := { program := "ythifoodhndjmdaadoor", sum := "96549874b92ef760381f3d2ebca50a59ae9116e5c7a2c0b4ba044276d99fc185", func := "shadowbox/shadowboxlaw14.UtfTells", spec := "utfTells", unfollowed := true, recurses := true, named := ["shadowbox/utf.firstMarks", "shadowbox/utf.lasts"], apart := false, laid := [("shadowbox/utf.lasts", laid_shadowbox_utf_lasts), ("shadowbox/utf.firstMarks", laid_shadowbox_utf_firstMarks)], narrowed := true }
def UtfTellsUptoSaid : Prop := utfTellsUptoRow.holds Tryd.pinned (OpenSpec.upto utfTellsSpec)

/-- 'shadowboxlaw14.UtfPuts', WHERE WHAT IT READS IS OF BULK AT MOST 1048576: true; the input reads as it did. -/
def utfPutsUptoRow : OpenClaim := { program := "ythifoodhndjmdaadoor", sum := "96549874b92ef760381f3d2ebca50a59ae9116e5c7a2c0b4ba044276d99fc185", func := "shadowbox/shadowboxlaw14.UtfPuts", spec := "utfPuts", named := ["shadowbox/utf.lasts", "shadowbox/utf.firstMarks"], apart := false, laid := [("shadowbox/utf.lasts", laid_shadowbox_utf_lasts), ("shadowbox/utf.firstMarks", laid_shadowbox_utf_firstMarks)], narrowed := true }
def UtfPutsUptoSaid : Prop := utfPutsUptoRow.holds Tryd.pinned (OpenSpec.upto utfPutsSpec)

/-- 'shadowboxlaw14.UtfBack', WHERE WHAT IT READS IS OF BULK AT MOST 1048576: true; the input reads as it did. -/
def utfBackUptoRow : OpenClaim := { program := "ythifoodhndjmdaadoor", sum := "96549874b92ef760381f3d2ebca50a59ae9116e5c7a2c0b4ba044276d99fc185", func := "shadowbox/shadowboxlaw14.UtfBack", spec := "utfBack", unfollowed := true, recurses := true, named := ["shadowbox/utf.lasts", "shadowbox/utf.firstMarks"], apart := false, laid := [("shadowbox/utf.lasts", laid_shadowbox_utf_lasts), ("shadowbox/utf.firstMarks", laid_shadowbox_utf_firstMarks)], narrowed := true }
def UtfBackUptoSaid : Prop := utfBackUptoRow.holds Tryd.pinned (OpenSpec.upto utfBackSpec)

/-- 'shadowboxlaw14.UtfClean', WHERE WHAT IT READS IS OF BULK AT MOST 1048576: true; the input reads as it did. -/
def utfCleanUptoRow : OpenClaim := { program := "ythifoodhndjmdaadoor", sum := "96549874b92ef760381f3d2ebca50a59ae9116e5c7a2c0b4ba044276d99fc185", func := "shadowbox/shadowboxlaw14.UtfClean", spec := "utfClean", unfollowed := true, recurses := true, named := ["shadowbox/utf.firstMarks", "shadowbox/utf.lasts"], apart := false, laid := [("shadowbox/utf.lasts", laid_shadowbox_utf_lasts), ("shadowbox/utf.firstMarks", laid_shadowbox_utf_firstMarks)], narrowed := true }
def UtfCleanUptoSaid : Prop := utfCleanUptoRow.holds Tryd.pinned (OpenSpec.upto utfCleanSpec)

end Rows
end Go.Proofs.YthifoodhndjmdaaDoor
