/-
  No cell of these rows narrows 'for every input' (looked for: loops, veiled, ifaces, maps, wideKeys, modest, calm, conditions, laid).
  DERIVED. THE GIVEN ROWS OF THIS SEAT. 3 by the template 'for every input the law returns true; each argument reads behind the call as it read before'; 0 by the template 'total and deterministic' (their statements: YtejcpfplmlpilaaTotals.lean).
  GIVEN WITH THE SEED: the statements are not yours to turn. If you find one false, say at which input.
  Laid BY PROGRAM, IN A SANDBOX (cutbox-rows.mjs): the forced cells as the released guide's own fill.sh prints them over the translation 7c01521ec7396590… (all of the seat's roots in one cut). By AI agents, Wed Nov 11 2026. No macro, syntax, notation, axiom, sorry.
-/
import Derived.Test.YtejcpfplmlpilaaChecked
import GoSem.Claim
import GoSem.ClaimJoined
import GoSem.ClaimMapViews
import Derived.JoinedTies
import Derived.KernelRfl
namespace Go.Proofs.Ytejcpfplmlpilaa
/- THE CELL 'sum', in the pinned program and in every row, IS THE sha256 OF THE DUMP (.gsa) THAT YtejcpfplmlpilaaProg.lean LOADS. Nothing in Lean hashes anything: it is a label: what it is worth is what the hold of that sum in a sandbox is worth. -/
noncomputable def Try.pinned : Pinned := { name := "ytejcpfplmlpilaa", sum := "7c01521ec73965900391f2114b139dc2c3851f4846c5a6364db5c6fb4a6a9921", checked := Try.checked }
namespace Rows
def none {H : Type} : Left H := { results := [], args := [] }

/-- 'shadowboxlaw17.PartCuts': WHATEVER THE INPUT: true; the input reads as it did. -/
def partCutsSpec : ChangeSpec := { name := "partCuts", fn := fun _ => fun
  | [d1, d2, d3] => { results := [.lit (.bool true)], args := [d1, d2, d3] }
  | _ => none }
def partCutsRow : OpenClaim := { program := "ytejcpfplmlpilaa", sum := "7c01521ec73965900391f2114b139dc2c3851f4846c5a6364db5c6fb4a6a9921", func := "shadowbox/shadowboxlaw17.PartCuts", spec := "partCuts", unfollowed := true, recurses := true, apart := false }
def PartCutsSaid : Prop := partCutsRow.holds Try.pinned (OpenSpec.ofChange partCutsSpec)

/-- ITS FALSE NEIGHBOUR: 'it returns false'. Refute it at one input. -/
def partCutsWrong : ChangeSpec := { name := "partCuts", fn := fun _ => fun
  | [d1, d2, d3] => { results := [.lit (.bool false)], args := [d1, d2, d3] }
  | _ => none }
def PartCutsWrongFalsely : Prop := partCutsRow.holds Try.pinned (OpenSpec.ofChange partCutsWrong)

/-- 'shadowboxlaw17.PartLeast': WHATEVER THE INPUT: true; the input reads as it did. -/
def partLeastSpec : ChangeSpec := { name := "partLeast", fn := fun _ => fun
  | [d1, d2] => { results := [.lit (.bool true)], args := [d1, d2] }
  | _ => none }
def partLeastRow : OpenClaim := { program := "ytejcpfplmlpilaa", sum := "7c01521ec73965900391f2114b139dc2c3851f4846c5a6364db5c6fb4a6a9921", func := "shadowbox/shadowboxlaw17.PartLeast", spec := "partLeast", unfollowed := true, recurses := true, apart := false }
def PartLeastSaid : Prop := partLeastRow.holds Try.pinned (OpenSpec.ofChange partLeastSpec)

/-- ITS FALSE NEIGHBOUR: 'it returns false'. Refute it at one input. -/
def partLeastWrong : ChangeSpec := { name := "partLeast", fn := fun _ => fun
  | [d1, d2] => { results := [.lit (.bool false)], args := [d1, d2] }
  | _ => none }
def PartLeastWrongFalsely : Prop := partLeastRow.holds Try.pinned (OpenSpec.ofChange partLeastWrong)

/-- 'shadowboxlaw17.PartFull': WHATEVER THE INPUT: true; the input reads as it did. -/
def partFullSpec : ChangeSpec := { name := "partFull", fn := fun _ => fun
  | [d1, d2] => { results := [.lit (.bool true)], args := [d1, d2] }
  | _ => none }
def partFullRow : OpenClaim := { program := "ytejcpfplmlpilaa", sum := "7c01521ec73965900391f2114b139dc2c3851f4846c5a6364db5c6fb4a6a9921", func := "shadowbox/shadowboxlaw17.PartFull", spec := "partFull", unfollowed := true, recurses := true, apart := false }
def PartFullSaid : Prop := partFullRow.holds Try.pinned (OpenSpec.ofChange partFullSpec)

/-- ITS FALSE NEIGHBOUR: 'it returns false'. Refute it at one input. -/
def partFullWrong : ChangeSpec := { name := "partFull", fn := fun _ => fun
  | [d1, d2] => { results := [.lit (.bool false)], args := [d1, d2] }
  | _ => none }
def PartFullWrongFalsely : Prop := partFullRow.holds Try.pinned (OpenSpec.ofChange partFullWrong)

/- THE SECOND FORM. 'bulk': how many values and letters a reading holds, each counted each time it is reached (what is shared counts as often as it is met; a slice's spare places count too). A statement '..UptoSaid' is the law's where the arguments, and the package variables that the reading takes, are together of bulk at most 1048576: NARROWER than '..Said'. Prove '..Said' where nothing that the law and all that it calls make is longer than what came in: it says more and counts as full. Else prove '..UptoSaid'. A law counts once. -/
mutual
def uptoBulk {H : Type} : DataW H → Nat
  | .lit (.string bytes) => bytes.length + 1
  | .lit _ => 1
  | .nil => 1
  | .ptr d => uptoBulk d + 1
  | .slice elems spare => uptoBulkAll elems + uptoBulkAll spare + 1
  | .agg parts => uptoBulkAll parts + 1
  | .iface _ d => uptoBulk d + 1
  | .map entries => uptoBulkEntries entries + 1
  | .held _ => 1
def uptoBulkAll {H : Type} : List (DataW H) → Nat
  | [] => 0
  | d :: r => uptoBulk d + uptoBulkAll r
def uptoBulkEntries {H : Type} : List (Lit × DataW H) → Nat
  | [] => 0
  | x :: r => uptoBulkEntry x + uptoBulkEntries r
def uptoBulkEntry {H : Type} : Lit × DataW H → Nat
  | (.string bytes, d) => bytes.length + uptoBulk d + 1
  | (_, d) => uptoBulk d + 1
 end
def uptoSmall : (H : Type) → List (DataW H) → Bool := fun _ ds => decide (uptoBulkAll ds ≤ 1048576)
def OpenSpec.upto (s : _root_.Go.ChangeSpec) : _root_.Go.OpenSpec := { _root_.Go.OpenSpec.ofChange s with cond := some uptoSmall }

/-- 'shadowboxlaw17.PartCuts', WHERE WHAT IT READS IS OF BULK AT MOST 1048576: true; the input reads as it did. -/
def partCutsUptoRow : OpenClaim := { program := "ytejcpfplmlpilaa", sum := "7c01521ec73965900391f2114b139dc2c3851f4846c5a6364db5c6fb4a6a9921", func := "shadowbox/shadowboxlaw17.PartCuts", spec := "partCuts", unfollowed := true, recurses := true, apart := false, narrowed := true }
def PartCutsUptoSaid : Prop := partCutsUptoRow.holds Try.pinned (OpenSpec.upto partCutsSpec)

/-- 'shadowboxlaw17.PartLeast', WHERE WHAT IT READS IS OF BULK AT MOST 1048576: true; the input reads as it did. -/
def partLeastUptoRow : OpenClaim := { program := "ytejcpfplmlpilaa", sum := "7c01521ec73965900391f2114b139dc2c3851f4846c5a6364db5c6fb4a6a9921", func := "shadowbox/shadowboxlaw17.PartLeast", spec := "partLeast", unfollowed := true, recurses := true, apart := false, narrowed := true }
def PartLeastUptoSaid : Prop := partLeastUptoRow.holds Try.pinned (OpenSpec.upto partLeastSpec)

/-- 'shadowboxlaw17.PartFull', WHERE WHAT IT READS IS OF BULK AT MOST 1048576: true; the input reads as it did. -/
def partFullUptoRow : OpenClaim := { program := "ytejcpfplmlpilaa", sum := "7c01521ec73965900391f2114b139dc2c3851f4846c5a6364db5c6fb4a6a9921", func := "shadowbox/shadowboxlaw17.PartFull", spec := "partFull", unfollowed := true, recurses := true, apart := false, narrowed := true }
def PartFullUptoSaid : Prop := partFullUptoRow.holds Try.pinned (OpenSpec.upto partFullSpec)

end Rows
end Go.Proofs.Ytejcpfplmlpilaa
