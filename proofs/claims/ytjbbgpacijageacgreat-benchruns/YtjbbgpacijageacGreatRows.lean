/-
  No cell of these rows narrows 'for every input' (looked for: loops, veiled, ifaces, maps, wideKeys, modest, calm, conditions, laid).
  DERIVED. THE GIVEN ROWS OF THIS SEAT. 3 by the template 'for every input the law returns true; each argument reads behind the call as it read before'; 0 by the template 'total and deterministic' (their statements: YtjbbgpacijageacGreatTotals.lean).
  GIVEN WITH THE SEED: the statements are not yours to turn. If you find one false, say at which input.
  Laid BY PROGRAM, IN A SANDBOX (cutbox-rows.mjs): the forced cells as the released guide's own fill.sh prints them over the translation a4f548b443d7451d… (all of the seat's roots in one cut). By AI agents, Wed Nov 11 2026. No macro, syntax, notation, axiom, sorry.
-/
import Derived.Test.YtjbbgpacijageacGreatChecked
import GoSem.Claim
import GoSem.ClaimJoined
import GoSem.ClaimMapViews
import Derived.JoinedTies
import Derived.KernelRfl
namespace Go.Proofs.YtjbbgpacijageacGreat
/- THE CELL 'sum', in the pinned program and in every row, IS THE sha256 OF THE DUMP (.gsa) THAT YtjbbgpacijageacGreatProg.lean LOADS. Nothing in Lean hashes anything: it is a label: what it is worth is what the hold of that sum in a sandbox is worth. -/
noncomputable def Tryz.pinned : Pinned := { name := "ytjbbgpacijageacgreat", sum := "a4f548b443d7451d373fd05f7c4fba83098c4494628e567df8065f7258d5d1f0", checked := Tryz.checked }
namespace Rows
def none {H : Type} : Left H := { results := [], args := [] }

/-- 'deskmatestop.TopAlways': WHATEVER THE INPUT: true; the input reads as it did. -/
def topAlwaysSpec : ChangeSpec := { name := "topAlways", fn := fun _ => fun
  | [d1, d2, d3] => { results := [.lit (.bool true)], args := [d1, d2, d3] }
  | _ => none }
def topAlwaysRow : OpenClaim := { program := "ytjbbgpacijageacgreat", sum := "a4f548b443d7451d373fd05f7c4fba83098c4494628e567df8065f7258d5d1f0", func := "deskmates/deskmatestop.TopAlways", spec := "topAlways", unfollowed := true, recurses := true, apart := false }
def TopAlwaysSaid : Prop := topAlwaysRow.holds Tryz.pinned (OpenSpec.ofChange topAlwaysSpec)

/-- ITS FALSE NEIGHBOUR: 'it returns false'. Refute it at one input. -/
def topAlwaysWrong : ChangeSpec := { name := "topAlways", fn := fun _ => fun
  | [d1, d2, d3] => { results := [.lit (.bool false)], args := [d1, d2, d3] }
  | _ => none }
def TopAlwaysWrongFalsely : Prop := topAlwaysRow.holds Tryz.pinned (OpenSpec.ofChange topAlwaysWrong)

/-- 'deskmateslaw.BenchPlays': WHATEVER THE INPUT: true; the input reads as it did. -/
def benchPlaysSpec : ChangeSpec := { name := "benchPlays", fn := fun _ => fun
  | [d1, d2, d3] => { results := [.lit (.bool true)], args := [d1, d2, d3] }
  | _ => none }
def benchPlaysRow : OpenClaim := { program := "ytjbbgpacijageacgreat", sum := "a4f548b443d7451d373fd05f7c4fba83098c4494628e567df8065f7258d5d1f0", func := "deskmates/deskmateslaw.BenchPlays", spec := "benchPlays", unfollowed := true, recurses := true, apart := false }
def BenchPlaysSaid : Prop := benchPlaysRow.holds Tryz.pinned (OpenSpec.ofChange benchPlaysSpec)

/-- ITS FALSE NEIGHBOUR: 'it returns false'. Refute it at one input. -/
def benchPlaysWrong : ChangeSpec := { name := "benchPlays", fn := fun _ => fun
  | [d1, d2, d3] => { results := [.lit (.bool false)], args := [d1, d2, d3] }
  | _ => none }
def BenchPlaysWrongFalsely : Prop := benchPlaysRow.holds Tryz.pinned (OpenSpec.ofChange benchPlaysWrong)

/-- 'deskmateslaw.BenchRuns': WHATEVER THE INPUT: true; the input reads as it did. -/
def benchRunsSpec : ChangeSpec := { name := "benchRuns", fn := fun _ => fun
  | [d1, d2, d3] => { results := [.lit (.bool true)], args := [d1, d2, d3] }
  | _ => none }
def benchRunsRow : OpenClaim := { program := "ytjbbgpacijageacgreat", sum := "a4f548b443d7451d373fd05f7c4fba83098c4494628e567df8065f7258d5d1f0", func := "deskmates/deskmateslaw.BenchRuns", spec := "benchRuns", unfollowed := true, recurses := true, apart := false }
def BenchRunsSaid : Prop := benchRunsRow.holds Tryz.pinned (OpenSpec.ofChange benchRunsSpec)

/-- ITS FALSE NEIGHBOUR: 'it returns false'. Refute it at one input. -/
def benchRunsWrong : ChangeSpec := { name := "benchRuns", fn := fun _ => fun
  | [d1, d2, d3] => { results := [.lit (.bool false)], args := [d1, d2, d3] }
  | _ => none }
def BenchRunsWrongFalsely : Prop := benchRunsRow.holds Tryz.pinned (OpenSpec.ofChange benchRunsWrong)

/- THE SECOND FORM. 'bulk': how many values and letters a reading holds, each counted each time it is reached (what is shared counts as often as it is met; a slice's spare places count too). A statement '..UptoSaid' is the law's where the arguments, and the package variables that the reading takes, are together of bulk at most 1048576: NARROWER than '..Said'. Prove '..Said' where nothing that the law and all that it calls make is longer than what came in: it says more and counts as full. Else prove '..UptoSaid'. A law counts once. -/
mutual
def uptoBulk {H : Type} : DataW H → Nat
  | .lit (.string bytes) => bytes.length + 1
  | .lit _ => 1
  | .nil => 1
  | .ptr d => uptoBulk d + 1
  | .slice elems spare => uptoBulkAll elems + uptoBulkAll spare + 1
  | .agg parts => uptoBulkAll parts + 1
  | .iface _ d => uptoBulk d + 1
  | .map entries => uptoBulkEntries entries + 1
  | .held _ => 1
def uptoBulkAll {H : Type} : List (DataW H) → Nat
  | [] => 0
  | d :: r => uptoBulk d + uptoBulkAll r
def uptoBulkEntries {H : Type} : List (Lit × DataW H) → Nat
  | [] => 0
  | x :: r => uptoBulkEntry x + uptoBulkEntries r
def uptoBulkEntry {H : Type} : Lit × DataW H → Nat
  | (.string bytes, d) => bytes.length + uptoBulk d + 1
  | (_, d) => uptoBulk d + 1
 end
def uptoSmall : (H : Type) → List (DataW H) → Bool := fun _ ds => decide (uptoBulkAll ds ≤ 1048576)
def OpenSpec.upto (s : _root_.Go.ChangeSpec) : _root_.Go.OpenSpec := { _root_.Go.OpenSpec.ofChange s with cond := some uptoSmall }

/-- 'deskmatestop.TopAlways', WHERE WHAT IT READS IS OF BULK AT MOST 1048576: true; the input reads as it did. -/
def topAlwaysUptoRow : OpenClaim := { program := "ytjbbgpacijageacgreat", sum := "a4f548b443d7451d373fd05f7c4fba83098c4494628e567df8065f7258d5d1f0", func := "deskmates/deskmatestop.TopAlways", spec := "topAlways", unfollowed := true, recurses := true, apart := false, narrowed := true }
def TopAlwaysUptoSaid : Prop := topAlwaysUptoRow.holds Tryz.pinned (OpenSpec.upto topAlwaysSpec)

/-- 'deskmateslaw.BenchPlays', WHERE WHAT IT READS IS OF BULK AT MOST 1048576: true; the input reads as it did. -/
def benchPlaysUptoRow : OpenClaim := { program := "ytjbbgpacijageacgreat", sum := "a4f548b443d7451d373fd05f7c4fba83098c4494628e567df8065f7258d5d1f0", func := "deskmates/deskmateslaw.BenchPlays", spec := "benchPlays", unfollowed := true, recurses := true, apart := false, narrowed := true }
def BenchPlaysUptoSaid : Prop := benchPlaysUptoRow.holds Tryz.pinned (OpenSpec.upto benchPlaysSpec)

/-- 'deskmateslaw.BenchRuns', WHERE WHAT IT READS IS OF BULK AT MOST 1048576: true; the input reads as it did. -/
def benchRunsUptoRow : OpenClaim := { program := "ytjbbgpacijageacgreat", sum := "a4f548b443d7451d373fd05f7c4fba83098c4494628e567df8065f7258d5d1f0", func := "deskmates/deskmateslaw.BenchRuns", spec := "benchRuns", unfollowed := true, recurses := true, apart := false, narrowed := true }
def BenchRunsUptoSaid : Prop := benchRunsUptoRow.holds Tryz.pinned (OpenSpec.upto benchRunsSpec)

end Rows
end Go.Proofs.YtjbbgpacijageacGreat
