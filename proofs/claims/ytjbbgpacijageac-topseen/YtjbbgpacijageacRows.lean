/-
  No cell of these rows narrows 'for every input' (looked for: loops, veiled, ifaces, maps, wideKeys, modest, calm, conditions, laid).
  DERIVED. THE GIVEN ROWS OF THIS SEAT. 8 by the template 'for every input the law returns true; each argument reads behind the call as it read before'; 0 by the template 'total and deterministic' (their statements: YtjbbgpacijageacTotals.lean).
  GIVEN WITH THE SEED: the statements are not yours to turn. If you find one false, say at which input.
  Laid BY PROGRAM, IN A SANDBOX (cutbox-rows.mjs): the forced cells as the released guide's own fill.sh prints them over the translation 7aa2581b9de32247… (all of the seat's roots in one cut). By AI agents, Wed Nov 11 2026. No macro, syntax, notation, axiom, sorry.
-/
import Derived.Test.YtjbbgpacijageacChecked
import GoSem.Claim
import GoSem.ClaimJoined
import GoSem.ClaimMapViews
import Derived.JoinedTies
import Derived.KernelRfl
namespace Go.Proofs.Ytjbbgpacijageac
/- THE CELL 'sum', in the pinned program and in every row, IS THE sha256 OF THE DUMP (.gsa) THAT YtjbbgpacijageacProg.lean LOADS. Nothing in Lean hashes anything: it is a label: what it is worth is what the hold of that sum in a sandbox is worth. -/
noncomputable def Try.pinned : Pinned := { name := "ytjbbgpacijageac", sum := "7aa2581b9de32247cdf8ac132880cde4b164ef69c5cd1c5e763f84991828c5e0", checked := Try.checked }
namespace Rows
def none {H : Type} : Left H := { results := [], args := [] }

/-- 'deskmatestop.TopGood': WHATEVER THE INPUT: true; the input reads as it did. -/
def topGoodSpec : ChangeSpec := { name := "topGood", fn := fun _ => fun
  | [d1, d2, d3] => { results := [.lit (.bool true)], args := [d1, d2, d3] }
  | _ => none }
def topGoodRow : OpenClaim := { program := "ytjbbgpacijageac", sum := "7aa2581b9de32247cdf8ac132880cde4b164ef69c5cd1c5e763f84991828c5e0", func := "deskmates/deskmatestop.TopGood", spec := "topGood", unfollowed := true, recurses := true, plainKeys := false, apart := false }
def TopGoodSaid : Prop := topGoodRow.holds Try.pinned (OpenSpec.ofChange topGoodSpec)

/-- ITS FALSE NEIGHBOUR: 'it returns false'. Refute it at one input. -/
def topGoodWrong : ChangeSpec := { name := "topGood", fn := fun _ => fun
  | [d1, d2, d3] => { results := [.lit (.bool false)], args := [d1, d2, d3] }
  | _ => none }
def TopGoodWrongFalsely : Prop := topGoodRow.holds Try.pinned (OpenSpec.ofChange topGoodWrong)

/-- 'deskmatestop.TopSeen': WHATEVER THE INPUT: true; the input reads as it did. -/
def topSeenSpec : ChangeSpec := { name := "topSeen", fn := fun _ => fun
  | [d1, d2, d3] => { results := [.lit (.bool true)], args := [d1, d2, d3] }
  | _ => none }
def topSeenRow : OpenClaim := { program := "ytjbbgpacijageac", sum := "7aa2581b9de32247cdf8ac132880cde4b164ef69c5cd1c5e763f84991828c5e0", func := "deskmates/deskmatestop.TopSeen", spec := "topSeen", unfollowed := true, recurses := true, plainKeys := false, apart := false }
def TopSeenSaid : Prop := topSeenRow.holds Try.pinned (OpenSpec.ofChange topSeenSpec)

/-- ITS FALSE NEIGHBOUR: 'it returns false'. Refute it at one input. -/
def topSeenWrong : ChangeSpec := { name := "topSeen", fn := fun _ => fun
  | [d1, d2, d3] => { results := [.lit (.bool false)], args := [d1, d2, d3] }
  | _ => none }
def TopSeenWrongFalsely : Prop := topSeenRow.holds Try.pinned (OpenSpec.ofChange topSeenWrong)

/-- 'deskmatestop.TopWhys': WHATEVER THE INPUT: true; the input reads as it did. -/
def topWhysSpec : ChangeSpec := { name := "topWhys", fn := fun _ => fun
  | [d1, d2, d3] => { results := [.lit (.bool true)], args := [d1, d2, d3] }
  | _ => none }
def topWhysRow : OpenClaim := { program := "ytjbbgpacijageac", sum := "7aa2581b9de32247cdf8ac132880cde4b164ef69c5cd1c5e763f84991828c5e0", func := "deskmates/deskmatestop.TopWhys", spec := "topWhys", unfollowed := true, recurses := true, plainKeys := false, apart := false }
def TopWhysSaid : Prop := topWhysRow.holds Try.pinned (OpenSpec.ofChange topWhysSpec)

/-- ITS FALSE NEIGHBOUR: 'it returns false'. Refute it at one input. -/
def topWhysWrong : ChangeSpec := { name := "topWhys", fn := fun _ => fun
  | [d1, d2, d3] => { results := [.lit (.bool false)], args := [d1, d2, d3] }
  | _ => none }
def TopWhysWrongFalsely : Prop := topWhysRow.holds Try.pinned (OpenSpec.ofChange topWhysWrong)

/-- 'deskmatestop.TopAlone': WHATEVER THE INPUT: true; the input reads as it did. -/
def topAloneSpec : ChangeSpec := { name := "topAlone", fn := fun _ => fun
  | [d1, d2, d3, d4] => { results := [.lit (.bool true)], args := [d1, d2, d3, d4] }
  | _ => none }
def topAloneRow : OpenClaim := { program := "ytjbbgpacijageac", sum := "7aa2581b9de32247cdf8ac132880cde4b164ef69c5cd1c5e763f84991828c5e0", func := "deskmates/deskmatestop.TopAlone", spec := "topAlone", unfollowed := true, recurses := true, plainKeys := false, apart := false }
def TopAloneSaid : Prop := topAloneRow.holds Try.pinned (OpenSpec.ofChange topAloneSpec)

/-- ITS FALSE NEIGHBOUR: 'it returns false'. Refute it at one input. -/
def topAloneWrong : ChangeSpec := { name := "topAlone", fn := fun _ => fun
  | [d1, d2, d3, d4] => { results := [.lit (.bool false)], args := [d1, d2, d3, d4] }
  | _ => none }
def TopAloneWrongFalsely : Prop := topAloneRow.holds Try.pinned (OpenSpec.ofChange topAloneWrong)

/-- 'deskmatestop.TopRefused': WHATEVER THE INPUT: true; the input reads as it did. -/
def topRefusedSpec : ChangeSpec := { name := "topRefused", fn := fun _ => fun
  | [d1, d2, d3, d4] => { results := [.lit (.bool true)], args := [d1, d2, d3, d4] }
  | _ => none }
def topRefusedRow : OpenClaim := { program := "ytjbbgpacijageac", sum := "7aa2581b9de32247cdf8ac132880cde4b164ef69c5cd1c5e763f84991828c5e0", func := "deskmates/deskmatestop.TopRefused", spec := "topRefused", unfollowed := true, recurses := true, plainKeys := false, apart := false }
def TopRefusedSaid : Prop := topRefusedRow.holds Try.pinned (OpenSpec.ofChange topRefusedSpec)

/-- ITS FALSE NEIGHBOUR: 'it returns false'. Refute it at one input. -/
def topRefusedWrong : ChangeSpec := { name := "topRefused", fn := fun _ => fun
  | [d1, d2, d3, d4] => { results := [.lit (.bool false)], args := [d1, d2, d3, d4] }
  | _ => none }
def TopRefusedWrongFalsely : Prop := topRefusedRow.holds Try.pinned (OpenSpec.ofChange topRefusedWrong)

/-- 'deskmatestop.TopRuns': WHATEVER THE INPUT: true; the input reads as it did. -/
def topRunsSpec : ChangeSpec := { name := "topRuns", fn := fun _ => fun
  | [d1, d2, d3, d4] => { results := [.lit (.bool true)], args := [d1, d2, d3, d4] }
  | _ => none }
def topRunsRow : OpenClaim := { program := "ytjbbgpacijageac", sum := "7aa2581b9de32247cdf8ac132880cde4b164ef69c5cd1c5e763f84991828c5e0", func := "deskmates/deskmatestop.TopRuns", spec := "topRuns", unfollowed := true, recurses := true, plainKeys := false, apart := false }
def TopRunsSaid : Prop := topRunsRow.holds Try.pinned (OpenSpec.ofChange topRunsSpec)

/-- ITS FALSE NEIGHBOUR: 'it returns false'. Refute it at one input. -/
def topRunsWrong : ChangeSpec := { name := "topRuns", fn := fun _ => fun
  | [d1, d2, d3, d4] => { results := [.lit (.bool false)], args := [d1, d2, d3, d4] }
  | _ => none }
def TopRunsWrongFalsely : Prop := topRunsRow.holds Try.pinned (OpenSpec.ofChange topRunsWrong)

/-- 'deskmatestop.TopMemory': WHATEVER THE INPUT: true; the input reads as it did. -/
def topMemorySpec : ChangeSpec := { name := "topMemory", fn := fun _ => fun
  | [d1, d2, d3] => { results := [.lit (.bool true)], args := [d1, d2, d3] }
  | _ => none }
def topMemoryRow : OpenClaim := { program := "ytjbbgpacijageac", sum := "7aa2581b9de32247cdf8ac132880cde4b164ef69c5cd1c5e763f84991828c5e0", func := "deskmates/deskmatestop.TopMemory", spec := "topMemory", unfollowed := true, recurses := true, plainKeys := false, apart := false }
def TopMemorySaid : Prop := topMemoryRow.holds Try.pinned (OpenSpec.ofChange topMemorySpec)

/-- ITS FALSE NEIGHBOUR: 'it returns false'. Refute it at one input. -/
def topMemoryWrong : ChangeSpec := { name := "topMemory", fn := fun _ => fun
  | [d1, d2, d3] => { results := [.lit (.bool false)], args := [d1, d2, d3] }
  | _ => none }
def TopMemoryWrongFalsely : Prop := topMemoryRow.holds Try.pinned (OpenSpec.ofChange topMemoryWrong)

/-- 'deskmatestop.TopEnds': WHATEVER THE INPUT: true; the input reads as it did. -/
def topEndsSpec : ChangeSpec := { name := "topEnds", fn := fun _ => fun
  | [d1, d2, d3, d4] => { results := [.lit (.bool true)], args := [d1, d2, d3, d4] }
  | _ => none }
def topEndsRow : OpenClaim := { program := "ytjbbgpacijageac", sum := "7aa2581b9de32247cdf8ac132880cde4b164ef69c5cd1c5e763f84991828c5e0", func := "deskmates/deskmatestop.TopEnds", spec := "topEnds", unfollowed := true, recurses := true, plainKeys := false, apart := false }
def TopEndsSaid : Prop := topEndsRow.holds Try.pinned (OpenSpec.ofChange topEndsSpec)

/-- ITS FALSE NEIGHBOUR: 'it returns false'. Refute it at one input. -/
def topEndsWrong : ChangeSpec := { name := "topEnds", fn := fun _ => fun
  | [d1, d2, d3, d4] => { results := [.lit (.bool false)], args := [d1, d2, d3, d4] }
  | _ => none }
def TopEndsWrongFalsely : Prop := topEndsRow.holds Try.pinned (OpenSpec.ofChange topEndsWrong)

/- THE SECOND FORM. 'bulk': how many values and letters a reading holds, each counted each time it is reached (what is shared counts as often as it is met; a slice's spare places count too). A statement '..UptoSaid' is the law's where the arguments, and the package variables that the reading takes, are together of bulk at most 1048576: NARROWER than '..Said'. Prove '..Said' where nothing that the law and all that it calls make is longer than what came in: it says more and counts as full. Else prove '..UptoSaid'. A law counts once. -/
mutual
def uptoBulk {H : Type} : DataW H → Nat
  | .lit (.string bytes) => bytes.length + 1
  | .lit _ => 1
  | .nil => 1
  | .ptr d => uptoBulk d + 1
  | .slice elems spare => uptoBulkAll elems + uptoBulkAll spare + 1
  | .agg parts => uptoBulkAll parts + 1
  | .iface _ d => uptoBulk d + 1
  | .map entries => uptoBulkEntries entries + 1
  | .held _ => 1
def uptoBulkAll {H : Type} : List (DataW H) → Nat
  | [] => 0
  | d :: r => uptoBulk d + uptoBulkAll r
def uptoBulkEntries {H : Type} : List (Lit × DataW H) → Nat
  | [] => 0
  | x :: r => uptoBulkEntry x + uptoBulkEntries r
def uptoBulkEntry {H : Type} : Lit × DataW H → Nat
  | (.string bytes, d) => bytes.length + uptoBulk d + 1
  | (_, d) => uptoBulk d + 1
 end
def uptoSmall : (H : Type) → List (DataW H) → Bool := fun _ ds => decide (uptoBulkAll ds ≤ 1048576)
def OpenSpec.upto (s : _root_.Go.ChangeSpec) : _root_.Go.OpenSpec := { _root_.Go.OpenSpec.ofChange s with cond := some uptoSmall }

/-- 'deskmatestop.TopGood', WHERE WHAT IT READS IS OF BULK AT MOST 1048576: true; the input reads as it did. -/
def topGoodUptoRow : OpenClaim := { program := "ytjbbgpacijageac", sum := "7aa2581b9de32247cdf8ac132880cde4b164ef69c5cd1c5e763f84991828c5e0", func := "deskmates/deskmatestop.TopGood", spec := "topGood", unfollowed := true, recurses := true, plainKeys := false, apart := false, narrowed := true }
def TopGoodUptoSaid : Prop := topGoodUptoRow.holds Try.pinned (OpenSpec.upto topGoodSpec)

/-- 'deskmatestop.TopSeen', WHERE WHAT IT READS IS OF BULK AT MOST 1048576: true; the input reads as it did. -/
def topSeenUptoRow : OpenClaim := { program := "ytjbbgpacijageac", sum := "7aa2581b9de32247cdf8ac132880cde4b164ef69c5cd1c5e763f84991828c5e0", func := "deskmates/deskmatestop.TopSeen", spec := "topSeen", unfollowed := true, recurses := true, plainKeys := false, apart := false, narrowed := true }
def TopSeenUptoSaid : Prop := topSeenUptoRow.holds Try.pinned (OpenSpec.upto topSeenSpec)

/-- 'deskmatestop.TopWhys', WHERE WHAT IT READS IS OF BULK AT MOST 1048576: true; the input reads as it did. -/
def topWhysUptoRow : OpenClaim := { program := "ytjbbgpacijageac", sum := "7aa2581b9de32247cdf8ac132880cde4b164ef69c5cd1c5e763f84991828c5e0", func := "deskmates/deskmatestop.TopWhys", spec := "topWhys", unfollowed := true, recurses := true, plainKeys := false, apart := false, narrowed := true }
def TopWhysUptoSaid : Prop := topWhysUptoRow.holds Try.pinned (OpenSpec.upto topWhysSpec)

/-- 'deskmatestop.TopAlone', WHERE WHAT IT READS IS OF BULK AT MOST 1048576: true; the input reads as it did. -/
def topAloneUptoRow : OpenClaim := { program := "ytjbbgpacijageac", sum := "7aa2581b9de32247cdf8ac132880cde4b164ef69c5cd1c5e763f84991828c5e0", func := "deskmates/deskmatestop.TopAlone", spec := "topAlone", unfollowed := true, recurses := true, plainKeys := false, apart := false, narrowed := true }
def TopAloneUptoSaid : Prop := topAloneUptoRow.holds Try.pinned (OpenSpec.upto topAloneSpec)

/-- 'deskmatestop.TopRefused', WHERE WHAT IT READS IS OF BULK AT MOST 1048576: true; the input reads as it did. -/
def topRefusedUptoRow : OpenClaim := { program := "ytjbbgpacijageac", sum := "7aa2581b9de32247cdf8ac132880cde4b164ef69c5cd1c5e763f84991828c5e0", func := "deskmates/deskmatestop.TopRefused", spec := "topRefused", unfollowed := true, recurses := true, plainKeys := false, apart := false, narrowed := true }
def TopRefusedUptoSaid : Prop := topRefusedUptoRow.holds Try.pinned (OpenSpec.upto topRefusedSpec)

/-- 'deskmatestop.TopRuns', WHERE WHAT IT READS IS OF BULK AT MOST 1048576: true; the input reads as it did. -/
def topRunsUptoRow : OpenClaim := { program := "ytjbbgpacijageac", sum := "7aa2581b9de32247cdf8ac132880cde4b164ef69c5cd1c5e763f84991828c5e0", func := "deskmates/deskmatestop.TopRuns", spec := "topRuns", unfollowed := true, recurses := true, plainKeys := false, apart := false, narrowed := true }
def TopRunsUptoSaid : Prop := topRunsUptoRow.holds Try.pinned (OpenSpec.upto topRunsSpec)

/-- 'deskmatestop.TopMemory', WHERE WHAT IT READS IS OF BULK AT MOST 1048576: true; the input reads as it did. -/
def topMemoryUptoRow : OpenClaim := { program := "ytjbbgpacijageac", sum := "7aa2581b9de32247cdf8ac132880cde4b164ef69c5cd1c5e763f84991828c5e0", func := "deskmates/deskmatestop.TopMemory", spec := "topMemory", unfollowed := true, recurses := true, plainKeys := false, apart := false, narrowed := true }
def TopMemoryUptoSaid : Prop := topMemoryUptoRow.holds Try.pinned (OpenSpec.upto topMemorySpec)

/-- 'deskmatestop.TopEnds', WHERE WHAT IT READS IS OF BULK AT MOST 1048576: true; the input reads as it did. -/
def topEndsUptoRow : OpenClaim := { program := "ytjbbgpacijageac", sum := "7aa2581b9de32247cdf8ac132880cde4b164ef69c5cd1c5e763f84991828c5e0", func := "deskmates/deskmatestop.TopEnds", spec := "topEnds", unfollowed := true, recurses := true, plainKeys := false, apart := false, narrowed := true }
def TopEndsUptoSaid : Prop := topEndsUptoRow.holds Try.pinned (OpenSpec.upto topEndsSpec)

end Rows
end Go.Proofs.Ytjbbgpacijageac
