/-
  No cell of these rows narrows 'for every input' (looked for: loops, veiled, ifaces, maps, wideKeys, modest, calm, conditions, laid).
  DERIVED. THE GIVEN ROWS OF THIS SEAT. 12 by the template 'for every input the law returns true; each argument reads behind the call as it read before'; 0 by the template 'total and deterministic' (their statements: YtjbbgpacijageaaTotals.lean).
  GIVEN WITH THE SEED: the statements are not yours to turn. If you find one false, say at which input.
  Laid BY PROGRAM, IN A SANDBOX (cutbox-rows.mjs): the forced cells as the released guide's own fill.sh prints them over the translation a09fa9b03c71ea01… (all of the seat's roots in one cut). By AI agents, Wed Nov 11 2026. No macro, syntax, notation, axiom, sorry.
-/
import Derived.Test.YtjbbgpacijageaaChecked
import GoSem.Claim
import GoSem.ClaimJoined
import GoSem.ClaimMapViews
import Derived.JoinedTies
import Derived.KernelRfl
namespace Go.Proofs.Ytjbbgpacijageaa
/- THE CELL 'sum', in the pinned program and in every row, IS THE sha256 OF THE DUMP (.gsa) THAT YtjbbgpacijageaaProg.lean LOADS. Nothing in Lean hashes anything: it is a label: what it is worth is what the hold of that sum in a sandbox is worth. -/
noncomputable def Try.pinned : Pinned := { name := "ytjbbgpacijageaa", sum := "a09fa9b03c71ea013328a7259a99373ea64078c3f3c6e72a45676c5f38d77444", checked := Try.checked }
namespace Rows
def none {H : Type} : Left H := { results := [], args := [] }

/-- 'deskmateslaw.CodeTells': WHATEVER THE INPUT: true; the input reads as it did. -/
def codeTellsSpec : ChangeSpec := { name := "codeTells", fn := fun _ => fun
  | [d1, d2, d3, d4, d5] => { results := [.lit (.bool true)], args := [d1, d2, d3, d4, d5] }
  | _ => none }
def codeTellsRow : OpenClaim := { program := "ytjbbgpacijageaa", sum := "a09fa9b03c71ea013328a7259a99373ea64078c3f3c6e72a45676c5f38d77444", func := "deskmates/deskmateslaw.CodeTells", spec := "codeTells", apart := false }
def CodeTellsSaid : Prop := codeTellsRow.holds Try.pinned (OpenSpec.ofChange codeTellsSpec)

/-- ITS FALSE NEIGHBOUR: 'it returns false'. Refute it at one input. -/
def codeTellsWrong : ChangeSpec := { name := "codeTells", fn := fun _ => fun
  | [d1, d2, d3, d4, d5] => { results := [.lit (.bool false)], args := [d1, d2, d3, d4, d5] }
  | _ => none }
def CodeTellsWrongFalsely : Prop := codeTellsRow.holds Try.pinned (OpenSpec.ofChange codeTellsWrong)

/-- 'deskmateslaw.CodeAlone': WHATEVER THE INPUT: true; the input reads as it did. -/
def codeAloneSpec : ChangeSpec := { name := "codeAlone", fn := fun _ => fun
  | [d1, d2] => { results := [.lit (.bool true)], args := [d1, d2] }
  | _ => none }
def codeAloneRow : OpenClaim := { program := "ytjbbgpacijageaa", sum := "a09fa9b03c71ea013328a7259a99373ea64078c3f3c6e72a45676c5f38d77444", func := "deskmates/deskmateslaw.CodeAlone", spec := "codeAlone", apart := false }
def CodeAloneSaid : Prop := codeAloneRow.holds Try.pinned (OpenSpec.ofChange codeAloneSpec)

/-- ITS FALSE NEIGHBOUR: 'it returns false'. Refute it at one input. -/
def codeAloneWrong : ChangeSpec := { name := "codeAlone", fn := fun _ => fun
  | [d1, d2] => { results := [.lit (.bool false)], args := [d1, d2] }
  | _ => none }
def CodeAloneWrongFalsely : Prop := codeAloneRow.holds Try.pinned (OpenSpec.ofChange codeAloneWrong)

/-- 'deskmateskeep.CodeKeeps': WHATEVER THE INPUT: true; the input reads as it did. -/
def codeKeepsSpec : ChangeSpec := { name := "codeKeeps", fn := fun _ => fun
  | [d1, d2, d3] => { results := [.lit (.bool true)], args := [d1, d2, d3] }
  | _ => none }
def codeKeepsRow : OpenClaim := { program := "ytjbbgpacijageaa", sum := "a09fa9b03c71ea013328a7259a99373ea64078c3f3c6e72a45676c5f38d77444", func := "deskmates/deskmateskeep.CodeKeeps", spec := "codeKeeps", apart := false }
def CodeKeepsSaid : Prop := codeKeepsRow.holds Try.pinned (OpenSpec.ofChange codeKeepsSpec)

/-- ITS FALSE NEIGHBOUR: 'it returns false'. Refute it at one input. -/
def codeKeepsWrong : ChangeSpec := { name := "codeKeeps", fn := fun _ => fun
  | [d1, d2, d3] => { results := [.lit (.bool false)], args := [d1, d2, d3] }
  | _ => none }
def CodeKeepsWrongFalsely : Prop := codeKeepsRow.holds Try.pinned (OpenSpec.ofChange codeKeepsWrong)

/-- 'deskmateskeep.CodePuts': WHATEVER THE INPUT: true; the input reads as it did. -/
def codePutsSpec : ChangeSpec := { name := "codePuts", fn := fun _ => fun
  | [d1, d2, d3, d4] => { results := [.lit (.bool true)], args := [d1, d2, d3, d4] }
  | _ => none }
def codePutsRow : OpenClaim := { program := "ytjbbgpacijageaa", sum := "a09fa9b03c71ea013328a7259a99373ea64078c3f3c6e72a45676c5f38d77444", func := "deskmates/deskmateskeep.CodePuts", spec := "codePuts", apart := false }
def CodePutsSaid : Prop := codePutsRow.holds Try.pinned (OpenSpec.ofChange codePutsSpec)

/-- ITS FALSE NEIGHBOUR: 'it returns false'. Refute it at one input. -/
def codePutsWrong : ChangeSpec := { name := "codePuts", fn := fun _ => fun
  | [d1, d2, d3, d4] => { results := [.lit (.bool false)], args := [d1, d2, d3, d4] }
  | _ => none }
def CodePutsWrongFalsely : Prop := codePutsRow.holds Try.pinned (OpenSpec.ofChange codePutsWrong)

/-- 'deskmateslaw.PlainOne': WHATEVER THE INPUT: true; the input reads as it did. -/
def plainOneSpec : ChangeSpec := { name := "plainOne", fn := fun _ => fun
  | [d1, d2, d3, d4] => { results := [.lit (.bool true)], args := [d1, d2, d3, d4] }
  | _ => none }
def plainOneRow : OpenClaim := { program := "ytjbbgpacijageaa", sum := "a09fa9b03c71ea013328a7259a99373ea64078c3f3c6e72a45676c5f38d77444", func := "deskmates/deskmateslaw.PlainOne", spec := "plainOne", apart := false }
def PlainOneSaid : Prop := plainOneRow.holds Try.pinned (OpenSpec.ofChange plainOneSpec)

/-- ITS FALSE NEIGHBOUR: 'it returns false'. Refute it at one input. -/
def plainOneWrong : ChangeSpec := { name := "plainOne", fn := fun _ => fun
  | [d1, d2, d3, d4] => { results := [.lit (.bool false)], args := [d1, d2, d3, d4] }
  | _ => none }
def PlainOneWrongFalsely : Prop := plainOneRow.holds Try.pinned (OpenSpec.ofChange plainOneWrong)

/-- 'deskmateslaw.PlainAll': WHATEVER THE INPUT: true; the input reads as it did. -/
def plainAllSpec : ChangeSpec := { name := "plainAll", fn := fun _ => fun
  | [d1, d2, d3, d4] => { results := [.lit (.bool true)], args := [d1, d2, d3, d4] }
  | _ => none }
def plainAllRow : OpenClaim := { program := "ytjbbgpacijageaa", sum := "a09fa9b03c71ea013328a7259a99373ea64078c3f3c6e72a45676c5f38d77444", func := "deskmates/deskmateslaw.PlainAll", spec := "plainAll", unfollowed := true, recurses := true, apart := false }
def PlainAllSaid : Prop := plainAllRow.holds Try.pinned (OpenSpec.ofChange plainAllSpec)

/-- ITS FALSE NEIGHBOUR: 'it returns false'. Refute it at one input. -/
def plainAllWrong : ChangeSpec := { name := "plainAll", fn := fun _ => fun
  | [d1, d2, d3, d4] => { results := [.lit (.bool false)], args := [d1, d2, d3, d4] }
  | _ => none }
def PlainAllWrongFalsely : Prop := plainAllRow.holds Try.pinned (OpenSpec.ofChange plainAllWrong)

/-- 'deskmateslaw.PlainReplays': WHATEVER THE INPUT: true; the input reads as it did. -/
def plainReplaysSpec : ChangeSpec := { name := "plainReplays", fn := fun _ => fun
  | [d1, d2, d3] => { results := [.lit (.bool true)], args := [d1, d2, d3] }
  | _ => none }
def plainReplaysRow : OpenClaim := { program := "ytjbbgpacijageaa", sum := "a09fa9b03c71ea013328a7259a99373ea64078c3f3c6e72a45676c5f38d77444", func := "deskmates/deskmateslaw.PlainReplays", spec := "plainReplays", unfollowed := true, recurses := true, apart := false }
def PlainReplaysSaid : Prop := plainReplaysRow.holds Try.pinned (OpenSpec.ofChange plainReplaysSpec)

/-- ITS FALSE NEIGHBOUR: 'it returns false'. Refute it at one input. -/
def plainReplaysWrong : ChangeSpec := { name := "plainReplays", fn := fun _ => fun
  | [d1, d2, d3] => { results := [.lit (.bool false)], args := [d1, d2, d3] }
  | _ => none }
def PlainReplaysWrongFalsely : Prop := plainReplaysRow.holds Try.pinned (OpenSpec.ofChange plainReplaysWrong)

/-- 'deskmateskeep.PlainOnly': WHATEVER THE INPUT: true; the input reads as it did. -/
def plainOnlySpec : ChangeSpec := { name := "plainOnly", fn := fun _ => fun
  | [d1, d2, d3, d4] => { results := [.lit (.bool true)], args := [d1, d2, d3, d4] }
  | _ => none }
def plainOnlyRow : OpenClaim := { program := "ytjbbgpacijageaa", sum := "a09fa9b03c71ea013328a7259a99373ea64078c3f3c6e72a45676c5f38d77444", func := "deskmates/deskmateskeep.PlainOnly", spec := "plainOnly", apart := false }
def PlainOnlySaid : Prop := plainOnlyRow.holds Try.pinned (OpenSpec.ofChange plainOnlySpec)

/-- ITS FALSE NEIGHBOUR: 'it returns false'. Refute it at one input. -/
def plainOnlyWrong : ChangeSpec := { name := "plainOnly", fn := fun _ => fun
  | [d1, d2, d3, d4] => { results := [.lit (.bool false)], args := [d1, d2, d3, d4] }
  | _ => none }
def PlainOnlyWrongFalsely : Prop := plainOnlyRow.holds Try.pinned (OpenSpec.ofChange plainOnlyWrong)

/-- 'deskmateskeep.PlainWhole': WHATEVER THE INPUT: true; the input reads as it did. -/
def plainWholeSpec : ChangeSpec := { name := "plainWhole", fn := fun _ => fun
  | [d1, d2, d3, d4] => { results := [.lit (.bool true)], args := [d1, d2, d3, d4] }
  | _ => none }
def plainWholeRow : OpenClaim := { program := "ytjbbgpacijageaa", sum := "a09fa9b03c71ea013328a7259a99373ea64078c3f3c6e72a45676c5f38d77444", func := "deskmates/deskmateskeep.PlainWhole", spec := "plainWhole", apart := false }
def PlainWholeSaid : Prop := plainWholeRow.holds Try.pinned (OpenSpec.ofChange plainWholeSpec)

/-- ITS FALSE NEIGHBOUR: 'it returns false'. Refute it at one input. -/
def plainWholeWrong : ChangeSpec := { name := "plainWhole", fn := fun _ => fun
  | [d1, d2, d3, d4] => { results := [.lit (.bool false)], args := [d1, d2, d3, d4] }
  | _ => none }
def PlainWholeWrongFalsely : Prop := plainWholeRow.holds Try.pinned (OpenSpec.ofChange plainWholeWrong)

/-- 'deskmateskeep.PlainParts': WHATEVER THE INPUT: true; the input reads as it did. -/
def plainPartsSpec : ChangeSpec := { name := "plainParts", fn := fun _ => fun
  | [d1, d2, d3, d4] => { results := [.lit (.bool true)], args := [d1, d2, d3, d4] }
  | _ => none }
def plainPartsRow : OpenClaim := { program := "ytjbbgpacijageaa", sum := "a09fa9b03c71ea013328a7259a99373ea64078c3f3c6e72a45676c5f38d77444", func := "deskmates/deskmateskeep.PlainParts", spec := "plainParts", apart := false }
def PlainPartsSaid : Prop := plainPartsRow.holds Try.pinned (OpenSpec.ofChange plainPartsSpec)

/-- ITS FALSE NEIGHBOUR: 'it returns false'. Refute it at one input. -/
def plainPartsWrong : ChangeSpec := { name := "plainParts", fn := fun _ => fun
  | [d1, d2, d3, d4] => { results := [.lit (.bool false)], args := [d1, d2, d3, d4] }
  | _ => none }
def PlainPartsWrongFalsely : Prop := plainPartsRow.holds Try.pinned (OpenSpec.ofChange plainPartsWrong)

/-- 'deskmateslaw.CacheTells': WHATEVER THE INPUT: true; the input reads as it did. -/
def cacheTellsSpec : ChangeSpec := { name := "cacheTells", fn := fun _ => fun
  | [d1, d2, d3, d4] => { results := [.lit (.bool true)], args := [d1, d2, d3, d4] }
  | _ => none }
def cacheTellsRow : OpenClaim := { program := "ytjbbgpacijageaa", sum := "a09fa9b03c71ea013328a7259a99373ea64078c3f3c6e72a45676c5f38d77444", func := "deskmates/deskmateslaw.CacheTells", spec := "cacheTells", apart := false }
def CacheTellsSaid : Prop := cacheTellsRow.holds Try.pinned (OpenSpec.ofChange cacheTellsSpec)

/-- ITS FALSE NEIGHBOUR: 'it returns false'. Refute it at one input. -/
def cacheTellsWrong : ChangeSpec := { name := "cacheTells", fn := fun _ => fun
  | [d1, d2, d3, d4] => { results := [.lit (.bool false)], args := [d1, d2, d3, d4] }
  | _ => none }
def CacheTellsWrongFalsely : Prop := cacheTellsRow.holds Try.pinned (OpenSpec.ofChange cacheTellsWrong)

/-- 'deskmateslaw.CacheMoves': WHATEVER THE INPUT: true; the input reads as it did. -/
def cacheMovesSpec : ChangeSpec := { name := "cacheMoves", fn := fun _ => fun
  | [d1, d2, d3, d4, d5] => { results := [.lit (.bool true)], args := [d1, d2, d3, d4, d5] }
  | _ => none }
def cacheMovesRow : OpenClaim := { program := "ytjbbgpacijageaa", sum := "a09fa9b03c71ea013328a7259a99373ea64078c3f3c6e72a45676c5f38d77444", func := "deskmates/deskmateslaw.CacheMoves", spec := "cacheMoves", apart := false }
def CacheMovesSaid : Prop := cacheMovesRow.holds Try.pinned (OpenSpec.ofChange cacheMovesSpec)

/-- ITS FALSE NEIGHBOUR: 'it returns false'. Refute it at one input. -/
def cacheMovesWrong : ChangeSpec := { name := "cacheMoves", fn := fun _ => fun
  | [d1, d2, d3, d4, d5] => { results := [.lit (.bool false)], args := [d1, d2, d3, d4, d5] }
  | _ => none }
def CacheMovesWrongFalsely : Prop := cacheMovesRow.holds Try.pinned (OpenSpec.ofChange cacheMovesWrong)

/- THE SECOND FORM. 'bulk': how many values and letters a reading holds, each counted each time it is reached (what is shared counts as often as it is met; a slice's spare places count too). A statement '..UptoSaid' is the law's where the arguments, and the package variables that the reading takes, are together of bulk at most 1048576: NARROWER than '..Said'. Prove '..Said' where nothing that the law and all that it calls make is longer than what came in: it says more and counts as full. Else prove '..UptoSaid'. A law counts once. -/
mutual
def uptoBulk {H : Type} : DataW H → Nat
  | .lit (.string bytes) => bytes.length + 1
  | .lit _ => 1
  | .nil => 1
  | .ptr d => uptoBulk d + 1
  | .slice elems spare => uptoBulkAll elems + uptoBulkAll spare + 1
  | .agg parts => uptoBulkAll parts + 1
  | .iface _ d => uptoBulk d + 1
  | .map entries => uptoBulkEntries entries + 1
  | .held _ => 1
def uptoBulkAll {H : Type} : List (DataW H) → Nat
  | [] => 0
  | d :: r => uptoBulk d + uptoBulkAll r
def uptoBulkEntries {H : Type} : List (Lit × DataW H) → Nat
  | [] => 0
  | x :: r => uptoBulkEntry x + uptoBulkEntries r
def uptoBulkEntry {H : Type} : Lit × DataW H → Nat
  | (.string bytes, d) => bytes.length + uptoBulk d + 1
  | (_, d) => uptoBulk d + 1
 end
def uptoSmall : (H : Type) → List (DataW H) → Bool := fun _ ds => decide (uptoBulkAll ds ≤ 1048576)
def OpenSpec.upto (s : _root_.Go.ChangeSpec) : _root_.Go.OpenSpec := { _root_.Go.OpenSpec.ofChange s with cond := some uptoSmall }

/-- 'deskmateslaw.CodeTells', WHERE WHAT IT READS IS OF BULK AT MOST 1048576: true; the input reads as it did. -/
def codeTellsUptoRow : OpenClaim := { program := "ytjbbgpacijageaa", sum := "a09fa9b03c71ea013328a7259a99373ea64078c3f3c6e72a45676c5f38d77444", func := "deskmates/deskmateslaw.CodeTells", spec := "codeTells", apart := false, narrowed := true }
def CodeTellsUptoSaid : Prop := codeTellsUptoRow.holds Try.pinned (OpenSpec.upto codeTellsSpec)

/-- 'deskmateslaw.CodeAlone', WHERE WHAT IT READS IS OF BULK AT MOST 1048576: true; the input reads as it did. -/
def codeAloneUptoRow : OpenClaim := { program := "ytjbbgpacijageaa", sum := "a09fa9b03c71ea013328a7259a99373ea64078c3f3c6e72a45676c5f38d77444", func := "deskmates/deskmateslaw.CodeAlone", spec := "codeAlone", apart := false, narrowed := true }
def CodeAloneUptoSaid : Prop := codeAloneUptoRow.holds Try.pinned (OpenSpec.upto codeAloneSpec)

/-- 'deskmateskeep.CodeKeeps', WHERE WHAT IT READS IS OF BULK AT MOST 1048576: true; the input reads as it did. -/
def codeKeepsUptoRow : OpenClaim := { program := "ytjbbgpacijageaa", sum := "a09fa9b03c71ea013328a7259a99373ea64078c3f3c6e72a45676c5f38d77444", func := "deskmates/deskmateskeep.CodeKeeps", spec := "codeKeeps", apart := false, narrowed := true }
def CodeKeepsUptoSaid : Prop := codeKeepsUptoRow.holds Try.pinned (OpenSpec.upto codeKeepsSpec)

/-- 'deskmateskeep.CodePuts', WHERE WHAT IT READS IS OF BULK AT MOST 1048576: true; the input reads as it did. -/
def codePutsUptoRow : OpenClaim := { program := "ytjbbgpacijageaa", sum := "a09fa9b03c71ea013328a7259a99373ea64078c3f3c6e72a45676c5f38d77444", func := "deskmates/deskmateskeep.CodePuts", spec := "codePuts", apart := false, narrowed := true }
def CodePutsUptoSaid : Prop := codePutsUptoRow.holds Try.pinned (OpenSpec.upto codePutsSpec)

/-- 'deskmateslaw.PlainOne', WHERE WHAT IT READS IS OF BULK AT MOST 1048576: true; the input reads as it did. -/
def plainOneUptoRow : OpenClaim := { program := "ytjbbgpacijageaa", sum := "a09fa9b03c71ea013328a7259a99373ea64078c3f3c6e72a45676c5f38d77444", func := "deskmates/deskmateslaw.PlainOne", spec := "plainOne", apart := false, narrowed := true }
def PlainOneUptoSaid : Prop := plainOneUptoRow.holds Try.pinned (OpenSpec.upto plainOneSpec)

/-- 'deskmateslaw.PlainAll', WHERE WHAT IT READS IS OF BULK AT MOST 1048576: true; the input reads as it did. -/
def plainAllUptoRow : OpenClaim := { program := "ytjbbgpacijageaa", sum := "a09fa9b03c71ea013328a7259a99373ea64078c3f3c6e72a45676c5f38d77444", func := "deskmates/deskmateslaw.PlainAll", spec := "plainAll", unfollowed := true, recurses := true, apart := false, narrowed := true }
def PlainAllUptoSaid : Prop := plainAllUptoRow.holds Try.pinned (OpenSpec.upto plainAllSpec)

/-- 'deskmateslaw.PlainReplays', WHERE WHAT IT READS IS OF BULK AT MOST 1048576: true; the input reads as it did. -/
def plainReplaysUptoRow : OpenClaim := { program := "ytjbbgpacijageaa", sum := "a09fa9b03c71ea013328a7259a99373ea64078c3f3c6e72a45676c5f38d77444", func := "deskmates/deskmateslaw.PlainReplays", spec := "plainReplays", unfollowed := true, recurses := true, apart := false, narrowed := true }
def PlainReplaysUptoSaid : Prop := plainReplaysUptoRow.holds Try.pinned (OpenSpec.upto plainReplaysSpec)

/-- 'deskmateskeep.PlainOnly', WHERE WHAT IT READS IS OF BULK AT MOST 1048576: true; the input reads as it did. -/
def plainOnlyUptoRow : OpenClaim := { program := "ytjbbgpacijageaa", sum := "a09fa9b03c71ea013328a7259a99373ea64078c3f3c6e72a45676c5f38d77444", func := "deskmates/deskmateskeep.PlainOnly", spec := "plainOnly", apart := false, narrowed := true }
def PlainOnlyUptoSaid : Prop := plainOnlyUptoRow.holds Try.pinned (OpenSpec.upto plainOnlySpec)

/-- 'deskmateskeep.PlainWhole', WHERE WHAT IT READS IS OF BULK AT MOST 1048576: true; the input reads as it did. -/
def plainWholeUptoRow : OpenClaim := { program := "ytjbbgpacijageaa", sum := "a09fa9b03c71ea013328a7259a99373ea64078c3f3c6e72a45676c5f38d77444", func := "deskmates/deskmateskeep.PlainWhole", spec := "plainWhole", apart := false, narrowed := true }
def PlainWholeUptoSaid : Prop := plainWholeUptoRow.holds Try.pinned (OpenSpec.upto plainWholeSpec)

/-- 'deskmateskeep.PlainParts', WHERE WHAT IT READS IS OF BULK AT MOST 1048576: true; the input reads as it did. -/
def plainPartsUptoRow : OpenClaim := { program := "ytjbbgpacijageaa", sum := "a09fa9b03c71ea013328a7259a99373ea64078c3f3c6e72a45676c5f38d77444", func := "deskmates/deskmateskeep.PlainParts", spec := "plainParts", apart := false, narrowed := true }
def PlainPartsUptoSaid : Prop := plainPartsUptoRow.holds Try.pinned (OpenSpec.upto plainPartsSpec)

/-- 'deskmateslaw.CacheTells', WHERE WHAT IT READS IS OF BULK AT MOST 1048576: true; the input reads as it did. -/
def cacheTellsUptoRow : OpenClaim := { program := "ytjbbgpacijageaa", sum := "a09fa9b03c71ea013328a7259a99373ea64078c3f3c6e72a45676c5f38d77444", func := "deskmates/deskmateslaw.CacheTells", spec := "cacheTells", apart := false, narrowed := true }
def CacheTellsUptoSaid : Prop := cacheTellsUptoRow.holds Try.pinned (OpenSpec.upto cacheTellsSpec)

/-- 'deskmateslaw.CacheMoves', WHERE WHAT IT READS IS OF BULK AT MOST 1048576: true; the input reads as it did. -/
def cacheMovesUptoRow : OpenClaim := { program := "ytjbbgpacijageaa", sum := "a09fa9b03c71ea013328a7259a99373ea64078c3f3c6e72a45676c5f38d77444", func := "deskmates/deskmateslaw.CacheMoves", spec := "cacheMoves", apart := false, narrowed := true }
def CacheMovesUptoSaid : Prop := cacheMovesUptoRow.holds Try.pinned (OpenSpec.upto cacheMovesSpec)

end Rows
end Go.Proofs.Ytjbbgpacijageaa
