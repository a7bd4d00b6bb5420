/-
  No cell of these rows narrows 'for every input' (looked for: loops, veiled, ifaces, maps, wideKeys, modest, calm, conditions, laid).
  DERIVED. THE GIVEN ROWS OF THIS SEAT. 9 by the template 'for every input the law returns true; each argument reads behind the call as it read before'; 0 by the template 'total and deterministic' (their statements: YtjbbgpacijageabTotals.lean).
  GIVEN WITH THE SEED: the statements are not yours to turn. If you find one false, say at which input.
  Laid BY PROGRAM, IN A SANDBOX (cutbox-rows.mjs): the forced cells as the released guide's own fill.sh prints them over the translation 8f7641ad0cd9d4e1… (all of the seat's roots in one cut). By AI agents, Wed Nov 11 2026. No macro, syntax, notation, axiom, sorry.
-/
import Derived.Test.YtjbbgpacijageabChecked
import GoSem.Claim
import GoSem.ClaimJoined
import GoSem.ClaimMapViews
import Derived.JoinedTies
import Derived.KernelRfl
namespace Go.Proofs.Ytjbbgpacijageab
/- THE CELL 'sum', in the pinned program and in every row, IS THE sha256 OF THE DUMP (.gsa) THAT YtjbbgpacijageabProg.lean LOADS. Nothing in Lean hashes anything: it is a label: what it is worth is what the hold of that sum in a sandbox is worth. -/
noncomputable def Try.pinned : Pinned := { name := "ytjbbgpacijageab", sum := "8f7641ad0cd9d4e150d21ee132aecab68c207e3b1e049463dddae3246d709e4d", checked := Try.checked }
namespace Rows
def none {H : Type} : Left H := { results := [], args := [] }

/-- 'deskmateskeep.CacheSame': WHATEVER THE INPUT: true; the input reads as it did. -/
def cacheSameSpec : ChangeSpec := { name := "cacheSame", fn := fun _ => fun
  | [d1, d2, d3] => { results := [.lit (.bool true)], args := [d1, d2, d3] }
  | _ => none }
def cacheSameRow : OpenClaim := { program := "ytjbbgpacijageab", sum := "8f7641ad0cd9d4e150d21ee132aecab68c207e3b1e049463dddae3246d709e4d", func := "deskmates/deskmateskeep.CacheSame", spec := "cacheSame", apart := false }
def CacheSameSaid : Prop := cacheSameRow.holds Try.pinned (OpenSpec.ofChange cacheSameSpec)

/-- ITS FALSE NEIGHBOUR: 'it returns false'. Refute it at one input. -/
def cacheSameWrong : ChangeSpec := { name := "cacheSame", fn := fun _ => fun
  | [d1, d2, d3] => { results := [.lit (.bool false)], args := [d1, d2, d3] }
  | _ => none }
def CacheSameWrongFalsely : Prop := cacheSameRow.holds Try.pinned (OpenSpec.ofChange cacheSameWrong)

/-- 'deskmateskeep.CacheOwns': WHATEVER THE INPUT: true; the input reads as it did. -/
def cacheOwnsSpec : ChangeSpec := { name := "cacheOwns", fn := fun _ => fun
  | [d1, d2, d3] => { results := [.lit (.bool true)], args := [d1, d2, d3] }
  | _ => none }
def cacheOwnsRow : OpenClaim := { program := "ytjbbgpacijageab", sum := "8f7641ad0cd9d4e150d21ee132aecab68c207e3b1e049463dddae3246d709e4d", func := "deskmates/deskmateskeep.CacheOwns", spec := "cacheOwns", apart := false }
def CacheOwnsSaid : Prop := cacheOwnsRow.holds Try.pinned (OpenSpec.ofChange cacheOwnsSpec)

/-- ITS FALSE NEIGHBOUR: 'it returns false'. Refute it at one input. -/
def cacheOwnsWrong : ChangeSpec := { name := "cacheOwns", fn := fun _ => fun
  | [d1, d2, d3] => { results := [.lit (.bool false)], args := [d1, d2, d3] }
  | _ => none }
def CacheOwnsWrongFalsely : Prop := cacheOwnsRow.holds Try.pinned (OpenSpec.ofChange cacheOwnsWrong)

/-- 'deskmateskeep.CacheWrites': WHATEVER THE INPUT: true; the input reads as it did. -/
def cacheWritesSpec : ChangeSpec := { name := "cacheWrites", fn := fun _ => fun
  | [d1, d2, d3, d4, d5] => { results := [.lit (.bool true)], args := [d1, d2, d3, d4, d5] }
  | _ => none }
def cacheWritesRow : OpenClaim := { program := "ytjbbgpacijageab", sum := "8f7641ad0cd9d4e150d21ee132aecab68c207e3b1e049463dddae3246d709e4d", func := "deskmates/deskmateskeep.CacheWrites", spec := "cacheWrites", apart := false }
def CacheWritesSaid : Prop := cacheWritesRow.holds Try.pinned (OpenSpec.ofChange cacheWritesSpec)

/-- ITS FALSE NEIGHBOUR: 'it returns false'. Refute it at one input. -/
def cacheWritesWrong : ChangeSpec := { name := "cacheWrites", fn := fun _ => fun
  | [d1, d2, d3, d4, d5] => { results := [.lit (.bool false)], args := [d1, d2, d3, d4, d5] }
  | _ => none }
def CacheWritesWrongFalsely : Prop := cacheWritesRow.holds Try.pinned (OpenSpec.ofChange cacheWritesWrong)

/-- 'deskmateskeep.DeskGood': WHATEVER THE INPUT: true; the input reads as it did. -/
def deskGoodSpec : ChangeSpec := { name := "deskGood", fn := fun _ => fun
  | [d1, d2, d3, d4] => { results := [.lit (.bool true)], args := [d1, d2, d3, d4] }
  | _ => none }
def deskGoodRow : OpenClaim := { program := "ytjbbgpacijageab", sum := "8f7641ad0cd9d4e150d21ee132aecab68c207e3b1e049463dddae3246d709e4d", func := "deskmates/deskmateskeep.DeskGood", spec := "deskGood", unfollowed := true, recurses := true, apart := false }
def DeskGoodSaid : Prop := deskGoodRow.holds Try.pinned (OpenSpec.ofChange deskGoodSpec)

/-- ITS FALSE NEIGHBOUR: 'it returns false'. Refute it at one input. -/
def deskGoodWrong : ChangeSpec := { name := "deskGood", fn := fun _ => fun
  | [d1, d2, d3, d4] => { results := [.lit (.bool false)], args := [d1, d2, d3, d4] }
  | _ => none }
def DeskGoodWrongFalsely : Prop := deskGoodRow.holds Try.pinned (OpenSpec.ofChange deskGoodWrong)

/-- 'deskmateskeep.DeskHidden': WHATEVER THE INPUT: true; the input reads as it did. -/
def deskHiddenSpec : ChangeSpec := { name := "deskHidden", fn := fun _ => fun
  | [d1, d2, d3] => { results := [.lit (.bool true)], args := [d1, d2, d3] }
  | _ => none }
def deskHiddenRow : OpenClaim := { program := "ytjbbgpacijageab", sum := "8f7641ad0cd9d4e150d21ee132aecab68c207e3b1e049463dddae3246d709e4d", func := "deskmates/deskmateskeep.DeskHidden", spec := "deskHidden", unfollowed := true, recurses := true, apart := false }
def DeskHiddenSaid : Prop := deskHiddenRow.holds Try.pinned (OpenSpec.ofChange deskHiddenSpec)

/-- ITS FALSE NEIGHBOUR: 'it returns false'. Refute it at one input. -/
def deskHiddenWrong : ChangeSpec := { name := "deskHidden", fn := fun _ => fun
  | [d1, d2, d3] => { results := [.lit (.bool false)], args := [d1, d2, d3] }
  | _ => none }
def DeskHiddenWrongFalsely : Prop := deskHiddenRow.holds Try.pinned (OpenSpec.ofChange deskHiddenWrong)

/-- 'deskmateskeep.DeskOther': WHATEVER THE INPUT: true; the input reads as it did. -/
def deskOtherSpec : ChangeSpec := { name := "deskOther", fn := fun _ => fun
  | [d1, d2, d3] => { results := [.lit (.bool true)], args := [d1, d2, d3] }
  | _ => none }
def deskOtherRow : OpenClaim := { program := "ytjbbgpacijageab", sum := "8f7641ad0cd9d4e150d21ee132aecab68c207e3b1e049463dddae3246d709e4d", func := "deskmates/deskmateskeep.DeskOther", spec := "deskOther", unfollowed := true, recurses := true, apart := false }
def DeskOtherSaid : Prop := deskOtherRow.holds Try.pinned (OpenSpec.ofChange deskOtherSpec)

/-- ITS FALSE NEIGHBOUR: 'it returns false'. Refute it at one input. -/
def deskOtherWrong : ChangeSpec := { name := "deskOther", fn := fun _ => fun
  | [d1, d2, d3] => { results := [.lit (.bool false)], args := [d1, d2, d3] }
  | _ => none }
def DeskOtherWrongFalsely : Prop := deskOtherRow.holds Try.pinned (OpenSpec.ofChange deskOtherWrong)

/-- 'deskmateskeep.DeskBack': WHATEVER THE INPUT: true; the input reads as it did. -/
def deskBackSpec : ChangeSpec := { name := "deskBack", fn := fun _ => fun
  | [d1, d2, d3, d4] => { results := [.lit (.bool true)], args := [d1, d2, d3, d4] }
  | _ => none }
def deskBackRow : OpenClaim := { program := "ytjbbgpacijageab", sum := "8f7641ad0cd9d4e150d21ee132aecab68c207e3b1e049463dddae3246d709e4d", func := "deskmates/deskmateskeep.DeskBack", spec := "deskBack", unfollowed := true, recurses := true, apart := false }
def DeskBackSaid : Prop := deskBackRow.holds Try.pinned (OpenSpec.ofChange deskBackSpec)

/-- ITS FALSE NEIGHBOUR: 'it returns false'. Refute it at one input. -/
def deskBackWrong : ChangeSpec := { name := "deskBack", fn := fun _ => fun
  | [d1, d2, d3, d4] => { results := [.lit (.bool false)], args := [d1, d2, d3, d4] }
  | _ => none }
def DeskBackWrongFalsely : Prop := deskBackRow.holds Try.pinned (OpenSpec.ofChange deskBackWrong)

/-- 'deskmateskeep.DeskHolds': WHATEVER THE INPUT: true; the input reads as it did. -/
def deskHoldsSpec : ChangeSpec := { name := "deskHolds", fn := fun _ => fun
  | [d1, d2, d3, d4] => { results := [.lit (.bool true)], args := [d1, d2, d3, d4] }
  | _ => none }
def deskHoldsRow : OpenClaim := { program := "ytjbbgpacijageab", sum := "8f7641ad0cd9d4e150d21ee132aecab68c207e3b1e049463dddae3246d709e4d", func := "deskmates/deskmateskeep.DeskHolds", spec := "deskHolds", unfollowed := true, recurses := true, apart := false }
def DeskHoldsSaid : Prop := deskHoldsRow.holds Try.pinned (OpenSpec.ofChange deskHoldsSpec)

/-- ITS FALSE NEIGHBOUR: 'it returns false'. Refute it at one input. -/
def deskHoldsWrong : ChangeSpec := { name := "deskHolds", fn := fun _ => fun
  | [d1, d2, d3, d4] => { results := [.lit (.bool false)], args := [d1, d2, d3, d4] }
  | _ => none }
def DeskHoldsWrongFalsely : Prop := deskHoldsRow.holds Try.pinned (OpenSpec.ofChange deskHoldsWrong)

/-- 'deskmateslaw.BenchNil': WHATEVER THE INPUT: true; the input reads as it did. -/
def benchNilSpec : ChangeSpec := { name := "benchNil", fn := fun _ => fun
  | [d] => { results := [.lit (.bool true)], args := [d] }
  | _ => none }
def benchNilRow : OpenClaim := { program := "ytjbbgpacijageab", sum := "8f7641ad0cd9d4e150d21ee132aecab68c207e3b1e049463dddae3246d709e4d", func := "deskmates/deskmateslaw.BenchNil", spec := "benchNil", unfollowed := true, recurses := true, apart := false }
def BenchNilSaid : Prop := benchNilRow.holds Try.pinned (OpenSpec.ofChange benchNilSpec)

/-- ITS FALSE NEIGHBOUR: 'it returns false'. Refute it at one input. -/
def benchNilWrong : ChangeSpec := { name := "benchNil", fn := fun _ => fun
  | [d] => { results := [.lit (.bool false)], args := [d] }
  | _ => none }
def BenchNilWrongFalsely : Prop := benchNilRow.holds Try.pinned (OpenSpec.ofChange benchNilWrong)

/- THE SECOND FORM. 'bulk': how many values and letters a reading holds, each counted each time it is reached (what is shared counts as often as it is met; a slice's spare places count too). A statement '..UptoSaid' is the law's where the arguments, and the package variables that the reading takes, are together of bulk at most 1048576: NARROWER than '..Said'. Prove '..Said' where nothing that the law and all that it calls make is longer than what came in: it says more and counts as full. Else prove '..UptoSaid'. A law counts once. -/
mutual
def uptoBulk {H : Type} : DataW H → Nat
  | .lit (.string bytes) => bytes.length + 1
  | .lit _ => 1
  | .nil => 1
  | .ptr d => uptoBulk d + 1
  | .slice elems spare => uptoBulkAll elems + uptoBulkAll spare + 1
  | .agg parts => uptoBulkAll parts + 1
  | .iface _ d => uptoBulk d + 1
  | .map entries => uptoBulkEntries entries + 1
  | .held _ => 1
def uptoBulkAll {H : Type} : List (DataW H) → Nat
  | [] => 0
  | d :: r => uptoBulk d + uptoBulkAll r
def uptoBulkEntries {H : Type} : List (Lit × DataW H) → Nat
  | [] => 0
  | x :: r => uptoBulkEntry x + uptoBulkEntries r
def uptoBulkEntry {H : Type} : Lit × DataW H → Nat
  | (.string bytes, d) => bytes.length + uptoBulk d + 1
  | (_, d) => uptoBulk d + 1
 end
def uptoSmall : (H : Type) → List (DataW H) → Bool := fun _ ds => decide (uptoBulkAll ds ≤ 1048576)
def OpenSpec.upto (s : _root_.Go.ChangeSpec) : _root_.Go.OpenSpec := { _root_.Go.OpenSpec.ofChange s with cond := some uptoSmall }

/-- 'deskmateskeep.CacheSame', WHERE WHAT IT READS IS OF BULK AT MOST 1048576: true; the input reads as it did. -/
def cacheSameUptoRow : OpenClaim := { program := "ytjbbgpacijageab", sum := "8f7641ad0cd9d4e150d21ee132aecab68c207e3b1e049463dddae3246d709e4d", func := "deskmates/deskmateskeep.CacheSame", spec := "cacheSame", apart := false, narrowed := true }
def CacheSameUptoSaid : Prop := cacheSameUptoRow.holds Try.pinned (OpenSpec.upto cacheSameSpec)

/-- 'deskmateskeep.CacheOwns', WHERE WHAT IT READS IS OF BULK AT MOST 1048576: true; the input reads as it did. -/
def cacheOwnsUptoRow : OpenClaim := { program := "ytjbbgpacijageab", sum := "8f7641ad0cd9d4e150d21ee132aecab68c207e3b1e049463dddae3246d709e4d", func := "deskmates/deskmateskeep.CacheOwns", spec := "cacheOwns", apart := false, narrowed := true }
def CacheOwnsUptoSaid : Prop := cacheOwnsUptoRow.holds Try.pinned (OpenSpec.upto cacheOwnsSpec)

/-- 'deskmateskeep.CacheWrites', WHERE WHAT IT READS IS OF BULK AT MOST 1048576: true; the input reads as it did. -/
def cacheWritesUptoRow : OpenClaim := { program := "ytjbbgpacijageab", sum := "8f7641ad0cd9d4e150d21ee132aecab68c207e3b1e049463dddae3246d709e4d", func := "deskmates/deskmateskeep.CacheWrites", spec := "cacheWrites", apart := false, narrowed := true }
def CacheWritesUptoSaid : Prop := cacheWritesUptoRow.holds Try.pinned (OpenSpec.upto cacheWritesSpec)

/-- 'deskmateskeep.DeskGood', WHERE WHAT IT READS IS OF BULK AT MOST 1048576: true; the input reads as it did. -/
def deskGoodUptoRow : OpenClaim := { program := "ytjbbgpacijageab", sum := "8f7641ad0cd9d4e150d21ee132aecab68c207e3b1e049463dddae3246d709e4d", func := "deskmates/deskmateskeep.DeskGood", spec := "deskGood", unfollowed := true, recurses := true, apart := false, narrowed := true }
def DeskGoodUptoSaid : Prop := deskGoodUptoRow.holds Try.pinned (OpenSpec.upto deskGoodSpec)

/-- 'deskmateskeep.DeskHidden', WHERE WHAT IT READS IS OF BULK AT MOST 1048576: true; the input reads as it did. -/
def deskHiddenUptoRow : OpenClaim := { program := "ytjbbgpacijageab", sum := "8f7641ad0cd9d4e150d21ee132aecab68c207e3b1e049463dddae3246d709e4d", func := "deskmates/deskmateskeep.DeskHidden", spec := "deskHidden", unfollowed := true, recurses := true, apart := false, narrowed := true }
def DeskHiddenUptoSaid : Prop := deskHiddenUptoRow.holds Try.pinned (OpenSpec.upto deskHiddenSpec)

/-- 'deskmateskeep.DeskOther', WHERE WHAT IT READS IS OF BULK AT MOST 1048576: true; the input reads as it did. -/
def deskOtherUptoRow : OpenClaim := { program := "ytjbbgpacijageab", sum := "8f7641ad0cd9d4e150d21ee132aecab68c207e3b1e049463dddae3246d709e4d", func := "deskmates/deskmateskeep.DeskOther", spec := "deskOther", unfollowed := true, recurses := true, apart := false, narrowed := true }
def DeskOtherUptoSaid : Prop := deskOtherUptoRow.holds Try.pinned (OpenSpec.upto deskOtherSpec)

/-- 'deskmateskeep.DeskBack', WHERE WHAT IT READS IS OF BULK AT MOST 1048576: true; the input reads as it did. -/
def deskBackUptoRow : OpenClaim := { program := "ytjbbgpacijageab", sum := "8f7641ad0cd9d4e150d21ee132aecab68c207e3b1e049463dddae3246d709e4d", func := "deskmates/deskmateskeep.DeskBack", spec := "deskBack", unfollowed := true, recurses := true, apart := false, narrowed := true }
def DeskBackUptoSaid : Prop := deskBackUptoRow.holds Try.pinned (OpenSpec.upto deskBackSpec)

/-- 'deskmateskeep.DeskHolds', WHERE WHAT IT READS IS OF BULK AT MOST 1048576: true; the input reads as it did. -/
def deskHoldsUptoRow : OpenClaim := { program := "ytjbbgpacijageab", sum := "8f7641ad0cd9d4e150d21ee132aecab68c207e3b1e049463dddae3246d709e4d", func := "deskmates/deskmateskeep.DeskHolds", spec := "deskHolds", unfollowed := true, recurses := true, apart := false, narrowed := true }
def DeskHoldsUptoSaid : Prop := deskHoldsUptoRow.holds Try.pinned (OpenSpec.upto deskHoldsSpec)

/-- 'deskmateslaw.BenchNil', WHERE WHAT IT READS IS OF BULK AT MOST 1048576: true; the input reads as it did. -/
def benchNilUptoRow : OpenClaim := { program := "ytjbbgpacijageab", sum := "8f7641ad0cd9d4e150d21ee132aecab68c207e3b1e049463dddae3246d709e4d", func := "deskmates/deskmateslaw.BenchNil", spec := "benchNil", unfollowed := true, recurses := true, apart := false, narrowed := true }
def BenchNilUptoSaid : Prop := benchNilUptoRow.holds Try.pinned (OpenSpec.upto benchNilSpec)

end Rows
end Go.Proofs.Ytjbbgpacijageab
