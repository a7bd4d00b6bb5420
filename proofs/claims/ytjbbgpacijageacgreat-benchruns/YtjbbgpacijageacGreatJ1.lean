/- Package deskmateskeep: a run of steps. -/
import Derived.Test.YtjbbgpacijageacGreatUI
import Derived.Test.YtjbbgpacijageacGreatR4a
import Derived.Test.YtjbbgpacijageacGreatO1
namespace Go.Proofs.YtjbbgpacijageacGreat.M
open Go.RowKit
set_option linter.unusedVariables false
set_option linter.unusedSimpArgs false

abbrev stL : List instrT.D := ownL instrT (updA (updA (updA (updA (Ty.arr 4 instrT).zero 0 (9, instrT.zero.2)) 1 (1, 1, instrT.zero.2.2.1, instrT.zero.2.2.2.1, 4)) 2 (6, 1, instrT.zero.2.2.1, instrT.zero.2.2.2.1, 5)) 3 (10, instrT.zero.2)) 0 4
abbrev stP (nn : Nat) : progsT.D := updA (Ty.arr 2 (.lst instrT)).zero 0 (Hd.nm nn, stL)
def nk (nn k : Nat) : Nat := nn + 1 + 2 * k + (if k = 4 then 2 else 0)
def dk (nn : Nat) : Nat → deskT.D
  | 0 => deskT.zero
  | k + 1 => (stepF (nk nn k) (dk nn k) (stP nn) 0).1
def stK (nn k : Nat) : deskT.D × Rec × Int := stepF (nk nn k) (dk nn k) (stP nn) 0
theorem st0 (nn : Nat) : (stK nn 0).2.2 = 0 ∧ (stK nn 0).2.1.length = 0 := ⟨by kernel_rfl, by kernel_rfl⟩
theorem st1 (nn : Nat) : (stK nn 1).2.2 = 0 ∧ (stK nn 1).2.1.length = 0 := ⟨by kernel_rfl, by kernel_rfl⟩
theorem st2 (nn : Nat) : (stK nn 2).2.2 = 0 ∧ (stK nn 2).2.1.length = 0 := ⟨by kernel_rfl, by kernel_rfl⟩
theorem st3 (nn : Nat) : (stK nn 3).2.2 = 0 ∧ (stK nn 3).2.1.length = 1 := ⟨by kernel_rfl, by kernel_rfl⟩
theorem st4 (nn : Nat) : valF (dk nn 4) 5 = 4 := by kernel_rfl
theorem stAll (nn k : Nat) (h : k < 4) : (stK nn k).2.2 = 0 ∧ (stK nn k).2.1.length = if k = 3 then 1 else 0 := by
  have : k = 0 ∨ k = 1 ∨ k = 2 ∨ k = 3 := by omega
  rcases this with rfl | rfl | rfl | rfl
  · exact st0 nn
  · exact st1 nn
  · exact st2 nn
  · exact st3 nn
end Go.Proofs.YtjbbgpacijageacGreat.M
