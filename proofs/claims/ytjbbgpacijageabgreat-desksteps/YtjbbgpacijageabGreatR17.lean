/- The document's own functions on desks: lines let go, kicks. -/
import Derived.Test.YtjbbgpacijageabGreatR15
import Derived.Test.YtjbbgpacijageabGreatUL
import Derived.Test.YtjbbgpacijageabGreatR10
namespace Go.Proofs.YtjbbgpacijageabGreat.M
open Go.RowKit
set_option linter.unusedVariables false
set_option linter.unusedSimpArgs false

theorem ref_bad {d : deskT.D} {c : Int} (h : (!goodK d) = true) : refF d c = 1 := by
  unfold refF
  rw [if_neg (show ¬ goodK d = true by rw [not_t' h]; decide)]
theorem ref_out {d : deskT.D} {c : Int} (h : (!goodK d) = false) (g : ¬ (0 ≤ c ∧ c < 2)) : refF d c = 5 := by
  unfold refF
  rw [if_pos (not_f h), if_neg g]
theorem ref_in {d : deskT.D} {c : Int} (h : (!goodK d) = false) (g : 0 ≤ c ∧ c < 2) : refF d c = 0 := by
  unfold refF
  rw [if_pos (not_f h), if_pos g]
theorem abort_in {d : deskT.D} {c : Int} (h : (!goodK d) = false) (g : 0 ≤ c ∧ c < 2) (hd : 0 < (d.1 c.toNat).2.2.1) (l : List instrT.D) (why : Int) : (abortF d l c why).1 = setCore d c.toNat (failC (d.1 c.toNat) l why) := by
  unfold abortF
  rw [if_pos (ref_in h g), if_neg (fun e => by rw [e] at hd; exact absurd hd (by decide))]
end Go.Proofs.YtjbbgpacijageabGreat.M
