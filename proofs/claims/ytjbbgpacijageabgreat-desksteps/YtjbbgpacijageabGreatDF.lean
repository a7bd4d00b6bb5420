/- The law DeskFails. -/
import Derived.Test.YtjbbgpacijageabGreatR11
import Derived.Test.YtjbbgpacijageabGreatR15
import Derived.Test.YtjbbgpacijageabGreatR16
import Derived.Test.YtjbbgpacijageabGreatR17
import Derived.Test.YtjbbgpacijageabGreatSDr
import Derived.Test.YtjbbgpacijageabGreatJ1l
import Derived.Test.YtjbbgpacijageabGreatPg
import Derived.Test.YtjbbgpacijageabGreatX1
namespace Go.Proofs.YtjbbgpacijageabGreat.M
open Go.RowKit
set_option linter.unusedVariables false
set_option linter.unusedSimpArgs false

theorem nh_copy (nn : Nat) (d : deskT.D) : nhD (copyF nn d) = nhD d := by
  refine Prod.ext (funext fun k => ?_) rfl
  show nhC (updA (updA d.1 0 _) 1 _ k) = nhC (d.1 k)
  unfold updA
  by_cases h1 : k = 1
  · rw [if_pos h1, h1]
    rfl
  · rw [if_neg h1]
    by_cases h0 : k = 0
    · rw [if_pos h0, h0]
      rfl
    · rw [if_neg h0]
theorem nh_prog (nn : Nat) (l : progsT.D) : nhP (progF nn l) = nhP l := by
  funext k
  show (nilH, (progF nn l k).2) = (nilH, (l k).2)
  rw [prog_at]
structure AlA (x y : deskT.D × Int) : Prop where
  d : nhD x.1 = nhD y.1
  e : x.2 = y.2
abbrev abFn := deskT.D → List instrT.D → Int → Int → deskT.D × Int
abbrev evFn := deskT.D → progsT.D → Int → Int → deskT.D × Rec × Int
abbrev kiFn := deskT.D → progsT.D → Int → deskT.D × Rec × Int
abbrev gdS (G : deskT.D → Bool) : Spec := pureS [deskT] [.bool] fun d => (G d.1, ())
structure Fs (A : abFn) (E : evFn) (K : kiFn) (G : deskT.D → Bool) (O : deskT.D → Int → Int → Bool) : Prop where
  a : ∀ nn d l c why, nhD (A (copyF nn d) l c why).1 = nhD (A d l c why).1 ∧ (A (copyF nn d) l c why).2 = (A d l c why).2
  e : ∀ nn mm d l c n, nhD (E (copyF nn d) (progF mm l) c n).1 = nhD (E d l c n).1 ∧ (E (copyF nn d) (progF mm l) c n).2 = (E d l c n).2
  k : ∀ nn mm d l c, nhD (K (copyF nn d) (progF mm l) c).1 = nhD (K d l c).1 ∧ (K (copyF nn d) (progF mm l) c).2 = (K d l c).2
  o : ∀ nn d c n, O (copyF nn d) c n = O d c n
end Go.Proofs.YtjbbgpacijageabGreat.M
