/- The document's own step of a desk, by the kind of instruction. -/
import Derived.Test.YtjbbgpacijageabGreatSO3
import Derived.Test.YtjbbgpacijageabGreatSO45
import Derived.Test.YtjbbgpacijageabGreatSO46
import Derived.Test.YtjbbgpacijageabGreatSO47
namespace Go.Proofs.YtjbbgpacijageabGreat.M
open Go.RowKit
set_option linter.unusedVariables false
set_option linter.unusedSimpArgs false

abbrev StAt (t0 t1 t2 : Ty) (v0 : t0.D) (v1 : t1.D) (v2 : t2.D) (D : deskT.D) (l : progsT.D) (c : Int) (i : instrT.D) (n : Nat) (tk : List (Hd × Nat)) : Prop :=
  ∀ K : SV → List V → NS → Prop, (∀ n' D' H' R', n ≤ n' → AlX (D', R') (stepsF 0 D l c) → K (.tup []) [.leaf t0 v0, .leaf t1 v1, .leaf t2 v2, .leaf workT (D', l, (H', R'))] ⟨n', []⟩) → wstepTr [.ptr 3 0 [] workT, .of (.leaf .int c), .of (.leaf instrT i)] [.leaf t0 v0, .leaf t1 v1, .leaf t2 v2, .leaf workT (D, l, (nilH, []))] ⟨n, ((D.1 0).2.2.2.2.1.1, 2) :: ((D.1 1).2.2.2.2.1.1, 2) :: (nilH, 3) :: tk⟩ K
theorem st_end {t0 t1 t2 : Ty} {v0 : t0.D} {v1 : t1.D} {v2 : t2.D}  {D : deskT.D} {l : progsT.D} {c : Int} {n : Nat} {K : SV → List V → NS → Prop} (h : ∀ n' D' H' R', n ≤ n' → AlX (D', R') (stepsF 0 D l c) → K (.tup []) [.leaf t0 v0, .leaf t1 v1, .leaf t2 v2, .leaf workT (D', l, (H', R'))] ⟨n', []⟩) {v : V} {junk : List V} {n' : Nat} {tk' : List (Hd × Nat)} {D' : deskT.D} {H' : Hd} {R' : Rec} (hv : v.norm = .leaf workT (D', l, (H', R'))) (hx : AlX (D', R') (stepsF 0 D l c)) (hn : n ≤ n') :
    LaxE 4 K (.tup []) (.leaf t0 v0 :: .leaf t1 v1 :: .leaf t2 v2 :: v :: junk) ⟨n', tk'⟩ := by
  refine LaxE.mk' 4 n' [] (Nat.le_refl _) (by simp only [List.length_cons]; omega) rfl (Nat.le_refl _) (TkLe.nil _) ?_
  show K _ [.leaf t0 v0, .leaf t1 v1, .leaf t2 v2, v.norm] _
  rw [hv]
  exact h n' D' H' R' hn hx
end Go.Proofs.YtjbbgpacijageabGreat.M
