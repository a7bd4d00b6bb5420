/- Desks: transactions that fail. -/
import Derived.Test.YtjbbgpacijageabH2
namespace Go.Proofs.Ytjbbgpacijageab.M
open Go.RowKit
set_option linter.unusedVariables false
set_option linter.unusedSimpArgs false

def failP (x : coreT.D) (l : List instrT.D) (why : Int) : plainT.D := ((putF x.2.2.2.1 (fetchF l x.2.2.2.1).2.1 why).1, (fetchF l x.2.2.2.1).2.2.2.2, (putF x.2.2.2.1 (fetchF l x.2.2.2.1).2.1 why).2.2)
theorem failC_eq (x : coreT.D) (l : List instrT.D) (why : Int) : failC x l why = (failP x l why, (freedF x).2) := rfl
theorem failP_good {x : coreT.D} (h : goodP x.2.2.2.1 = true) (l : List instrT.D) (why : Int) : goodP (failP x l why) = true := by
  have h1 := good_put h (fetchF l x.2.2.2.1).2.1 why
  have h2 := goodI_n (fetch_ok l x.2.2.2.1)
  unfold failP
  rw [show putF x.2.2.2.1 (fetchF l x.2.2.2.1).2.1 why = ((putF x.2.2.2.1 (fetchF l x.2.2.2.1).2.1 why).1, (putF x.2.2.2.1 (fetchF l x.2.2.2.1).2.1 why).2.1, (putF x.2.2.2.1 (fetchF l x.2.2.2.1).2.1 why).2.2) from rfl, goodP_iff] at h1
  rw [goodP_iff]
  exact ⟨h1.1, h2, h1.2.2⟩
theorem fail_same {d : deskT.D} (hg : goodD d = true) (k : Nat) (l : List instrT.D) (why : Int) : SameL d (setCore d k (failC (d.1 k) l why)) := by
  rw [failC_eq]
  exact sameL_freed hg
theorem fail_good {d : deskT.D} (hg : goodK d = true) {k : Nat} (hk : k < 2) (hd : (d.1 k).2.2.1 ≠ 0) (l : List instrT.D) (why : Int) : goodK (setCore d k (failC (d.1 k) l why)) = true := by
  refine goodK_set hg ?_ (fail_same (goodK_D hg) k l why)
  rw [failC_eq]
  exact free_ok (failP_good ((((goodK_iff d).1 hg).1 k hk).ins hd).1 l why)
theorem eqD_refl : ∀ (t : Ty), t.nolst = true → ∀ a : t.D, eqT t a a = true
  | .int, _, a => decide_eq_true rfl
  | .bool, _, a => decide_eq_true rfl
  | .one t, h, a => eqD_refl t h a
  | .pair s t, h, a => by
    simp only [Ty.nolst, Bool.and_eq_true] at h
    show (eqT s a.1 a.1 && eqT t a.2 a.2) = true
    rw [eqD_refl s h.1, eqD_refl t h.2]
    rfl
  | .arr n t, h, f => by
    show ((List.range n).all fun i => eqT t (f i) (f i)) = true
    rw [List.all_eq_true]
    exact fun i _ => eqD_refl t h (f i)
  | .lst t, h, a => by cases h
theorem vals_same {d e : deskT.D} (h : ∀ n : Int, valF e n = valF d n) : eqT (Ty.arr 32 .int) (fun q => valF e (q : Nat)) (fun q => valF d (q : Nat)) = true := by
  rw [show (fun q : Nat => valF e (q : Int)) = (fun q : Nat => valF d (q : Int)) from funext fun q => h q]
  exact eqD_refl _ rfl _
end Go.Proofs.Ytjbbgpacijageab.M
