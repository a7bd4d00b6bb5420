/- Package deskmatestop: desks and records alike. -/
import Derived.Test.YtjbbgpacijageabGreatX1
import Derived.Test.YtjbbgpacijageabGreatR4a
import Derived.Test.YtjbbgpacijageabGreatO1
namespace Go.Proofs.YtjbbgpacijageabGreat.M
open Go.RowKit
set_option linter.unusedVariables false
set_option linter.unusedSimpArgs false

def sameR (a b : List recordT.D) : Bool := decide (a.length = b.length) && (List.range a.length).all fun k => eqT recordT (nthD recordT a k) (nthD recordT b k)
abbrev sameRS : Spec := pureS [.lst recordT, .lst recordT] [.bool] fun d => (sameR d.1.2 d.2.1.2, ())
theorem sameR_refl (a : List recordT.D) : sameR a a = true := by
  unfold sameR
  rw [decide_eq_true rfl, List.all_eq_true.2 (fun k _ => eqD_refl recordT rfl _)]
  rfl
theorem sameC_nh {a b : coreT.D} (h : nhC a = nhC b) : sameC a b = true := by
  have e1 : a.1 = b.1 := by have g := congrArg (fun x : coreT.D => x.1) h; exact g
  have e2 : a.2.1 = b.2.1 := by have g := congrArg (fun x : coreT.D => x.2.1) h; exact g
  have e3 : a.2.2.1 = b.2.2.1 := by have g := congrArg (fun x : coreT.D => x.2.2.1) h; exact g
  have e4 : a.2.2.2.1 = b.2.2.2.1 := by have g := congrArg (fun x : coreT.D => x.2.2.2.1) h; exact g
  have e5 : a.2.2.2.2.1.2 = b.2.2.2.2.1.2 := by have g := congrArg (fun x : coreT.D => x.2.2.2.2.1.2) h; exact g
  have e6 : a.2.2.2.2.2 = b.2.2.2.2.2 := by have g := congrArg (fun x : coreT.D => x.2.2.2.2.2) h; exact g
  unfold sameC
  rw [e1, e2, e3, e4, e5, e6, eqD_refl plainT rfl, eqD_refl (.arr 4 lineT) rfl, eqD_refl plainT rfl, decide_eq_true rfl, decide_eq_true rfl, decide_eq_true rfl, List.all_eq_true.2 (fun k _ => eqD_refl writeT rfl _)]
  rfl
theorem sameD_nh {a b : deskT.D} (h : nhD a = nhD b) : sameD a b = true := by
  unfold sameD
  have hm : a.2 = b.2 := by have g := congrArg (fun x : deskT.D => x.2) h; exact g
  rw [sameC_nh (al_core h 0), sameC_nh (al_core h 1), hm, eqD_refl (.arr 32 .int) rfl]
  rfl
end Go.Proofs.YtjbbgpacijageabGreat.M
