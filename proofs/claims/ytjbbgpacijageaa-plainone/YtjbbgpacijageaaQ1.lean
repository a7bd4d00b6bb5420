/- The laws of stage 2, against the document's own answer: helps, one instruction. -/
import Derived.Test.YtjbbgpacijageaaR7
import Derived.Test.YtjbbgpacijageaaO1
namespace Go.Proofs.Ytjbbgpacijageaa.M
open Go.RowKit
set_option linter.unusedVariables false
set_option linter.unusedSimpArgs false

abbrev allFn := List instrT.D → plainT.D → (Nat → Int) → Int → plainT.D × (Nat → Int) × Int
abbrev allSf (F : allFn) : Spec := pureS [.lst instrT, plainT, memT, .int] [plainT, memT, .int] fun d => ((F d.1.2 d.2.1 d.2.2.1 d.2.2.2.1).1, (F d.1.2 d.2.1 d.2.2.1 d.2.2.2.1).2.1, (F d.1.2 d.2.1 d.2.2.1 d.2.2.2.1).2.2, ())
abbrev runL : List instrT.D := ownL instrT (updA (updA (updA (Ty.arr 3 instrT).zero 0 (9, instrT.zero.2)) 1 (6, instrT.zero.2.1, instrT.zero.2.2.1, instrT.zero.2.2.2.1, 5)) 2 (10, instrT.zero.2)) 0 3
theorem runs1 : (allF runL plainT.zero (updA (Ty.arr 32 .int).zero 5 7) 3).2.2 = 0 := by kernel_rfl
theorem runs2 : (allF runL plainT.zero (updA (Ty.arr 32 .int).zero 5 7) 3).1.2.1 = 3 := by kernel_rfl
theorem runs3 : (allF runL plainT.zero (updA (Ty.arr 32 .int).zero 5 7) 3).2.1 (Int.toNat 5) = 0 := by kernel_rfl
theorem eqT_refl : ∀ (t : Ty), t.nolst = true → ∀ a : t.D, eqT t a a = true
  | .int, _, a => decide_eq_true rfl
  | .bool, _, a => decide_eq_true rfl
  | .one t, h, a => eqT_refl t h a
  | .pair s t, h, a => by
    simp only [Ty.nolst, Bool.and_eq_true] at h
    show (eqT s a.1 a.1 && eqT t a.2 a.2) = true
    rw [eqT_refl s h.1, eqT_refl t h.2]
    rfl
  | .arr n t, h, f => by
    show ((List.range n).all fun i => eqT t (f i) (f i)) = true
    rw [List.all_eq_true]
    exact fun i _ => eqT_refl t h (f i)
  | .lst t, h, a => by cases h
theorem c_runs : Ctr Try.prog 35 (lawS []) := by
  obtain ⟨F, hF, cF⟩ : ∃ F : allFn, F = allF ∧ Ctr Try.prog 36 (allSf F) := ⟨allF, rfl, c_All⟩
  refine ctr_of tabOk (SpecsOk.cons cF (by kernel_rfl) (SpecsOk.nil _)) Try.func35 rfl _ (Nat.le_of_ble_eq_true rfl) (fun _ _ => rfl) ?_
  rintro nn ⟨⟩ _ _
  refine ⟨200, init_k fun K1 n1 => ?_⟩
  conv => whnf
  refine n1 _ ?_
  clear n1 K1
  repeat' (first | with_reducible refine seq_k fun K1 n1 => ?_ | with_reducible refine seq_nil ?_ | with_reducible refine drw_k fun K1 n1 => ?_ | with_reducible refine drw_nil ?_ ?_ | with_reducible refine run_seq ?_ | with_reducible refine run_skip ?_ | with_reducible refine run_regS ?_ | with_reducible refine run_regD (by kernel_rfl) ?_ ?_ | with_reducible refine inl_k (by with_unfolding_all rfl) (Nat.le_of_ble_eq_true rfl) fun K1 n1 => ?_ | with_reducible refine inlA_k (by with_unfolding_all rfl) (Nat.le_of_ble_eq_true rfl) fun K1 n1 => ?_ | with_reducible refine run_finA ?_ | with_reducible refine run_cond ?_ | with_reducible refine run_block ?_ | with_reducible refine run_endb ?_ | with_reducible refine run_exit fun K1 n1 => ?_ | with_reducible refine run_ret fun K1 n1 => ?_ | with_reducible refine run_fin ?_ | with_reducible refine run_inv ?_ | with_reducible refine go_rounds ?_ | ((with_reducible refine Go.mk ?_); (conv => whnf)) | refine Fork.yes ?_ | refine Fork.no ?_ | refine Fork.dec (fun _ => ?_) (fun _ => ?_) | refine Fork.ndec (fun _ => ?_) (fun _ => ?_) | refine Fork.mk (fun _ => ?_) (fun _ => ?_) | refine Way.yesG ?_ | refine Way.noG ?_ | refine Way.decG (fun _ => ?_) (fun _ => ?_) | refine Way.ndecG (fun _ => ?_) (fun _ => ?_) | refine Way.mkG (fun _ => ?_) (fun _ => ?_) | with_reducible refine Need.mkG ?_ ?_ | refine AppW.go0 ?_ ?_ | with_reducible refine NilW.goG (fun _ => ?_) ?_ | ((with_reducible refine n1 _ _ _ ?_); clear n1 K1) | ((with_reducible refine n1 _ ?_); clear n1 K1) | ((with_reducible refine n1 _ _ ?_); clear n1 K1) | ((with_reducible refine n1 _ _ _ _ ?_); clear n1 K1) | fail)
  all_goals try (first | exact trivial | omega | kernel_rfl | decide | exact And.intro (by omega) (by omega))
  all_goals try dsimp only [Int.toNat_natCast] at *
  all_goals try (first | exact trivial | omega | exact And.intro (by omega) (by omega))
  all_goals
    have r1 : (F runL plainT.zero (updA (Ty.arr 32 .int).zero 5 7) 3).2.2 = 0 := by rw [hF]; exact runs1
    have r2 : (F runL plainT.zero (updA (Ty.arr 32 .int).zero 5 7) 3).1.2.1 = 3 := by rw [hF]; exact runs2
    have r3 : (F runL plainT.zero (updA (Ty.arr 32 .int).zero 5 7) 3).2.1 (Int.toNat 5) = 0 := by rw [hF]; exact runs3
    clear hF
  · rw [decide_eq_true r3]
    exact Done.of rfl (Or.inl rfl)
  · rename_i h
    exact absurd r2 h
  · rename_i h
    exact absurd r1 h
theorem c_PlainOne : Ctr Try.prog 7 (lawZ [.lst instrT, plainT, memT, .int]) := by
  refine ctr_of tabOk (SpecsOk.cons c_runs (by kernel_rfl) (SpecsOk.cons c_One (by kernel_rfl) (SpecsOk.cons c_OneOf (by kernel_rfl) (SpecsOk.cons c_Failed (by kernel_rfl) (SpecsOk.cons c_FailedOf (by kernel_rfl) (SpecsOk.nil _)))))) Try.func7 rfl _ (Nat.le_of_ble_eq_true rfl) (fun _ _ => rfl) ?_
  rintro nn ⟨⟨hd, xs⟩, p, m, (why : Int), ⟨⟩⟩ hpre hb
  refine ⟨200, init_k fun K1 n1 => ?_⟩
  conv => whnf
  refine n1 _ ?_
  clear n1 K1
  repeat' (first | with_reducible refine seq_k fun K1 n1 => ?_ | with_reducible refine seq_nil ?_ | with_reducible refine drw_k fun K1 n1 => ?_ | with_reducible refine drw_nil ?_ ?_ | with_reducible refine run_seq ?_ | with_reducible refine run_skip ?_ | with_reducible refine run_regS ?_ | with_reducible refine run_regD (by kernel_rfl) ?_ ?_ | with_reducible refine inl_k (by with_unfolding_all rfl) (Nat.le_of_ble_eq_true rfl) fun K1 n1 => ?_ | with_reducible refine inlA_k (by with_unfolding_all rfl) (Nat.le_of_ble_eq_true rfl) fun K1 n1 => ?_ | with_reducible refine run_finA ?_ | with_reducible refine run_cond ?_ | with_reducible refine run_block ?_ | with_reducible refine run_endb ?_ | with_reducible refine run_exit fun K1 n1 => ?_ | with_reducible refine run_ret fun K1 n1 => ?_ | with_reducible refine run_fin ?_ | with_reducible refine run_inv ?_ | with_reducible refine go_rounds ?_ | ((with_reducible refine Go.mk ?_); (conv => whnf)) | refine Fork.yes ?_ | refine Fork.no ?_ | refine Fork.dec (fun _ => ?_) (fun _ => ?_) | refine Fork.ndec (fun _ => ?_) (fun _ => ?_) | refine Fork.mk (fun _ => ?_) (fun _ => ?_) | refine Way.yesG ?_ | refine Way.noG ?_ | refine Way.decG (fun _ => ?_) (fun _ => ?_) | refine Way.ndecG (fun _ => ?_) (fun _ => ?_) | refine Way.mkG (fun _ => ?_) (fun _ => ?_) | with_reducible refine Need.mkG ?_ ?_ | refine AppW.go0 ?_ ?_ | with_reducible refine NilW.goG (fun _ => ?_) ?_ | ((with_reducible refine n1 _ _ _ ?_); clear n1 K1) | ((with_reducible refine n1 _ ?_); clear n1 K1) | ((with_reducible refine n1 _ _ ?_); clear n1 K1) | ((with_reducible refine n1 _ _ _ _ ?_); clear n1 K1) | fail)
  all_goals try (first | exact trivial | omega | kernel_rfl | decide | exact And.intro (by omega) (by omega))
  all_goals try dsimp only [Int.toNat_natCast] at *
  all_goals try (first | exact trivial | omega | exact And.intro (by omega) (by omega))
  · exact hpre.1.1
  · exact hpre.1.1
  · exact Done.of rfl (Or.inl rfl)
  all_goals
    exfalso
    have e1 := eqT_refl plainT rfl (oneF xs p m).1
    have e2 := eqT_refl memT rfl (oneF xs p m).2.1
    have e3 := eqT_refl plainT rfl (failedF xs p why).1
    simp_all
end Go.Proofs.Ytjbbgpacijageaa.M
