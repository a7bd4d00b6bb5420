/- The law DeskSteps. -/
import Derived.Test.YtjbbgpacijageabGreatDF
import Derived.Test.YtjbbgpacijageabGreatSO8
namespace Go.Proofs.YtjbbgpacijageabGreat.M
open Go.RowKit
set_option linter.unusedVariables false
set_option linter.unusedSimpArgs false

abbrev stFn := Nat → deskT.D → progsT.D → Int → deskT.D × Rec × Int
abbrev stS (E : stFn) : Spec := actS [.int] fun nn d l a => E nn d l a.1
abbrev soS' (E : stFn) : Spec := soS [.int] fun d l a => E 0 d l a.1
theorem nh_hds (nn : Nat) (D : deskT.D) : nhD (hdsD nn D) = nhD D := rfl
structure Ss (E : stFn) (G : deskT.D → Bool) : Prop where
  e : ∀ nn mm kk d l c, nhD (E kk (copyF nn d) (progF mm l) c).1 = nhD (E 0 d l c).1 ∧ (E kk (copyF nn d) (progF mm l) c).2 = (E 0 d l c).2
  g : ∀ nn d, G (copyF nn d) = G d
theorem ss_ok : Ss stepF goodK := by
  refine ⟨fun nn mm kk d l c => ?_, fun nn d => ?_⟩
  · have h1 := nh_step kk 0 (copyF nn d) (progF mm l) c
    have h2 := nh_step 0 0 d l c
    rw [nh_copy, nh_prog] at h1
    exact ⟨h1.d.trans h2.d.symm, h1.r.trans h2.r.symm⟩
  · rw [← nh_goodK, nh_copy, nh_goodK]
set_option maxRecDepth 4000 in
set_option maxHeartbeats 6400000 in
theorem c_DeskSteps : Ctr Tryz.prog 3 (lawZ [deskT, progsT, .int]) := by
  obtain ⟨E, G, hF, cE, cE', cG, cG'⟩ : ∃ (E : stFn) (G : deskT.D → Bool), Ss E G ∧ Ctr Tryz.prog 7 (stS E) ∧ Ctr Tryz.prog 9 (soS' E) ∧ Ctr Tryz.prog 12 (gdS G) ∧ Ctr Tryz.prog 13 (gdS G) :=
    ⟨stepF, goodK, ss_ok, c_Step, c_StepOf, c_dGood, c_IsDesk⟩
  refine ctr_of tabOk (SpecsOk.cons c_CopyDesk (by kernel_rfl) (SpecsOk.cons cE (by kernel_rfl) (SpecsOk.cons cE' (by kernel_rfl) (SpecsOk.cons cG (by kernel_rfl) (SpecsOk.cons cG' (by kernel_rfl) (SpecsOk.cons c_SameDesk (by kernel_rfl) (SpecsOk.cons c_SameRecords (by kernel_rfl) (SpecsOk.cons c_programs (by kernel_rfl) (SpecsOk.cons c_lSteps (by kernel_rfl) (SpecsOk.nil _)))))))))) Tryz.func3 rfl _ (Nat.le_of_ble_eq_true rfl) (fun _ _ => rfl) ?_
  rintro nn ⟨d, l, c, ⟨⟩⟩ hpre hb
  have he := fun mm kk => hF.e nn mm kk d l c
  have hs2 : ∀ mm kk jj, sameD (E kk (copyF nn d) (progF mm l) c).1 (hdsD jj (E 0 d l c).1) = true := fun mm kk jj => sameD_nh ((he mm kk).1.trans (nh_hds jj _).symm)
  have hs4 : sameD (copyF nn d) d = true := sameD_nh (nh_copy nn d)
  have hr2 : ∀ mm kk, sameR (E kk (copyF nn d) (progF mm l) c).2.1 (E 0 d l c).2.1 = true := fun mm kk => by rw [(he mm kk).2]; exact sameR_refl _
  have hx2 : ∀ mm kk, (E kk (copyF nn d) (progF mm l) c).2.2 = (E 0 d l c).2.2 := fun mm kk => by rw [(he mm kk).2]
  have hg2 := hF.g nn d
  refine ⟨200, init_k fun K1 n1 => ?_⟩
  conv => whnf
  refine n1 _ ?_
  clear n1 K1
  repeat' (first | (with_reducible first | refine seq_k fun K1 n1 => ?_ | refine seq_nil ?_ | refine drw_k fun K1 n1 => ?_ | refine drw_nil ?_ ?_ | refine bar_k fun K1 n1 => ?_ | refine run_seq ?_ | refine run_skip ?_ | refine run_regS ?_ | refine run_regD (by with_unfolding_all rfl) ?_ ?_ | refine inl_k (by with_unfolding_all rfl) (Nat.le_of_ble_eq_true rfl) fun K1 n1 => ?_ | refine inlA_k (by with_unfolding_all rfl) (Nat.le_of_ble_eq_true rfl) fun K1 n1 => ?_ | refine run_finA ?_ | refine run_cond ?_ | refine run_block ?_ | refine run_endb ?_ | refine run_exit fun K1 n1 => ?_ | refine run_ret fun K1 n1 => ?_ | refine run_fin ?_ | refine run_inv ?_ | refine go_rounds ?_) | ((with_reducible refine Go.mk ?_); (conv => whnf)) | refine Fork.yes ?_ | refine Fork.no ?_ | refine Fork.dec (fun _ => ?_) (fun _ => ?_) | refine Fork.ndec (fun _ => ?_) (fun _ => ?_) | refine Fork.mk (fun _ => ?_) (fun _ => ?_) | refine Way.yesG ?_ | refine Way.noG ?_ | refine Way.decG (fun _ => ?_) (fun _ => ?_) | refine Way.ndecG (fun _ => ?_) (fun _ => ?_) | refine Way.mkG (fun _ => ?_) (fun _ => ?_) | (with_reducible first | refine Need.mkG ?_ ?_) | refine AppW.go0 ?_ ?_ | refine AppW.go1 ?_ ?_ | (with_reducible first | refine NilW.goG (fun _ => ?_) ?_) | ((with_reducible refine n1 _ _ _ ?_); clear n1 K1) | ((with_reducible refine n1 _ ?_); clear n1 K1) | ((with_reducible refine n1 _ _ ?_); clear n1 K1) | ((with_reducible refine n1 _ _ _ _ ?_); clear n1 K1) | fail)
  all_goals try (first | exact trivial | omega | kernel_rfl | decide | exact And.intro (by omega) (by omega))
  all_goals try dsimp only [Int.toNat_natCast] at *
  all_goals try (first | exact trivial | omega | exact And.intro (by omega) (by omega))
  all_goals first
    | exact hpre.1
    | exact hpre.2.1
    | exact Done.of rfl (Or.inl rfl)
    | (exfalso; rename_i g; rw [hs2] at g; cases g; done)
    | (exfalso; rename_i g; rw [hr2] at g; cases g; done)
    | (exfalso; rename_i g; exact g (hx2 _ _))
    | (exfalso; rename_i g; exact g hg2)
    | (exfalso; rename_i g; rw [hs4] at g; cases g; done)
    | trace_state
end Go.Proofs.YtjbbgpacijageabGreat.M
