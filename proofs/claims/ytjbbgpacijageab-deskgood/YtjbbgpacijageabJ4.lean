/- The law DeskGood. -/
import Derived.Test.YtjbbgpacijageabJ3
import Derived.Test.YtjbbgpacijageabUM
namespace Go.Proofs.Ytjbbgpacijageab.M
open Go.RowKit
set_option linter.unusedVariables false
set_option linter.unusedSimpArgs false

set_option maxHeartbeats 1600000 in
theorem c_DeskGood : Ctr Try.prog 6 (lawS [deskT, .arr 2 (.lst instrT), .int, .int]) := by
  refine ctr_of tabOk (SpecsOk.cons c_kSteps (by kernel_rfl) (SpecsOk.cons c_kSame (by kernel_rfl) (SpecsOk.cons c_Step (by kernel_rfl) (SpecsOk.cons c_Evict (by kernel_rfl) (SpecsOk.cons c_Kick (by kernel_rfl) (SpecsOk.cons c_dGood (by kernel_rfl) (SpecsOk.nil _))))))) Try.func6 rfl _ (Nat.le_of_ble_eq_true rfl) (fun _ _ => rfl) ?_
  rintro nn ⟨d, l, (c : Int), (way : Int), ⟨⟩⟩ _ hb
  refine ⟨200, init_k fun K1 n1 => ?_⟩
  conv => whnf
  refine n1 _ ?_
  clear n1 K1
  repeat' (first | with_reducible refine seq_k fun K1 n1 => ?_ | with_reducible refine seq_nil ?_ | with_reducible refine drw_k fun K1 n1 => ?_ | with_reducible refine drw_nil ?_ ?_ | with_reducible refine run_seq ?_ | with_reducible refine run_skip ?_ | with_reducible refine run_regS ?_ | with_reducible refine run_regD (by kernel_rfl) ?_ ?_ | with_reducible refine inl_k (by with_unfolding_all rfl) (Nat.le_of_ble_eq_true rfl) fun K1 n1 => ?_ | with_reducible refine inlA_k (by with_unfolding_all rfl) (Nat.le_of_ble_eq_true rfl) fun K1 n1 => ?_ | with_reducible refine run_finA ?_ | with_reducible refine run_cond ?_ | with_reducible refine run_block ?_ | with_reducible refine run_endb ?_ | with_reducible refine run_exit fun K1 n1 => ?_ | with_reducible refine run_ret fun K1 n1 => ?_ | with_reducible refine run_fin ?_ | with_reducible refine run_inv ?_ | with_reducible refine go_rounds ?_ | ((with_reducible refine Go.mk ?_); (conv => whnf)) | refine Fork.yes ?_ | refine Fork.no ?_ | refine Fork.dec (fun _ => ?_) (fun _ => ?_) | refine Fork.ndec (fun _ => ?_) (fun _ => ?_) | refine Fork.mk (fun _ => ?_) (fun _ => ?_) | refine Way.yesG ?_ | refine Way.noG ?_ | refine Way.decG (fun _ => ?_) (fun _ => ?_) | refine Way.ndecG (fun _ => ?_) (fun _ => ?_) | refine Way.mkG (fun _ => ?_) (fun _ => ?_) | with_reducible refine Need.mkG ?_ ?_ | refine AppW.go0 ?_ ?_ | with_reducible refine NilW.goG (fun _ => ?_) ?_ | ((with_reducible refine n1 _ _ _ ?_); clear n1 K1) | ((with_reducible refine n1 _ ?_); clear n1 K1) | ((with_reducible refine n1 _ _ ?_); clear n1 K1) | ((with_reducible refine n1 _ _ _ _ ?_); clear n1 K1) | fail)
  all_goals try (first | exact trivial | omega | kernel_rfl | decide | exact And.intro (by omega) (by omega))
  all_goals try dsimp only [Int.toNat_natCast] at *
  all_goals try (first | exact trivial | omega | exact And.intro (by omega) (by omega))
  all_goals try exact Done.of rfl (Or.inl rfl)
  all_goals exfalso
  · rename_i h0 h1 h2 h3
    exact h3 (by rw [h1, kick_ref (not_t' h0)])
  · rename_i h0 h1 h2
    exact h2 (by rw [h1, evict_ref (not_t' h0)])
  · rename_i h0 h1
    exact h1 (step_ref (not_t' h0)).1
  all_goals have hg : goodK d = true := not_f (by assumption)
  · rename_i h0 h1 h2 h3 h4 h5
    rcases (step_ok (nn := nn) (l := l) (c := c) hg).2 with ⟨_, e⟩ | ⟨e, _⟩
    · rw [e, sameD_refl] at h5
      cases h5
    · exact h4 e
  · rename_i h
    rw [kick_ok hg] at h
    cases h
  · rename_i h
    rw [evict_ok hg] at h
    cases h
  · rename_i h
    rw [(step_ok hg).1] at h
    cases h
end Go.Proofs.Ytjbbgpacijageab.M
