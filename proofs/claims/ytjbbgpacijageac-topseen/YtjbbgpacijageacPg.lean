/- Programs with lists of their own. -/
import Derived.Test.YtjbbgpacijageacUD
import Derived.Test.YtjbbgpacijageacO1
namespace Go.Proofs.Ytjbbgpacijageac.M
open Go.RowKit
set_option linter.unusedVariables false
set_option linter.unusedSimpArgs false

def prog1 (nn : Nat) (l : progsT.D) : progsT.D := updA l 0 (.nm nn, (l 0).2)
/-- Programs with lists of their own. -/
def progF (nn : Nat) (l : progsT.D) : progsT.D := updA (updA l 0 (.nm nn, (l 0).2)) 1 (.nm (nn + 1), (l 1).2)
theorem prog_at (nn : Nat) (l : progsT.D) (k : Nat) : (progF nn l k).2 = (l k).2 := by
  unfold progF updA
  by_cases h1 : k = 1
  · rw [if_pos h1, h1]
  · rw [if_neg h1]
    by_cases h0 : k = 0
    · rw [if_pos h0, h0]
    · rw [if_neg h0]
abbrev progS : Spec := { args := [progsT], res := [progsT], cr := true, m := fun _ => 2, fn := fun nn d => (progF nn d.1, ()), pre := fun d => small progsT d.1 }
theorem c_tprograms : Ctr Try.prog 25 progS := by
  refine ctr_of tabOk (SpecsOk.nil _) Try.func25 rfl _ (Nat.le_of_ble_eq_true rfl) (fun h => by cases h) ?_
  rintro nn ⟨d, ⟨⟩⟩ hpre _
  refine ⟨200, init_k fun K1 n1 => ?_⟩
  conv => whnf
  refine n1 _ ?_
  clear n1 K1
  repeat' (first | with_reducible refine seq_k fun K1 n1 => ?_ | with_reducible refine seq_nil ?_ | with_reducible refine drw_k fun K1 n1 => ?_ | with_reducible refine drw_nil ?_ ?_ | with_reducible refine run_seq ?_ | with_reducible refine run_skip ?_ | with_reducible refine run_regS ?_ | with_reducible refine run_regD (by kernel_rfl) ?_ ?_ | with_reducible refine inl_k (by with_unfolding_all rfl) (Nat.le_of_ble_eq_true rfl) fun K1 n1 => ?_ | with_reducible refine inlA_k (by with_unfolding_all rfl) (Nat.le_of_ble_eq_true rfl) fun K1 n1 => ?_ | with_reducible refine run_finA ?_ | with_reducible refine run_cond ?_ | with_reducible refine run_block ?_ | with_reducible refine run_endb ?_ | with_reducible refine run_exit fun K1 n1 => ?_ | with_reducible refine run_ret fun K1 n1 => ?_ | with_reducible refine run_fin ?_ | with_reducible refine run_inv ?_ | with_reducible refine go_rounds ?_ | ((with_reducible refine Go.mk ?_); (conv => whnf)) | refine Fork.yes ?_ | refine Fork.no ?_ | refine Fork.dec (fun _ => ?_) (fun _ => ?_) | refine Fork.ndec (fun _ => ?_) (fun _ => ?_) | refine Fork.mk (fun _ => ?_) (fun _ => ?_) | refine Way.yesG ?_ | refine Way.noG ?_ | refine Way.decG (fun _ => ?_) (fun _ => ?_) | refine Way.ndecG (fun _ => ?_) (fun _ => ?_) | refine Way.mkG (fun _ => ?_) (fun _ => ?_) | with_reducible refine Need.mkG ?_ ?_ | refine AppW.go0 ?_ ?_ | with_reducible refine NilW.goG (fun _ => ?_) ?_ | ((with_reducible refine n1 _ _ _ ?_); clear n1 K1) | ((with_reducible refine n1 _ ?_); clear n1 K1) | ((with_reducible refine n1 _ _ ?_); clear n1 K1) | ((with_reducible refine n1 _ _ _ _ ?_); clear n1 K1) | fail)
  all_goals try (first | exact trivial | omega | kernel_rfl | decide | exact And.intro (by omega) (by omega))
  all_goals try dsimp only [Int.toNat_natCast] at *
  all_goals try (first | exact trivial | omega | exact And.intro (by omega) (by omega))
  have h0 := (hpre 0 (by decide)).1
  have h1 := (hpre 1 (by decide)).1
  refine run_loop (loop_fam (ι := Nat × progsT.D) (fun i => [(4, .a (.of (.leaf .int (i.1 : Int)))), (2, .a (.ptr 1 0 [] progsT)), (1, .a (.ptr 0 0 [] progsT))]) (fun i => [.leaf progsT i.2, .leaf progsT progsT.zero]) (fun i => ⟨nn + i.1, []⟩) (fun i => 2 - i.1) (fun i => (i.1 = 0 ∧ i.2 = d) ∨ (i.1 = 1 ∧ i.2 = prog1 nn d) ∨ (i.1 = 2 ∧ i.2 = progF nn d)) ?_ ?_)
  · exact ⟨(0, d), Or.inl ⟨rfl, rfl⟩, ⟨rfl, rfl, rfl, trivial⟩, rfl, 2, Nat.le_refl _, rfl, rfl⟩
  · rintro ⟨k, e⟩ (⟨hk, he⟩ | ⟨hk, he⟩ | ⟨hk, he⟩)
    all_goals
      have hk : k = _ := hk
      have he : e = _ := he
      subst hk
      subst he
    · repeat' (first | with_reducible refine seq_k fun K1 n1 => ?_ | with_reducible refine seq_nil ?_ | with_reducible refine drw_k fun K1 n1 => ?_ | with_reducible refine drw_nil ?_ ?_ | with_reducible refine run_seq ?_ | with_reducible refine run_skip ?_ | with_reducible refine run_regS ?_ | with_reducible refine run_regD (by kernel_rfl) ?_ ?_ | with_reducible refine inl_k (by with_unfolding_all rfl) (Nat.le_of_ble_eq_true rfl) fun K1 n1 => ?_ | with_reducible refine inlA_k (by with_unfolding_all rfl) (Nat.le_of_ble_eq_true rfl) fun K1 n1 => ?_ | with_reducible refine run_finA ?_ | with_reducible refine run_cond ?_ | with_reducible refine run_block ?_ | with_reducible refine run_endb ?_ | with_reducible refine run_exit fun K1 n1 => ?_ | with_reducible refine run_ret fun K1 n1 => ?_ | with_reducible refine run_fin ?_ | with_reducible refine run_inv ?_ | with_reducible refine go_rounds ?_ | ((with_reducible refine Go.mk ?_); (conv => whnf)) | refine Fork.yes ?_ | refine Fork.no ?_ | refine Fork.dec (fun _ => ?_) (fun _ => ?_) | refine Fork.ndec (fun _ => ?_) (fun _ => ?_) | refine Fork.mk (fun _ => ?_) (fun _ => ?_) | refine Way.yesG ?_ | refine Way.noG ?_ | refine Way.decG (fun _ => ?_) (fun _ => ?_) | refine Way.ndecG (fun _ => ?_) (fun _ => ?_) | refine Way.mkG (fun _ => ?_) (fun _ => ?_) | with_reducible refine Need.mkG ?_ ?_ | refine AppW.go0 ?_ ?_ | with_reducible refine NilW.goG (fun _ => ?_) ?_ | ((with_reducible refine n1 _ _ _ ?_); clear n1 K1) | ((with_reducible refine n1 _ ?_); clear n1 K1) | ((with_reducible refine n1 _ _ ?_); clear n1 K1) | ((with_reducible refine n1 _ _ _ _ ?_); clear n1 K1) | fail)
      all_goals try (first | exact trivial | omega | kernel_rfl | decide | exact And.intro (by omega) (by omega))
      all_goals try dsimp only [Int.toNat_natCast] at *
      all_goals try (first | exact trivial | omega | exact And.intro (by omega) (by omega))
      · exact ⟨by decide, by decide⟩
      · exact ⟨by decide, by decide⟩
      · refine ⟨(1, prog1 nn e), (by decide : 2 - 1 < 2 - 0), Or.inr (Or.inl ⟨rfl, rfl⟩), ⟨?_, rfl, rfl, trivial⟩, rfl, 2, Nat.le_refl _, rfl, rfl⟩
        rw [wrap_succ 0 (by decide)]
        rfl
    · repeat' (first | with_reducible refine seq_k fun K1 n1 => ?_ | with_reducible refine seq_nil ?_ | with_reducible refine drw_k fun K1 n1 => ?_ | with_reducible refine drw_nil ?_ ?_ | with_reducible refine run_seq ?_ | with_reducible refine run_skip ?_ | with_reducible refine run_regS ?_ | with_reducible refine run_regD (by kernel_rfl) ?_ ?_ | with_reducible refine inl_k (by with_unfolding_all rfl) (Nat.le_of_ble_eq_true rfl) fun K1 n1 => ?_ | with_reducible refine inlA_k (by with_unfolding_all rfl) (Nat.le_of_ble_eq_true rfl) fun K1 n1 => ?_ | with_reducible refine run_finA ?_ | with_reducible refine run_cond ?_ | with_reducible refine run_block ?_ | with_reducible refine run_endb ?_ | with_reducible refine run_exit fun K1 n1 => ?_ | with_reducible refine run_ret fun K1 n1 => ?_ | with_reducible refine run_fin ?_ | with_reducible refine run_inv ?_ | with_reducible refine go_rounds ?_ | ((with_reducible refine Go.mk ?_); (conv => whnf)) | refine Fork.yes ?_ | refine Fork.no ?_ | refine Fork.dec (fun _ => ?_) (fun _ => ?_) | refine Fork.ndec (fun _ => ?_) (fun _ => ?_) | refine Fork.mk (fun _ => ?_) (fun _ => ?_) | refine Way.yesG ?_ | refine Way.noG ?_ | refine Way.decG (fun _ => ?_) (fun _ => ?_) | refine Way.ndecG (fun _ => ?_) (fun _ => ?_) | refine Way.mkG (fun _ => ?_) (fun _ => ?_) | with_reducible refine Need.mkG ?_ ?_ | refine AppW.go0 ?_ ?_ | with_reducible refine NilW.goG (fun _ => ?_) ?_ | ((with_reducible refine n1 _ _ _ ?_); clear n1 K1) | ((with_reducible refine n1 _ ?_); clear n1 K1) | ((with_reducible refine n1 _ _ ?_); clear n1 K1) | ((with_reducible refine n1 _ _ _ _ ?_); clear n1 K1) | fail)
      all_goals try (first | exact trivial | omega | kernel_rfl | decide | exact And.intro (by omega) (by omega))
      all_goals try dsimp only [Int.toNat_natCast] at *
      all_goals try (first | exact trivial | omega | exact And.intro (by omega) (by omega))
      · exact ⟨by decide, by decide⟩
      · exact h1
      · exact ⟨by decide, by decide⟩
      · refine ⟨(2, progF nn d), (by decide : 2 - 2 < 2 - 1), Or.inr (Or.inr ⟨rfl, rfl⟩), ⟨?_, rfl, rfl, trivial⟩, rfl, 2, Nat.le_refl _, rfl, rfl⟩
        rw [wrap_succ 1 (by decide)]
        rfl
    · repeat' (first | with_reducible refine seq_k fun K1 n1 => ?_ | with_reducible refine seq_nil ?_ | with_reducible refine drw_k fun K1 n1 => ?_ | with_reducible refine drw_nil ?_ ?_ | with_reducible refine run_seq ?_ | with_reducible refine run_skip ?_ | with_reducible refine run_regS ?_ | with_reducible refine run_regD (by kernel_rfl) ?_ ?_ | with_reducible refine inl_k (by with_unfolding_all rfl) (Nat.le_of_ble_eq_true rfl) fun K1 n1 => ?_ | with_reducible refine inlA_k (by with_unfolding_all rfl) (Nat.le_of_ble_eq_true rfl) fun K1 n1 => ?_ | with_reducible refine run_finA ?_ | with_reducible refine run_cond ?_ | with_reducible refine run_block ?_ | with_reducible refine run_endb ?_ | with_reducible refine run_exit fun K1 n1 => ?_ | with_reducible refine run_ret fun K1 n1 => ?_ | with_reducible refine run_fin ?_ | with_reducible refine run_inv ?_ | with_reducible refine go_rounds ?_ | ((with_reducible refine Go.mk ?_); (conv => whnf)) | refine Fork.yes ?_ | refine Fork.no ?_ | refine Fork.dec (fun _ => ?_) (fun _ => ?_) | refine Fork.ndec (fun _ => ?_) (fun _ => ?_) | refine Fork.mk (fun _ => ?_) (fun _ => ?_) | refine Way.yesG ?_ | refine Way.noG ?_ | refine Way.decG (fun _ => ?_) (fun _ => ?_) | refine Way.ndecG (fun _ => ?_) (fun _ => ?_) | refine Way.mkG (fun _ => ?_) (fun _ => ?_) | with_reducible refine Need.mkG ?_ ?_ | refine AppW.go0 ?_ ?_ | with_reducible refine NilW.goG (fun _ => ?_) ?_ | ((with_reducible refine n1 _ _ _ ?_); clear n1 K1) | ((with_reducible refine n1 _ ?_); clear n1 K1) | ((with_reducible refine n1 _ _ ?_); clear n1 K1) | ((with_reducible refine n1 _ _ _ _ ?_); clear n1 K1) | fail)
      all_goals try (first | exact trivial | omega | kernel_rfl | decide | exact And.intro (by omega) (by omega))
      all_goals try dsimp only [Int.toNat_natCast] at *
      all_goals try (first | exact trivial | omega | exact And.intro (by omega) (by omega))
      exact Done.of rfl (Or.inr (Nat.le_refl _))
end Go.Proofs.Ytjbbgpacijageac.M
