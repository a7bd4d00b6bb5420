/- The document's own functions: what is done alone, and to a memory. -/
import Derived.Test.YtjbbgpacijageaaR5
namespace Go.Proofs.Ytjbbgpacijageaa.M
open Go.RowKit
set_option linter.unusedVariables false
set_option linter.unusedSimpArgs false

theorem getF_in {p : plainT.D} {r : Int} (h : 0 ≤ r ∧ r < 8) : getF p r = p.1 r.toNat := by
  unfold getF
  rw [if_pos h]
theorem wd_top (n : Int) : wd (n + 4294967296) = wd n := by unfold wd; omega
theorem putF_top (p : plainT.D) (r x : Int) : putF p r (wrap64 (wrap64 x + 4294967296)) = putF p r x := by
  unfold putF
  rw [wd_wrap, wd_top, wd_wrap]
theorem putF_top2 (p : plainT.D) (r x : Int) : putF p r (wrap64 x + 4294967296) = putF p r x := by
  unfold putF
  rw [wd_top, wd_wrap]
theorem goodI_regs {op a b c n : Int} (h : goodI (op, a, b, c, n) = true) : (0 ≤ b ∧ b < 8) ∧ (0 ≤ c ∧ c < 8) ∧ (0 ≤ a ∧ a < 8) := by
  have h : (decide (1 ≤ op ∧ op ≤ 12) && (isB 8 a && (isB 8 b && (isB 8 c && isW n)))) = true := h
  rw [Bool.and_eq_true, Bool.and_eq_true, Bool.and_eq_true, Bool.and_eq_true] at h
  obtain ⟨_, h1, h2, h3, _⟩ := h
  exact ⟨of_decide_eq_true h2, of_decide_eq_true h3, of_decide_eq_true h1⟩
theorem c_AloneOf : Ctr Try.prog 29 aloneS := by
  refine ctr_of tabOk (SpecsOk.cons c_IsInstr (by kernel_rfl) (SpecsOk.cons c_IsPlain (by kernel_rfl) (SpecsOk.cons c_PutReg (by kernel_rfl) (SpecsOk.cons c_rest (by kernel_rfl) (SpecsOk.nil _))))) Try.func29 rfl _ (Nat.le_of_ble_eq_true rfl) (fun _ _ => rfl) ?_
  rintro nn ⟨⟨g, (a : Int), (off : Bool)⟩, ⟨(op : Int), (ra : Int), (rb : Int), (rc : Int), (n : Int)⟩, ⟨⟩⟩ _ _
  refine ⟨200, init_k fun K1 n1 => ?_⟩
  conv => whnf
  refine n1 _ ?_
  clear n1 K1
  repeat' (first | with_reducible refine seq_k fun K1 n1 => ?_ | with_reducible refine seq_nil ?_ | with_reducible refine drw_k fun K1 n1 => ?_ | with_reducible refine drw_nil ?_ ?_ | with_reducible refine run_seq ?_ | with_reducible refine run_skip ?_ | with_reducible refine run_regS ?_ | with_reducible refine run_regD (by kernel_rfl) ?_ ?_ | with_reducible refine inl_k (by with_unfolding_all rfl) (Nat.le_of_ble_eq_true rfl) fun K1 n1 => ?_ | with_reducible refine inlA_k (by with_unfolding_all rfl) (Nat.le_of_ble_eq_true rfl) fun K1 n1 => ?_ | with_reducible refine run_finA ?_ | with_reducible refine run_cond ?_ | with_reducible refine run_block ?_ | with_reducible refine run_endb ?_ | with_reducible refine run_exit fun K1 n1 => ?_ | with_reducible refine run_ret fun K1 n1 => ?_ | with_reducible refine run_fin ?_ | with_reducible refine run_inv ?_ | with_reducible refine go_rounds ?_ | ((with_reducible refine Go.mk ?_); (conv => whnf)) | refine Fork.yes ?_ | refine Fork.no ?_ | refine Fork.dec (fun _ => ?_) (fun _ => ?_) | refine Fork.ndec (fun _ => ?_) (fun _ => ?_) | refine Fork.mk (fun _ => ?_) (fun _ => ?_) | refine Way.yesG ?_ | refine Way.noG ?_ | refine Way.decG (fun _ => ?_) (fun _ => ?_) | refine Way.ndecG (fun _ => ?_) (fun _ => ?_) | refine Way.mkG (fun _ => ?_) (fun _ => ?_) | with_reducible refine Need.mkG ?_ ?_ | refine AppW.go0 ?_ ?_ | with_reducible refine NilW.goG (fun _ => ?_) ?_ | ((with_reducible refine n1 _ _ _ ?_); clear n1 K1) | ((with_reducible refine n1 _ ?_); clear n1 K1) | ((with_reducible refine n1 _ _ ?_); clear n1 K1) | ((with_reducible refine n1 _ _ _ _ ?_); clear n1 K1) | fail)
  all_goals try (first | exact trivial | omega | kernel_rfl | decide | exact And.intro (by omega) (by omega))
  all_goals try dsimp only [Int.toNat_natCast] at *
  all_goals try (first | exact trivial | omega | exact And.intro (by omega) (by omega))
  all_goals first
    | exact (goodI_regs (not_f' ‹_›)).1
    | exact (goodI_regs (not_f' ‹_›)).2.1
    | exact (goodI_regs (not_f' ‹_›)).2.2
    | (refine Done.of ?_ (Or.inl rfl)
       show (_, _, ()) = ((aloneF (g, a, off) (op, ra, rb, rc, n)).1, (aloneF (g, a, off) (op, ra, rb, rc, n)).2, ())
       unfold aloneF
       by_cases hg : goodI (op, ra, rb, rc, n) = true
       · obtain ⟨q1, q2, q3⟩ := goodI_regs hg
         simp_all [-Int.not_lt, nextF, putF_wrap, putF_top2, wd_wrap, getF, lessF, jumpF]
       · simp_all)
abbrev failedOfS : Spec := failedS
theorem c_FailedOf : Ctr Try.prog 34 failedS := by
  refine ctr_of tabOk (SpecsOk.cons c_IsPlain (by kernel_rfl) (SpecsOk.cons c_rIsWord (by kernel_rfl) (SpecsOk.cons c_NextInstr (by kernel_rfl) (SpecsOk.cons c_PutReg (by kernel_rfl) (SpecsOk.nil _))))) Try.func34 rfl _ (Nat.le_of_ble_eq_true rfl) (fun _ _ => rfl) ?_
  rintro nn ⟨⟨hd, xs⟩, ⟨g, (a : Int), (off : Bool)⟩, (why : Int), ⟨⟩⟩ _ _
  refine ⟨200, init_k fun K1 n1 => ?_⟩
  conv => whnf
  refine n1 _ ?_
  clear n1 K1
  repeat' (first | with_reducible refine seq_k fun K1 n1 => ?_ | with_reducible refine seq_nil ?_ | with_reducible refine drw_k fun K1 n1 => ?_ | with_reducible refine drw_nil ?_ ?_ | with_reducible refine run_seq ?_ | with_reducible refine run_skip ?_ | with_reducible refine run_regS ?_ | with_reducible refine run_regD (by kernel_rfl) ?_ ?_ | with_reducible refine inl_k (by with_unfolding_all rfl) (Nat.le_of_ble_eq_true rfl) fun K1 n1 => ?_ | with_reducible refine inlA_k (by with_unfolding_all rfl) (Nat.le_of_ble_eq_true rfl) fun K1 n1 => ?_ | with_reducible refine run_finA ?_ | with_reducible refine run_cond ?_ | with_reducible refine run_block ?_ | with_reducible refine run_endb ?_ | with_reducible refine run_exit fun K1 n1 => ?_ | with_reducible refine run_ret fun K1 n1 => ?_ | with_reducible refine run_fin ?_ | with_reducible refine run_inv ?_ | with_reducible refine go_rounds ?_ | ((with_reducible refine Go.mk ?_); (conv => whnf)) | refine Fork.yes ?_ | refine Fork.no ?_ | refine Fork.dec (fun _ => ?_) (fun _ => ?_) | refine Fork.ndec (fun _ => ?_) (fun _ => ?_) | refine Fork.mk (fun _ => ?_) (fun _ => ?_) | refine Way.yesG ?_ | refine Way.noG ?_ | refine Way.decG (fun _ => ?_) (fun _ => ?_) | refine Way.ndecG (fun _ => ?_) (fun _ => ?_) | refine Way.mkG (fun _ => ?_) (fun _ => ?_) | with_reducible refine Need.mkG ?_ ?_ | refine AppW.go0 ?_ ?_ | with_reducible refine NilW.goG (fun _ => ?_) ?_ | ((with_reducible refine n1 _ _ _ ?_); clear n1 K1) | ((with_reducible refine n1 _ ?_); clear n1 K1) | ((with_reducible refine n1 _ _ ?_); clear n1 K1) | ((with_reducible refine n1 _ _ _ _ ?_); clear n1 K1) | fail)
  all_goals try (first | exact trivial | omega | kernel_rfl | decide | exact And.intro (by omega) (by omega))
  all_goals try dsimp only [Int.toNat_natCast] at *
  all_goals try (first | exact trivial | omega | exact And.intro (by omega) (by omega))
  all_goals
    refine Done.of ?_ (Or.inl rfl)
    show (_, _, ()) = ((failedF xs (g, a, off) why).1, (failedF xs (g, a, off) why).2, ())
    unfold failedF readyF
    simp_all [-not_and]
end Go.Proofs.Ytjbbgpacijageaa.M
