/- The document's own functions: what is done alone, and to a memory. -/
import Derived.Test.YtjbbgpacijageacGreatR5
namespace Go.Proofs.YtjbbgpacijageacGreat.M
open Go.RowKit
set_option linter.unusedVariables false
set_option linter.unusedSimpArgs false

theorem getF_in {p : plainT.D} {r : Int} (h : 0 ≤ r ∧ r < 8) : getF p r = p.1 r.toNat := by
  unfold getF
  rw [if_pos h]
theorem wd_top (n : Int) : wd (n + 4294967296) = wd n := by unfold wd; omega
theorem putF_top2 (p : plainT.D) (r x : Int) : putF p r (wrap64 x + 4294967296) = putF p r x := by
  unfold putF
  rw [wd_top, wd_wrap]
theorem goodI_regs {op a b c n : Int} (h : goodI (op, a, b, c, n) = true) : (0 ≤ b ∧ b < 8) ∧ (0 ≤ c ∧ c < 8) ∧ (0 ≤ a ∧ a < 8) := by
  have h : (decide (1 ≤ op ∧ op ≤ 12) && (isB 8 a && (isB 8 b && (isB 8 c && isW n)))) = true := h
  rw [Bool.and_eq_true, Bool.and_eq_true, Bool.and_eq_true, Bool.and_eq_true] at h
  obtain ⟨_, h1, h2, h3, _⟩ := h
  exact ⟨of_decide_eq_true h2, of_decide_eq_true h3, of_decide_eq_true h1⟩
theorem c_AloneOf : Ctr Tryz.prog 103 aloneS := by
  refine ctr_of tabOk (SpecsOk.cons c_IsInstr (by kernel_rfl) (SpecsOk.cons c_IsPlain (by kernel_rfl) (SpecsOk.cons c_PutReg (by kernel_rfl) (SpecsOk.cons c_rest (by kernel_rfl) (SpecsOk.nil _))))) Tryz.func103 rfl _ (Nat.le_of_ble_eq_true rfl) (fun _ _ => rfl) ?_
  rintro nn ⟨⟨g, (a : Int), (off : Bool)⟩, ⟨(op : Int), (ra : Int), (rb : Int), (rc : Int), (n : Int)⟩, ⟨⟩⟩ _ _
  refine ⟨200, init_k fun K1 n1 => ?_⟩
  conv => whnf
  refine n1 _ ?_
  clear n1 K1
  repeat' (first | (with_reducible first | refine seq_k fun K1 n1 => ?_ | refine seq_nil ?_ | refine drw_k fun K1 n1 => ?_ | refine drw_nil ?_ ?_ | refine run_seq ?_ | refine run_skip ?_ | refine run_regS ?_ | refine run_regD (by kernel_rfl) ?_ ?_ | refine run_cond ?_ | refine run_block ?_ | refine run_endb ?_ | refine run_ret fun K1 n1 => ?_ | refine run_fin ?_) | ((with_reducible refine Go.mk ?_); (conv => whnf)) | refine Fork.yes ?_ | refine Fork.dec (fun _ => ?_) (fun _ => ?_) | refine Fork.mk (fun _ => ?_) (fun _ => ?_) | refine Way.yesG ?_ | refine Way.noG ?_ | refine Way.mkG (fun _ => ?_) (fun _ => ?_) | (with_reducible first | refine Need.mkG ?_ ?_) | ((with_reducible refine n1 _ _ _ ?_); clear n1 K1) | ((with_reducible refine n1 _ ?_); clear n1 K1) | ((with_reducible refine n1 _ _ _ _ ?_); clear n1 K1) | fail)
  all_goals try (first | exact trivial | kernel_rfl)
  all_goals try dsimp only [Int.toNat_natCast] at *
  all_goals first
    | exact (goodI_regs (not_f' ‹_›)).1
    | exact (goodI_regs (not_f' ‹_›)).2.1
    | exact (goodI_regs (not_f' ‹_›)).2.2
    | (refine Done.of ?_ (Or.inl rfl)
       show (_, _, ()) = ((aloneF (g, a, off) (op, ra, rb, rc, n)).1, (aloneF (g, a, off) (op, ra, rb, rc, n)).2, ())
       unfold aloneF
       by_cases hg : goodI (op, ra, rb, rc, n) = true
       · obtain ⟨q1, q2, q3⟩ := goodI_regs hg
         simp_all [-Int.not_lt, nextF, putF_wrap, putF_top2, wd_wrap, getF, lessF, jumpF]
       · simp_all)
end Go.Proofs.YtjbbgpacijageacGreat.M
