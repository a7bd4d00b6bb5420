/- The document's own functions: one instruction on a plain memory. -/
import Derived.Test.YtjbbgpacijageaaR6
namespace Go.Proofs.Ytjbbgpacijageaa.M
open Go.RowKit
set_option linter.unusedVariables false
set_option linter.unusedSimpArgs false

theorem fetch_good (l : List instrT.D) (p : plainT.D) : goodI (fetchF l p) = true := by
  unfold fetchF
  split
  · rename_i h
    exact h.2
  · rfl
theorem fetch_regs (l : List instrT.D) (p : plainT.D) : (0 ≤ (fetchF l p).2.2.1 ∧ (fetchF l p).2.2.1 < 8) ∧ (0 ≤ (fetchF l p).2.2.2.1 ∧ (fetchF l p).2.2.2.1 < 8) ∧ (0 ≤ (fetchF l p).2.1 ∧ (fetchF l p).2.1 < 8) := goodI_regs (fetch_good l p)
theorem goodI_op {op a b c n : Int} (h : goodI (op, a, b, c, n) = true) : 1 ≤ op ∧ op ≤ 12 := by
  have h : (decide (1 ≤ op ∧ op ≤ 12) && (isB 8 a && (isB 8 b && (isB 8 c && isW n)))) = true := h
  rw [Bool.and_eq_true] at h
  exact of_decide_eq_true h.1
theorem alone_ok {p : plainT.D} {op a b c n : Int} (hg : goodI (op, a, b, c, n) = true) : goodP p = true → p.2.2 = false → op ≠ 5 → op ≠ 6 → op ≠ 7 → op ≠ 9 → op ≠ 10 → op ≠ 11 → (aloneF p (op, a, b, c, n)).2 = 0 := by
  intro hp ho h5 h6 h7 h9 h10 h11
  have hop := goodI_op hg
  unfold aloneF
  rw [if_pos ⟨hg, hp⟩, if_neg (by rw [ho]; decide)]
  dsimp only
  have : op = 1 ∨ op = 2 ∨ op = 3 ∨ op = 4 ∨ op = 8 ∨ op = 12 := by omega
  rcases this with h | h | h | h | h | h <;> subst h <;> rfl
theorem alone_no {p : plainT.D} {op a b c n : Int} (hg : goodI (op, a, b, c, n) = true) : goodP p = true → p.2.2 = false → op = 10 ∨ op = 11 → (aloneF p (op, a, b, c, n)).2 = 3 := by
  intro hp ho h
  unfold aloneF
  rw [if_pos ⟨hg, hp⟩, if_neg (by rw [ho]; decide)]
  dsimp only
  rcases h with h | h <;> subst h <;> rfl

set_option maxHeartbeats 1600000 in
theorem c_OneOf : Ctr Try.prog 32 oneS := by
  refine ctr_of tabOk (SpecsOk.cons c_IsPlain (by kernel_rfl) (SpecsOk.cons c_goodMemory (by kernel_rfl) (SpecsOk.cons c_NextInstr (by kernel_rfl) (SpecsOk.cons c_AloneOf (by kernel_rfl) (SpecsOk.mut (inl_ok tabOk (SpecsOk.cons c_WordOf (by kernel_rfl) (SpecsOk.cons c_PutReg (by kernel_rfl) (SpecsOk.cons c_rest (by kernel_rfl) (SpecsOk.nil _)))) Try.func76 [.bool]) (by kernel_rfl) (SpecsOk.nil _)))))) Try.func32 rfl _ (Nat.le_of_ble_eq_true rfl) (fun _ _ => rfl) ?_
  rintro nn ⟨⟨hd, xs⟩, ⟨g, (a : Int), (off : Bool)⟩, m, ⟨⟩⟩ _ _
  refine ⟨200, init_k fun K1 n1 => ?_⟩
  conv => whnf
  refine n1 _ ?_
  clear n1 K1
  repeat' (first | with_reducible refine seq_k fun K1 n1 => ?_ | with_reducible refine seq_nil ?_ | with_reducible refine drw_k fun K1 n1 => ?_ | with_reducible refine drw_nil ?_ ?_ | with_reducible refine run_seq ?_ | with_reducible refine run_skip ?_ | with_reducible refine run_regS ?_ | with_reducible refine run_regD (by kernel_rfl) ?_ ?_ | with_reducible refine inl_k (by with_unfolding_all rfl) (Nat.le_of_ble_eq_true rfl) fun K1 n1 => ?_ | with_reducible refine inlA_k (by with_unfolding_all rfl) (Nat.le_of_ble_eq_true rfl) fun K1 n1 => ?_ | with_reducible refine run_finA ?_ | with_reducible refine run_cond ?_ | with_reducible refine run_block ?_ | with_reducible refine run_endb ?_ | with_reducible refine run_exit fun K1 n1 => ?_ | with_reducible refine run_ret fun K1 n1 => ?_ | with_reducible refine run_fin ?_ | with_reducible refine run_inv ?_ | with_reducible refine go_rounds ?_ | ((with_reducible refine Go.mk ?_); (conv => whnf)) | refine Fork.yes ?_ | refine Fork.no ?_ | refine Fork.dec (fun _ => ?_) (fun _ => ?_) | refine Fork.ndec (fun _ => ?_) (fun _ => ?_) | refine Fork.mk (fun _ => ?_) (fun _ => ?_) | refine Way.yesG ?_ | refine Way.noG ?_ | refine Way.decG (fun _ => ?_) (fun _ => ?_) | refine Way.ndecG (fun _ => ?_) (fun _ => ?_) | refine Way.mkG (fun _ => ?_) (fun _ => ?_) | with_reducible refine Need.mkG ?_ ?_ | refine AppW.go0 ?_ ?_ | with_reducible refine NilW.goG (fun _ => ?_) ?_ | ((with_reducible refine n1 _ _ _ ?_); clear n1 K1) | ((with_reducible refine n1 _ ?_); clear n1 K1) | ((with_reducible refine n1 _ _ ?_); clear n1 K1) | ((with_reducible refine n1 _ _ _ _ ?_); clear n1 K1) | fail)
  all_goals try (first | exact trivial | omega | kernel_rfl | decide | exact And.intro (by omega) (by omega))
  all_goals try dsimp only [Int.toNat_natCast] at *
  all_goals try (first | exact trivial | omega | exact And.intro (by omega) (by omega))
  all_goals first
    | exact word_rng ‹_›
    | exact (fetch_regs xs (g, a, off)).2.2
    | skip
  all_goals
    refine Done.of ?_ (Or.inl rfl)
    show (_, _, _, ()) = ((oneF xs (g, a, off) m).1, (oneF xs (g, a, off) m).2.1, (oneF xs (g, a, off) m).2.2, ())
    have hgi := fetch_good xs (g, a, off)
    unfold oneF
    generalize fetchF xs (g, a, off) = i at *
    obtain ⟨(op : Int), (ra : Int), (rb : Int), (rc : Int), (n : Int)⟩ := i
    obtain ⟨q1, q2, q3⟩ := goodI_regs hgi
    have hop := goodI_op hgi
    have ha := alone_ok (p := (g, a, off)) hgi
    have hb := alone_no (p := (g, a, off)) hgi
    dsimp only at *
    try simp only [show (ownL Ty.int m 0 32).all isW = goodM m from rfl] at *
    first
      | (have h9 : op = 5 ∨ op = 6 ∨ op = 7 := by omega
         rcases h9 with h9 | h9 | h9 <;> subst h9 <;> simp_all [-Int.not_lt, doneF, touchF, readyAtF, readyF, getF, nextF, wd_wrap]
         done)
      | (have h9 : op ≠ 5 ∧ op ≠ 6 ∧ op ≠ 7 := by omega
         simp_all [-Int.not_lt, doneF, touchF, readyAtF, readyF, getF, nextF, wd_wrap]
         done)
      | (simp_all [-Int.not_lt, doneF, readyAtF, readyF]
         done)
      | skip
end Go.Proofs.Ytjbbgpacijageaa.M
