/- The laws of stage 3, against the document's own answer: what moves. -/
import Derived.Test.YtjbbgpacijageaaR13
import Derived.Test.YtjbbgpacijageaaQ3
namespace Go.Proofs.Ytjbbgpacijageaa.M
open Go.RowKit
set_option linter.unusedVariables false
set_option linter.unusedSimpArgs false

theorem eqT_id : ∀ (t : Ty), t.nolst = true → ∀ a : t.D, eqT t a a = true
  | .int, _, a => decide_eq_true rfl
  | .bool, _, a => decide_eq_true rfl
  | .one t, h, a => eqT_id t h a
  | .pair s t, h, a => by
    simp only [Ty.nolst, Bool.and_eq_true] at h
    show (eqT s a.1 a.1 && eqT t a.2 a.2) = true
    rw [eqT_id s h.1, eqT_id t h.2]
    rfl
  | .arr n t, h, f => by
    show ((List.range n).all fun i => eqT t (f i) (f i)) = true
    rw [List.all_eq_true]
    exact fun i _ => eqT_id t h (f i)
  | .lst t, h, a => by cases h
def reC (h : Hd) (a : coreT.D) : coreT.D := (a.1, a.2.1, a.2.2.1, a.2.2.2.1, (h, a.2.2.2.2.1.2), a.2.2.2.2.2)
theorem copy_at (nn : Nat) (d : deskT.D) (c : Nat) : (copyF nn d).1 c = if c = 1 then reC (.nm (nn + 1)) (d.1 1) else if c = 0 then reC (.nm nn) (d.1 0) else d.1 c := rfl
theorem copy_lineAt (nn : Nat) (d : deskT.D) (c w : Nat) : lineAt (copyF nn d) c w = lineAt d c w := by
  unfold lineAt
  rw [copy_at]
  split
  · rename_i h; rw [h]; rfl
  · split
    · rename_i h; rw [h]; rfl
    · rfl
theorem copy_set (nn : Nat) (d : deskT.D) (c w : Nat) (l : lineT.D) : setLine (copyF nn d) c w l = copyF nn (setLine d c w l) := by
  refine Prod.ext (funext fun k => ?_) rfl
  rw [copy_at]
  show (if k = c then (((copyF nn d).1 c).1, updA ((copyF nn d).1 c).2.1 w l, ((copyF nn d).1 c).2.2) else (copyF nn d).1 k) = if k = 1 then reC (.nm (nn + 1)) (if 1 = c then ((d.1 c).1, updA (d.1 c).2.1 w l, (d.1 c).2.2) else d.1 1) else if k = 0 then reC (.nm nn) (if 0 = c then ((d.1 c).1, updA (d.1 c).2.1 w l, (d.1 c).2.2) else d.1 0) else if k = c then ((d.1 c).1, updA (d.1 c).2.1 w l, (d.1 c).2.2) else d.1 k
  rw [copy_at, copy_at]
  by_cases h : k = c
  · subst h
    rw [if_pos rfl]
    by_cases h1 : k = 1
    · subst h1
      rfl
    · by_cases h0 : k = 0
      · subst h0
        rfl
      · rw [if_neg h1, if_neg h0, if_neg h1, if_neg h0, if_pos rfl]
  · rw [if_neg h]
    by_cases h1 : k = 1
    · rw [if_pos h1, if_pos h1, if_neg (fun g => h (h1.trans g))]
    · rw [if_neg h1, if_neg h1]
      by_cases h0 : k = 0
      · rw [if_pos h0, if_pos h0, if_neg (fun g => h (h0.trans g))]
      · rw [if_neg h0, if_neg h0, if_neg h]
theorem copy_mem (nn : Nat) (d : deskT.D) (m : Nat → Int) : setMem (copyF nn d) m = copyF nn (setMem d m) := rfl
theorem copy_m (nn : Nat) (d : deskT.D) : (copyF nn d).2 = d.2 := rfl
theorem copy_dropD (nn : Nat) (d : deskT.D) (c w : Nat) : dropD (copyF nn d) c w = copyF nn (dropD d c w) := by
  unfold dropD
  rw [copy_set, copy_lineAt, copy_m, copy_mem]
theorem copy_drop (nn : Nat) (d : deskT.D) (c w : Int) : dropF (copyF nn d) c w = copyF nn (dropF d c w) := by
  unfold dropF
  rw [copy_good, copy_dropD]
  split <;> rfl
theorem copy_take (nn : Nat) (d : deskT.D) (c w : Nat) (n : Int) : takeD (copyF nn d) c w n = copyF nn (takeD d c w n) := by
  unfold takeD
  rw [copy_lineAt, copy_m, copy_mem, copy_set, copy_set, copy_set]
  split <;> rfl
theorem copy_share (nn : Nat) (d : deskT.D) (c n : Int) : shareF (copyF nn d) c n = copyF nn (shareF d c n) := by
  unfold shareF
  rw [copy_good, copy_lineAt, copy_dropD, copy_take]
  split
  · split <;> rfl
  · rfl
theorem copy_alone1 (nn : Nat) (d : deskT.D) (c w : Nat) (n : Int) : alone1 (copyF nn d) c w n = copyF nn (alone1 d c w n) := by
  unfold alone1
  rw [copy_lineAt, copy_set]
  split <;> rfl
theorem copy_alone2 (nn : Nat) (d : deskT.D) (c w : Nat) : alone2 (copyF nn d) c w = copyF nn (alone2 d c w) := by
  unfold alone2
  rw [copy_lineAt, copy_set]
  split <;> rfl
theorem copy_own (nn : Nat) (d : deskT.D) (c n : Int) : ownF (copyF nn d) c n = copyF nn (ownF d c n) := by
  unfold ownF aloneD
  rw [copy_share, copy_good, copy_find, copy_alone1, copy_alone2]
  split <;> rfl
theorem copy_putW (nn : Nat) (d : deskT.D) (c w i : Nat) (n : Int) : putW (copyF nn d) c w i n = copyF nn (putW d c w i n) := by
  unfold putW
  rw [copy_lineAt, copy_set]
theorem copy_setM (nn : Nat) (d : deskT.D) (c w : Nat) : setM (copyF nn d) c w = copyF nn (setM d c w) := by
  unfold setM
  rw [copy_lineAt, copy_set]
theorem copy_write (nn : Nat) (d : deskT.D) (c word n : Int) : writeF (copyF nn d) c word n = copyF nn (writeF d c word n) := by
  unfold writeF
  rw [copy_good, copy_find, copy_lineAt, copy_putW, copy_setM]
  split
  · split <;> rfl
  · rfl
theorem same_reC (h : Hd) (a : coreT.D) : sameC (reC h a) a = true := by
  unfold sameC reC
  simp only [eqT_id plainT rfl, eqT_id (.arr 4 lineT) rfl, eqT_id writeT rfl, decide_true, Bool.true_and]
  rw [List.all_eq_true]
  intros
  trivial
theorem same_copy (nn : Nat) (d : deskT.D) : sameD (copyF nn d) d = true := by
  unfold sameD
  rw [copy_at, copy_at]
  show (sameC (reC _ (d.1 0)) (d.1 0) && (sameC (reC _ (d.1 1)) (d.1 1) && eqT (.arr 32 .int) d.2 d.2)) = true
  rw [same_reC, same_reC, eqT_id (.arr 32 .int) rfl]
  rfl
theorem c_CacheMoves : Ctr Try.prog 14 (lawZ [deskT, .int, .int, .int, .int]) := by
  refine ctr_of tabOk (SpecsOk.cons c_keepsL (by kernel_rfl) (SpecsOk.cons c_CopyDesk (by kernel_rfl) (SpecsOk.cons c_SameDesk (by kernel_rfl) (SpecsOk.cons c_Drop (by kernel_rfl) (SpecsOk.cons c_DropLine (by kernel_rfl) (SpecsOk.cons c_Share (by kernel_rfl) (SpecsOk.cons c_ShareLine (by kernel_rfl) (SpecsOk.cons c_Own (by kernel_rfl) (SpecsOk.cons c_OwnLine (by kernel_rfl) (SpecsOk.cons c_Write (by kernel_rfl) (SpecsOk.cons c_WriteWord (by kernel_rfl) (SpecsOk.nil _)))))))))))) Try.func14 rfl _ (Nat.le_of_ble_eq_true rfl) (fun _ _ => rfl) ?_
  rintro nn ⟨d, (c : Int), (n : Int), (word : Int), (v : Int), ⟨⟩⟩ hpre _
  refine ⟨200, init_k fun K1 n1 => ?_⟩
  conv => whnf
  refine n1 _ ?_
  clear n1 K1
  repeat' (first | with_reducible refine seq_k fun K1 n1 => ?_ | with_reducible refine seq_nil ?_ | with_reducible refine drw_k fun K1 n1 => ?_ | with_reducible refine drw_nil ?_ ?_ | with_reducible refine run_seq ?_ | with_reducible refine run_skip ?_ | with_reducible refine run_regS ?_ | with_reducible refine run_regD (by kernel_rfl) ?_ ?_ | with_reducible refine inl_k (by with_unfolding_all rfl) (Nat.le_of_ble_eq_true rfl) fun K1 n1 => ?_ | with_reducible refine inlA_k (by with_unfolding_all rfl) (Nat.le_of_ble_eq_true rfl) fun K1 n1 => ?_ | with_reducible refine run_finA ?_ | with_reducible refine run_cond ?_ | with_reducible refine run_block ?_ | with_reducible refine run_endb ?_ | with_reducible refine run_exit fun K1 n1 => ?_ | with_reducible refine run_ret fun K1 n1 => ?_ | with_reducible refine run_fin ?_ | with_reducible refine run_inv ?_ | with_reducible refine go_rounds ?_ | ((with_reducible refine Go.mk ?_); (conv => whnf)) | refine Fork.yes ?_ | refine Fork.no ?_ | refine Fork.dec (fun _ => ?_) (fun _ => ?_) | refine Fork.ndec (fun _ => ?_) (fun _ => ?_) | refine Fork.mk (fun _ => ?_) (fun _ => ?_) | refine Way.yesG ?_ | refine Way.noG ?_ | refine Way.decG (fun _ => ?_) (fun _ => ?_) | refine Way.ndecG (fun _ => ?_) (fun _ => ?_) | refine Way.mkG (fun _ => ?_) (fun _ => ?_) | with_reducible refine Need.mkG ?_ ?_ | refine AppW.go0 ?_ ?_ | with_reducible refine NilW.goG (fun _ => ?_) ?_ | ((with_reducible refine n1 _ _ _ ?_); clear n1 K1) | ((with_reducible refine n1 _ ?_); clear n1 K1) | ((with_reducible refine n1 _ _ ?_); clear n1 K1) | ((with_reducible refine n1 _ _ _ _ ?_); clear n1 K1) | fail)
  all_goals try (first | exact trivial | omega | kernel_rfl | decide | exact And.intro (by omega) (by omega))
  all_goals try dsimp only [Int.toNat_natCast] at *
  all_goals try (first | exact trivial | omega | exact And.intro (by omega) (by omega))
  · exact hpre.1
  · exfalso
    rename_i h
    rw [copy_drop, same_copy] at h
    cases h
  · exfalso
    rename_i h
    rw [copy_share, same_copy] at h
    cases h
  · exact Done.of rfl (Or.inl rfl)
  · exfalso
    rename_i h
    rw [same_copy] at h
    cases h
  · exfalso
    rename_i h
    rw [copy_write, same_copy] at h
    cases h
  · exfalso
    rename_i h
    rw [copy_own, same_copy] at h
    cases h
end Go.Proofs.Ytjbbgpacijageaa.M
