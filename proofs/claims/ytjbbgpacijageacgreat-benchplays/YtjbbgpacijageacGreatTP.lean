/- The law BenchPlays. -/
import Derived.Test.YtjbbgpacijageacGreatUQ
import Derived.Test.YtjbbgpacijageacGreatUP
import Derived.Test.YtjbbgpacijageacGreatBR
import Derived.Test.YtjbbgpacijageacGreatUS
import Derived.Test.YtjbbgpacijageacGreatR4a
import Derived.Test.YtjbbgpacijageacGreatPg
import Derived.Test.YtjbbgpacijageacGreatWX
namespace Go.Proofs.YtjbbgpacijageacGreat.M
open Go.RowKit
set_option linter.unusedVariables false
set_option linter.unusedSimpArgs false

theorem rdo_end_5_0_1 {t0 : Ty} {v0 : t0.D} {t1 : Ty} {v1 : t1.D} {t2 : Ty} {v2 : t2.D} {t3 : Ty} {v3 : t3.D} {t4 : Ty} {v4 : t4.D} {tk : List (Hd × Nat)} {tp : Hd × Nat} {L : progsT.D} {D : deskT.D} {rs : Rec} {k : Int} {a : actT.D} {n n' : Nat} {K : SV → List V → NS → Prop} (h : ∀ n' H' r D' R' k', n ≤ n' → RDo L D rs k a r D' R' k' → K (.a (.of (.leaf replyT r))) [.leaf t0 v0, .leaf t1 v1, .leaf t2 v2, .leaf t3 v3, .leaf t4 v4, .leaf benchT (L, D', (H', R'), k')] ⟨n', (tp :: (H', 3) :: tk)⟩)
    {r : replyT.D} {D' : deskT.D} {H' : Hd} {R' : Rec} {k' : Int} {v : V} {junk : List V} (hv : v.norm = .leaf benchT (L, D', (H', R'), k')) (o : RDo L D rs k a r D' R' k') (hn : n ≤ n') : LaxE 6 K (.a (.of (.leaf replyT r))) (.leaf t0 v0 :: .leaf t1 v1 :: .leaf t2 v2 :: .leaf t3 v3 :: .leaf t4 v4 :: v :: junk) ⟨n', (tp :: (H', 3) :: tk)⟩ := by
  refine LaxE.mk' 6 n' _ (Nat.le_refl _) (by simp only [List.length_cons]; omega) rfl (Nat.le_refl _) (TkLe.refl _) ?_
  show K _ [.leaf t0 v0, .leaf t1 v1, .leaf t2 v2, .leaf t3 v3, .leaf t4 v4, v.norm] _
  rw [hv]
  exact h n' H' r _ _ _ hn o
set_option maxHeartbeats 1600000 in
theorem rdo_at_5_0_1 {t0 : Ty} {v0 : t0.D} {t1 : Ty} {v1 : t1.D} {t2 : Ty} {v2 : t2.D} {t3 : Ty} {v3 : t3.D} {t4 : Ty} {v4 : t4.D} {tk : List (Hd × Nat)} {tp : Hd × Nat} {L : progsT.D} {D : deskT.D} {H : Hd} {rs : Rec} {k : Int} {a : actT.D} {n : Nat} (hrs : rs.length ≤ 10000) {K : SV → List V → NS → Prop} (h : ∀ n' H' r D' R' k', n ≤ n' → RDo L D rs k a r D' R' k' → K (.a (.of (.leaf replyT r))) [.leaf t0 v0, .leaf t1 v1, .leaf t2 v2, .leaf t3 v3, .leaf t4 v4, .leaf benchT (L, D', (H', R'), k')] ⟨n', (tp :: (H', 3) :: tk)⟩) :
    rdoTr [.ptr 5 0 [] benchT, .of (.leaf actT a)] [.leaf t0 v0, .leaf t1 v1, .leaf t2 v2, .leaf t3 v3, .leaf t4 v4, .leaf benchT (L, D, (H, rs), k)] ⟨n, (tp :: (H, 3) :: tk)⟩ K := by
  refine ⟨[.ptr 5 0 [] benchT, .of (.leaf actT a)], [.leaf t0 v0, .leaf t1 v1, .leaf t2 v2, .leaf t3 v3, .leaf t4 v4, .leaf benchT (L, D, (H, rs), k)], rfl, rfl, ?_⟩
  repeat' (first | (with_reducible first | refine seq_k fun K1 n1 => ?_ | refine seq_nil ?_ | refine drw_k fun K1 n1 => ?_ | refine drw_nil ?_ ?_ | refine run_seq ?_ | refine run_skip ?_ | refine run_regS ?_ | refine run_regD (by kernel_rfl) ?_ ?_ | refine inl_k (by with_unfolding_all rfl) (Nat.le_of_ble_eq_true rfl) fun K1 n1 => ?_ | refine run_cond ?_ | refine run_block ?_ | refine run_endb ?_ | refine run_ret fun K1 n1 => ?_ | refine run_fin ?_) | ((with_reducible refine Go.mk ?_); (conv => whnf)) | refine Fork.yes ?_ | refine Fork.dec (fun _ => ?_) (fun _ => ?_) | refine Fork.ndec (fun _ => ?_) (fun _ => ?_) | (with_reducible first | refine Need.mkG ?_ ?_) | refine AppW.go1 ?_ ?_ | ((with_reducible refine n1 _ _ _ ?_); clear n1 K1) | ((with_reducible refine n1 _ ?_); clear n1 K1) | ((with_reducible refine n1 _ _ ?_); clear n1 K1) | ((with_reducible refine n1 _ _ _ _ ?_); clear n1 K1) | fail)
  all_goals try (first | exact trivial | kernel_rfl)
  all_goals try dsimp only [Int.toNat_natCast] at *
  · rename_i h1
    exact rdo_end_5_0_1 h rfl (rdo_full h1) (Nat.le_refl _)
  · rename_i h0 h1 h2
    exact rdo_end_5_0_1 h rfl (rdo_err h0 (act_1 h1) h2) (by omega)
  · rename_i h0 h1 h2
    exact act_small1 (n := 0) hrs (act_1 h1)
  · rename_i h0 h1 h2
    refine run_loop (loop_fam (ι := Nat) (fun j => [(101, .a (.of (.leaf .int (j : Int)))), (100, .a (.of (.leaf .int (List.length (stepF 0 D L a.2.1).2.1 : Int)))), (99, .a (.of (.leaf (.lst recordT) (.nm n, (stepF 0 D L a.2.1).2.1)))), (4, .a (.ptr 7 0 [] replyT))])
      (fun _ => [.leaf t0 v0, .leaf t1 v1, .leaf t2 v2, .leaf t3 v3, .leaf t4 v4, .leaf benchT (L, (hdsD n (stepF 0 D L a.2.1).1), (.nm (n + 3), rs ++ (stepF 0 D L a.2.1).2.1), wrap64 (k + 1)), .leaf actT a, .leaf replyT replyT.zero, .leaf deskT (hdsD n (stepF 0 D L a.2.1).1)]) (fun _ => ⟨(n + 3) + 1, (tp :: (Hd.nm (n + 3), 3) :: tk)⟩) (fun j => List.length (stepF 0 D L a.2.1).2.1 - j) (fun j => j ≤ List.length (stepF 0 D L a.2.1).2.1 ∧ whyF (stepF 0 D L a.2.1).2.1 = whyF (List.drop j (stepF 0 D L a.2.1).2.1)) ?_ ?_)
    · exact ⟨0, ⟨Nat.zero_le _, rfl⟩, ⟨rfl, rfl, rfl, rfl, trivial⟩, rfl, 9, Nat.le_refl _, rfl, rfl⟩
    · rintro j ⟨hj, hy⟩
      have hj : j ≤ List.length (stepF 0 D L a.2.1).2.1 := hj
      have hlen : List.length (stepF 0 D L a.2.1).2.1 ≤ 2 := by rw [← act_1 (n := 0) h1]; exact act_len
      have hstep : j < List.length (stepF 0 D L a.2.1).2.1 → whyF (stepF 0 D L a.2.1).2.1 = if (nthD recordT (stepF 0 D L a.2.1).2.1 j).1 = 3 then (nthD recordT (stepF 0 D L a.2.1).2.1 j).2.2 else whyF (List.drop (j + 1) (stepF 0 D L a.2.1).2.1) := fun h => by
        rw [hy, List.drop_eq_getElem_cons h, nthD_eq h]
        rfl
      repeat' (first | (with_reducible first | refine seq_k fun K1 n1 => ?_ | refine seq_nil ?_ | refine run_seq ?_ | refine run_skip ?_ | refine run_regS ?_ | refine run_cond ?_ | refine run_block ?_ | refine run_endb ?_ | refine run_exit fun K1 n1 => ?_ | refine run_ret fun K1 n1 => ?_ | refine run_fin ?_ | refine run_inv ?_) | ((with_reducible refine Go.mk ?_); (conv => whnf)) | refine Fork.dec (fun _ => ?_) (fun _ => ?_) | (with_reducible first | refine Need.mkG ?_ ?_) | ((with_reducible refine n1 _ _ _ ?_); clear n1 K1) | ((with_reducible refine n1 _ ?_); clear n1 K1) | fail)
      all_goals try (exact And.intro (by omega) (by omega))
      all_goals try dsimp only [Int.toNat_natCast] at *
      · rename_i g1 g2
        exact rdo_end_5_0_1 h rfl (rdo_ok h0 (act_1 h1) h2 (show nhD (hdsD n (stepF 0 D L a.2.1).1) = nhD (stepF 0 D L a.2.1).1 from rfl) (by rw [hstep (by omega), if_pos g2])) (by omega)
      · rename_i g1 g2
        refine ⟨j + 1, by omega, ⟨by omega, by rw [hstep (by omega), if_neg g2]⟩, ⟨?_, rfl, rfl, rfl, trivial⟩, rfl, 9, Nat.le_of_ble_eq_true rfl, rfl, rfl⟩
        rw [← wrap_succ j (by omega)]
        rfl
      · rename_i g1
        exact rdo_end_5_0_1 h rfl (rdo_ok h0 (act_1 h1) h2 (show nhD (hdsD n (stepF 0 D L a.2.1).1) = nhD (stepF 0 D L a.2.1).1 from rfl) (by rw [hy, List.drop_of_length_le (by omega)]; rfl)) (by omega)
  · rename_i h0 h1 h1' h2
    exact rdo_end_5_0_1 h rfl (rdo_err h0 (act_2 h1 h1') h2) (by omega)
  · rename_i h0 h1 h1' h2
    exact act_small1 (n := 0) hrs (act_2 h1 h1')
  · rename_i h0 h1 h1' h2
    refine run_loop (loop_fam (ι := Nat) (fun j => [(101, .a (.of (.leaf .int (j : Int)))), (100, .a (.of (.leaf .int (List.length (evictF D L a.2.1 a.2.2).2.1 : Int)))), (99, .a (.of (.leaf (.lst recordT) (recH n (List.length (evictF D L a.2.1 a.2.2).2.1), (evictF D L a.2.1 a.2.2).2.1)))), (4, .a (.ptr 7 0 [] replyT))])
      (fun _ => [.leaf t0 v0, .leaf t1 v1, .leaf t2 v2, .leaf t3 v3, .leaf t4 v4, .leaf benchT (L, (evictF D L a.2.1 a.2.2).1, (.nm (n + (2 * List.length (evictF D L a.2.1 a.2.2).2.1 + 2)), rs ++ (evictF D L a.2.1 a.2.2).2.1), wrap64 (k + 1)), .leaf actT a, .leaf replyT replyT.zero, .leaf deskT (evictF D L a.2.1 a.2.2).1]) (fun _ => ⟨(n + (2 * List.length (evictF D L a.2.1 a.2.2).2.1 + 2)) + 1, (tp :: (Hd.nm (n + (2 * List.length (evictF D L a.2.1 a.2.2).2.1 + 2)), 3) :: tk)⟩) (fun j => List.length (evictF D L a.2.1 a.2.2).2.1 - j) (fun j => j ≤ List.length (evictF D L a.2.1 a.2.2).2.1 ∧ whyF (evictF D L a.2.1 a.2.2).2.1 = whyF (List.drop j (evictF D L a.2.1 a.2.2).2.1)) ?_ ?_)
    · exact ⟨0, ⟨Nat.zero_le _, rfl⟩, ⟨rfl, rfl, rfl, rfl, trivial⟩, rfl, 9, Nat.le_refl _, rfl, rfl⟩
    · rintro j ⟨hj, hy⟩
      have hj : j ≤ List.length (evictF D L a.2.1 a.2.2).2.1 := hj
      have hlen : List.length (evictF D L a.2.1 a.2.2).2.1 ≤ 2 := by rw [← act_2 (n := 0) h1 h1']; exact act_len
      have hstep : j < List.length (evictF D L a.2.1 a.2.2).2.1 → whyF (evictF D L a.2.1 a.2.2).2.1 = if (nthD recordT (evictF D L a.2.1 a.2.2).2.1 j).1 = 3 then (nthD recordT (evictF D L a.2.1 a.2.2).2.1 j).2.2 else whyF (List.drop (j + 1) (evictF D L a.2.1 a.2.2).2.1) := fun h => by
        rw [hy, List.drop_eq_getElem_cons h, nthD_eq h]
        rfl
      repeat' (first | (with_reducible first | refine seq_k fun K1 n1 => ?_ | refine seq_nil ?_ | refine run_seq ?_ | refine run_skip ?_ | refine run_regS ?_ | refine run_cond ?_ | refine run_block ?_ | refine run_endb ?_ | refine run_exit fun K1 n1 => ?_ | refine run_ret fun K1 n1 => ?_ | refine run_fin ?_ | refine run_inv ?_) | ((with_reducible refine Go.mk ?_); (conv => whnf)) | refine Fork.dec (fun _ => ?_) (fun _ => ?_) | (with_reducible first | refine Need.mkG ?_ ?_) | ((with_reducible refine n1 _ _ _ ?_); clear n1 K1) | ((with_reducible refine n1 _ ?_); clear n1 K1) | fail)
      all_goals try (exact And.intro (by omega) (by omega))
      all_goals try dsimp only [Int.toNat_natCast] at *
      · rename_i g1 g2
        exact rdo_end_5_0_1 h rfl (rdo_ok h0 (act_2 h1 h1') h2 (show nhD (evictF D L a.2.1 a.2.2).1 = nhD (evictF D L a.2.1 a.2.2).1 from rfl) (by rw [hstep (by omega), if_pos g2])) (by omega)
      · rename_i g1 g2
        refine ⟨j + 1, by omega, ⟨by omega, by rw [hstep (by omega), if_neg g2]⟩, ⟨?_, rfl, rfl, rfl, trivial⟩, rfl, 9, Nat.le_of_ble_eq_true rfl, rfl, rfl⟩
        rw [← wrap_succ j (by omega)]
        rfl
      · rename_i g1
        exact rdo_end_5_0_1 h rfl (rdo_ok h0 (act_2 h1 h1') h2 (show nhD (evictF D L a.2.1 a.2.2).1 = nhD (evictF D L a.2.1 a.2.2).1 from rfl) (by rw [hy, List.drop_of_length_le (by omega)]; rfl)) (by omega)
  · rename_i h0 h1 h1' h1'' h2
    exact rdo_end_5_0_1 h rfl (rdo_err h0 (act_3 h1 h1' h1'') h2) (by omega)
  · rename_i h0 h1 h1' h1'' h2
    exact act_small1 (n := 0) hrs (act_3 h1 h1' h1'')
  · rename_i h0 h1 h1' h1'' h2
    refine run_loop (loop_fam (ι := Nat) (fun j => [(101, .a (.of (.leaf .int (j : Int)))), (100, .a (.of (.leaf .int (List.length (kickF D L a.2.1).2.1 : Int)))), (99, .a (.of (.leaf (.lst recordT) (recH n (List.length (kickF D L a.2.1).2.1), (kickF D L a.2.1).2.1)))), (4, .a (.ptr 7 0 [] replyT))])
      (fun _ => [.leaf t0 v0, .leaf t1 v1, .leaf t2 v2, .leaf t3 v3, .leaf t4 v4, .leaf benchT (L, (kickF D L a.2.1).1, (.nm (n + (2 * List.length (kickF D L a.2.1).2.1 + 2)), rs ++ (kickF D L a.2.1).2.1), wrap64 (k + 1)), .leaf actT a, .leaf replyT replyT.zero, .leaf deskT (kickF D L a.2.1).1]) (fun _ => ⟨(n + (2 * List.length (kickF D L a.2.1).2.1 + 2)) + 1, (tp :: (Hd.nm (n + (2 * List.length (kickF D L a.2.1).2.1 + 2)), 3) :: tk)⟩) (fun j => List.length (kickF D L a.2.1).2.1 - j) (fun j => j ≤ List.length (kickF D L a.2.1).2.1 ∧ whyF (kickF D L a.2.1).2.1 = whyF (List.drop j (kickF D L a.2.1).2.1)) ?_ ?_)
    · exact ⟨0, ⟨Nat.zero_le _, rfl⟩, ⟨rfl, rfl, rfl, rfl, trivial⟩, rfl, 9, Nat.le_refl _, rfl, rfl⟩
    · rintro j ⟨hj, hy⟩
      have hj : j ≤ List.length (kickF D L a.2.1).2.1 := hj
      have hlen : List.length (kickF D L a.2.1).2.1 ≤ 2 := by rw [← act_3 (n := 0) h1 h1' h1'']; exact act_len
      have hstep : j < List.length (kickF D L a.2.1).2.1 → whyF (kickF D L a.2.1).2.1 = if (nthD recordT (kickF D L a.2.1).2.1 j).1 = 3 then (nthD recordT (kickF D L a.2.1).2.1 j).2.2 else whyF (List.drop (j + 1) (kickF D L a.2.1).2.1) := fun h => by
        rw [hy, List.drop_eq_getElem_cons h, nthD_eq h]
        rfl
      repeat' (first | (with_reducible first | refine seq_k fun K1 n1 => ?_ | refine seq_nil ?_ | refine run_seq ?_ | refine run_skip ?_ | refine run_regS ?_ | refine run_cond ?_ | refine run_block ?_ | refine run_endb ?_ | refine run_exit fun K1 n1 => ?_ | refine run_ret fun K1 n1 => ?_ | refine run_fin ?_ | refine run_inv ?_) | ((with_reducible refine Go.mk ?_); (conv => whnf)) | refine Fork.dec (fun _ => ?_) (fun _ => ?_) | (with_reducible first | refine Need.mkG ?_ ?_) | ((with_reducible refine n1 _ _ _ ?_); clear n1 K1) | ((with_reducible refine n1 _ ?_); clear n1 K1) | fail)
      all_goals try (exact And.intro (by omega) (by omega))
      all_goals try dsimp only [Int.toNat_natCast] at *
      · rename_i g1 g2
        exact rdo_end_5_0_1 h rfl (rdo_ok h0 (act_3 h1 h1' h1'') h2 (show nhD (kickF D L a.2.1).1 = nhD (kickF D L a.2.1).1 from rfl) (by rw [hstep (by omega), if_pos g2])) (by omega)
      · rename_i g1 g2
        refine ⟨j + 1, by omega, ⟨by omega, by rw [hstep (by omega), if_neg g2]⟩, ⟨?_, rfl, rfl, rfl, trivial⟩, rfl, 9, Nat.le_of_ble_eq_true rfl, rfl, rfl⟩
        rw [← wrap_succ j (by omega)]
        rfl
      · rename_i g1
        exact rdo_end_5_0_1 h rfl (rdo_ok h0 (act_3 h1 h1' h1'') h2 (show nhD (kickF D L a.2.1).1 = nhD (kickF D L a.2.1).1 from rfl) (by rw [hy, List.drop_of_length_le (by omega)]; rfl)) (by omega)
  · rename_i h0 h1 h1' h1''
    exact rdo_end_5_0_1 h rfl (rdo_err h0 (act_4 h1 h1' h1'') (show ¬ (3 : Int) = 0 by decide)) (Nat.le_refl _)
set_option maxRecDepth 4000 in
set_option maxHeartbeats 1600000 in
theorem c_BenchPlays : Ctr Tryz.prog 4 (lawZ [progsT, .arr 32 .int, .lst actT]) := by
  refine ctr_ofT [(nilH, 3)] ⟨[3], rfl⟩ tabBOk (SpecsOk.cons c_programs (by kernel_rfl) (SpecsOk.mut newOk (by kernel_rfl) (SpecsOk.cons c_NewBench (by kernel_rfl) (SpecsOk.mut doOk (by kernel_rfl) (SpecsOk.mut rdoOk (by kernel_rfl) (SpecsOk.ptr c_deskP (by kernel_rfl) (SpecsOk.cons c_SameDesk (by kernel_rfl) (SpecsOk.ptr c_rcsP (by kernel_rfl) (SpecsOk.cons c_SameRecords (by kernel_rfl) (SpecsOk.nil _)))))))))) Tryz.func4 rfl _ (Nat.le_of_ble_eq_true rfl) (fun _ _ => rfl) ?_
  rintro nn ⟨l, m, ⟨ah, acts⟩, ⟨⟩⟩ hpre hb
  have hac : acts.length ≤ 9223372036854775807 := hb.2.2.1
  have e1 := newE_prog (prog_at nn l) m
  refine ⟨200, init_k fun K1 n1 => ?_⟩
  conv => whnf
  refine n1 _ ?_
  clear n1 K1
  repeat' (first | (with_reducible first | refine seq_k fun K1 n1 => ?_ | refine seq_nil ?_ | refine run_seq ?_ | refine run_regS ?_) | ((with_reducible refine Go.mk ?_); (conv => whnf)) | ((with_reducible refine n1 _ _ _ ?_); clear n1 K1) | fail)
  all_goals try dsimp only [Int.toNat_natCast] at *
  refine run_regC [3] (by kernel_rfl) ?_
  refine seg_cut [_, _, _] _ rfl rfl ?_
  repeat' (first | (with_reducible first | refine drw_k fun K1 n1 => ?_ | refine drw_nil ?_ ?_ | refine bar_k fun K1 n1 => ?_) | ((with_reducible refine Go.mk ?_); (conv => whnf)) | (with_reducible first | refine Need.mkG ?_ ?_) | ((with_reducible refine n1 _ _ _ _ ?_); clear n1 K1) | fail)
  all_goals try (kernel_rfl)
  all_goals try dsimp only [Int.toNat_natCast] at *
  · exact hpre.1
  refine new_at_2 (fun n' hn he => ?_) (fun n' L hn he hL => ?_)
  · refine n1 _ _ _ ?_
    clear n1 K1
    refine seg_end [_, _, _, _, _, _, _, _, _] rfl ?_
    repeat' (first | (with_reducible first | refine seq_k fun K1 n1 => ?_ | refine seq_nil ?_ | refine drw_k fun K1 n1 => ?_ | refine drw_nil ?_ ?_ | refine run_seq ?_ | refine run_skip ?_ | refine run_regS ?_ | refine run_cond ?_ | refine run_block ?_ | refine run_ret fun K1 n1 => ?_ | refine run_fin ?_) | ((with_reducible refine Go.mk ?_); (conv => whnf)) | refine Fork.yes ?_ | refine Fork.ndec (fun _ => ?_) (fun _ => ?_) | refine Way.yesG ?_ | refine Way.noG ?_ | refine Way.decG (fun _ => ?_) (fun _ => ?_) | refine Way.ndecG (fun _ => ?_) (fun _ => ?_) | (with_reducible first | refine Need.mkG ?_ ?_) | ((with_reducible refine n1 _ _ _ ?_); clear n1 K1) | ((with_reducible refine n1 _ ?_); clear n1 K1) | ((with_reducible refine n1 _ _ _ _ ?_); clear n1 K1) | fail)
    all_goals try (first | exact trivial | omega | kernel_rfl)
    all_goals try dsimp only [Int.toNat_natCast] at *
    all_goals try (omega)
    exact Done.of rfl (Or.inl rfl)
  · refine n1 _ _ _ ?_
    clear n1 K1
    have hI0 : Is (nL l) (pl (nL l) m acts 0) L (deskT.zero.1, m) [] 0 := by
      have := Is.init (nn + 2) (progF nn l) m acts
      rw [nL_prog (prog_at nn l), ← hL] at this
      exact this
    have hg0 : goodK (deskT.zero.1, m) = true := newE_good he
    have e0 : newE l m = 0 := by rw [← e1]; exact he
    refine seg_end [_, _, _, _, _, _, _, _, _] rfl ?_
    repeat' (first | (with_reducible first | refine seq_k fun K1 n1 => ?_ | refine seq_nil ?_ | refine drw_k fun K1 n1 => ?_ | refine drw_nil ?_ ?_ | refine run_seq ?_ | refine run_skip ?_ | refine run_regS ?_ | refine run_cond ?_ | refine run_block ?_ | refine run_ret fun K1 n1 => ?_ | refine run_fin ?_) | ((with_reducible refine Go.mk ?_); (conv => whnf)) | refine Fork.yes ?_ | refine Fork.ndecP (by assumption) ?_ | refine Way.yesG ?_ | refine Way.noG ?_ | refine Way.decN (by assumption) ?_ | refine Way.ndecG (fun _ => ?_) (fun _ => ?_) | (with_reducible first | refine Need.mkG ?_ ?_) | ((with_reducible refine n1 _ _ _ ?_); clear n1 K1) | ((with_reducible refine n1 _ ?_); clear n1 K1) | ((with_reducible refine n1 _ _ _ _ ?_); clear n1 K1) | fail)
    all_goals try (first | exact trivial | kernel_rfl)
    all_goals try dsimp only [Int.toNat_natCast] at *
    all_goals try (omega)
    refine run_loop (loop_fam (ι := Nat × (deskT.D × Rec × Hd × Int) × (deskT.D × Rec × Hd × Int) × Nat) (fun i => [(11, .a (.of (.leaf .int (i.1 : Int)))), (2, .a (.of (.leaf (.lst actT) (ah, acts)))), (7, .a (.ptr 4 0 [] benchT)), (10, .a (.ptr 5 0 [] benchT))])
      (fun i => [.leaf progsT l, .leaf (.arr 32 .int) m, .leaf progsT (progF nn l), .leaf (.arr 32 .int) m, .leaf benchT (L, i.2.1.1, (i.2.1.2.2.1, i.2.1.2.1), i.2.1.2.2.2), .leaf benchT (l, i.2.2.1.1, (i.2.2.1.2.2.1, i.2.2.1.2.1), i.2.2.1.2.2.2)]) (fun i => ⟨i.2.2.2, [(i.2.1.2.2.1, 3), (i.2.2.1.2.2.1, 3)]⟩) (fun i => acts.length - i.1)
      (fun i => (i.1 ≤ acts.length ∧ i.1 ≤ 200) ∧ Is (nL l) (pl (nL l) m acts i.1) L i.2.1.1 i.2.1.2.1 i.2.1.2.2.2 ∧ RIs l (pl (nL l) m acts i.1) i.2.2.1.1 i.2.2.1.2.1 i.2.2.1.2.2.2) ?_ ?_)
    · exact ⟨(0, ((deskT.zero.1, m), [], nilH, 0), ((deskT.zero.1, m), [], nilH, 0), n'), ⟨⟨Nat.zero_le _, Nat.zero_le _⟩, hI0, RIs.init l m acts⟩, ⟨rfl, rfl, rfl, rfl, trivial⟩, rfl, 6, Nat.le_refl _, rfl, rfl⟩
    · rintro ⟨i, ⟨D, rs, H, k⟩, ⟨E, rs', H', k'⟩, n⟩ ⟨⟨hi, hi2⟩, hI, hR⟩
      have hi : i ≤ acts.length := hi
      have hi2 : i ≤ 200 := hi2
      have hI : Is (nL l) (pl (nL l) m acts i) L D rs k := hI
      have hR : RIs l (pl (nL l) m acts i) E rs' k' := hR
      have hrs : rs.length ≤ 10000 := by rw [hI.r]; exact Nat.le_trans (pl_len i) (by omega)
      have hrs' : rs'.length ≤ 10000 := by rw [hR.i.r]; exact Nat.le_trans (pl_len i) (by omega)
      have hsr : sameR rs rs' = true := by rw [hI.r, hR.i.r]; exact sameR_refl _
      repeat' (first | (with_reducible first | refine seq_k fun K1 n1 => ?_ | refine seq_nil ?_ | refine drw_k fun K1 n1 => ?_ | refine drw_nil ?_ ?_ | refine run_seq ?_ | refine run_skip ?_ | refine run_regS ?_ | refine run_regD (by with_unfolding_all rfl) ?_ ?_ | refine run_cond ?_ | refine run_block ?_ | refine run_exit fun K1 n1 => ?_ | refine run_ret fun K1 n1 => ?_ | refine run_fin ?_) | ((with_reducible refine Go.mk ?_); (conv => whnf)) | refine Fork.no ?_ | refine Fork.dec (fun _ => ?_) (fun _ => ?_) | refine Way.yesG ?_ | refine Way.noG ?_ | refine Way.decG (fun _ => ?_) (fun _ => ?_) | (with_reducible first | refine Need.mkG ?_ ?_) | ((with_reducible refine n1 _ _ _ ?_); clear n1 K1) | ((with_reducible refine n1 _ ?_); clear n1 K1) | ((with_reducible refine n1 _ _ _ _ ?_); clear n1 K1) | fail)
      all_goals try (first | exact trivial | omega | kernel_rfl)
      all_goals try dsimp only [Int.toNat_natCast] at *
      · have hlt : (i : Int) < (acts.length : Int) := by assumption
        have hlt2 : (i : Int) < 200 := by assumption
        refine run_regX [(5, [6, 7, 8, 9, 10]), (11, [])] (by kernel_rfl) ?_
        refine segx_cut [_, _, _, _, _, _, _, _, _, _, _, _, _, _, _, _, _, _, _, _, _, _, _] _ rfl rfl ?_
        repeat' (first | (with_reducible first | refine drx_k fun K1 n1 => ?_ | refine drx_nil ?_ ?_ | refine barx_k fun K1 n1 => ?_) | ((with_reducible refine Go.mk ?_); (conv => whnf)) | (with_reducible first | refine Need.mkG ?_ ?_) | ((with_reducible refine n1 _ _ _ _ ?_); clear n1 K1) | fail)
        all_goals try (first | kernel_rfl | exact And.intro (by omega) (by omega))
        all_goals try dsimp only [Int.toNat_natCast] at *
        refine do_at_4_1_0 hrs fun n2 H2 r2 D2 R2 k2 hn2 o2 => ?_
        refine n1 _ _ _ _ ?_
        clear n1 K1
        obtain ⟨hI2, hr2⟩ := hI.next o2
        have hI2 : Is (nL l) (pl (nL l) m acts (i + 1)) L D2 R2 k2 := hI2
        have hg2 : goodK D2 = true := by rw [hI2.good]; exact pl_good hg0 (i + 1)
        refine segx_cut [_, _, _, _, _, _, _, _, _, _, _, _, _, _, _, _, _, _, _, _, _, _, _] _ rfl rfl ?_
        repeat' (first | (with_reducible first | refine drx_k fun K1 n1 => ?_ | refine drx_nil ?_ ?_ | refine barx_k fun K1 n1 => ?_) | ((with_reducible refine Go.mk ?_); (conv => whnf)) | (with_reducible first | refine Need.mkG ?_ ?_) | ((with_reducible refine n1 _ _ _ _ ?_); clear n1 K1) | fail)
        all_goals try (first | kernel_rfl | exact And.intro (by omega) (by omega))
        all_goals try dsimp only [Int.toNat_natCast] at *
        refine rdo_at_5_0_1 hrs' fun n3 H3 r3 E3 S3 k3 hn3 o3 => ?_
        refine n1 _ _ _ _ ?_
        clear n1 K1
        obtain ⟨hR2, hr3⟩ := hR.next o3
        have hR2 : RIs l (pl (nL l) m acts (i + 1)) E3 S3 k3 := hR2
        have hrr : r2 = r3 := hr2.trans hr3.symm
        subst hrr
        have hee : eqT replyT r2 r2 = true := eqD_refl replyT rfl r2
        have hsd : ∀ q, sameD (dskD q D2) E3 = true := fun q => sameD_nh ((nh_dsk q D2).trans (hI2.d.trans hR2.i.d.symm))
        clear o2 o3 hr2 hr3
        refine segx_end [_, _, _, _, _, _, _, _, _, _, _, _, _, _, _, _, _, _, _, _, _, _, _] rfl ?_
        repeat' (first | (with_reducible first | refine seq_k fun K1 n1 => ?_ | refine seq_nil ?_ | refine drx_k fun K1 n1 => ?_ | refine drx_nil ?_ ?_ | refine run_seq ?_ | refine run_skip ?_ | refine run_regS ?_ | refine run_cond ?_ | refine run_endb ?_ | refine run_ret fun K1 n1 => ?_ | refine run_fin ?_ | refine run_inv ?_) | ((with_reducible refine Go.mk ?_); (conv => whnf)) | refine Fork.yes ?_ | refine Fork.mk (fun _ => ?_) (fun _ => ?_) | refine Way.yesG ?_ | refine Way.noG ?_ | refine Way.mkG (fun _ => ?_) (fun _ => ?_) | (with_reducible first | refine Need.mkG ?_ ?_) | ((with_reducible refine n1 _ _ _ ?_); clear n1 K1) | ((with_reducible refine n1 _ ?_); clear n1 K1) | ((with_reducible refine n1 _ _ _ _ ?_); clear n1 K1) | fail)
        all_goals try (first | exact trivial | kernel_rfl)
        all_goals try dsimp only [Int.toNat_natCast] at *
        · rename_i g
          rw [hee] at g
          cases g
        · exact good_len hg2
        · rename_i g
          rw [hsd] at g
          cases g
        · refine ⟨(i + 1, (D2, R2, H2, k2), (E3, S3, H3, k3), n3 + 2), (show acts.length - (i + 1) < acts.length - i by omega), ⟨⟨(show i + 1 ≤ acts.length by omega), (show i + 1 ≤ 200 by omega)⟩, hI2, hR2⟩, ⟨?_, rfl, rfl, rfl, trivial⟩, rfl, 6, Nat.le_of_ble_eq_true rfl, rfl, rfl⟩
          show some (SV.a (AV.of (V.leaf Ty.int (wrap64 ((i : Int) + 1))))) = some (SV.a (AV.of (V.leaf Ty.int ((i + 1 : Nat) : Int))))
          rw [← wrap_succ i (by omega)]
      all_goals
        refine Done.of ?_ (Or.inl rfl)
        show (_, ()) = (true, ())
        rw [hsr]
end Go.Proofs.YtjbbgpacijageacGreat.M
