/- The law BenchRuns. -/
import Derived.Test.YtjbbgpacijageacGreatUQ
import Derived.Test.YtjbbgpacijageacGreatBR
import Derived.Test.YtjbbgpacijageacGreatJ1l
import Derived.Test.YtjbbgpacijageacGreatPg
import Derived.Test.YtjbbgpacijageacGreatWX
namespace Go.Proofs.YtjbbgpacijageacGreat.M
open Go.RowKit
set_option linter.unusedVariables false
set_option linter.unusedSimpArgs false

theorem reps_nth (L : progsT.D) (m : Nat → Int) (acts : List actT.D) : ∀ n i, i < n → nthD replyT (reps L m acts n) i = repF 0 L (pl L m acts i).1 (pl L m acts i).2.2 (nthD actT acts i)
  | 0, i, h => absurd h (Nat.not_lt_zero _)
  | n + 1, i, h => by
    rcases Nat.lt_or_ge i n with h1 | h1
    · rw [← reps_nth L m acts n i h1]
      show nthD replyT (reps L m acts n ++ _) i = _
      unfold nthD
      rw [List.getElem?_append_left (by rw [reps_len]; exact h1)]
    · obtain rfl : i = n := by omega
      show nthD replyT (reps L m acts i ++ [_]) i = _
      unfold nthD
      rw [List.getElem?_append_right (by rw [reps_len]; exact Nat.le_refl _), reps_len, Nat.sub_self]
      rfl
abbrev rlF := progsT.D → (Nat → Int) → List actT.D → List replyT.D
abbrev reF := progsT.D → (Nat → Int) → List actT.D → Int
abbrev runSq (L : rlF) (E : reF) : Spec := { args := [progsT, .arr 32 .int, .lst actT], res := [.lst replyT, .int], cr := true, m := fun _ => 1, fn := fun nn d => ((.nm nn, L d.1 d.2.1 d.2.2.1.2), E d.1 d.2.1 d.2.2.1.2, ()), pre := fun _ => True }
theorem run_no (nn : Nat) {l : progsT.D} {m : Nat → Int} (acts : List actT.D) (h : ¬ newE l m = 0) : runE (progF nn l) m acts = newE l m ∧ runL (progF nn l) m acts = [] := by
  unfold runE runL
  rw [newE_prog (prog_at nn l), if_neg h, if_neg h]
  exact ⟨rfl, rfl⟩
theorem run_full (nn : Nat) {l : progsT.D} {m : Nat → Int} {acts : List actT.D} (h : newE l m = 0) (h4 : 400 < (acts.length : Int)) : runE (progF nn l) m acts = 6 ∧ runL (progF nn l) m acts = [] := by
  unfold runE runL
  rw [newE_prog (prog_at nn l), if_pos h, if_pos h, if_pos h4, if_pos h4]
  exact ⟨rfl, rfl⟩
theorem run_yes (nn : Nat) {l : progsT.D} {m : Nat → Int} {acts : List actT.D} (h : newE l m = 0) (h4 : ¬ 400 < (acts.length : Int)) : runE (progF nn l) m acts = 0 ∧ runL (progF nn l) m acts = reps (nL l) m acts acts.length := by
  unfold runE runL
  rw [newE_prog (prog_at nn l), if_pos h, if_pos h, if_neg h4, if_neg h4, nL_prog (prog_at nn l)]
  exact ⟨rfl, rfl⟩
theorem rdo_end_2_0_0 {t0 : Ty} {v0 : t0.D} {t1 : Ty} {v1 : t1.D} {tk : List (Hd × Nat)} {L : progsT.D} {D : deskT.D} {rs : Rec} {k : Int} {a : actT.D} {n n' : Nat} {K : SV → List V → NS → Prop} (h : ∀ n' H' r D' R' k', n ≤ n' → RDo L D rs k a r D' R' k' → K (.a (.of (.leaf replyT r))) [.leaf t0 v0, .leaf t1 v1, .leaf benchT (L, D', (H', R'), k')] ⟨n', ((H', 3) :: tk)⟩)
    {r : replyT.D} {D' : deskT.D} {H' : Hd} {R' : Rec} {k' : Int} {v : V} {junk : List V} (hv : v.norm = .leaf benchT (L, D', (H', R'), k')) (o : RDo L D rs k a r D' R' k') (hn : n ≤ n') : LaxE 3 K (.a (.of (.leaf replyT r))) (.leaf t0 v0 :: .leaf t1 v1 :: v :: junk) ⟨n', ((H', 3) :: tk)⟩ := by
  refine LaxE.mk' 3 n' _ (Nat.le_refl _) (by simp only [List.length_cons]; omega) rfl (Nat.le_refl _) (TkLe.refl _) ?_
  show K _ [.leaf t0 v0, .leaf t1 v1, v.norm] _
  rw [hv]
  exact h n' H' r _ _ _ hn o
set_option maxHeartbeats 1600000 in
theorem rdo_at_2_0_0 {t0 : Ty} {v0 : t0.D} {t1 : Ty} {v1 : t1.D} {tk : List (Hd × Nat)} {L : progsT.D} {D : deskT.D} {H : Hd} {rs : Rec} {k : Int} {a : actT.D} {n : Nat} (hrs : rs.length ≤ 10000) {K : SV → List V → NS → Prop} (h : ∀ n' H' r D' R' k', n ≤ n' → RDo L D rs k a r D' R' k' → K (.a (.of (.leaf replyT r))) [.leaf t0 v0, .leaf t1 v1, .leaf benchT (L, D', (H', R'), k')] ⟨n', ((H', 3) :: tk)⟩) :
    rdoTr [.ptr 2 0 [] benchT, .of (.leaf actT a)] [.leaf t0 v0, .leaf t1 v1, .leaf benchT (L, D, (H, rs), k)] ⟨n, ((H, 3) :: tk)⟩ K := by
  refine ⟨[.ptr 2 0 [] benchT, .of (.leaf actT a)], [.leaf t0 v0, .leaf t1 v1, .leaf benchT (L, D, (H, rs), k)], rfl, rfl, ?_⟩
  repeat' (first | (with_reducible first | refine seq_k fun K1 n1 => ?_ | refine seq_nil ?_ | refine drw_k fun K1 n1 => ?_ | refine drw_nil ?_ ?_ | refine run_seq ?_ | refine run_skip ?_ | refine run_regS ?_ | refine run_regD (by kernel_rfl) ?_ ?_ | refine inl_k (by with_unfolding_all rfl) (Nat.le_of_ble_eq_true rfl) fun K1 n1 => ?_ | refine run_cond ?_ | refine run_block ?_ | refine run_endb ?_ | refine run_ret fun K1 n1 => ?_ | refine run_fin ?_) | ((with_reducible refine Go.mk ?_); (conv => whnf)) | refine Fork.yes ?_ | refine Fork.dec (fun _ => ?_) (fun _ => ?_) | refine Fork.ndec (fun _ => ?_) (fun _ => ?_) | (with_reducible first | refine Need.mkG ?_ ?_) | refine AppW.go0 ?_ ?_ | ((with_reducible refine n1 _ _ _ ?_); clear n1 K1) | ((with_reducible refine n1 _ ?_); clear n1 K1) | ((with_reducible refine n1 _ _ ?_); clear n1 K1) | ((with_reducible refine n1 _ _ _ _ ?_); clear n1 K1) | fail)
  all_goals try (first | exact trivial | kernel_rfl)
  all_goals try dsimp only [Int.toNat_natCast] at *
  · rename_i h1
    exact rdo_end_2_0_0 h rfl (rdo_full h1) (Nat.le_refl _)
  · rename_i h0 h1 h2
    exact rdo_end_2_0_0 h rfl (rdo_err h0 (act_1 h1) h2) (by omega)
  · rename_i h0 h1 h2
    exact act_small1 (n := 0) hrs (act_1 h1)
  · rename_i h0 h1 h2
    refine run_loop (loop_fam (ι := Nat) (fun j => [(101, .a (.of (.leaf .int (j : Int)))), (100, .a (.of (.leaf .int (List.length (stepF 0 D L a.2.1).2.1 : Int)))), (99, .a (.of (.leaf (.lst recordT) (.nm n, (stepF 0 D L a.2.1).2.1)))), (4, .a (.ptr 4 0 [] replyT))])
      (fun _ => [.leaf t0 v0, .leaf t1 v1, .leaf benchT (L, (hdsD n (stepF 0 D L a.2.1).1), (.nm (n + 3), rs ++ (stepF 0 D L a.2.1).2.1), wrap64 (k + 1)), .leaf actT a, .leaf replyT replyT.zero, .leaf deskT (hdsD n (stepF 0 D L a.2.1).1)]) (fun _ => ⟨(n + 3) + 1, ((Hd.nm (n + 3), 3) :: tk)⟩) (fun j => List.length (stepF 0 D L a.2.1).2.1 - j) (fun j => j ≤ List.length (stepF 0 D L a.2.1).2.1 ∧ whyF (stepF 0 D L a.2.1).2.1 = whyF (List.drop j (stepF 0 D L a.2.1).2.1)) ?_ ?_)
    · exact ⟨0, ⟨Nat.zero_le _, rfl⟩, ⟨rfl, rfl, rfl, rfl, trivial⟩, rfl, 6, Nat.le_refl _, rfl, rfl⟩
    · rintro j ⟨hj, hy⟩
      have hj : j ≤ List.length (stepF 0 D L a.2.1).2.1 := hj
      have hlen : List.length (stepF 0 D L a.2.1).2.1 ≤ 2 := by rw [← act_1 (n := 0) h1]; exact act_len
      have hstep : j < List.length (stepF 0 D L a.2.1).2.1 → whyF (stepF 0 D L a.2.1).2.1 = if (nthD recordT (stepF 0 D L a.2.1).2.1 j).1 = 3 then (nthD recordT (stepF 0 D L a.2.1).2.1 j).2.2 else whyF (List.drop (j + 1) (stepF 0 D L a.2.1).2.1) := fun h => by
        rw [hy, List.drop_eq_getElem_cons h, nthD_eq h]
        rfl
      repeat' (first | (with_reducible first | refine seq_k fun K1 n1 => ?_ | refine seq_nil ?_ | refine run_seq ?_ | refine run_skip ?_ | refine run_regS ?_ | refine run_cond ?_ | refine run_block ?_ | refine run_endb ?_ | refine run_exit fun K1 n1 => ?_ | refine run_ret fun K1 n1 => ?_ | refine run_fin ?_ | refine run_inv ?_) | ((with_reducible refine Go.mk ?_); (conv => whnf)) | refine Fork.dec (fun _ => ?_) (fun _ => ?_) | (with_reducible first | refine Need.mkG ?_ ?_) | ((with_reducible refine n1 _ _ _ ?_); clear n1 K1) | ((with_reducible refine n1 _ ?_); clear n1 K1) | fail)
      all_goals try (exact And.intro (by omega) (by omega))
      all_goals try dsimp only [Int.toNat_natCast] at *
      · rename_i g1 g2
        exact rdo_end_2_0_0 h rfl (rdo_ok h0 (act_1 h1) h2 (show nhD (hdsD n (stepF 0 D L a.2.1).1) = nhD (stepF 0 D L a.2.1).1 from rfl) (by rw [hstep (by omega), if_pos g2])) (by omega)
      · rename_i g1 g2
        refine ⟨j + 1, by omega, ⟨by omega, by rw [hstep (by omega), if_neg g2]⟩, ⟨?_, rfl, rfl, rfl, trivial⟩, rfl, 6, Nat.le_of_ble_eq_true rfl, rfl, rfl⟩
        rw [← wrap_succ j (by omega)]
        rfl
      · rename_i g1
        exact rdo_end_2_0_0 h rfl (rdo_ok h0 (act_1 h1) h2 (show nhD (hdsD n (stepF 0 D L a.2.1).1) = nhD (stepF 0 D L a.2.1).1 from rfl) (by rw [hy, List.drop_of_length_le (by omega)]; rfl)) (by omega)
  · rename_i h0 h1 h1' h2
    exact rdo_end_2_0_0 h rfl (rdo_err h0 (act_2 h1 h1') h2) (by omega)
  · rename_i h0 h1 h1' h2
    exact act_small1 (n := 0) hrs (act_2 h1 h1')
  · rename_i h0 h1 h1' h2
    refine run_loop (loop_fam (ι := Nat) (fun j => [(101, .a (.of (.leaf .int (j : Int)))), (100, .a (.of (.leaf .int (List.length (evictF D L a.2.1 a.2.2).2.1 : Int)))), (99, .a (.of (.leaf (.lst recordT) (recH n (List.length (evictF D L a.2.1 a.2.2).2.1), (evictF D L a.2.1 a.2.2).2.1)))), (4, .a (.ptr 4 0 [] replyT))])
      (fun _ => [.leaf t0 v0, .leaf t1 v1, .leaf benchT (L, (evictF D L a.2.1 a.2.2).1, (.nm (n + (2 * List.length (evictF D L a.2.1 a.2.2).2.1 + 2)), rs ++ (evictF D L a.2.1 a.2.2).2.1), wrap64 (k + 1)), .leaf actT a, .leaf replyT replyT.zero, .leaf deskT (evictF D L a.2.1 a.2.2).1]) (fun _ => ⟨(n + (2 * List.length (evictF D L a.2.1 a.2.2).2.1 + 2)) + 1, ((Hd.nm (n + (2 * List.length (evictF D L a.2.1 a.2.2).2.1 + 2)), 3) :: tk)⟩) (fun j => List.length (evictF D L a.2.1 a.2.2).2.1 - j) (fun j => j ≤ List.length (evictF D L a.2.1 a.2.2).2.1 ∧ whyF (evictF D L a.2.1 a.2.2).2.1 = whyF (List.drop j (evictF D L a.2.1 a.2.2).2.1)) ?_ ?_)
    · exact ⟨0, ⟨Nat.zero_le _, rfl⟩, ⟨rfl, rfl, rfl, rfl, trivial⟩, rfl, 6, Nat.le_refl _, rfl, rfl⟩
    · rintro j ⟨hj, hy⟩
      have hj : j ≤ List.length (evictF D L a.2.1 a.2.2).2.1 := hj
      have hlen : List.length (evictF D L a.2.1 a.2.2).2.1 ≤ 2 := by rw [← act_2 (n := 0) h1 h1']; exact act_len
      have hstep : j < List.length (evictF D L a.2.1 a.2.2).2.1 → whyF (evictF D L a.2.1 a.2.2).2.1 = if (nthD recordT (evictF D L a.2.1 a.2.2).2.1 j).1 = 3 then (nthD recordT (evictF D L a.2.1 a.2.2).2.1 j).2.2 else whyF (List.drop (j + 1) (evictF D L a.2.1 a.2.2).2.1) := fun h => by
        rw [hy, List.drop_eq_getElem_cons h, nthD_eq h]
        rfl
      repeat' (first | (with_reducible first | refine seq_k fun K1 n1 => ?_ | refine seq_nil ?_ | refine run_seq ?_ | refine run_skip ?_ | refine run_regS ?_ | refine run_cond ?_ | refine run_block ?_ | refine run_endb ?_ | refine run_exit fun K1 n1 => ?_ | refine run_ret fun K1 n1 => ?_ | refine run_fin ?_ | refine run_inv ?_) | ((with_reducible refine Go.mk ?_); (conv => whnf)) | refine Fork.dec (fun _ => ?_) (fun _ => ?_) | (with_reducible first | refine Need.mkG ?_ ?_) | ((with_reducible refine n1 _ _ _ ?_); clear n1 K1) | ((with_reducible refine n1 _ ?_); clear n1 K1) | fail)
      all_goals try (exact And.intro (by omega) (by omega))
      all_goals try dsimp only [Int.toNat_natCast] at *
      · rename_i g1 g2
        exact rdo_end_2_0_0 h rfl (rdo_ok h0 (act_2 h1 h1') h2 (show nhD (evictF D L a.2.1 a.2.2).1 = nhD (evictF D L a.2.1 a.2.2).1 from rfl) (by rw [hstep (by omega), if_pos g2])) (by omega)
      · rename_i g1 g2
        refine ⟨j + 1, by omega, ⟨by omega, by rw [hstep (by omega), if_neg g2]⟩, ⟨?_, rfl, rfl, rfl, trivial⟩, rfl, 6, Nat.le_of_ble_eq_true rfl, rfl, rfl⟩
        rw [← wrap_succ j (by omega)]
        rfl
      · rename_i g1
        exact rdo_end_2_0_0 h rfl (rdo_ok h0 (act_2 h1 h1') h2 (show nhD (evictF D L a.2.1 a.2.2).1 = nhD (evictF D L a.2.1 a.2.2).1 from rfl) (by rw [hy, List.drop_of_length_le (by omega)]; rfl)) (by omega)
  · rename_i h0 h1 h1' h1'' h2
    exact rdo_end_2_0_0 h rfl (rdo_err h0 (act_3 h1 h1' h1'') h2) (by omega)
  · rename_i h0 h1 h1' h1'' h2
    exact act_small1 (n := 0) hrs (act_3 h1 h1' h1'')
  · rename_i h0 h1 h1' h1'' h2
    refine run_loop (loop_fam (ι := Nat) (fun j => [(101, .a (.of (.leaf .int (j : Int)))), (100, .a (.of (.leaf .int (List.length (kickF D L a.2.1).2.1 : Int)))), (99, .a (.of (.leaf (.lst recordT) (recH n (List.length (kickF D L a.2.1).2.1), (kickF D L a.2.1).2.1)))), (4, .a (.ptr 4 0 [] replyT))])
      (fun _ => [.leaf t0 v0, .leaf t1 v1, .leaf benchT (L, (kickF D L a.2.1).1, (.nm (n + (2 * List.length (kickF D L a.2.1).2.1 + 2)), rs ++ (kickF D L a.2.1).2.1), wrap64 (k + 1)), .leaf actT a, .leaf replyT replyT.zero, .leaf deskT (kickF D L a.2.1).1]) (fun _ => ⟨(n + (2 * List.length (kickF D L a.2.1).2.1 + 2)) + 1, ((Hd.nm (n + (2 * List.length (kickF D L a.2.1).2.1 + 2)), 3) :: tk)⟩) (fun j => List.length (kickF D L a.2.1).2.1 - j) (fun j => j ≤ List.length (kickF D L a.2.1).2.1 ∧ whyF (kickF D L a.2.1).2.1 = whyF (List.drop j (kickF D L a.2.1).2.1)) ?_ ?_)
    · exact ⟨0, ⟨Nat.zero_le _, rfl⟩, ⟨rfl, rfl, rfl, rfl, trivial⟩, rfl, 6, Nat.le_refl _, rfl, rfl⟩
    · rintro j ⟨hj, hy⟩
      have hj : j ≤ List.length (kickF D L a.2.1).2.1 := hj
      have hlen : List.length (kickF D L a.2.1).2.1 ≤ 2 := by rw [← act_3 (n := 0) h1 h1' h1'']; exact act_len
      have hstep : j < List.length (kickF D L a.2.1).2.1 → whyF (kickF D L a.2.1).2.1 = if (nthD recordT (kickF D L a.2.1).2.1 j).1 = 3 then (nthD recordT (kickF D L a.2.1).2.1 j).2.2 else whyF (List.drop (j + 1) (kickF D L a.2.1).2.1) := fun h => by
        rw [hy, List.drop_eq_getElem_cons h, nthD_eq h]
        rfl
      repeat' (first | (with_reducible first | refine seq_k fun K1 n1 => ?_ | refine seq_nil ?_ | refine run_seq ?_ | refine run_skip ?_ | refine run_regS ?_ | refine run_cond ?_ | refine run_block ?_ | refine run_endb ?_ | refine run_exit fun K1 n1 => ?_ | refine run_ret fun K1 n1 => ?_ | refine run_fin ?_ | refine run_inv ?_) | ((with_reducible refine Go.mk ?_); (conv => whnf)) | refine Fork.dec (fun _ => ?_) (fun _ => ?_) | (with_reducible first | refine Need.mkG ?_ ?_) | ((with_reducible refine n1 _ _ _ ?_); clear n1 K1) | ((with_reducible refine n1 _ ?_); clear n1 K1) | fail)
      all_goals try (exact And.intro (by omega) (by omega))
      all_goals try dsimp only [Int.toNat_natCast] at *
      · rename_i g1 g2
        exact rdo_end_2_0_0 h rfl (rdo_ok h0 (act_3 h1 h1' h1'') h2 (show nhD (kickF D L a.2.1).1 = nhD (kickF D L a.2.1).1 from rfl) (by rw [hstep (by omega), if_pos g2])) (by omega)
      · rename_i g1 g2
        refine ⟨j + 1, by omega, ⟨by omega, by rw [hstep (by omega), if_neg g2]⟩, ⟨?_, rfl, rfl, rfl, trivial⟩, rfl, 6, Nat.le_of_ble_eq_true rfl, rfl, rfl⟩
        rw [← wrap_succ j (by omega)]
        rfl
      · rename_i g1
        exact rdo_end_2_0_0 h rfl (rdo_ok h0 (act_3 h1 h1' h1'') h2 (show nhD (kickF D L a.2.1).1 = nhD (kickF D L a.2.1).1 from rfl) (by rw [hy, List.drop_of_length_le (by omega)]; rfl)) (by omega)
  · rename_i h0 h1 h1' h1''
    exact rdo_end_2_0_0 h rfl (rdo_err h0 (act_4 h1 h1' h1'') (show ¬ (3 : Int) = 0 by decide)) (Nat.le_refl _)
set_option maxRecDepth 4000 in
set_option maxHeartbeats 1600000 in
theorem c_BenchRuns : Ctr Tryz.prog 5 (lawZ [progsT, .arr 32 .int, .lst actT]) := by
  obtain ⟨RL, RE, hRL, hRE, cR⟩ : ∃ (L : rlF) (E : reF), L = runL ∧ E = runE ∧ Ctr Tryz.prog 22 (runSq L E) := ⟨runL, runE, rfl, rfl, c_Run⟩
  refine ctr_ofT [(nilH, 3)] ⟨[3], rfl⟩ tabBOk (SpecsOk.cons c_programs (by kernel_rfl) (SpecsOk.cons cR (by kernel_rfl) (SpecsOk.cons c_NewBench (by kernel_rfl) (SpecsOk.mut rdoOk (by kernel_rfl) (SpecsOk.cons c_lSteps (by kernel_rfl) (SpecsOk.nil _)))))) Tryz.func5 rfl _ (Nat.le_of_ble_eq_true rfl) (fun _ _ => rfl) ?_
  rintro nn ⟨l, m, ⟨ah, acts⟩, ⟨⟩⟩ hpre hb
  have hac : acts.length ≤ 9223372036854775807 := hb.2.2.1
  have hno : ¬ newE l m = 0 → RE (progF nn l) m acts = newE l m ∧ RL (progF nn l) m acts = [] := fun h => by rw [hRL, hRE]; exact run_no nn acts h
  have hfull : newE l m = 0 → 400 < (acts.length : Int) → RE (progF nn l) m acts = 6 ∧ RL (progF nn l) m acts = [] := fun h h4 => by rw [hRL, hRE]; exact run_full nn h h4
  have hyes : newE l m = 0 → ¬ 400 < (acts.length : Int) → RE (progF nn l) m acts = 0 ∧ RL (progF nn l) m acts = reps (nL l) m acts acts.length := fun h h4 => by rw [hRL, hRE]; exact run_yes nn h h4
  clear hRL hRE
  refine ⟨200, init_k fun K1 n1 => ?_⟩
  conv => whnf
  refine n1 _ ?_
  clear n1 K1
  repeat' (first | (with_reducible first | refine seq_k fun K1 n1 => ?_ | refine seq_nil ?_ | refine drw_k fun K1 n1 => ?_ | refine drw_nil ?_ ?_ | refine run_seq ?_ | refine run_skip ?_ | refine run_regS ?_ | refine run_regD (by with_unfolding_all rfl) ?_ ?_ | refine run_cond ?_ | refine run_block ?_ | refine run_ret fun K1 n1 => ?_ | refine run_fin ?_) | ((with_reducible refine Go.mk ?_); (conv => whnf)) | refine Fork.yes ?_ | refine Fork.dec (fun _ => ?_) (fun _ => ?_) | refine Fork.ndec (fun _ => ?_) (fun _ => ?_) | refine Way.yesG ?_ | refine Way.noG ?_ | refine Way.decG (fun _ => ?_) (fun _ => ?_) | refine Way.ndecG (fun _ => ?_) (fun _ => ?_) | (with_reducible first | refine Need.mkG ?_ ?_) | ((with_reducible refine n1 _ _ _ ?_); clear n1 K1) | ((with_reducible refine n1 _ ?_); clear n1 K1) | ((with_reducible refine n1 _ _ _ _ ?_); clear n1 K1) | fail)
  all_goals try (first | exact trivial | kernel_rfl)
  all_goals try dsimp only [Int.toNat_natCast] at *
  all_goals try (omega)
  · exact hpre.1
  · exact hpre.2.2.1.1
  · rename_i g0 g1
    refine Done.of ?_ (Or.inl rfl)
    have e : ((RL (progF nn l) m acts).length : Int) = 0 := by rw [(hno g0).2]; rfl
    show (_, ()) = (true, ())
    rw [decide_eq_true e]
  · rename_i g0 g1 g2
    refine Done.of ?_ (Or.inl rfl)
    have e : ((RL (progF nn l) m acts).length : Int) = 0 := by rw [(hfull g0 g1).2]; rfl
    show (_, ()) = (true, ())
    rw [decide_eq_true e]
  · rename_i g0 g1 g2 g3
    exact absurd (by rw [(hyes g0 g1).2, reps_len]) g3
  · rename_i g0 g1 g2 g3
    have hXl : (RL (progF nn l) m acts).length = acts.length := by omega
    have hXn : ∀ i, i < acts.length → nthD replyT (RL (progF nn l) m acts) i = repF 0 (nL l) (pl (nL l) m acts i).1 (pl (nL l) m acts i).2.2 (nthD actT acts i) := fun i hi => by
      rw [(hyes g0 g1).2]
      exact reps_nth _ _ _ _ i hi
    refine run_loop (loop_fam (ι := Nat × (deskT.D × Rec × Hd × Int) × Nat) (fun i => [(60, .a (.of (.leaf .int (i.1 : Int)))), (59, .a (.of (.leaf .int (acts.length : Int)))), (7, .a (.of (.leaf (.lst replyT) (.nm (nn + 2 + 1), RL (progF nn l) m acts)))), (2, .a (.of (.leaf (.lst actT) (ah, acts)))), (10, .a (.ptr 2 0 [] benchT))])
      (fun i => [.leaf progsT l, .leaf (.arr 32 .int) m, .leaf benchT (l, i.2.1.1, (i.2.1.2.2.1, i.2.1.2.1), i.2.1.2.2.2)]) (fun i => ⟨i.2.2, [(i.2.1.2.2.1, 3)]⟩) (fun i => acts.length - i.1)
      (fun i => i.1 ≤ acts.length ∧ RIs l (pl (nL l) m acts i.1) i.2.1.1 i.2.1.2.1 i.2.1.2.2.2) ?_ ?_)
    · exact ⟨(0, ((deskT.zero.1, m), [], nilH, 0), nn + 2 + 1 + 1), ⟨Nat.zero_le _, RIs.init l m acts⟩, ⟨rfl, rfl, rfl, rfl, rfl, trivial⟩, rfl, 3, Nat.le_refl _, rfl, rfl⟩
    · rintro ⟨i, ⟨E, rs, H, k⟩, n⟩ ⟨hi, hR⟩
      have hi : i ≤ acts.length := hi
      have hR : RIs l (pl (nL l) m acts i) E rs k := hR
      have hrs : rs.length ≤ 10000 := by rw [hR.i.r]; exact Nat.le_trans (pl_len i) (by omega)
      repeat' (first | (with_reducible first | refine seq_k fun K1 n1 => ?_ | refine seq_nil ?_ | refine run_seq ?_ | refine run_skip ?_ | refine run_regS ?_ | refine run_cond ?_ | refine run_block ?_ | refine run_exit fun K1 n1 => ?_ | refine run_ret fun K1 n1 => ?_ | refine run_fin ?_) | ((with_reducible refine Go.mk ?_); (conv => whnf)) | refine Fork.dec (fun _ => ?_) (fun _ => ?_) | (with_reducible first | refine Need.mkG ?_ ?_) | ((with_reducible refine n1 _ _ _ ?_); clear n1 K1) | ((with_reducible refine n1 _ ?_); clear n1 K1) | fail)
      all_goals try (exact trivial)
      all_goals try dsimp only [Int.toNat_natCast] at *
      · have hlt : (i : Int) < (acts.length : Int) := by assumption
        refine run_regX [(9, [0, 1, 2, 3])] (by kernel_rfl) ?_
        refine segx_cut [_, _, _, _, _, _, _, _, _, _, _] _ rfl rfl ?_
        repeat' (first | (with_reducible first | refine drx_k fun K1 n1 => ?_ | refine drx_nil ?_ ?_ | refine barx_k fun K1 n1 => ?_) | ((with_reducible refine Go.mk ?_); (conv => whnf)) | (with_reducible first | refine Need.mkG ?_ ?_) | ((with_reducible refine n1 _ _ _ _ ?_); clear n1 K1) | fail)
        all_goals try (first | kernel_rfl | exact And.intro (by omega) (by omega))
        all_goals try dsimp only [Int.toNat_natCast] at *
        all_goals first
          | exact (show @LE.le Int _ 0 (i : Int) ∧ @LT.lt Int _ (i : Int) ((RL (progF nn l) m acts).length : Int) from ⟨by omega, by omega⟩)
          | skip
        refine rdo_at_2_0_0 hrs fun n3 H3 r3 E3 S3 k3 hn3 o3 => ?_
        refine n1 _ _ _ _ ?_
        clear n1 K1
        obtain ⟨hR2, hr3⟩ := hR.next o3
        have hR2 : RIs l (pl (nL l) m acts (i + 1)) E3 S3 k3 := hR2
        have hrr : nthD replyT (RL (progF nn l) m acts) i = r3 := (hXn i (by omega)).trans hr3.symm
        have hee : eqT replyT (nthD replyT (RL (progF nn l) m acts) i) r3 = true := by rw [hrr]; exact eqD_refl replyT rfl r3
        clear o3 hr3
        refine segx_end [_, _, _, _, _, _, _, _, _, _, _] rfl ?_
        repeat' (first | (with_reducible first | refine seq_k fun K1 n1 => ?_ | refine seq_nil ?_ | refine drx_k fun K1 n1 => ?_ | refine drx_nil ?_ ?_ | refine run_seq ?_ | refine run_skip ?_ | refine run_regS ?_ | refine run_cond ?_ | refine run_endb ?_ | refine run_ret fun K1 n1 => ?_ | refine run_fin ?_ | refine run_inv ?_) | ((with_reducible refine Go.mk ?_); (conv => whnf)) | refine Fork.mk (fun _ => ?_) (fun _ => ?_) | (with_reducible first | refine Need.mkG ?_ ?_) | ((with_reducible refine n1 _ _ _ ?_); clear n1 K1) | ((with_reducible refine n1 _ ?_); clear n1 K1) | ((with_reducible refine n1 _ _ _ _ ?_); clear n1 K1) | fail)
        all_goals try (kernel_rfl)
        all_goals try dsimp only [Int.toNat_natCast] at *
        · exact (show @LE.le Int _ 0 (i : Int) ∧ @LT.lt Int _ (i : Int) ((RL (progF nn l) m acts).length : Int) from ⟨by omega, by omega⟩)
        · rename_i g
          rw [hee] at g
          cases g
        · refine ⟨(i + 1, (E3, S3, H3, k3), n3), (show acts.length - (i + 1) < acts.length - i by omega), ⟨(show i + 1 ≤ acts.length by omega), hR2⟩, ⟨?_, rfl, rfl, rfl, rfl, trivial⟩, rfl, 3, Nat.le_of_ble_eq_true rfl, rfl, rfl⟩
          show some (SV.a (AV.of (V.leaf Ty.int (wrap64 ((i : Int) + 1))))) = some (SV.a (AV.of (V.leaf Ty.int ((i + 1 : Nat) : Int))))
          rw [← wrap_succ i (by omega)]
      · exact Done.of rfl (Or.inl rfl)
end Go.Proofs.YtjbbgpacijageacGreat.M
