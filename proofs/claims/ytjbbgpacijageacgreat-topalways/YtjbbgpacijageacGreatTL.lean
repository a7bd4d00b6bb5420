/- The law TopAlways. -/
import Derived.Test.YtjbbgpacijageacGreatTLa
namespace Go.Proofs.YtjbbgpacijageacGreat.M
open Go.RowKit
set_option linter.unusedVariables false
set_option linter.unusedSimpArgs false

theorem new_at_7 {t0 : Ty} {v0 : t0.D} {t1 : Ty} {v1 : t1.D} {t2 : Ty} {v2 : t2.D} {t3 : Ty} {v3 : t3.D} {t4 : Ty} {v4 : t4.D} {t5 : Ty} {v5 : t5.D} {t6 : Ty} {v6 : t6.D} {tk : List (Hd × Nat)} {l : progsT.D} {m : Nat → Int} {n : Nat} {K : SV → List V → NS → Prop} (h1 : ∀ n', n ≤ n' → newE l m ≠ 0 → K (.tup [.raw (.pointer none), .of (.leaf .int (newE l m))]) [.leaf t0 v0, .leaf t1 v1, .leaf t2 v2, .leaf t3 v3, .leaf t4 v4, .leaf t5 v5, .leaf t6 v6] ⟨n', tk⟩)
    (h2 : ∀ n' L', n ≤ n' → newE l m = 0 → L' = newL n l → K (.tup [.ptr 9 0 [] benchT, .of (.leaf .int 0)]) [.leaf t0 v0, .leaf t1 v1, .leaf t2 v2, .leaf t3 v3, .leaf t4 v4, .leaf t5 v5, .leaf t6 v6, .leaf progsT l, .leaf (.arr 32 .int) m, .leaf benchT (L', (deskT.zero.1, m), (nilH, []), 0)] ⟨n', (nilH, 3) :: tk⟩) : newTr [.of (.leaf progsT l), .of (.leaf (.arr 32 .int) m)] [.leaf t0 v0, .leaf t1 v1, .leaf t2 v2, .leaf t3 v3, .leaf t4 v4, .leaf t5 v5, .leaf t6 v6] ⟨n, tk⟩ K := by
  refine ⟨[.of (.leaf progsT l), .of (.leaf (.arr 32 .int) m)], [.leaf t0 v0, .leaf t1 v1, .leaf t2 v2, .leaf t3 v3, .leaf t4 v4, .leaf t5 v5, .leaf t6 v6], rfl, rfl, ?_⟩
  repeat' (first | with_reducible refine seq_k fun K1 n1 => ?_ | with_reducible refine seq_nil ?_ | with_reducible refine drw_k fun K1 n1 => ?_ | with_reducible refine drw_nil ?_ ?_ | with_reducible refine bar_k fun K1 n1 => ?_ | with_reducible refine run_seq ?_ | with_reducible refine run_skip ?_ | with_reducible refine run_regS ?_ | with_reducible refine run_regD (by kernel_rfl) ?_ ?_ | with_reducible refine inl_k (by with_unfolding_all rfl) (Nat.le_of_ble_eq_true rfl) fun K1 n1 => ?_ | with_reducible refine inlA_k (by with_unfolding_all rfl) (Nat.le_of_ble_eq_true rfl) fun K1 n1 => ?_ | with_reducible refine run_finA ?_ | with_reducible refine run_cond ?_ | with_reducible refine run_block ?_ | with_reducible refine run_endb ?_ | with_reducible refine run_exit fun K1 n1 => ?_ | with_reducible refine run_ret fun K1 n1 => ?_ | with_reducible refine run_fin ?_ | with_reducible refine run_inv ?_ | with_reducible refine go_rounds ?_ | ((with_reducible refine Go.mk ?_); (conv => whnf)) | refine Fork.yes ?_ | refine Fork.no ?_ | refine Fork.dec (fun _ => ?_) (fun _ => ?_) | refine Fork.ndec (fun _ => ?_) (fun _ => ?_) | refine Fork.mk (fun _ => ?_) (fun _ => ?_) | refine Way.yesG ?_ | refine Way.noG ?_ | refine Way.decG (fun _ => ?_) (fun _ => ?_) | refine Way.ndecG (fun _ => ?_) (fun _ => ?_) | refine Way.mkG (fun _ => ?_) (fun _ => ?_) | with_reducible refine Need.mkG ?_ ?_ | refine AppW.go0 ?_ ?_ | refine AppW.go1 ?_ ?_ | with_reducible refine NilW.goG (fun _ => ?_) ?_ | ((with_reducible refine n1 _ _ _ ?_); clear n1 K1) | ((with_reducible refine n1 _ ?_); clear n1 K1) | ((with_reducible refine n1 _ _ ?_); clear n1 K1) | ((with_reducible refine n1 _ _ _ _ ?_); clear n1 K1) | fail)
  all_goals try (first | exact trivial | omega | kernel_rfl | decide | exact And.intro (by omega) (by omega))
  all_goals try dsimp only [Int.toNat_natCast] at *
  all_goals try (first | exact trivial | omega | exact And.intro (by omega) (by omega))
  refine unroll 3 (rounds_succ ?_)
  repeat' (first | with_reducible refine seq_k fun K1 n1 => ?_ | with_reducible refine seq_nil ?_ | with_reducible refine drw_k fun K1 n1 => ?_ | with_reducible refine drw_nil ?_ ?_ | with_reducible refine bar_k fun K1 n1 => ?_ | with_reducible refine run_seq ?_ | with_reducible refine run_skip ?_ | with_reducible refine run_regS ?_ | with_reducible refine run_regD (by kernel_rfl) ?_ ?_ | with_reducible refine inl_k (by with_unfolding_all rfl) (Nat.le_of_ble_eq_true rfl) fun K1 n1 => ?_ | with_reducible refine inlA_k (by with_unfolding_all rfl) (Nat.le_of_ble_eq_true rfl) fun K1 n1 => ?_ | with_reducible refine run_finA ?_ | with_reducible refine run_cond ?_ | with_reducible refine run_block ?_ | with_reducible refine run_endb ?_ | with_reducible refine run_exit fun K1 n1 => ?_ | with_reducible refine run_ret fun K1 n1 => ?_ | with_reducible refine run_fin ?_ | with_reducible refine run_inv ?_ | with_reducible refine go_rounds ?_ | ((with_reducible refine Go.mk ?_); (conv => whnf)) | refine Fork.yes ?_ | refine Fork.no ?_ | refine Fork.dec (fun _ => ?_) (fun _ => ?_) | refine Fork.ndec (fun _ => ?_) (fun _ => ?_) | refine Fork.mk (fun _ => ?_) (fun _ => ?_) | refine Way.yesG ?_ | refine Way.noG ?_ | refine Way.decG (fun _ => ?_) (fun _ => ?_) | refine Way.ndecG (fun _ => ?_) (fun _ => ?_) | refine Way.mkG (fun _ => ?_) (fun _ => ?_) | with_reducible refine Need.mkG ?_ ?_ | refine AppW.go0 ?_ ?_ | refine AppW.go1 ?_ ?_ | with_reducible refine NilW.goG (fun _ => ?_) ?_ | ((with_reducible refine n1 _ _ _ ?_); clear n1 K1) | ((with_reducible refine n1 _ ?_); clear n1 K1) | ((with_reducible refine n1 _ _ ?_); clear n1 K1) | ((with_reducible refine n1 _ _ _ _ ?_); clear n1 K1) | fail)
  all_goals try (first | exact trivial | omega | kernel_rfl | decide | exact And.intro (by omega) (by omega))
  all_goals try dsimp only [Int.toNat_natCast] at *
  all_goals try (first | exact trivial | omega | exact And.intro (by omega) (by omega))
  · rename_i g0
    have e := newE_0 (m := m) g0
    refine LaxE.mk' 7 n tk (Nat.le_refl _) (by simp only [List.length_cons]; omega) rfl (Nat.le_refl _) (TkLe.refl _) ?_
    have := h1 n (Nat.le_refl _) (by rw [e]; exact g0)
    rw [e] at this
    exact this
  · exact ref_small (by assumption)
  · rename_i g0 g1
    have e := newE_1 (m := m) g0 g1
    refine LaxE.mk' 7 (n + 1) tk (Nat.le_refl _) (by simp only [List.length_cons]; omega) rfl (Nat.le_refl _) (TkLe.refl _) ?_
    have := h1 (n + 1) (by omega) (by rw [e]; exact g1)
    rw [e] at this
    exact this
  · exact ref_small (by assumption)
  · rename_i g0 g1 g2
    have e := newE_2 g0 g1 g2
    refine LaxE.mk' 7 (n + 1 + 1) tk (Nat.le_refl _) (by simp only [List.length_cons]; omega) rfl (Nat.le_refl _) (TkLe.refl _) ?_
    have := h1 (n + 1 + 1) (by omega) (by rw [e]; decide)
    rw [e] at this
    exact this
  · rename_i g0 g1 g2
    have e := newE_3 g0 g1 g2
    exact LaxE.mk' 10 (n + 1 + 1) ((nilH, 3) :: tk) (by simp only [List.length_cons, List.length_nil]; omega) (by simp only [List.length_cons, List.length_nil]; omega) rfl (Nat.le_refl _) (TkLe.new 3 tk) (h2 (n + 1 + 1) _ (by omega) e rfl)
theorem do_end_9_0_0 {t0 : Ty} {v0 : t0.D} {t1 : Ty} {v1 : t1.D} {t2 : Ty} {v2 : t2.D} {t3 : Ty} {v3 : t3.D} {t4 : Ty} {v4 : t4.D} {t5 : Ty} {v5 : t5.D} {t6 : Ty} {v6 : t6.D} {t7 : Ty} {v7 : t7.D} {t8 : Ty} {v8 : t8.D} {tk : List (Hd × Nat)} {L : progsT.D} {D : deskT.D} {rs : Rec} {k : Int} {a : actT.D} {n n' : Nat} {H' : Hd} {K : SV → List V → NS → Prop} (h : ∀ n' H' r D' R' k', n ≤ n' → DoOut n L D rs k a r D' R' k' → K (.a (.of (.leaf replyT r))) [.leaf t0 v0, .leaf t1 v1, .leaf t2 v2, .leaf t3 v3, .leaf t4 v4, .leaf t5 v5, .leaf t6 v6, .leaf t7 v7, .leaf t8 v8, .leaf benchT (L, D', (H', R'), k')] ⟨n', ((H', 3) :: tk)⟩)
    {r : replyT.D} {b : benchT.D} {v : V} {junk : List V} (hv : v.norm = .leaf benchT b) (hr : r = repF n L D k a) (hb : b = doB n H' L D rs k a) (hn : n ≤ n') : LaxE 10 K (.a (.of (.leaf replyT r))) (.leaf t0 v0 :: .leaf t1 v1 :: .leaf t2 v2 :: .leaf t3 v3 :: .leaf t4 v4 :: .leaf t5 v5 :: .leaf t6 v6 :: .leaf t7 v7 :: .leaf t8 v8 :: v :: junk) ⟨n', ((H', 3) :: tk)⟩ := by
  refine LaxE.mk' 10 n' _ (Nat.le_refl _) (by simp only [List.length_cons]; omega) rfl (Nat.le_refl _) (TkLe.refl _) ?_
  show K _ [.leaf t0 v0, .leaf t1 v1, .leaf t2 v2, .leaf t3 v3, .leaf t4 v4, .leaf t5 v5, .leaf t6 v6, .leaf t7 v7, .leaf t8 v8, v.norm] _
  rw [hv, hb]
  exact h n' H' r _ _ _ hn ⟨hr, rfl, rfl, rfl⟩
theorem do_at_9_0_0 {t0 : Ty} {v0 : t0.D} {t1 : Ty} {v1 : t1.D} {t2 : Ty} {v2 : t2.D} {t3 : Ty} {v3 : t3.D} {t4 : Ty} {v4 : t4.D} {t5 : Ty} {v5 : t5.D} {t6 : Ty} {v6 : t6.D} {t7 : Ty} {v7 : t7.D} {t8 : Ty} {v8 : t8.D} {tk : List (Hd × Nat)} {L : progsT.D} {D : deskT.D} {H : Hd} {rs : Rec} {k : Int} {a : actT.D} {n : Nat} (hrs : rs.length ≤ 10000) {K : SV → List V → NS → Prop} (h : ∀ n' H' r D' R' k', n ≤ n' → DoOut n L D rs k a r D' R' k' → K (.a (.of (.leaf replyT r))) [.leaf t0 v0, .leaf t1 v1, .leaf t2 v2, .leaf t3 v3, .leaf t4 v4, .leaf t5 v5, .leaf t6 v6, .leaf t7 v7, .leaf t8 v8, .leaf benchT (L, D', (H', R'), k')] ⟨n', ((H', 3) :: tk)⟩) :
    doTr [.ptr 9 0 [] benchT, .of (.leaf actT a)] [.leaf t0 v0, .leaf t1 v1, .leaf t2 v2, .leaf t3 v3, .leaf t4 v4, .leaf t5 v5, .leaf t6 v6, .leaf t7 v7, .leaf t8 v8, .leaf benchT (L, D, (H, rs), k)] ⟨n, ((H, 3) :: tk)⟩ K := by
  refine ⟨[.ptr 9 0 [] benchT, .of (.leaf actT a)], [.leaf t0 v0, .leaf t1 v1, .leaf t2 v2, .leaf t3 v3, .leaf t4 v4, .leaf t5 v5, .leaf t6 v6, .leaf t7 v7, .leaf t8 v8, .leaf benchT (L, D, (H, rs), k)], rfl, rfl, ?_⟩
  repeat' (first | with_reducible refine seq_k fun K1 n1 => ?_ | with_reducible refine seq_nil ?_ | with_reducible refine drw_k fun K1 n1 => ?_ | with_reducible refine drw_nil ?_ ?_ | with_reducible refine bar_k fun K1 n1 => ?_ | with_reducible refine run_seq ?_ | with_reducible refine run_skip ?_ | with_reducible refine run_regS ?_ | with_reducible refine run_regD (by kernel_rfl) ?_ ?_ | with_reducible refine inl_k (by with_unfolding_all rfl) (Nat.le_of_ble_eq_true rfl) fun K1 n1 => ?_ | with_reducible refine inlA_k (by with_unfolding_all rfl) (Nat.le_of_ble_eq_true rfl) fun K1 n1 => ?_ | with_reducible refine run_finA ?_ | with_reducible refine run_cond ?_ | with_reducible refine run_block ?_ | with_reducible refine run_endb ?_ | with_reducible refine run_exit fun K1 n1 => ?_ | with_reducible refine run_ret fun K1 n1 => ?_ | with_reducible refine run_fin ?_ | with_reducible refine run_inv ?_ | with_reducible refine go_rounds ?_ | ((with_reducible refine Go.mk ?_); (conv => whnf)) | refine Fork.yes ?_ | refine Fork.no ?_ | refine Fork.dec (fun _ => ?_) (fun _ => ?_) | refine Fork.ndec (fun _ => ?_) (fun _ => ?_) | refine Fork.mk (fun _ => ?_) (fun _ => ?_) | refine Way.yesG ?_ | refine Way.noG ?_ | refine Way.decG (fun _ => ?_) (fun _ => ?_) | refine Way.ndecG (fun _ => ?_) (fun _ => ?_) | refine Way.mkG (fun _ => ?_) (fun _ => ?_) | with_reducible refine Need.mkG ?_ ?_ | refine AppW.go0 ?_ ?_ | refine AppW.go1 ?_ ?_ | with_reducible refine NilW.goG (fun _ => ?_) ?_ | ((with_reducible refine n1 _ _ _ ?_); clear n1 K1) | ((with_reducible refine n1 _ ?_); clear n1 K1) | ((with_reducible refine n1 _ _ ?_); clear n1 K1) | ((with_reducible refine n1 _ _ _ _ ?_); clear n1 K1) | fail)
  all_goals try (first | exact trivial | omega | kernel_rfl | decide | exact And.intro (by omega) (by omega))
  all_goals try dsimp only [Int.toNat_natCast] at *
  all_goals try (first | exact trivial | omega | exact And.intro (by omega) (by omega))
  · rename_i h1
    exact do_end_9_0_0 h rfl (rep_full h1) (do_full h1) (Nat.le_refl _)
  · rename_i h0 h1 h2
    exact do_end_9_0_0 h rfl (rep_err h0 (act_1 h1) h2) (do_err h0 (act_1 h1) h2) (by omega)
  · exact act_small1 hrs (act_1 (by assumption))
  · rename_i h0 h1 h2
    exact do_end_9_0_0 h rfl (rep_ok h0 (act_1 h1) h2) (do_ok h0 (act_1 h1) h2) (by omega)
  · rename_i h0 h1 h1' h2
    exact do_end_9_0_0 h rfl (rep_err h0 (act_2 h1 h1') h2) (do_err h0 (act_2 h1 h1') h2) (by omega)
  · exact act_small1 (n := n) hrs (act_2 (by assumption) (by assumption))
  · rename_i h0 h1 h1' h2
    exact do_end_9_0_0 h rfl (rep_ok h0 (act_2 h1 h1') h2) (do_ok h0 (act_2 h1 h1') h2) (by omega)
  · rename_i h0 h1 h1' h1'' h2
    exact do_end_9_0_0 h rfl (rep_err h0 (act_3 h1 h1' h1'') h2) (do_err h0 (act_3 h1 h1' h1'') h2) (by omega)
  · exact act_small1 (n := n) hrs (act_3 (by assumption) (by assumption) (by assumption))
  · rename_i h0 h1 h1' h1'' h2
    exact do_end_9_0_0 h rfl (rep_ok h0 (act_3 h1 h1' h1'') h2) (do_ok h0 (act_3 h1 h1' h1'') h2) (by omega)
  · rename_i h0 h1 h1' h1''
    exact do_end_9_0_0 h rfl (rep_err h0 (act_4 (n := n) (D := D) (L := L) h1 h1' h1'') (show ¬ (3 : Int) = 0 by decide)) (do_err h0 (act_4 h1 h1' h1'') (show ¬ (3 : Int) = 0 by decide)) (Nat.le_refl _)
set_option maxRecDepth 4000 in
set_option maxHeartbeats 1600000 in
theorem c_TopAlways : Ctr Tryz.prog 3 (lawZ [progsT, .arr 32 .int, .lst actT]) := by
  refine ctr_of tabBOk (SpecsOk.mut (inlA_ok tabBOk (SpecsOk.cons c_alive (by kernel_rfl) (SpecsOk.cons c_tprograms (by kernel_rfl) (SpecsOk.mut newOk (by kernel_rfl) (SpecsOk.mut doOk (by kernel_rfl) (SpecsOk.mut lkOk (by kernel_rfl) (SpecsOk.nil _)))))) Tryz.func6) (by kernel_rfl) (SpecsOk.nil _)) Tryz.func3 rfl _ (Nat.le_of_ble_eq_true rfl) (fun _ _ => rfl) ?_
  rintro nn ⟨l, m, ⟨ah, acts⟩, ⟨⟩⟩ hpre hb
  refine ⟨200, init_k fun K1 n1 => ?_⟩
  conv => whnf
  refine n1 _ ?_
  clear n1 K1
  repeat' (first | with_reducible refine seq_k fun K1 n1 => ?_ | with_reducible refine seq_nil ?_ | with_reducible refine drw_k fun K1 n1 => ?_ | with_reducible refine drw_nil ?_ ?_ | with_reducible refine bar_k fun K1 n1 => ?_ | with_reducible refine run_seq ?_ | with_reducible refine run_skip ?_ | with_reducible refine run_regS ?_ | with_reducible refine run_regD (by with_unfolding_all rfl) ?_ ?_ | with_reducible refine inl_k (by with_unfolding_all rfl) (Nat.le_of_ble_eq_true rfl) fun K1 n1 => ?_ | with_reducible refine inlA_k (by with_unfolding_all rfl) (Nat.le_of_ble_eq_true rfl) fun K1 n1 => ?_ | with_reducible refine run_finA ?_ | with_reducible refine run_cond ?_ | with_reducible refine run_block ?_ | with_reducible refine run_endb ?_ | with_reducible refine run_exit fun K1 n1 => ?_ | with_reducible refine run_ret fun K1 n1 => ?_ | with_reducible refine run_fin ?_ | with_reducible refine run_inv ?_ | with_reducible refine go_rounds ?_ | ((with_reducible refine Go.mk ?_); (conv => whnf)) | refine Fork.yes ?_ | refine Fork.no ?_ | refine Fork.dec (fun _ => ?_) (fun _ => ?_) | refine Fork.ndec (fun _ => ?_) (fun _ => ?_) | refine Fork.mk (fun _ => ?_) (fun _ => ?_) | refine Way.yesG ?_ | refine Way.noG ?_ | refine Way.decG (fun _ => ?_) (fun _ => ?_) | refine Way.ndecG (fun _ => ?_) (fun _ => ?_) | refine Way.mkG (fun _ => ?_) (fun _ => ?_) | with_reducible refine Need.mkG ?_ ?_ | refine AppW.go0 ?_ ?_ | refine AppW.go1 ?_ ?_ | with_reducible refine NilW.goG (fun _ => ?_) ?_ | ((with_reducible refine n1 _ _ _ ?_); clear n1 K1) | ((with_reducible refine n1 _ ?_); clear n1 K1) | ((with_reducible refine n1 _ _ ?_); clear n1 K1) | ((with_reducible refine n1 _ _ _ _ ?_); clear n1 K1) | fail)
  all_goals try (first | exact trivial | omega | kernel_rfl | decide | exact And.intro (by omega) (by omega))
  all_goals try dsimp only [Int.toNat_natCast] at *
  all_goals try (first | exact trivial | omega | exact And.intro (by omega) (by omega))
  refine run_regC [3] (by kernel_rfl) ?_
  refine seg_cut [_, _, _] _ rfl rfl ?_
  repeat' (first | with_reducible refine seq_k fun K1 n1 => ?_ | with_reducible refine seq_nil ?_ | with_reducible refine drw_k fun K1 n1 => ?_ | with_reducible refine drw_nil ?_ ?_ | with_reducible refine bar_k fun K1 n1 => ?_ | with_reducible refine run_seq ?_ | with_reducible refine run_skip ?_ | with_reducible refine run_regS ?_ | with_reducible refine run_regD (by with_unfolding_all rfl) ?_ ?_ | with_reducible refine inl_k (by with_unfolding_all rfl) (Nat.le_of_ble_eq_true rfl) fun K1 n1 => ?_ | with_reducible refine inlA_k (by with_unfolding_all rfl) (Nat.le_of_ble_eq_true rfl) fun K1 n1 => ?_ | with_reducible refine run_finA ?_ | with_reducible refine run_cond ?_ | with_reducible refine run_block ?_ | with_reducible refine run_endb ?_ | with_reducible refine run_exit fun K1 n1 => ?_ | with_reducible refine run_ret fun K1 n1 => ?_ | with_reducible refine run_fin ?_ | with_reducible refine run_inv ?_ | with_reducible refine go_rounds ?_ | ((with_reducible refine Go.mk ?_); (conv => whnf)) | refine Fork.yes ?_ | refine Fork.no ?_ | refine Fork.dec (fun _ => ?_) (fun _ => ?_) | refine Fork.ndec (fun _ => ?_) (fun _ => ?_) | refine Fork.mk (fun _ => ?_) (fun _ => ?_) | refine Way.yesG ?_ | refine Way.noG ?_ | refine Way.decG (fun _ => ?_) (fun _ => ?_) | refine Way.ndecG (fun _ => ?_) (fun _ => ?_) | refine Way.mkG (fun _ => ?_) (fun _ => ?_) | with_reducible refine Need.mkG ?_ ?_ | refine AppW.go0 ?_ ?_ | refine AppW.go1 ?_ ?_ | with_reducible refine NilW.goG (fun _ => ?_) ?_ | ((with_reducible refine n1 _ _ _ ?_); clear n1 K1) | ((with_reducible refine n1 _ ?_); clear n1 K1) | ((with_reducible refine n1 _ _ ?_); clear n1 K1) | ((with_reducible refine n1 _ _ _ _ ?_); clear n1 K1) | fail)
  all_goals try (first | exact trivial | omega | kernel_rfl | decide | exact And.intro (by omega) (by omega))
  all_goals try dsimp only [Int.toNat_natCast] at *
  all_goals try (first | exact trivial | omega | exact And.intro (by omega) (by omega))
  · exact hpre.1
  refine new_at_7 (fun n' hn he => ?_) (fun n' L hn he hL => ?_)
  · refine n1 _ _ _ ?_
    clear n1 K1
    refine seg_end [_, _, _, _, _, _, _, _, _] rfl ?_
    repeat' (first | with_reducible refine seq_k fun K1 n1 => ?_ | with_reducible refine seq_nil ?_ | with_reducible refine drw_k fun K1 n1 => ?_ | with_reducible refine drw_nil ?_ ?_ | with_reducible refine bar_k fun K1 n1 => ?_ | with_reducible refine run_seq ?_ | with_reducible refine run_skip ?_ | with_reducible refine run_regS ?_ | with_reducible refine run_regD (by with_unfolding_all rfl) ?_ ?_ | with_reducible refine inl_k (by with_unfolding_all rfl) (Nat.le_of_ble_eq_true rfl) fun K1 n1 => ?_ | with_reducible refine inlA_k (by with_unfolding_all rfl) (Nat.le_of_ble_eq_true rfl) fun K1 n1 => ?_ | with_reducible refine run_finA ?_ | with_reducible refine run_cond ?_ | with_reducible refine run_block ?_ | with_reducible refine run_endb ?_ | with_reducible refine run_exit fun K1 n1 => ?_ | with_reducible refine run_ret fun K1 n1 => ?_ | with_reducible refine run_fin ?_ | with_reducible refine run_inv ?_ | with_reducible refine go_rounds ?_ | ((with_reducible refine Go.mk ?_); (conv => whnf)) | refine Fork.yes ?_ | refine Fork.no ?_ | refine Fork.dec (fun _ => ?_) (fun _ => ?_) | refine Fork.ndec (fun _ => ?_) (fun _ => ?_) | refine Fork.mk (fun _ => ?_) (fun _ => ?_) | refine Way.yesG ?_ | refine Way.noG ?_ | refine Way.decG (fun _ => ?_) (fun _ => ?_) | refine Way.ndecG (fun _ => ?_) (fun _ => ?_) | refine Way.mkG (fun _ => ?_) (fun _ => ?_) | with_reducible refine Need.mkG ?_ ?_ | refine AppW.go0 ?_ ?_ | refine AppW.go1 ?_ ?_ | with_reducible refine NilW.goG (fun _ => ?_) ?_ | ((with_reducible refine n1 _ _ _ ?_); clear n1 K1) | ((with_reducible refine n1 _ ?_); clear n1 K1) | ((with_reducible refine n1 _ _ ?_); clear n1 K1) | ((with_reducible refine n1 _ _ _ _ ?_); clear n1 K1) | fail)
    all_goals try (first | exact trivial | omega | kernel_rfl | decide | exact And.intro (by omega) (by omega))
    all_goals try dsimp only [Int.toNat_natCast] at *
    all_goals try (first | exact trivial | omega | exact And.intro (by omega) (by omega))
    all_goals exact Done.of rfl (Or.inl rfl)
  · refine n1 _ _ _ ?_
    clear n1 K1
    have hI0 : Is (nL l) (pl (nL l) m acts 0) L (deskT.zero.1, m) [] 0 := by
      have := Is.init (nn + 2) (progF nn l) m acts
      rw [nL_prog (prog_at nn l), ← hL] at this
      exact this
    have hg0 := newE_good he
    have hac : acts.length ≤ 9223372036854775807 := hb.2.2.1
    refine seg_end [_, _, _, _, _, _, _, _, _] rfl ?_
    repeat' (first | with_reducible refine seq_k fun K1 n1 => ?_ | with_reducible refine seq_nil ?_ | with_reducible refine drw_k fun K1 n1 => ?_ | with_reducible refine drw_nil ?_ ?_ | with_reducible refine bar_k fun K1 n1 => ?_ | with_reducible refine run_seq ?_ | with_reducible refine run_skip ?_ | with_reducible refine run_regS ?_ | with_reducible refine run_regD (by with_unfolding_all rfl) ?_ ?_ | with_reducible refine inl_k (by with_unfolding_all rfl) (Nat.le_of_ble_eq_true rfl) fun K1 n1 => ?_ | with_reducible refine inlA_k (by with_unfolding_all rfl) (Nat.le_of_ble_eq_true rfl) fun K1 n1 => ?_ | with_reducible refine run_finA ?_ | with_reducible refine run_cond ?_ | with_reducible refine run_block ?_ | with_reducible refine run_endb ?_ | with_reducible refine run_exit fun K1 n1 => ?_ | with_reducible refine run_ret fun K1 n1 => ?_ | with_reducible refine run_fin ?_ | with_reducible refine run_inv ?_ | with_reducible refine go_rounds ?_ | ((with_reducible refine Go.mk ?_); (conv => whnf)) | refine Fork.yes ?_ | refine Fork.no ?_ | refine Fork.dec (fun _ => ?_) (fun _ => ?_) | refine Fork.ndec (fun _ => ?_) (fun _ => ?_) | refine Fork.mk (fun _ => ?_) (fun _ => ?_) | refine Way.yesG ?_ | refine Way.noG ?_ | refine Way.decG (fun _ => ?_) (fun _ => ?_) | refine Way.ndecG (fun _ => ?_) (fun _ => ?_) | refine Way.mkG (fun _ => ?_) (fun _ => ?_) | with_reducible refine Need.mkG ?_ ?_ | refine AppW.go0 ?_ ?_ | refine AppW.go1 ?_ ?_ | with_reducible refine NilW.goG (fun _ => ?_) ?_ | ((with_reducible refine n1 _ _ _ ?_); clear n1 K1) | ((with_reducible refine n1 _ ?_); clear n1 K1) | ((with_reducible refine n1 _ _ ?_); clear n1 K1) | ((with_reducible refine n1 _ _ _ _ ?_); clear n1 K1) | fail)
    all_goals try (first | exact trivial | omega | kernel_rfl | decide | exact And.intro (by omega) (by omega))
    all_goals try dsimp only [Int.toNat_natCast] at *
    all_goals try (first | exact trivial | omega | exact And.intro (by omega) (by omega))
    refine run_loop (loop_fam (ι := (Nat × deskT.D × Rec × Hd × Int × Nat) × (Nat → plainT.D) × (Nat → Int)) (fun i => [(12, .a (.of (.leaf .int (i.1.1 : Int)))), (2, .a (.of (.leaf (.lst actT) (ah, acts)))), (3, .a (.clo 7 [(4, 0, [], .int), (0, 0, [], progsT), (2, 0, [], .arr 2 plainT), (3, 0, [], .arr 32 .int)])), (10, .a (.ptr 9 0 [] benchT))])
      (fun i => [.leaf progsT l, .leaf (.arr 32 .int) m, .leaf (.arr 2 plainT) i.2.1, .leaf (.arr 32 .int) i.2.2, .leaf .int (i.1.2.2.1.length : Int), .leaf progsT l, .leaf (.arr 32 .int) m, .leaf progsT (progF nn l), .leaf (.arr 32 .int) m, .leaf benchT (L, i.1.2.1, (i.1.2.2.2.1, i.1.2.2.1), i.1.2.2.2.2.1)]) (fun i => ⟨i.1.2.2.2.2.2, [(i.1.2.2.2.1, 3)]⟩) (fun i => acts.length - i.1.1)
      (fun i => ((i.1.1 ≤ acts.length ∧ i.1.1 ≤ 200) ∧ Is (nL l) (pl (nL l) m acts i.1.1) L i.1.2.1 i.1.2.2.1 i.1.2.2.2.2.1) ∧ goRep (nL l) i.1.2.2.1 coresT.zero m = .ok (i.2.1, i.2.2)) ?_ ?_)
    · exact ⟨((0, (deskT.zero.1, m), [], nilH, 0, n'), coresT.zero, m), ⟨⟨⟨Nat.zero_le _, Nat.zero_le _⟩, hI0⟩, rfl⟩, ⟨rfl, rfl, rfl, rfl, trivial⟩, rfl, 10, Nat.le_refl _, rfl, rfl⟩
    · rintro ⟨⟨i, D, rs, H, k, n⟩, p, x⟩ ⟨⟨⟨hi, hi2⟩, hI⟩, hrep⟩
      have hi : i ≤ acts.length := hi
      have hi2 : i ≤ 200 := hi2
      have hI : Is (nL l) (pl (nL l) m acts i) L D rs k := hI
      have hrep : goRep (nL l) rs coresT.zero m = .ok (p, x) := hrep
      have hrs : rs.length ≤ 400 := by rw [hI.r]; exact Nat.le_trans (pl_len i) (by omega)
      repeat' (first | with_reducible refine seq_k fun K1 n1 => ?_ | with_reducible refine seq_nil ?_ | with_reducible refine drw_k fun K1 n1 => ?_ | with_reducible refine drw_nil ?_ ?_ | with_reducible refine bar_k fun K1 n1 => ?_ | with_reducible refine run_seq ?_ | with_reducible refine run_skip ?_ | with_reducible refine run_regS ?_ | with_reducible refine run_regD (by with_unfolding_all rfl) ?_ ?_ | with_reducible refine inl_k (by with_unfolding_all rfl) (Nat.le_of_ble_eq_true rfl) fun K1 n1 => ?_ | with_reducible refine inlA_k (by with_unfolding_all rfl) (Nat.le_of_ble_eq_true rfl) fun K1 n1 => ?_ | with_reducible refine run_finA ?_ | with_reducible refine run_cond ?_ | with_reducible refine run_block ?_ | with_reducible refine run_endb ?_ | with_reducible refine run_exit fun K1 n1 => ?_ | with_reducible refine run_ret fun K1 n1 => ?_ | with_reducible refine run_fin ?_ | with_reducible refine run_inv ?_ | with_reducible refine go_rounds ?_ | ((with_reducible refine Go.mk ?_); (conv => whnf)) | refine Fork.yes ?_ | refine Fork.no ?_ | refine Fork.dec (fun _ => ?_) (fun _ => ?_) | refine Fork.ndec (fun _ => ?_) (fun _ => ?_) | refine Fork.mk (fun _ => ?_) (fun _ => ?_) | refine Way.yesG ?_ | refine Way.noG ?_ | refine Way.decG (fun _ => ?_) (fun _ => ?_) | refine Way.ndecG (fun _ => ?_) (fun _ => ?_) | refine Way.mkG (fun _ => ?_) (fun _ => ?_) | with_reducible refine Need.mkG ?_ ?_ | refine AppW.go0 ?_ ?_ | refine AppW.go1 ?_ ?_ | with_reducible refine NilW.goG (fun _ => ?_) ?_ | ((with_reducible refine n1 _ _ _ ?_); clear n1 K1) | ((with_reducible refine n1 _ ?_); clear n1 K1) | ((with_reducible refine n1 _ _ ?_); clear n1 K1) | ((with_reducible refine n1 _ _ _ _ ?_); clear n1 K1) | fail)
      all_goals try (first | exact trivial | omega | kernel_rfl | decide | exact And.intro (by omega) (by omega))
      all_goals try dsimp only [Int.toNat_natCast] at *
      all_goals try (first | exact trivial | omega | exact And.intro (by omega) (by omega))
      · refine do_at_9_0_0 (Nat.le_trans hrs (by decide)) fun n2 H2 r2 D2 R2 k2 hn2 o2 => ?_
        refine n1 _ _ _ ?_
        clear n1 K1
        obtain ⟨hI2, hr2⟩ := hI.next o2
        have hI2 : Is (nL l) (pl (nL l) m acts (i + 1)) L D2 R2 k2 := hI2
        have hg2 : goodK D2 = true := by rw [hI2.good]; exact pl_good hg0 (i + 1)
        have hrs2 : R2.length ≤ 10000 := by rw [hI2.r]; exact Nat.le_trans (pl_len _) (by omega)
        obtain ⟨cs, mm, hall, hser⟩ := ser_pl (L := nL l) (acts := acts) hg0 (i + 1)
        rw [← hI2.r] at hall
        rw [← hI2.d] at hser
        obtain ⟨recs, hR⟩ : ∃ recs, R2 = rs ++ recs := by
          rw [o2.rs]
          unfold doR
          split
          · exact ⟨[], (List.append_nil _).symm⟩
          · split
            · exact ⟨_, rfl⟩
            · exact ⟨[], (List.append_nil _).symm⟩
        have hlen : rs.length ≤ R2.length := by rw [hR, List.length_append]; omega
        have htk : R2.take rs.length = rs := by rw [hR]; simp
        repeat' (first | with_reducible refine seq_k fun K1 n1 => ?_ | with_reducible refine seq_nil ?_ | with_reducible refine drw_k fun K1 n1 => ?_ | with_reducible refine drw_nil ?_ ?_ | with_reducible refine bar_k fun K1 n1 => ?_ | with_reducible refine run_seq ?_ | with_reducible refine run_skip ?_ | with_reducible refine run_regS ?_ | with_reducible refine run_regD (by with_unfolding_all rfl) ?_ ?_ | with_reducible refine inl_k (by with_unfolding_all rfl) (Nat.le_of_ble_eq_true rfl) fun K1 n1 => ?_ | with_reducible refine inlA_k (by with_unfolding_all rfl) (Nat.le_of_ble_eq_true rfl) fun K1 n1 => ?_ | with_reducible refine run_finA ?_ | with_reducible refine run_cond ?_ | with_reducible refine run_block ?_ | with_reducible refine run_endb ?_ | with_reducible refine run_exit fun K1 n1 => ?_ | with_reducible refine run_ret fun K1 n1 => ?_ | with_reducible refine run_fin ?_ | with_reducible refine run_inv ?_ | with_reducible refine go_rounds ?_ | ((with_reducible refine Go.mk ?_); (conv => whnf)) | refine Fork.yes ?_ | refine Fork.no ?_ | refine Fork.dec (fun _ => ?_) (fun _ => ?_) | refine Fork.ndec (fun _ => ?_) (fun _ => ?_) | refine Fork.mk (fun _ => ?_) (fun _ => ?_) | refine Way.yesG ?_ | refine Way.noG ?_ | refine Way.decG (fun _ => ?_) (fun _ => ?_) | refine Way.ndecG (fun _ => ?_) (fun _ => ?_) | refine Way.mkG (fun _ => ?_) (fun _ => ?_) | with_reducible refine Need.mkG ?_ ?_ | refine AppW.go0 ?_ ?_ | refine AppW.go1 ?_ ?_ | with_reducible refine NilW.goG (fun _ => ?_) ?_ | ((with_reducible refine n1 _ _ _ ?_); clear n1 K1) | ((with_reducible refine n1 _ ?_); clear n1 K1) | ((with_reducible refine n1 _ _ ?_); clear n1 K1) | ((with_reducible refine n1 _ _ _ _ ?_); clear n1 K1) | fail)
        all_goals try (first | exact trivial | omega | kernel_rfl | decide | exact And.intro (by omega) (by omega))
        all_goals try dsimp only [Int.toNat_natCast] at *
        all_goals try (first | exact trivial | omega | exact And.intro (by omega) (by omega))
        refine run_regC [7] (by kernel_rfl) ?_
        refine seg_cut [_, _, _, _, _, _, _] _ rfl rfl ?_
        repeat' (first | with_reducible refine seq_k fun K1 n1 => ?_ | with_reducible refine seq_nil ?_ | with_reducible refine drw_k fun K1 n1 => ?_ | with_reducible refine drw_nil ?_ ?_ | with_reducible refine bar_k fun K1 n1 => ?_ | with_reducible refine run_seq ?_ | with_reducible refine run_skip ?_ | with_reducible refine run_regS ?_ | with_reducible refine run_regD (by with_unfolding_all rfl) ?_ ?_ | with_reducible refine inl_k (by with_unfolding_all rfl) (Nat.le_of_ble_eq_true rfl) fun K1 n1 => ?_ | with_reducible refine inlA_k (by with_unfolding_all rfl) (Nat.le_of_ble_eq_true rfl) fun K1 n1 => ?_ | with_reducible refine run_finA ?_ | with_reducible refine run_cond ?_ | with_reducible refine run_block ?_ | with_reducible refine run_endb ?_ | with_reducible refine run_exit fun K1 n1 => ?_ | with_reducible refine run_ret fun K1 n1 => ?_ | with_reducible refine run_fin ?_ | with_reducible refine run_inv ?_ | with_reducible refine go_rounds ?_ | ((with_reducible refine Go.mk ?_); (conv => whnf)) | refine Fork.yes ?_ | refine Fork.no ?_ | refine Fork.dec (fun _ => ?_) (fun _ => ?_) | refine Fork.ndec (fun _ => ?_) (fun _ => ?_) | refine Fork.mk (fun _ => ?_) (fun _ => ?_) | refine Way.yesG ?_ | refine Way.noG ?_ | refine Way.decG (fun _ => ?_) (fun _ => ?_) | refine Way.ndecG (fun _ => ?_) (fun _ => ?_) | refine Way.mkG (fun _ => ?_) (fun _ => ?_) | with_reducible refine Need.mkG ?_ ?_ | refine AppW.go0 ?_ ?_ | refine AppW.go1 ?_ ?_ | with_reducible refine NilW.goG (fun _ => ?_) ?_ | ((with_reducible refine n1 _ _ _ ?_); clear n1 K1) | ((with_reducible refine n1 _ ?_); clear n1 K1) | ((with_reducible refine n1 _ _ ?_); clear n1 K1) | ((with_reducible refine n1 _ _ _ _ ?_); clear n1 K1) | fail)
        all_goals try (first | exact trivial | omega | kernel_rfl | decide | exact And.intro (by omega) (by omega))
        all_goals try dsimp only [Int.toNat_natCast] at *
        all_goals try (first | exact trivial | omega | exact And.intro (by omega) (by omega))
        refine lk_at rfl rfl rfl hrs2 hg2 hall hser hlen htk hrep fun n3 hn3 => ?_
        refine n1 _ _ _ ?_
        clear n1 K1
        refine seg_end [_, _, _, _, _, _, _, _, _] rfl ?_
        repeat' (first | with_reducible refine seq_k fun K1 n1 => ?_ | with_reducible refine seq_nil ?_ | with_reducible refine drw_k fun K1 n1 => ?_ | with_reducible refine drw_nil ?_ ?_ | with_reducible refine bar_k fun K1 n1 => ?_ | with_reducible refine run_seq ?_ | with_reducible refine run_skip ?_ | with_reducible refine run_regS ?_ | with_reducible refine run_regD (by with_unfolding_all rfl) ?_ ?_ | with_reducible refine inl_k (by with_unfolding_all rfl) (Nat.le_of_ble_eq_true rfl) fun K1 n1 => ?_ | with_reducible refine inlA_k (by with_unfolding_all rfl) (Nat.le_of_ble_eq_true rfl) fun K1 n1 => ?_ | with_reducible refine run_finA ?_ | with_reducible refine run_cond ?_ | with_reducible refine run_block ?_ | with_reducible refine run_endb ?_ | with_reducible refine run_exit fun K1 n1 => ?_ | with_reducible refine run_ret fun K1 n1 => ?_ | with_reducible refine run_fin ?_ | with_reducible refine run_inv ?_ | with_reducible refine go_rounds ?_ | ((with_reducible refine Go.mk ?_); (conv => whnf)) | refine Fork.yes ?_ | refine Fork.no ?_ | refine Fork.dec (fun _ => ?_) (fun _ => ?_) | refine Fork.ndec (fun _ => ?_) (fun _ => ?_) | refine Fork.mk (fun _ => ?_) (fun _ => ?_) | refine Way.yesG ?_ | refine Way.noG ?_ | refine Way.decG (fun _ => ?_) (fun _ => ?_) | refine Way.ndecG (fun _ => ?_) (fun _ => ?_) | refine Way.mkG (fun _ => ?_) (fun _ => ?_) | with_reducible refine Need.mkG ?_ ?_ | refine AppW.go0 ?_ ?_ | refine AppW.go1 ?_ ?_ | with_reducible refine NilW.goG (fun _ => ?_) ?_ | ((with_reducible refine n1 _ _ _ ?_); clear n1 K1) | ((with_reducible refine n1 _ ?_); clear n1 K1) | ((with_reducible refine n1 _ _ ?_); clear n1 K1) | ((with_reducible refine n1 _ _ _ _ ?_); clear n1 K1) | fail)
        all_goals try (first | exact trivial | omega | kernel_rfl | decide | exact And.intro (by omega) (by omega))
        all_goals try dsimp only [Int.toNat_natCast] at *
        all_goals try (first | exact trivial | omega | exact And.intro (by omega) (by omega))
        refine ⟨((i + 1, D2, R2, H2, k2, n3), cs, mm), (show acts.length - (i + 1) < acts.length - i by omega), ⟨⟨⟨(show i + 1 ≤ acts.length by omega), (show i + 1 ≤ 200 by omega)⟩, hI2⟩, hall⟩, ⟨?_, rfl, rfl, rfl, trivial⟩, rfl, 10, Nat.le_of_ble_eq_true rfl, rfl, rfl⟩
        show some (SV.a (AV.of (V.leaf Ty.int (wrap64 ((i : Int) + 1))))) = some (SV.a (AV.of (V.leaf Ty.int ((i + 1 : Nat) : Int))))
        rw [← wrap_succ i (by omega)]
      · exact Done.of rfl (Or.inl rfl)
      · exact Done.of rfl (Or.inl rfl)
end Go.Proofs.YtjbbgpacijageacGreat.M
