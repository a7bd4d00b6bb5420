/- A bench that answers at all; a bench at play. -/
import Derived.Test.YtjbbgpacijageacB2
import Derived.Test.YtjbbgpacijageacPg
namespace Go.Proofs.Ytjbbgpacijageac.M
open Go.RowKit
set_option linter.unusedVariables false
set_option linter.unusedSimpArgs false

theorem new_at_1 {t0 : Ty} {v0 : t0.D} {tk : List (Hd × Nat)} {l : progsT.D} {m : Nat → Int} {n : Nat} {K : SV → List V → NS → Prop} (h1 : ∀ n', n ≤ n' → newE l m ≠ 0 → K (.tup [.raw (.pointer none), .of (.leaf .int (newE l m))]) [.leaf t0 v0] ⟨n', tk⟩)
    (h2 : ∀ n' L', n ≤ n' → newE l m = 0 → L' = newL n l → K (.tup [.ptr 3 0 [] benchT, .of (.leaf .int 0)]) [.leaf t0 v0, .leaf progsT l, .leaf (.arr 32 .int) m, .leaf benchT (L', (deskT.zero.1, m), (nilH, []), 0)] ⟨n', (nilH, 3) :: tk⟩) : newTr [.of (.leaf progsT l), .of (.leaf (.arr 32 .int) m)] [.leaf t0 v0] ⟨n, tk⟩ K := by
  refine ⟨[.of (.leaf progsT l), .of (.leaf (.arr 32 .int) m)], [.leaf t0 v0], rfl, rfl, ?_⟩
  repeat' (first | with_reducible refine seq_k fun K1 n1 => ?_ | with_reducible refine seq_nil ?_ | with_reducible refine drw_k fun K1 n1 => ?_ | with_reducible refine drw_nil ?_ ?_ | with_reducible refine bar_k fun K1 n1 => ?_ | with_reducible refine run_seq ?_ | with_reducible refine run_skip ?_ | with_reducible refine run_regS ?_ | with_reducible refine run_regD (by kernel_rfl) ?_ ?_ | with_reducible refine inl_k (by with_unfolding_all rfl) (Nat.le_of_ble_eq_true rfl) fun K1 n1 => ?_ | with_reducible refine inlA_k (by with_unfolding_all rfl) (Nat.le_of_ble_eq_true rfl) fun K1 n1 => ?_ | with_reducible refine run_finA ?_ | with_reducible refine run_cond ?_ | with_reducible refine run_block ?_ | with_reducible refine run_endb ?_ | with_reducible refine run_exit fun K1 n1 => ?_ | with_reducible refine run_ret fun K1 n1 => ?_ | with_reducible refine run_fin ?_ | with_reducible refine run_inv ?_ | with_reducible refine go_rounds ?_ | ((with_reducible refine Go.mk ?_); (conv => whnf)) | refine Fork.yes ?_ | refine Fork.no ?_ | refine Fork.dec (fun _ => ?_) (fun _ => ?_) | refine Fork.ndec (fun _ => ?_) (fun _ => ?_) | refine Fork.mk (fun _ => ?_) (fun _ => ?_) | refine Way.yesG ?_ | refine Way.noG ?_ | refine Way.decG (fun _ => ?_) (fun _ => ?_) | refine Way.ndecG (fun _ => ?_) (fun _ => ?_) | refine Way.mkG (fun _ => ?_) (fun _ => ?_) | with_reducible refine Need.mkG ?_ ?_ | refine AppW.go0 ?_ ?_ | refine AppW.go1 ?_ ?_ | with_reducible refine NilW.goG (fun _ => ?_) ?_ | ((with_reducible refine n1 _ _ _ ?_); clear n1 K1) | ((with_reducible refine n1 _ ?_); clear n1 K1) | ((with_reducible refine n1 _ _ ?_); clear n1 K1) | ((with_reducible refine n1 _ _ _ _ ?_); clear n1 K1) | fail)
  all_goals try (first | exact trivial | omega | kernel_rfl | decide | exact And.intro (by omega) (by omega))
  all_goals try dsimp only [Int.toNat_natCast] at *
  all_goals try (first | exact trivial | omega | exact And.intro (by omega) (by omega))
  refine unroll 3 (rounds_succ ?_)
  repeat' (first | with_reducible refine seq_k fun K1 n1 => ?_ | with_reducible refine seq_nil ?_ | with_reducible refine drw_k fun K1 n1 => ?_ | with_reducible refine drw_nil ?_ ?_ | with_reducible refine bar_k fun K1 n1 => ?_ | with_reducible refine run_seq ?_ | with_reducible refine run_skip ?_ | with_reducible refine run_regS ?_ | with_reducible refine run_regD (by kernel_rfl) ?_ ?_ | with_reducible refine inl_k (by with_unfolding_all rfl) (Nat.le_of_ble_eq_true rfl) fun K1 n1 => ?_ | with_reducible refine inlA_k (by with_unfolding_all rfl) (Nat.le_of_ble_eq_true rfl) fun K1 n1 => ?_ | with_reducible refine run_finA ?_ | with_reducible refine run_cond ?_ | with_reducible refine run_block ?_ | with_reducible refine run_endb ?_ | with_reducible refine run_exit fun K1 n1 => ?_ | with_reducible refine run_ret fun K1 n1 => ?_ | with_reducible refine run_fin ?_ | with_reducible refine run_inv ?_ | with_reducible refine go_rounds ?_ | ((with_reducible refine Go.mk ?_); (conv => whnf)) | refine Fork.yes ?_ | refine Fork.no ?_ | refine Fork.dec (fun _ => ?_) (fun _ => ?_) | refine Fork.ndec (fun _ => ?_) (fun _ => ?_) | refine Fork.mk (fun _ => ?_) (fun _ => ?_) | refine Way.yesG ?_ | refine Way.noG ?_ | refine Way.decG (fun _ => ?_) (fun _ => ?_) | refine Way.ndecG (fun _ => ?_) (fun _ => ?_) | refine Way.mkG (fun _ => ?_) (fun _ => ?_) | with_reducible refine Need.mkG ?_ ?_ | refine AppW.go0 ?_ ?_ | refine AppW.go1 ?_ ?_ | with_reducible refine NilW.goG (fun _ => ?_) ?_ | ((with_reducible refine n1 _ _ _ ?_); clear n1 K1) | ((with_reducible refine n1 _ ?_); clear n1 K1) | ((with_reducible refine n1 _ _ ?_); clear n1 K1) | ((with_reducible refine n1 _ _ _ _ ?_); clear n1 K1) | fail)
  all_goals try (first | exact trivial | omega | kernel_rfl | decide | exact And.intro (by omega) (by omega))
  all_goals try dsimp only [Int.toNat_natCast] at *
  all_goals try (first | exact trivial | omega | exact And.intro (by omega) (by omega))
  · rename_i g0
    have e := newE_0 (m := m) g0
    refine LaxE.mk' 1 n tk (Nat.le_refl _) (by simp only [List.length_cons]; omega) rfl (Nat.le_refl _) (TkLe.refl _) ?_
    have := h1 n (Nat.le_refl _) (by rw [e]; exact g0)
    rw [e] at this
    exact this
  · exact ref_small (by assumption)
  · rename_i g0 g1
    have e := newE_1 (m := m) g0 g1
    refine LaxE.mk' 1 (n + 1) tk (Nat.le_refl _) (by simp only [List.length_cons]; omega) rfl (Nat.le_refl _) (TkLe.refl _) ?_
    have := h1 (n + 1) (by omega) (by rw [e]; exact g1)
    rw [e] at this
    exact this
  · exact ref_small (by assumption)
  · rename_i g0 g1 g2
    have e := newE_2 g0 g1 g2
    refine LaxE.mk' 1 (n + 1 + 1) tk (Nat.le_refl _) (by simp only [List.length_cons]; omega) rfl (Nat.le_refl _) (TkLe.refl _) ?_
    have := h1 (n + 1 + 1) (by omega) (by rw [e]; decide)
    rw [e] at this
    exact this
  · rename_i g0 g1 g2
    have e := newE_3 g0 g1 g2
    exact LaxE.mk' 4 (n + 1 + 1) ((nilH, 3) :: tk) (by simp only [List.length_cons, List.length_nil]; omega) (by simp only [List.length_cons, List.length_nil]; omega) rfl (Nat.le_refl _) (TkLe.new 3 tk) (h2 (n + 1 + 1) _ (by omega) e rfl)
theorem do_end_3_0_0 {t0 : Ty} {v0 : t0.D} {t1 : Ty} {v1 : t1.D} {t2 : Ty} {v2 : t2.D} {tk : List (Hd × Nat)} {L : progsT.D} {D : deskT.D} {rs : Rec} {k : Int} {a : actT.D} {n n' : Nat} {H' : Hd} {K : SV → List V → NS → Prop} (h : ∀ n' H' r D' R' k', n ≤ n' → DoOut n L D rs k a r D' R' k' → K (.a (.of (.leaf replyT r))) [.leaf t0 v0, .leaf t1 v1, .leaf t2 v2, .leaf benchT (L, D', (H', R'), k')] ⟨n', ((H', 3) :: tk)⟩)
    {r : replyT.D} {b : benchT.D} {v : V} {junk : List V} (hv : v.norm = .leaf benchT b) (hr : r = repF n L D k a) (hb : b = doB n H' L D rs k a) (hn : n ≤ n') : LaxE 4 K (.a (.of (.leaf replyT r))) (.leaf t0 v0 :: .leaf t1 v1 :: .leaf t2 v2 :: v :: junk) ⟨n', ((H', 3) :: tk)⟩ := by
  refine LaxE.mk' 4 n' _ (Nat.le_refl _) (by simp only [List.length_cons]; omega) rfl (Nat.le_refl _) (TkLe.refl _) ?_
  show K _ [.leaf t0 v0, .leaf t1 v1, .leaf t2 v2, v.norm] _
  rw [hv, hb]
  exact h n' H' r _ _ _ hn ⟨hr, rfl, rfl, rfl⟩
theorem do_at_3_0_0 {t0 : Ty} {v0 : t0.D} {t1 : Ty} {v1 : t1.D} {t2 : Ty} {v2 : t2.D} {tk : List (Hd × Nat)} {L : progsT.D} {D : deskT.D} {H : Hd} {rs : Rec} {k : Int} {a : actT.D} {n : Nat} (hrs : rs.length ≤ 10000) {K : SV → List V → NS → Prop} (h : ∀ n' H' r D' R' k', n ≤ n' → DoOut n L D rs k a r D' R' k' → K (.a (.of (.leaf replyT r))) [.leaf t0 v0, .leaf t1 v1, .leaf t2 v2, .leaf benchT (L, D', (H', R'), k')] ⟨n', ((H', 3) :: tk)⟩) :
    doTr [.ptr 3 0 [] benchT, .of (.leaf actT a)] [.leaf t0 v0, .leaf t1 v1, .leaf t2 v2, .leaf benchT (L, D, (H, rs), k)] ⟨n, ((H, 3) :: tk)⟩ K := by
  refine ⟨[.ptr 3 0 [] benchT, .of (.leaf actT a)], [.leaf t0 v0, .leaf t1 v1, .leaf t2 v2, .leaf benchT (L, D, (H, rs), k)], rfl, rfl, ?_⟩
  repeat' (first | with_reducible refine seq_k fun K1 n1 => ?_ | with_reducible refine seq_nil ?_ | with_reducible refine drw_k fun K1 n1 => ?_ | with_reducible refine drw_nil ?_ ?_ | with_reducible refine bar_k fun K1 n1 => ?_ | with_reducible refine run_seq ?_ | with_reducible refine run_skip ?_ | with_reducible refine run_regS ?_ | with_reducible refine run_regD (by kernel_rfl) ?_ ?_ | with_reducible refine inl_k (by with_unfolding_all rfl) (Nat.le_of_ble_eq_true rfl) fun K1 n1 => ?_ | with_reducible refine inlA_k (by with_unfolding_all rfl) (Nat.le_of_ble_eq_true rfl) fun K1 n1 => ?_ | with_reducible refine run_finA ?_ | with_reducible refine run_cond ?_ | with_reducible refine run_block ?_ | with_reducible refine run_endb ?_ | with_reducible refine run_exit fun K1 n1 => ?_ | with_reducible refine run_ret fun K1 n1 => ?_ | with_reducible refine run_fin ?_ | with_reducible refine run_inv ?_ | with_reducible refine go_rounds ?_ | ((with_reducible refine Go.mk ?_); (conv => whnf)) | refine Fork.yes ?_ | refine Fork.no ?_ | refine Fork.dec (fun _ => ?_) (fun _ => ?_) | refine Fork.ndec (fun _ => ?_) (fun _ => ?_) | refine Fork.mk (fun _ => ?_) (fun _ => ?_) | refine Way.yesG ?_ | refine Way.noG ?_ | refine Way.decG (fun _ => ?_) (fun _ => ?_) | refine Way.ndecG (fun _ => ?_) (fun _ => ?_) | refine Way.mkG (fun _ => ?_) (fun _ => ?_) | with_reducible refine Need.mkG ?_ ?_ | refine AppW.go0 ?_ ?_ | refine AppW.go1 ?_ ?_ | with_reducible refine NilW.goG (fun _ => ?_) ?_ | ((with_reducible refine n1 _ _ _ ?_); clear n1 K1) | ((with_reducible refine n1 _ ?_); clear n1 K1) | ((with_reducible refine n1 _ _ ?_); clear n1 K1) | ((with_reducible refine n1 _ _ _ _ ?_); clear n1 K1) | fail)
  all_goals try (first | exact trivial | omega | kernel_rfl | decide | exact And.intro (by omega) (by omega))
  all_goals try dsimp only [Int.toNat_natCast] at *
  all_goals try (first | exact trivial | omega | exact And.intro (by omega) (by omega))
  · rename_i h1
    exact do_end_3_0_0 h rfl (rep_full h1) (do_full h1) (Nat.le_refl _)
  · rename_i h0 h1 h2
    exact do_end_3_0_0 h rfl (rep_err h0 (act_1 h1) h2) (do_err h0 (act_1 h1) h2) (by omega)
  · exact act_small1 hrs (act_1 (by assumption))
  · rename_i h0 h1 h2
    exact do_end_3_0_0 h rfl (rep_ok h0 (act_1 h1) h2) (do_ok h0 (act_1 h1) h2) (by omega)
  · rename_i h0 h1 h1' h2
    exact do_end_3_0_0 h rfl (rep_err h0 (act_2 h1 h1') h2) (do_err h0 (act_2 h1 h1') h2) (by omega)
  · exact act_small1 (n := n) hrs (act_2 (by assumption) (by assumption))
  · rename_i h0 h1 h1' h2
    exact do_end_3_0_0 h rfl (rep_ok h0 (act_2 h1 h1') h2) (do_ok h0 (act_2 h1 h1') h2) (by omega)
  · rename_i h0 h1 h1' h1'' h2
    exact do_end_3_0_0 h rfl (rep_err h0 (act_3 h1 h1' h1'') h2) (do_err h0 (act_3 h1 h1' h1'') h2) (by omega)
  · exact act_small1 (n := n) hrs (act_3 (by assumption) (by assumption) (by assumption))
  · rename_i h0 h1 h1' h1'' h2
    exact do_end_3_0_0 h rfl (rep_ok h0 (act_3 h1 h1' h1'') h2) (do_ok h0 (act_3 h1 h1' h1'') h2) (by omega)
  · rename_i h0 h1 h1' h1''
    exact do_end_3_0_0 h rfl (rep_err h0 (act_4 (n := n) (D := D) (L := L) h1 h1' h1'') (show ¬ (3 : Int) = 0 by decide)) (do_err h0 (act_4 h1 h1' h1'') (show ¬ (3 : Int) = 0 by decide)) (Nat.le_refl _)
theorem rec_at_3_2 {t0 : Ty} {v0 : t0.D} {t1 : Ty} {v1 : t1.D} {t2 : Ty} {v2 : t2.D} {t3 : Ty} {v3 : t3.D} {t4 : Ty} {v4 : t4.D} {tk : List (Hd × Nat)} {L : progsT.D} {D : deskT.D} {H : Hd} {rs : Rec} {k : Int} {n : Nat} {K : SV → List V → NS → Prop} (hrs : rs.length ≤ 10000) (h : ∀ n' R, n ≤ n' → K (.a (.of (.leaf (.lst recordT) (R, rs)))) [.leaf t0 v0, .leaf t1 v1, .leaf t2 v2, .leaf benchT (L, D, (H, rs), k), .leaf t3 v3, .leaf t4 v4] ⟨n', tk⟩) : rcsTr [.ptr 3 0 [] benchT] [.leaf t0 v0, .leaf t1 v1, .leaf t2 v2, .leaf benchT (L, D, (H, rs), k), .leaf t3 v3, .leaf t4 v4] ⟨n, tk⟩ K := by
  refine ⟨[.ptr 3 0 [] benchT], [.leaf t0 v0, .leaf t1 v1, .leaf t2 v2, .leaf benchT (L, D, (H, rs), k), .leaf t3 v3, .leaf t4 v4], rfl, rfl, ?_⟩
  repeat' (first | with_reducible refine seq_k fun K1 n1 => ?_ | with_reducible refine seq_nil ?_ | with_reducible refine drw_k fun K1 n1 => ?_ | with_reducible refine drw_nil ?_ ?_ | with_reducible refine bar_k fun K1 n1 => ?_ | with_reducible refine run_seq ?_ | with_reducible refine run_skip ?_ | with_reducible refine run_regS ?_ | with_reducible refine run_regD (by kernel_rfl) ?_ ?_ | with_reducible refine inl_k (by with_unfolding_all rfl) (Nat.le_of_ble_eq_true rfl) fun K1 n1 => ?_ | with_reducible refine inlA_k (by with_unfolding_all rfl) (Nat.le_of_ble_eq_true rfl) fun K1 n1 => ?_ | with_reducible refine run_finA ?_ | with_reducible refine run_cond ?_ | with_reducible refine run_block ?_ | with_reducible refine run_endb ?_ | with_reducible refine run_exit fun K1 n1 => ?_ | with_reducible refine run_ret fun K1 n1 => ?_ | with_reducible refine run_fin ?_ | with_reducible refine run_inv ?_ | with_reducible refine go_rounds ?_ | ((with_reducible refine Go.mk ?_); (conv => whnf)) | refine Fork.yes ?_ | refine Fork.no ?_ | refine Fork.dec (fun _ => ?_) (fun _ => ?_) | refine Fork.ndec (fun _ => ?_) (fun _ => ?_) | refine Fork.mk (fun _ => ?_) (fun _ => ?_) | refine Way.yesG ?_ | refine Way.noG ?_ | refine Way.decG (fun _ => ?_) (fun _ => ?_) | refine Way.ndecG (fun _ => ?_) (fun _ => ?_) | refine Way.mkG (fun _ => ?_) (fun _ => ?_) | with_reducible refine Need.mkG ?_ ?_ | refine AppW.go0 ?_ ?_ | refine AppW.go1 ?_ ?_ | with_reducible refine NilW.goG (fun _ => ?_) ?_ | ((with_reducible refine n1 _ _ _ ?_); clear n1 K1) | ((with_reducible refine n1 _ ?_); clear n1 K1) | ((with_reducible refine n1 _ _ ?_); clear n1 K1) | ((with_reducible refine n1 _ _ _ _ ?_); clear n1 K1) | fail)
  all_goals try (first | exact trivial | omega | kernel_rfl | decide | exact And.intro (by omega) (by omega))
  all_goals try dsimp only [Int.toNat_natCast] at *
  all_goals try (first | exact trivial | omega | exact And.intro (by omega) (by omega))
  · exact ⟨by show rs.length ≤ _; omega, by show rs.length * 24 ≤ _; omega⟩
  · exact LaxE.mk' 6 (n + 1) tk (Nat.le_refl _) (by simp only [List.length_cons, List.length_nil]; omega) rfl (Nat.le_refl _) (TkLe.refl _) (h (n + 1) _ (by omega))
theorem desk_at_3_2 {t0 : Ty} {v0 : t0.D} {t1 : Ty} {v1 : t1.D} {t2 : Ty} {v2 : t2.D} {t3 : Ty} {v3 : t3.D} {t4 : Ty} {v4 : t4.D} {tk : List (Hd × Nat)} {L : progsT.D} {D : deskT.D} {H : Hd} {rs : Rec} {k : Int} {n : Nat} {K : SV → List V → NS → Prop} (hws : ∀ c, c < 2 → (D.1 c).2.2.2.2.1.2.length ≤ 4) (h : ∀ n' D', n ≤ n' → nhD D' = nhD D → K (.a (.of (.leaf deskT D'))) [.leaf t0 v0, .leaf t1 v1, .leaf t2 v2, .leaf benchT (L, D, (H, rs), k), .leaf t3 v3, .leaf t4 v4] ⟨n', tk⟩) : deskTr [.ptr 3 0 [] benchT] [.leaf t0 v0, .leaf t1 v1, .leaf t2 v2, .leaf benchT (L, D, (H, rs), k), .leaf t3 v3, .leaf t4 v4] ⟨n, tk⟩ K := by
  refine ⟨[.ptr 3 0 [] benchT], [.leaf t0 v0, .leaf t1 v1, .leaf t2 v2, .leaf benchT (L, D, (H, rs), k), .leaf t3 v3, .leaf t4 v4], rfl, rfl, ?_⟩
  repeat' (first | with_reducible refine seq_k fun K1 n1 => ?_ | with_reducible refine seq_nil ?_ | with_reducible refine drw_k fun K1 n1 => ?_ | with_reducible refine drw_nil ?_ ?_ | with_reducible refine bar_k fun K1 n1 => ?_ | with_reducible refine run_seq ?_ | with_reducible refine run_skip ?_ | with_reducible refine run_regS ?_ | with_reducible refine run_regD (by kernel_rfl) ?_ ?_ | with_reducible refine inl_k (by with_unfolding_all rfl) (Nat.le_of_ble_eq_true rfl) fun K1 n1 => ?_ | with_reducible refine inlA_k (by with_unfolding_all rfl) (Nat.le_of_ble_eq_true rfl) fun K1 n1 => ?_ | with_reducible refine run_finA ?_ | with_reducible refine run_cond ?_ | with_reducible refine run_block ?_ | with_reducible refine run_endb ?_ | with_reducible refine run_exit fun K1 n1 => ?_ | with_reducible refine run_ret fun K1 n1 => ?_ | with_reducible refine run_fin ?_ | with_reducible refine run_inv ?_ | with_reducible refine go_rounds ?_ | ((with_reducible refine Go.mk ?_); (conv => whnf)) | refine Fork.yes ?_ | refine Fork.no ?_ | refine Fork.dec (fun _ => ?_) (fun _ => ?_) | refine Fork.ndec (fun _ => ?_) (fun _ => ?_) | refine Fork.mk (fun _ => ?_) (fun _ => ?_) | refine Way.yesG ?_ | refine Way.noG ?_ | refine Way.decG (fun _ => ?_) (fun _ => ?_) | refine Way.ndecG (fun _ => ?_) (fun _ => ?_) | refine Way.mkG (fun _ => ?_) (fun _ => ?_) | with_reducible refine Need.mkG ?_ ?_ | refine AppW.go0 ?_ ?_ | refine AppW.go1 ?_ ?_ | with_reducible refine NilW.goG (fun _ => ?_) ?_ | ((with_reducible refine n1 _ _ _ ?_); clear n1 K1) | ((with_reducible refine n1 _ ?_); clear n1 K1) | ((with_reducible refine n1 _ _ ?_); clear n1 K1) | ((with_reducible refine n1 _ _ _ _ ?_); clear n1 K1) | fail)
  all_goals try (first | exact trivial | omega | kernel_rfl | decide | exact And.intro (by omega) (by omega))
  all_goals try dsimp only [Int.toNat_natCast] at *
  all_goals try (first | exact trivial | omega | exact And.intro (by omega) (by omega))
  refine unroll 3 (rounds_succ ?_)
  repeat' (first | with_reducible refine seq_k fun K1 n1 => ?_ | with_reducible refine seq_nil ?_ | with_reducible refine drw_k fun K1 n1 => ?_ | with_reducible refine drw_nil ?_ ?_ | with_reducible refine bar_k fun K1 n1 => ?_ | with_reducible refine run_seq ?_ | with_reducible refine run_skip ?_ | with_reducible refine run_regS ?_ | with_reducible refine run_regD (by kernel_rfl) ?_ ?_ | with_reducible refine inl_k (by with_unfolding_all rfl) (Nat.le_of_ble_eq_true rfl) fun K1 n1 => ?_ | with_reducible refine inlA_k (by with_unfolding_all rfl) (Nat.le_of_ble_eq_true rfl) fun K1 n1 => ?_ | with_reducible refine run_finA ?_ | with_reducible refine run_cond ?_ | with_reducible refine run_block ?_ | with_reducible refine run_endb ?_ | with_reducible refine run_exit fun K1 n1 => ?_ | with_reducible refine run_ret fun K1 n1 => ?_ | with_reducible refine run_fin ?_ | with_reducible refine run_inv ?_ | with_reducible refine go_rounds ?_ | ((with_reducible refine Go.mk ?_); (conv => whnf)) | refine Fork.yes ?_ | refine Fork.no ?_ | refine Fork.dec (fun _ => ?_) (fun _ => ?_) | refine Fork.ndec (fun _ => ?_) (fun _ => ?_) | refine Fork.mk (fun _ => ?_) (fun _ => ?_) | refine Way.yesG ?_ | refine Way.noG ?_ | refine Way.decG (fun _ => ?_) (fun _ => ?_) | refine Way.ndecG (fun _ => ?_) (fun _ => ?_) | refine Way.mkG (fun _ => ?_) (fun _ => ?_) | with_reducible refine Need.mkG ?_ ?_ | refine AppW.go0 ?_ ?_ | refine AppW.go1 ?_ ?_ | with_reducible refine NilW.goG (fun _ => ?_) ?_ | ((with_reducible refine n1 _ _ _ ?_); clear n1 K1) | ((with_reducible refine n1 _ ?_); clear n1 K1) | ((with_reducible refine n1 _ _ ?_); clear n1 K1) | ((with_reducible refine n1 _ _ _ _ ?_); clear n1 K1) | fail)
  all_goals try (first | exact trivial | omega | kernel_rfl | decide | exact And.intro (by omega) (by omega))
  all_goals try dsimp only [Int.toNat_natCast] at *
  all_goals try (first | exact trivial | omega | exact And.intro (by omega) (by omega))
  · exact ws_small0 hws
  · exact ws_small1 hws
  · exact LaxE.mk' 6 (n + 1 + 1) tk (Nat.le_refl _) (by simp only [List.length_cons, List.length_nil]; omega) rfl (Nat.le_refl _) (TkLe.refl _) (h (n + 1 + 1) _ (by omega) (nh_two D n))
abbrev alL (nn : Nat) : progsT.D := updA (Ty.arr 2 (.lst instrT)).zero 1 (Hd.nm nn, ownL instrT (updA (updA (Ty.arr 2 instrT).zero 0 (1, 3, instrT.zero.2.2.1, instrT.zero.2.2.2.1, 8)) 1 (6, 3, instrT.zero.2.2.1, instrT.zero.2.2.2.1, 9)) 0 2)
theorem al_new (nn : Nat) : newE (alL nn) (Ty.arr 32 .int).zero = 0 := by kernel_rfl
abbrev alD : deskT.D := (deskT.zero.1, (Ty.arr 32 .int).zero)
section
variable (nn n1 n2 : Nat)
abbrev alM : progsT.D := newL (nn + 1) (alL nn)
abbrev alD2 : deskT.D := doD n1 (alM nn) alD 0 (1, 1, 0)
theorem al_1 : (repF n1 (alM nn) alD 0 (1, 1, 0)).1 = 0 := by kernel_rfl
theorem al_2 : (repF n2 (alM nn) (alD2 nn n1) (doK 0) (1, 1, 0)).1 = 0 := by kernel_rfl
theorem al_3 : (doR n2 (alM nn) (alD2 nn n1) (doR n1 (alM nn) alD [] 0 (1, 1, 0)) (doK 0) (1, 1, 0)).length = 2 := by kernel_rfl
theorem al_4 : valF (doD n2 (alM nn) (alD2 nn n1) (doK 0) (1, 1, 0)) 9 = 8 := by kernel_rfl
theorem al_50 : ((doD n2 (alM nn) (alD2 nn n1) (doK 0) (1, 1, 0)).1 0).2.2.2.2.1.2.length = 0 := by kernel_rfl
theorem al_51 : ((doD n2 (alM nn) (alD2 nn n1) (doK 0) (1, 1, 0)).1 1).2.2.2.2.1.2.length = 0 := by kernel_rfl
theorem al_5 {D : deskT.D} (hD : D = doD n2 (alM nn) (alD2 nn n1) (doK 0) (1, 1, 0)) (c : Nat) (hc : c < 2) : (D.1 c).2.2.2.2.1.2.length ≤ 4 := by
  obtain ⟨x, hx⟩ : ∃ x, x = (D.1 c).2.2.2.2.1.2.length := ⟨_, rfl⟩
  rw [← hx]
  have : x = 0 := by
    have : c = 0 ∨ c = 1 := by omega
    rcases this with rfl | rfl
    · rw [hx, hD]; exact al_50 nn n1 n2
    · rw [hx, hD]; exact al_51 nn n1 n2
  omega
end
theorem al_val {d e : deskT.D} (h : nhD d = nhD e) (n : Int) : valF d n = valF e n := by rw [← nh_val d, h, nh_val]
set_option maxHeartbeats 1600000 in
theorem c_alive : Ctr Try.prog 23 (lawS []) := by
  refine ctr_of tabBOk (SpecsOk.mut newOk (by kernel_rfl) (SpecsOk.mut doOk (by kernel_rfl) (SpecsOk.mut rcsOk (by kernel_rfl) (SpecsOk.mut deskOk (by kernel_rfl) (SpecsOk.cons c_Value (by kernel_rfl) (SpecsOk.nil _)))))) Try.func23 rfl _ (Nat.le_of_ble_eq_true rfl) (fun _ _ => rfl) ?_
  rintro nn ⟨⟩ _ _
  refine ⟨200, init_k fun K1 n1 => ?_⟩
  conv => whnf
  refine n1 _ ?_
  clear n1 K1
  repeat' (first | with_reducible refine seq_k fun K1 n1 => ?_ | with_reducible refine seq_nil ?_ | with_reducible refine drw_k fun K1 n1 => ?_ | with_reducible refine drw_nil ?_ ?_ | with_reducible refine bar_k fun K1 n1 => ?_ | with_reducible refine run_seq ?_ | with_reducible refine run_skip ?_ | with_reducible refine run_regS ?_ | with_reducible refine run_regD (by kernel_rfl) ?_ ?_ | with_reducible refine inl_k (by with_unfolding_all rfl) (Nat.le_of_ble_eq_true rfl) fun K1 n1 => ?_ | with_reducible refine inlA_k (by with_unfolding_all rfl) (Nat.le_of_ble_eq_true rfl) fun K1 n1 => ?_ | with_reducible refine run_finA ?_ | with_reducible refine run_cond ?_ | with_reducible refine run_block ?_ | with_reducible refine run_endb ?_ | with_reducible refine run_exit fun K1 n1 => ?_ | with_reducible refine run_ret fun K1 n1 => ?_ | with_reducible refine run_fin ?_ | with_reducible refine run_inv ?_ | with_reducible refine go_rounds ?_ | ((with_reducible refine Go.mk ?_); (conv => whnf)) | refine Fork.yes ?_ | refine Fork.no ?_ | refine Fork.dec (fun _ => ?_) (fun _ => ?_) | refine Fork.ndec (fun _ => ?_) (fun _ => ?_) | refine Fork.mk (fun _ => ?_) (fun _ => ?_) | refine Way.yesG ?_ | refine Way.noG ?_ | refine Way.decG (fun _ => ?_) (fun _ => ?_) | refine Way.ndecG (fun _ => ?_) (fun _ => ?_) | refine Way.mkG (fun _ => ?_) (fun _ => ?_) | with_reducible refine Need.mkG ?_ ?_ | refine AppW.go0 ?_ ?_ | refine AppW.go1 ?_ ?_ | with_reducible refine NilW.goG (fun _ => ?_) ?_ | ((with_reducible refine n1 _ _ _ ?_); clear n1 K1) | ((with_reducible refine n1 _ ?_); clear n1 K1) | ((with_reducible refine n1 _ _ ?_); clear n1 K1) | ((with_reducible refine n1 _ _ _ _ ?_); clear n1 K1) | fail)
  all_goals try (first | exact trivial | omega | kernel_rfl | decide | exact And.intro (by omega) (by omega))
  all_goals try dsimp only [Int.toNat_natCast] at *
  all_goals try (first | exact trivial | omega | exact And.intro (by omega) (by omega))
  refine new_at_1 (fun n' hn he => absurd (al_new nn) he) (fun n' L hn he hL => ?_)
  refine n1 _ _ _ ?_
  clear n1 K1
  obtain ⟨D0, hD0⟩ : ∃ D0 : deskT.D, D0 = (deskT.zero.1, (Ty.arr 32 .int).zero) := ⟨_, rfl⟩
  rw [← hD0]
  repeat' (first | with_reducible refine seq_k fun K1 n1 => ?_ | with_reducible refine seq_nil ?_ | with_reducible refine drw_k fun K1 n1 => ?_ | with_reducible refine drw_nil ?_ ?_ | with_reducible refine bar_k fun K1 n1 => ?_ | with_reducible refine run_seq ?_ | with_reducible refine run_skip ?_ | with_reducible refine run_regS ?_ | with_reducible refine run_regD (by kernel_rfl) ?_ ?_ | with_reducible refine inl_k (by with_unfolding_all rfl) (Nat.le_of_ble_eq_true rfl) fun K1 n1 => ?_ | with_reducible refine inlA_k (by with_unfolding_all rfl) (Nat.le_of_ble_eq_true rfl) fun K1 n1 => ?_ | with_reducible refine run_finA ?_ | with_reducible refine run_cond ?_ | with_reducible refine run_block ?_ | with_reducible refine run_endb ?_ | with_reducible refine run_exit fun K1 n1 => ?_ | with_reducible refine run_ret fun K1 n1 => ?_ | with_reducible refine run_fin ?_ | with_reducible refine run_inv ?_ | with_reducible refine go_rounds ?_ | ((with_reducible refine Go.mk ?_); (conv => whnf)) | refine Fork.yes ?_ | refine Fork.no ?_ | refine Fork.dec (fun _ => ?_) (fun _ => ?_) | refine Fork.ndec (fun _ => ?_) (fun _ => ?_) | refine Fork.mk (fun _ => ?_) (fun _ => ?_) | refine Way.yesG ?_ | refine Way.noG ?_ | refine Way.decG (fun _ => ?_) (fun _ => ?_) | refine Way.ndecG (fun _ => ?_) (fun _ => ?_) | refine Way.mkG (fun _ => ?_) (fun _ => ?_) | with_reducible refine Need.mkG ?_ ?_ | refine AppW.go0 ?_ ?_ | refine AppW.go1 ?_ ?_ | with_reducible refine NilW.goG (fun _ => ?_) ?_ | ((with_reducible refine n1 _ _ _ ?_); clear n1 K1) | ((with_reducible refine n1 _ ?_); clear n1 K1) | ((with_reducible refine n1 _ _ ?_); clear n1 K1) | ((with_reducible refine n1 _ _ _ _ ?_); clear n1 K1) | fail)
  all_goals try (first | exact trivial | omega | kernel_rfl | decide | exact And.intro (by omega) (by omega))
  all_goals try dsimp only [Int.toNat_natCast] at *
  all_goals try (first | exact trivial | omega | exact And.intro (by omega) (by omega))
  refine lax_args (do_at_3_0_0 (a := (1, 1, 0)) (Nat.zero_le _) fun n2 H2 r2 D2 R2 k2 hn2 o2 => ?_)
  refine n1 _ _ _ ?_
  clear n1 K1
  repeat' (first | with_reducible refine seq_k fun K1 n1 => ?_ | with_reducible refine seq_nil ?_ | with_reducible refine drw_k fun K1 n1 => ?_ | with_reducible refine drw_nil ?_ ?_ | with_reducible refine bar_k fun K1 n1 => ?_ | with_reducible refine run_seq ?_ | with_reducible refine run_skip ?_ | with_reducible refine run_regS ?_ | with_reducible refine run_regD (by kernel_rfl) ?_ ?_ | with_reducible refine inl_k (by with_unfolding_all rfl) (Nat.le_of_ble_eq_true rfl) fun K1 n1 => ?_ | with_reducible refine inlA_k (by with_unfolding_all rfl) (Nat.le_of_ble_eq_true rfl) fun K1 n1 => ?_ | with_reducible refine run_finA ?_ | with_reducible refine run_cond ?_ | with_reducible refine run_block ?_ | with_reducible refine run_endb ?_ | with_reducible refine run_exit fun K1 n1 => ?_ | with_reducible refine run_ret fun K1 n1 => ?_ | with_reducible refine run_fin ?_ | with_reducible refine run_inv ?_ | with_reducible refine go_rounds ?_ | ((with_reducible refine Go.mk ?_); (conv => whnf)) | refine Fork.yes ?_ | refine Fork.no ?_ | refine Fork.dec (fun _ => ?_) (fun _ => ?_) | refine Fork.ndec (fun _ => ?_) (fun _ => ?_) | refine Fork.mk (fun _ => ?_) (fun _ => ?_) | refine Way.yesG ?_ | refine Way.noG ?_ | refine Way.decG (fun _ => ?_) (fun _ => ?_) | refine Way.ndecG (fun _ => ?_) (fun _ => ?_) | refine Way.mkG (fun _ => ?_) (fun _ => ?_) | with_reducible refine Need.mkG ?_ ?_ | refine AppW.go0 ?_ ?_ | refine AppW.go1 ?_ ?_ | with_reducible refine NilW.goG (fun _ => ?_) ?_ | ((with_reducible refine n1 _ _ _ ?_); clear n1 K1) | ((with_reducible refine n1 _ ?_); clear n1 K1) | ((with_reducible refine n1 _ _ ?_); clear n1 K1) | ((with_reducible refine n1 _ _ _ _ ?_); clear n1 K1) | fail)
  all_goals try (first | exact trivial | omega | kernel_rfl | decide | exact And.intro (by omega) (by omega))
  all_goals try dsimp only [Int.toNat_natCast] at *
  all_goals try (first | exact trivial | omega | exact And.intro (by omega) (by omega))
  refine lax_args (do_at_3_0_0 (a := (1, 1, 0)) ?_ fun n3 H3 r3 D3 R3 k3 hn3 o3 => ?_)
  · rw [o2.rs]
    exact Nat.le_trans do_len (by decide)
  refine n1 _ _ _ ?_
  clear n1 K1
  have e3 : R3.length ≤ 10000 := by
    rw [o3.rs, o2.rs]
    exact Nat.le_trans do_len (Nat.le_trans (Nat.add_le_add_right do_len 2) (by decide))
  have a1 : r2.1 = 0 := by rw [o2.r, hL, hD0]; exact al_1 nn n'
  have a2 : r3.1 = 0 := by rw [o3.r, o2.d, o2.k, hL, hD0]; exact al_2 nn n' n2
  have a3 : R3.length = 2 := by rw [o3.rs, o2.rs, o2.d, o2.k, hL, hD0]; exact al_3 nn n' n2
  have a4 : valF D3 9 = 8 := by rw [o3.d, o2.d, o2.k, hL, hD0]; exact al_4 nn n' n2
  have a5 := al_5 nn n' n2 (D := D3) (by rw [o3.d, o2.d, o2.k, hL, hD0])
  clear o2 o3
  repeat' (first | with_reducible refine seq_k fun K1 n1 => ?_ | with_reducible refine seq_nil ?_ | with_reducible refine drw_k fun K1 n1 => ?_ | with_reducible refine drw_nil ?_ ?_ | with_reducible refine bar_k fun K1 n1 => ?_ | with_reducible refine run_seq ?_ | with_reducible refine run_skip ?_ | with_reducible refine run_regS ?_ | with_reducible refine run_regD (by kernel_rfl) ?_ ?_ | with_reducible refine inl_k (by with_unfolding_all rfl) (Nat.le_of_ble_eq_true rfl) fun K1 n1 => ?_ | with_reducible refine inlA_k (by with_unfolding_all rfl) (Nat.le_of_ble_eq_true rfl) fun K1 n1 => ?_ | with_reducible refine run_finA ?_ | with_reducible refine run_cond ?_ | with_reducible refine run_block ?_ | with_reducible refine run_endb ?_ | with_reducible refine run_exit fun K1 n1 => ?_ | with_reducible refine run_ret fun K1 n1 => ?_ | with_reducible refine run_fin ?_ | with_reducible refine run_inv ?_ | with_reducible refine go_rounds ?_ | ((with_reducible refine Go.mk ?_); (conv => whnf)) | refine Fork.yes ?_ | refine Fork.no ?_ | refine Fork.dec (fun _ => ?_) (fun _ => ?_) | refine Fork.ndec (fun _ => ?_) (fun _ => ?_) | refine Fork.mk (fun _ => ?_) (fun _ => ?_) | refine Way.yesG ?_ | refine Way.noG ?_ | refine Way.decG (fun _ => ?_) (fun _ => ?_) | refine Way.ndecG (fun _ => ?_) (fun _ => ?_) | refine Way.mkG (fun _ => ?_) (fun _ => ?_) | with_reducible refine Need.mkG ?_ ?_ | refine AppW.go0 ?_ ?_ | refine AppW.go1 ?_ ?_ | with_reducible refine NilW.goG (fun _ => ?_) ?_ | ((with_reducible refine n1 _ _ _ ?_); clear n1 K1) | ((with_reducible refine n1 _ ?_); clear n1 K1) | ((with_reducible refine n1 _ _ ?_); clear n1 K1) | ((with_reducible refine n1 _ _ _ _ ?_); clear n1 K1) | fail)
  all_goals try (first | exact trivial | omega | kernel_rfl | decide | exact And.intro (by omega) (by omega))
  all_goals try dsimp only [Int.toNat_natCast] at *
  all_goals try (first | exact trivial | omega | exact And.intro (by omega) (by omega))
  · refine rec_at_3_2 e3 fun n4 R4 hn4 => ?_
    refine n1 _ _ _ ?_
    clear n1 K1
    repeat' (first | with_reducible refine seq_k fun K1 n1 => ?_ | with_reducible refine seq_nil ?_ | with_reducible refine drw_k fun K1 n1 => ?_ | with_reducible refine drw_nil ?_ ?_ | with_reducible refine bar_k fun K1 n1 => ?_ | with_reducible refine run_seq ?_ | with_reducible refine run_skip ?_ | with_reducible refine run_regS ?_ | with_reducible refine run_regD (by kernel_rfl) ?_ ?_ | with_reducible refine inl_k (by with_unfolding_all rfl) (Nat.le_of_ble_eq_true rfl) fun K1 n1 => ?_ | with_reducible refine inlA_k (by with_unfolding_all rfl) (Nat.le_of_ble_eq_true rfl) fun K1 n1 => ?_ | with_reducible refine run_finA ?_ | with_reducible refine run_cond ?_ | with_reducible refine run_block ?_ | with_reducible refine run_endb ?_ | with_reducible refine run_exit fun K1 n1 => ?_ | with_reducible refine run_ret fun K1 n1 => ?_ | with_reducible refine run_fin ?_ | with_reducible refine run_inv ?_ | with_reducible refine go_rounds ?_ | ((with_reducible refine Go.mk ?_); (conv => whnf)) | refine Fork.yes ?_ | refine Fork.no ?_ | refine Fork.dec (fun _ => ?_) (fun _ => ?_) | refine Fork.ndec (fun _ => ?_) (fun _ => ?_) | refine Fork.mk (fun _ => ?_) (fun _ => ?_) | refine Way.yesG ?_ | refine Way.noG ?_ | refine Way.decG (fun _ => ?_) (fun _ => ?_) | refine Way.ndecG (fun _ => ?_) (fun _ => ?_) | refine Way.mkG (fun _ => ?_) (fun _ => ?_) | with_reducible refine Need.mkG ?_ ?_ | refine AppW.go0 ?_ ?_ | refine AppW.go1 ?_ ?_ | with_reducible refine NilW.goG (fun _ => ?_) ?_ | ((with_reducible refine n1 _ _ _ ?_); clear n1 K1) | ((with_reducible refine n1 _ ?_); clear n1 K1) | ((with_reducible refine n1 _ _ ?_); clear n1 K1) | ((with_reducible refine n1 _ _ _ _ ?_); clear n1 K1) | fail)
    all_goals try (first | exact trivial | omega | kernel_rfl | decide | exact And.intro (by omega) (by omega))
    all_goals try dsimp only [Int.toNat_natCast] at *
    all_goals try (first | exact trivial | omega | exact And.intro (by omega) (by omega))
    · refine desk_at_3_2 a5 fun n5 D5 hn5 h5 => ?_
      refine n1 _ _ _ ?_
      clear n1 K1
      have a6 : valF D5 9 = 8 := by rw [al_val h5]; exact a4
      repeat' (first | with_reducible refine seq_k fun K1 n1 => ?_ | with_reducible refine seq_nil ?_ | with_reducible refine drw_k fun K1 n1 => ?_ | with_reducible refine drw_nil ?_ ?_ | with_reducible refine bar_k fun K1 n1 => ?_ | with_reducible refine run_seq ?_ | with_reducible refine run_skip ?_ | with_reducible refine run_regS ?_ | with_reducible refine run_regD (by kernel_rfl) ?_ ?_ | with_reducible refine inl_k (by with_unfolding_all rfl) (Nat.le_of_ble_eq_true rfl) fun K1 n1 => ?_ | with_reducible refine inlA_k (by with_unfolding_all rfl) (Nat.le_of_ble_eq_true rfl) fun K1 n1 => ?_ | with_reducible refine run_finA ?_ | with_reducible refine run_cond ?_ | with_reducible refine run_block ?_ | with_reducible refine run_endb ?_ | with_reducible refine run_exit fun K1 n1 => ?_ | with_reducible refine run_ret fun K1 n1 => ?_ | with_reducible refine run_fin ?_ | with_reducible refine run_inv ?_ | with_reducible refine go_rounds ?_ | ((with_reducible refine Go.mk ?_); (conv => whnf)) | refine Fork.yes ?_ | refine Fork.no ?_ | refine Fork.dec (fun _ => ?_) (fun _ => ?_) | refine Fork.ndec (fun _ => ?_) (fun _ => ?_) | refine Fork.mk (fun _ => ?_) (fun _ => ?_) | refine Way.yesG ?_ | refine Way.noG ?_ | refine Way.decG (fun _ => ?_) (fun _ => ?_) | refine Way.ndecG (fun _ => ?_) (fun _ => ?_) | refine Way.mkG (fun _ => ?_) (fun _ => ?_) | with_reducible refine Need.mkG ?_ ?_ | refine AppW.go0 ?_ ?_ | refine AppW.go1 ?_ ?_ | with_reducible refine NilW.goG (fun _ => ?_) ?_ | ((with_reducible refine n1 _ _ _ ?_); clear n1 K1) | ((with_reducible refine n1 _ ?_); clear n1 K1) | ((with_reducible refine n1 _ _ ?_); clear n1 K1) | ((with_reducible refine n1 _ _ _ _ ?_); clear n1 K1) | fail)
      all_goals try (first | exact trivial | omega | kernel_rfl | decide | exact And.intro (by omega) (by omega))
      all_goals try dsimp only [Int.toNat_natCast] at *
      all_goals try (first | exact trivial | omega | exact And.intro (by omega) (by omega))
      all_goals refine Done.of ?_ (Or.inl rfl)
      all_goals show (_, ()) = (true, ())
      all_goals rw [decide_eq_true a6]
  · exact absurd a2 (by assumption)
  · exact absurd a1 (by assumption)
end Go.Proofs.Ytjbbgpacijageac.M
