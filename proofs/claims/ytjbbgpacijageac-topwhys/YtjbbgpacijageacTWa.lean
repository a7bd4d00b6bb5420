/- The law TopWhys: who looks. -/
import Derived.Test.YtjbbgpacijageacB3
import Derived.Test.YtjbbgpacijageacZ1
import Derived.Test.YtjbbgpacijageacWX
namespace Go.Proofs.Ytjbbgpacijageac.M
open Go.RowKit
set_option linter.unusedVariables false
set_option linter.unusedSimpArgs false

theorem slot_succ (j : Nat) (h : j < 9223372036854775807) : some (SV.a (AV.of (V.leaf Ty.int (wrap64 ((j : Int) + 1))))) = some (SV.a (AV.of (V.leaf Ty.int ((j + 1 : Nat) : Int)))) := by rw [← wrap_succ j h]
theorem why_conv {d e : deskT.D} {l L : progsT.D} {a : actT.D} {x : recordT.D} (h : nhD e = nhD d) (hl : ∀ k, k < 2 → (l k).2 = (L k).2) (w : WhyOk d L a x) : WhyOk e l a x := by
  have hk : x.2.1.toNat < 2 := (Int.toNat_lt w.core.1).2 w.core.2
  have e1 := al_core1 h x.2.1.toNat
  have e2 : (e.1 x.2.1.toNat).2.2.1 = (d.1 x.2.1.toNat).2.2.1 := by have g := congrArg (fun x : coreT.D => x.2.2.1) (al_core h x.2.1.toNat); exact g
  refine ⟨w.core, by rw [e2]; exact w.deep, ?_⟩
  rcases w.why with g | g | g | ⟨g1, g2, g3⟩
  · exact Or.inl g
  · exact Or.inr (Or.inl g)
  · exact Or.inr (Or.inr (Or.inl g))
  · refine Or.inr (Or.inr (Or.inr ⟨g1, g2, ?_⟩))
    unfold Own at g3 ⊢
    rw [e1, hl _ hk]
    exact g3
theorem Is.progs {l L : progsT.D} {s : StT} {D : deskT.D} {rs : Rec} {k : Int} (h : Is (nL l) s L D rs k) : ∀ k, k < 2 → (l k).2 = (L k).2 := fun k hk => by
  have h1 : (nhP L k).2 = (nL l k).2 := by rw [h.l]
  rw [nL_at l hk] at h1
  exact h1.symm
theorem do_why {nn : Nat} {L : progsT.D} {D : deskT.D} {rs : Rec} {k : Int} {a : actT.D} {r : replyT.D} {D' : deskT.D} {R' : Rec} {k' : Int} (o : DoOut nn L D rs k a r D' R' k') (hg : goodK D = true) : ∃ recs : Rec, R' = rs ++ recs ∧ ∀ x ∈ recs, x.1 = 3 → r.1 = 0 ∧ WhyOk D L a x := by
  rw [o.rs, o.r]
  unfold doR repF
  split
  · exact ⟨[], (List.append_nil _).symm, fun x hx => by cases hx⟩
  · split
    · rename_i h0
      exact ⟨_, rfl, fun x hx h3 => ⟨rfl, act_why hg h0 x hx h3⟩⟩
    · exact ⟨[], (List.append_nil _).symm, fun x hx => by cases hx⟩
theorem rec_at_9_3 {t0 : Ty} {v0 : t0.D} {t1 : Ty} {v1 : t1.D} {t2 : Ty} {v2 : t2.D} {t3 : Ty} {v3 : t3.D} {t4 : Ty} {v4 : t4.D} {t5 : Ty} {v5 : t5.D} {t6 : Ty} {v6 : t6.D} {t7 : Ty} {v7 : t7.D} {t8 : Ty} {v8 : t8.D} {t9 : Ty} {v9 : t9.D} {t10 : Ty} {v10 : t10.D} {t11 : Ty} {v11 : t11.D} {tk : List (Hd × Nat)} {L : progsT.D} {D : deskT.D} {H : Hd} {rs : Rec} {k : Int} {n : Nat} {K : SV → List V → NS → Prop} (hrs : rs.length ≤ 10000) (h : ∀ n' R, n ≤ n' → K (.a (.of (.leaf (.lst recordT) (R, rs)))) [.leaf t0 v0, .leaf t1 v1, .leaf t2 v2, .leaf t3 v3, .leaf t4 v4, .leaf t5 v5, .leaf t6 v6, .leaf t7 v7, .leaf t8 v8, .leaf benchT (L, D, (H, rs), k), .leaf t9 v9, .leaf t10 v10, .leaf t11 v11] ⟨n', tk⟩) : rcsTr [.ptr 9 0 [] benchT] [.leaf t0 v0, .leaf t1 v1, .leaf t2 v2, .leaf t3 v3, .leaf t4 v4, .leaf t5 v5, .leaf t6 v6, .leaf t7 v7, .leaf t8 v8, .leaf benchT (L, D, (H, rs), k), .leaf t9 v9, .leaf t10 v10, .leaf t11 v11] ⟨n, tk⟩ K := by
  refine ⟨[.ptr 9 0 [] benchT], [.leaf t0 v0, .leaf t1 v1, .leaf t2 v2, .leaf t3 v3, .leaf t4 v4, .leaf t5 v5, .leaf t6 v6, .leaf t7 v7, .leaf t8 v8, .leaf benchT (L, D, (H, rs), k), .leaf t9 v9, .leaf t10 v10, .leaf t11 v11], rfl, rfl, ?_⟩
  repeat' (first | with_reducible refine seq_k fun K1 n1 => ?_ | with_reducible refine seq_nil ?_ | with_reducible refine drw_k fun K1 n1 => ?_ | with_reducible refine drw_nil ?_ ?_ | with_reducible refine bar_k fun K1 n1 => ?_ | with_reducible refine run_seq ?_ | with_reducible refine run_skip ?_ | with_reducible refine run_regS ?_ | with_reducible refine run_regD (by kernel_rfl) ?_ ?_ | with_reducible refine inl_k (by with_unfolding_all rfl) (Nat.le_of_ble_eq_true rfl) fun K1 n1 => ?_ | with_reducible refine inlA_k (by with_unfolding_all rfl) (Nat.le_of_ble_eq_true rfl) fun K1 n1 => ?_ | with_reducible refine run_finA ?_ | with_reducible refine run_cond ?_ | with_reducible refine run_block ?_ | with_reducible refine run_endb ?_ | with_reducible refine run_exit fun K1 n1 => ?_ | with_reducible refine run_ret fun K1 n1 => ?_ | with_reducible refine run_fin ?_ | with_reducible refine run_inv ?_ | with_reducible refine go_rounds ?_ | ((with_reducible refine Go.mk ?_); (conv => whnf)) | refine Fork.yes ?_ | refine Fork.no ?_ | refine Fork.dec (fun _ => ?_) (fun _ => ?_) | refine Fork.ndec (fun _ => ?_) (fun _ => ?_) | refine Fork.mk (fun _ => ?_) (fun _ => ?_) | refine Way.yesG ?_ | refine Way.noG ?_ | refine Way.decG (fun _ => ?_) (fun _ => ?_) | refine Way.ndecG (fun _ => ?_) (fun _ => ?_) | refine Way.mkG (fun _ => ?_) (fun _ => ?_) | with_reducible refine Need.mkG ?_ ?_ | refine AppW.go0 ?_ ?_ | refine AppW.go1 ?_ ?_ | with_reducible refine NilW.goG (fun _ => ?_) ?_ | ((with_reducible refine n1 _ _ _ ?_); clear n1 K1) | ((with_reducible refine n1 _ ?_); clear n1 K1) | ((with_reducible refine n1 _ _ ?_); clear n1 K1) | ((with_reducible refine n1 _ _ _ _ ?_); clear n1 K1) | fail)
  all_goals try (first | exact trivial | omega | kernel_rfl | decide | exact And.intro (by omega) (by omega))
  all_goals try dsimp only [Int.toNat_natCast] at *
  all_goals try (first | exact trivial | omega | exact And.intro (by omega) (by omega))
  · exact ⟨by show rs.length ≤ _; omega, by show rs.length * 24 ≤ _; omega⟩
  · exact LaxE.mk' 13 (n + 1) tk (Nat.le_refl _) (by simp only [List.length_cons, List.length_nil]; omega) rfl (Nat.le_refl _) (TkLe.refl _) (h (n + 1) _ (by omega))
theorem desk_at_9_3 {t0 : Ty} {v0 : t0.D} {t1 : Ty} {v1 : t1.D} {t2 : Ty} {v2 : t2.D} {t3 : Ty} {v3 : t3.D} {t4 : Ty} {v4 : t4.D} {t5 : Ty} {v5 : t5.D} {t6 : Ty} {v6 : t6.D} {t7 : Ty} {v7 : t7.D} {t8 : Ty} {v8 : t8.D} {t9 : Ty} {v9 : t9.D} {t10 : Ty} {v10 : t10.D} {t11 : Ty} {v11 : t11.D} {tk : List (Hd × Nat)} {L : progsT.D} {D : deskT.D} {H : Hd} {rs : Rec} {k : Int} {n : Nat} {K : SV → List V → NS → Prop} (hws : ∀ c, c < 2 → (D.1 c).2.2.2.2.1.2.length ≤ 4) (h : ∀ n' D', n ≤ n' → nhD D' = nhD D → K (.a (.of (.leaf deskT D'))) [.leaf t0 v0, .leaf t1 v1, .leaf t2 v2, .leaf t3 v3, .leaf t4 v4, .leaf t5 v5, .leaf t6 v6, .leaf t7 v7, .leaf t8 v8, .leaf benchT (L, D, (H, rs), k), .leaf t9 v9, .leaf t10 v10, .leaf t11 v11] ⟨n', tk⟩) : deskTr [.ptr 9 0 [] benchT] [.leaf t0 v0, .leaf t1 v1, .leaf t2 v2, .leaf t3 v3, .leaf t4 v4, .leaf t5 v5, .leaf t6 v6, .leaf t7 v7, .leaf t8 v8, .leaf benchT (L, D, (H, rs), k), .leaf t9 v9, .leaf t10 v10, .leaf t11 v11] ⟨n, tk⟩ K := by
  refine ⟨[.ptr 9 0 [] benchT], [.leaf t0 v0, .leaf t1 v1, .leaf t2 v2, .leaf t3 v3, .leaf t4 v4, .leaf t5 v5, .leaf t6 v6, .leaf t7 v7, .leaf t8 v8, .leaf benchT (L, D, (H, rs), k), .leaf t9 v9, .leaf t10 v10, .leaf t11 v11], rfl, rfl, ?_⟩
  repeat' (first | with_reducible refine seq_k fun K1 n1 => ?_ | with_reducible refine seq_nil ?_ | with_reducible refine drw_k fun K1 n1 => ?_ | with_reducible refine drw_nil ?_ ?_ | with_reducible refine bar_k fun K1 n1 => ?_ | with_reducible refine run_seq ?_ | with_reducible refine run_skip ?_ | with_reducible refine run_regS ?_ | with_reducible refine run_regD (by kernel_rfl) ?_ ?_ | with_reducible refine inl_k (by with_unfolding_all rfl) (Nat.le_of_ble_eq_true rfl) fun K1 n1 => ?_ | with_reducible refine inlA_k (by with_unfolding_all rfl) (Nat.le_of_ble_eq_true rfl) fun K1 n1 => ?_ | with_reducible refine run_finA ?_ | with_reducible refine run_cond ?_ | with_reducible refine run_block ?_ | with_reducible refine run_endb ?_ | with_reducible refine run_exit fun K1 n1 => ?_ | with_reducible refine run_ret fun K1 n1 => ?_ | with_reducible refine run_fin ?_ | with_reducible refine run_inv ?_ | with_reducible refine go_rounds ?_ | ((with_reducible refine Go.mk ?_); (conv => whnf)) | refine Fork.yes ?_ | refine Fork.no ?_ | refine Fork.dec (fun _ => ?_) (fun _ => ?_) | refine Fork.ndec (fun _ => ?_) (fun _ => ?_) | refine Fork.mk (fun _ => ?_) (fun _ => ?_) | refine Way.yesG ?_ | refine Way.noG ?_ | refine Way.decG (fun _ => ?_) (fun _ => ?_) | refine Way.ndecG (fun _ => ?_) (fun _ => ?_) | refine Way.mkG (fun _ => ?_) (fun _ => ?_) | with_reducible refine Need.mkG ?_ ?_ | refine AppW.go0 ?_ ?_ | refine AppW.go1 ?_ ?_ | with_reducible refine NilW.goG (fun _ => ?_) ?_ | ((with_reducible refine n1 _ _ _ ?_); clear n1 K1) | ((with_reducible refine n1 _ ?_); clear n1 K1) | ((with_reducible refine n1 _ _ ?_); clear n1 K1) | ((with_reducible refine n1 _ _ _ _ ?_); clear n1 K1) | fail)
  all_goals try (first | exact trivial | omega | kernel_rfl | decide | exact And.intro (by omega) (by omega))
  all_goals try dsimp only [Int.toNat_natCast] at *
  all_goals try (first | exact trivial | omega | exact And.intro (by omega) (by omega))
  refine unroll 3 (rounds_succ ?_)
  repeat' (first | with_reducible refine seq_k fun K1 n1 => ?_ | with_reducible refine seq_nil ?_ | with_reducible refine drw_k fun K1 n1 => ?_ | with_reducible refine drw_nil ?_ ?_ | with_reducible refine bar_k fun K1 n1 => ?_ | with_reducible refine run_seq ?_ | with_reducible refine run_skip ?_ | with_reducible refine run_regS ?_ | with_reducible refine run_regD (by kernel_rfl) ?_ ?_ | with_reducible refine inl_k (by with_unfolding_all rfl) (Nat.le_of_ble_eq_true rfl) fun K1 n1 => ?_ | with_reducible refine inlA_k (by with_unfolding_all rfl) (Nat.le_of_ble_eq_true rfl) fun K1 n1 => ?_ | with_reducible refine run_finA ?_ | with_reducible refine run_cond ?_ | with_reducible refine run_block ?_ | with_reducible refine run_endb ?_ | with_reducible refine run_exit fun K1 n1 => ?_ | with_reducible refine run_ret fun K1 n1 => ?_ | with_reducible refine run_fin ?_ | with_reducible refine run_inv ?_ | with_reducible refine go_rounds ?_ | ((with_reducible refine Go.mk ?_); (conv => whnf)) | refine Fork.yes ?_ | refine Fork.no ?_ | refine Fork.dec (fun _ => ?_) (fun _ => ?_) | refine Fork.ndec (fun _ => ?_) (fun _ => ?_) | refine Fork.mk (fun _ => ?_) (fun _ => ?_) | refine Way.yesG ?_ | refine Way.noG ?_ | refine Way.decG (fun _ => ?_) (fun _ => ?_) | refine Way.ndecG (fun _ => ?_) (fun _ => ?_) | refine Way.mkG (fun _ => ?_) (fun _ => ?_) | with_reducible refine Need.mkG ?_ ?_ | refine AppW.go0 ?_ ?_ | refine AppW.go1 ?_ ?_ | with_reducible refine NilW.goG (fun _ => ?_) ?_ | ((with_reducible refine n1 _ _ _ ?_); clear n1 K1) | ((with_reducible refine n1 _ ?_); clear n1 K1) | ((with_reducible refine n1 _ _ ?_); clear n1 K1) | ((with_reducible refine n1 _ _ _ _ ?_); clear n1 K1) | fail)
  all_goals try (first | exact trivial | omega | kernel_rfl | decide | exact And.intro (by omega) (by omega))
  all_goals try dsimp only [Int.toNat_natCast] at *
  all_goals try (first | exact trivial | omega | exact And.intro (by omega) (by omega))
  · exact ws_small0 hws
  · exact ws_small1 hws
  · exact LaxE.mk' 13 (n + 1 + 1) tk (Nat.le_refl _) (by simp only [List.length_cons, List.length_nil]; omega) rfl (Nat.le_refl _) (TkLe.refl _) (h (n + 1 + 1) _ (by omega) (nh_two D n))
abbrev wkTr : MTr := Lax (Inl tabB [(14, mutS deskTr), (17, mutS rcsTr), (18, fetchS), (19, wordS)] Try.f16 [.bool])
theorem wkOk : MOk Try.prog 16 wkTr := lax_ok (inl_ok tabBOk (SpecsOk.mut deskOk (by kernel_rfl) (SpecsOk.mut rcsOk (by kernel_rfl) (SpecsOk.cons c_Fetch (by kernel_rfl) (SpecsOk.cons c_Word (by kernel_rfl) (SpecsOk.nil _))))) Try.func16 [.bool])
end Go.Proofs.Ytjbbgpacijageac.M
