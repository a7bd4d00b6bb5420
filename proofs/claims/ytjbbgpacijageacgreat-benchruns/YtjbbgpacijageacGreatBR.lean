/- Package bench: what comes of acts at a new bench. -/
import Derived.Test.YtjbbgpacijageacGreatY1p
namespace Go.Proofs.YtjbbgpacijageacGreat.M
open Go.RowKit
set_option linter.unusedVariables false
set_option linter.unusedSimpArgs false

abbrev tabRun : Tab := { tab with tks := [38, 71] }
theorem tabRunOk : TabOk Tryz.prog tabRun := ⟨tabOk.ty, tabOk.eq, tabOk.mix, tabOk.ptr⟩
def reps (L : progsT.D) (m : Nat → Int) (acts : List actT.D) : Nat → List replyT.D
  | 0 => []
  | n + 1 => reps L m acts n ++ [repF 0 L (pl L m acts n).1 (pl L m acts n).2.2 (nthD actT acts n)]
theorem reps_len (L : progsT.D) (m : Nat → Int) (acts : List actT.D) : ∀ n, (reps L m acts n).length = n
  | 0 => rfl
  | n + 1 => by
    show (reps L m acts n ++ _).length = n + 1
    rw [List.length_append, reps_len L m acts n]
    rfl
def runL (l : progsT.D) (m : Nat → Int) (acts : List actT.D) : List replyT.D := if newE l m = 0 then (if 400 < (acts.length : Int) then [] else reps (nL l) m acts acts.length) else []
def runE (l : progsT.D) (m : Nat → Int) (acts : List actT.D) : Int := if newE l m = 0 then (if 400 < (acts.length : Int) then 6 else 0) else newE l m
abbrev runS : Spec := { args := [progsT, .arr 32 .int, .lst actT], res := [.lst replyT, .int], cr := true, m := fun _ => 1, fn := fun nn d => ((.nm nn, runL d.1 d.2.1 d.2.2.1.2), runE d.1 d.2.1 d.2.2.1.2, ()), pre := fun _ => True }
theorem run_done {nn : Nat} {l : progsT.D} {m : Nat → Int} {ah : Hd} {acts : List actT.D} {h : Hd} {xs : List replyT.D} {e : Int} {ns : NS} (hx : xs = runL l m acts) (he : e = runE l m acts) : DoneR runS nn (l, m, (ah, acts), ()) ((h, xs), e, ()) ns := by
  refine ⟨⟨fun _ => h, ⟨?_, he, trivial⟩⟩, ⟨Nat.lt_succ_self _, fun e _ => namD_nolst _ _ _ rfl⟩, trivial, trivial⟩
  show (h, xs) = (renH nn (fun _ => h) (.nm nn), (runL l m acts).map (renD nn (fun _ => h) replyT))
  have e1 : renH nn (fun _ => h) (.nm nn) = h := if_neg (Nat.lt_irrefl _)
  have e2 : (runL l m acts).map (renD nn (fun _ => h) replyT) = runL l m acts := by
    conv => rhs; rw [← List.map_id (runL l m acts)]
    exact List.map_congr_left fun e _ => renD_nolst _ _ replyT e rfl
  rw [e1, e2, hx]
theorem new_at_2 {t0 : Ty} {v0 : t0.D} {t1 : Ty} {v1 : t1.D} {tk : List (Hd × Nat)} {l : progsT.D} {m : Nat → Int} {n : Nat} {K : SV → List V → NS → Prop} (h1 : ∀ n', n ≤ n' → newE l m ≠ 0 → K (.tup [.raw (.pointer none), .of (.leaf .int (newE l m))]) [.leaf t0 v0, .leaf t1 v1] ⟨n', tk⟩)
    (h2 : ∀ n' L', n ≤ n' → newE l m = 0 → L' = newL n l → K (.tup [.ptr 4 0 [] benchT, .of (.leaf .int 0)]) [.leaf t0 v0, .leaf t1 v1, .leaf progsT l, .leaf (.arr 32 .int) m, .leaf benchT (L', (deskT.zero.1, m), (nilH, []), 0)] ⟨n', (nilH, 3) :: tk⟩) : newTr [.of (.leaf progsT l), .of (.leaf (.arr 32 .int) m)] [.leaf t0 v0, .leaf t1 v1] ⟨n, tk⟩ K := by
  refine ⟨[.of (.leaf progsT l), .of (.leaf (.arr 32 .int) m)], [.leaf t0 v0, .leaf t1 v1], rfl, rfl, ?_⟩
  repeat' (first | (with_reducible first | refine seq_k fun K1 n1 => ?_ | refine seq_nil ?_ | refine run_seq ?_ | refine run_regS ?_ | refine inlA_k (by with_unfolding_all rfl) (Nat.le_of_ble_eq_true rfl) fun K1 n1 => ?_ | refine run_block ?_) | ((with_reducible refine Go.mk ?_); (conv => whnf)) | ((with_reducible refine n1 _ _ _ ?_); clear n1 K1) | ((with_reducible refine n1 _ _ ?_); clear n1 K1) | fail)
  all_goals try dsimp only [Int.toNat_natCast] at *
  refine unroll 3 (rounds_succ ?_)
  repeat' (first | (with_reducible first | refine seq_k fun K1 n1 => ?_ | refine seq_nil ?_ | refine drw_k fun K1 n1 => ?_ | refine drw_nil ?_ ?_ | refine run_seq ?_ | refine run_skip ?_ | refine run_regS ?_ | refine run_regD (by kernel_rfl) ?_ ?_ | refine run_finA ?_ | refine run_cond ?_ | refine run_block ?_ | refine run_endb ?_ | refine run_exit fun K1 n1 => ?_ | refine run_ret fun K1 n1 => ?_ | refine run_inv ?_ | refine go_rounds ?_) | ((with_reducible refine Go.mk ?_); (conv => whnf)) | refine Fork.yes ?_ | refine Fork.no ?_ | refine Fork.ndec (fun _ => ?_) (fun _ => ?_) | refine Fork.mk (fun _ => ?_) (fun _ => ?_) | (with_reducible first | refine Need.mkG ?_ ?_) | ((with_reducible refine n1 _ _ _ ?_); clear n1 K1) | ((with_reducible refine n1 _ ?_); clear n1 K1) | ((with_reducible refine n1 _ _ _ _ ?_); clear n1 K1) | fail)
  all_goals try (first | exact trivial | kernel_rfl | decide)
  all_goals try dsimp only [Int.toNat_natCast] at *
  · rename_i g0
    have e := newE_0 (m := m) g0
    refine LaxE.mk' 2 n tk (Nat.le_refl _) (by simp only [List.length_cons]; omega) rfl (Nat.le_refl _) (TkLe.refl _) ?_
    have := h1 n (Nat.le_refl _) (by rw [e]; exact g0)
    rw [e] at this
    exact this
  · exact ref_small (by assumption)
  · rename_i g0 g1
    have e := newE_1 (m := m) g0 g1
    refine LaxE.mk' 2 (n + 1) tk (Nat.le_refl _) (by simp only [List.length_cons]; omega) rfl (Nat.le_refl _) (TkLe.refl _) ?_
    have := h1 (n + 1) (by omega) (by rw [e]; exact g1)
    rw [e] at this
    exact this
  · exact ref_small (by assumption)
  · rename_i g0 g1 g2
    have e := newE_2 g0 g1 g2
    refine LaxE.mk' 2 (n + 1 + 1) tk (Nat.le_refl _) (by simp only [List.length_cons]; omega) rfl (Nat.le_refl _) (TkLe.refl _) ?_
    have := h1 (n + 1 + 1) (by omega) (by rw [e]; decide)
    rw [e] at this
    exact this
  · rename_i g0 g1 g2
    have e := newE_3 g0 g1 g2
    exact LaxE.mk' 5 (n + 1 + 1) ((nilH, 3) :: tk) (by simp only [List.length_cons, List.length_nil]; omega) (by simp only [List.length_cons, List.length_nil]; omega) rfl (Nat.le_refl _) (TkLe.new 3 tk) (h2 (n + 1 + 1) _ (by omega) e rfl)
theorem do_end_4_1_0 {t0 : Ty} {v0 : t0.D} {t1 : Ty} {v1 : t1.D} {t2 : Ty} {v2 : t2.D} {t3 : Ty} {v3 : t3.D} {t4 : Ty} {v4 : t4.D} {tk : List (Hd × Nat)} {L : progsT.D} {D : deskT.D} {rs : Rec} {k : Int} {a : actT.D} {n n' : Nat} {H' : Hd} {K : SV → List V → NS → Prop} (h : ∀ n' H' r D' R' k', n ≤ n' → DoOut n L D rs k a r D' R' k' → K (.a (.of (.leaf replyT r))) [.leaf t0 v0, .leaf t1 v1, .leaf t2 v2, .leaf t3 v3, .leaf benchT (L, D', (H', R'), k'), .leaf t4 v4] ⟨n', ((H', 3) :: tk)⟩)
    {r : replyT.D} {b : benchT.D} {v : V} {junk : List V} (hv : v.norm = .leaf benchT b) (hr : r = repF n L D k a) (hb : b = doB n H' L D rs k a) (hn : n ≤ n') : LaxE 6 K (.a (.of (.leaf replyT r))) (.leaf t0 v0 :: .leaf t1 v1 :: .leaf t2 v2 :: .leaf t3 v3 :: v :: .leaf t4 v4 :: junk) ⟨n', ((H', 3) :: tk)⟩ := by
  refine LaxE.mk' 6 n' _ (Nat.le_refl _) (by simp only [List.length_cons]; omega) rfl (Nat.le_refl _) (TkLe.refl _) ?_
  show K _ [.leaf t0 v0, .leaf t1 v1, .leaf t2 v2, .leaf t3 v3, v.norm, .leaf t4 v4] _
  rw [hv, hb]
  exact h n' H' r _ _ _ hn ⟨hr, rfl, rfl, rfl⟩
theorem do_at_4_1_0 {t0 : Ty} {v0 : t0.D} {t1 : Ty} {v1 : t1.D} {t2 : Ty} {v2 : t2.D} {t3 : Ty} {v3 : t3.D} {t4 : Ty} {v4 : t4.D} {tk : List (Hd × Nat)} {L : progsT.D} {D : deskT.D} {H : Hd} {rs : Rec} {k : Int} {a : actT.D} {n : Nat} (hrs : rs.length ≤ 10000) {K : SV → List V → NS → Prop} (h : ∀ n' H' r D' R' k', n ≤ n' → DoOut n L D rs k a r D' R' k' → K (.a (.of (.leaf replyT r))) [.leaf t0 v0, .leaf t1 v1, .leaf t2 v2, .leaf t3 v3, .leaf benchT (L, D', (H', R'), k'), .leaf t4 v4] ⟨n', ((H', 3) :: tk)⟩) :
    doTr [.ptr 4 0 [] benchT, .of (.leaf actT a)] [.leaf t0 v0, .leaf t1 v1, .leaf t2 v2, .leaf t3 v3, .leaf benchT (L, D, (H, rs), k), .leaf t4 v4] ⟨n, ((H, 3) :: tk)⟩ K := by
  refine ⟨[.ptr 4 0 [] benchT, .of (.leaf actT a)], [.leaf t0 v0, .leaf t1 v1, .leaf t2 v2, .leaf t3 v3, .leaf benchT (L, D, (H, rs), k), .leaf t4 v4], rfl, rfl, ?_⟩
  repeat' (first | (with_reducible first | refine seq_k fun K1 n1 => ?_ | refine seq_nil ?_ | refine drw_k fun K1 n1 => ?_ | refine drw_nil ?_ ?_ | refine run_seq ?_ | refine run_skip ?_ | refine run_regS ?_ | refine run_regD (by kernel_rfl) ?_ ?_ | refine inl_k (by with_unfolding_all rfl) (Nat.le_of_ble_eq_true rfl) fun K1 n1 => ?_ | refine run_cond ?_ | refine run_block ?_ | refine run_endb ?_ | refine run_ret fun K1 n1 => ?_ | refine run_fin ?_) | ((with_reducible refine Go.mk ?_); (conv => whnf)) | refine Fork.yes ?_ | refine Fork.no ?_ | refine Fork.dec (fun _ => ?_) (fun _ => ?_) | refine Fork.ndec (fun _ => ?_) (fun _ => ?_) | (with_reducible first | refine Need.mkG ?_ ?_) | refine AppW.go0 ?_ ?_ | ((with_reducible refine n1 _ _ _ ?_); clear n1 K1) | ((with_reducible refine n1 _ ?_); clear n1 K1) | ((with_reducible refine n1 _ _ ?_); clear n1 K1) | ((with_reducible refine n1 _ _ _ _ ?_); clear n1 K1) | fail)
  all_goals try (first | exact trivial | kernel_rfl)
  all_goals try dsimp only [Int.toNat_natCast] at *
  · rename_i h1
    exact do_end_4_1_0 h rfl (rep_full h1) (do_full h1) (Nat.le_refl _)
  · rename_i h0 h1 h2
    exact do_end_4_1_0 h rfl (rep_err h0 (act_1 h1) h2) (do_err h0 (act_1 h1) h2) (by omega)
  · exact act_small1 hrs (act_1 (by assumption))
  · rename_i h0 h1 h2
    exact do_end_4_1_0 h rfl (rep_ok h0 (act_1 h1) h2) (do_ok h0 (act_1 h1) h2) (by omega)
  · rename_i h0 h1 h1' h2
    exact do_end_4_1_0 h rfl (rep_err h0 (act_2 h1 h1') h2) (do_err h0 (act_2 h1 h1') h2) (by omega)
  · exact act_small1 (n := n) hrs (act_2 (by assumption) (by assumption))
  · rename_i h0 h1 h1' h2
    exact do_end_4_1_0 h rfl (rep_ok h0 (act_2 h1 h1') h2) (do_ok h0 (act_2 h1 h1') h2) (by omega)
  · rename_i h0 h1 h1' h1'' h2
    exact do_end_4_1_0 h rfl (rep_err h0 (act_3 h1 h1' h1'') h2) (do_err h0 (act_3 h1 h1' h1'') h2) (by omega)
  · exact act_small1 (n := n) hrs (act_3 (by assumption) (by assumption) (by assumption))
  · rename_i h0 h1 h1' h1'' h2
    exact do_end_4_1_0 h rfl (rep_ok h0 (act_3 h1 h1' h1'') h2) (do_ok h0 (act_3 h1 h1' h1'') h2) (by omega)
  · rename_i h0 h1 h1' h1''
    exact do_end_4_1_0 h rfl (rep_err h0 (act_4 (n := n) (D := D) (L := L) h1 h1' h1'') (show ¬ (3 : Int) = 0 by decide)) (do_err h0 (act_4 h1 h1' h1'') (show ¬ (3 : Int) = 0 by decide)) (Nat.le_refl _)
set_option maxRecDepth 4000 in
set_option maxHeartbeats 1600000 in
theorem c_Run : Ctr Tryz.prog 22 runS := by
  refine ctr_ofR [(nilH, 2)] ⟨[2], rfl⟩ tabRunOk (SpecsOk.mut newOk (by kernel_rfl) (SpecsOk.mut doOk (by kernel_rfl) (SpecsOk.nil _))) Tryz.func22 rfl _ (Nat.le_of_ble_eq_true rfl) (fun h => by cases h) ?_
  rintro nn ⟨l, m, ⟨ah, acts⟩, ⟨⟩⟩ _ hb
  have hac : acts.length ≤ 9223372036854775807 := hb.2.2.1
  refine ⟨200, init_k fun K1 n1 => ?_⟩
  conv => whnf
  refine n1 _ ?_
  clear n1 K1
  repeat' (first | (with_reducible first | refine seq_k fun K1 n1 => ?_ | refine seq_nil ?_ | refine run_seq ?_ | refine run_regS ?_) | ((with_reducible refine Go.mk ?_); (conv => whnf)) | ((with_reducible refine n1 _ _ _ ?_); clear n1 K1) | fail)
  all_goals try dsimp only [Int.toNat_natCast] at *
  refine new_at_2 (fun n' hn he => ?_) (fun n' L hn he hL => ?_)
  · refine n1 _ _ _ ?_
    clear n1 K1
    repeat' (first | (with_reducible first | refine seq_k fun K1 n1 => ?_ | refine seq_nil ?_ | refine run_seq ?_ | refine run_skip ?_ | refine run_regS ?_ | refine run_cond ?_ | refine run_block ?_ | refine run_ret fun K1 n1 => ?_ | refine run_fin ?_) | ((with_reducible refine Go.mk ?_); (conv => whnf)) | refine Fork.dec (fun _ => ?_) (fun _ => ?_) | refine Fork.ndec (fun _ => ?_) (fun _ => ?_) | ((with_reducible refine n1 _ _ _ ?_); clear n1 K1) | ((with_reducible refine n1 _ ?_); clear n1 K1) | fail)
    all_goals try (omega)
    all_goals first
      | exact run_done (by unfold runL; rw [if_neg he]) (by unfold runE; rw [if_neg he])
      | contradiction
  · refine n1 _ _ _ ?_
    clear n1 K1
    have hI0 : Is (nL l) (pl (nL l) m acts 0) L (deskT.zero.1, m) [] 0 := by
      have := Is.init nn l m acts
      rw [← hL] at this
      exact this
    repeat' (first | (with_reducible first | refine seq_k fun K1 n1 => ?_ | refine seq_nil ?_ | refine run_seq ?_ | refine run_skip ?_ | refine run_regS ?_ | refine run_cond ?_ | refine run_block ?_ | refine run_ret fun K1 n1 => ?_ | refine run_fin ?_) | ((with_reducible refine Go.mk ?_); (conv => whnf)) | refine Fork.no ?_ | refine Fork.dec (fun _ => ?_) (fun _ => ?_) | ((with_reducible refine n1 _ _ _ ?_); clear n1 K1) | ((with_reducible refine n1 _ ?_); clear n1 K1) | fail)
    all_goals try dsimp only [Int.toNat_natCast] at *
    · rename_i g
      exact run_done (by unfold runL; rw [if_pos he, if_pos g]) (by unfold runE; rw [if_pos he, if_pos g])
    refine run_loop (loop_fam (ι := Nat × AV × Hd × (deskT.D × Rec × Hd × Int × Nat)) (fun i => [(27, .a (.of (.leaf .int (i.1 : Int)))), (26, .a (.of (.leaf .int (acts.length : Int)))), (25, .a (.of (.leaf (.lst actT) (ah, acts)))), (10, .a i.2.1), (8, .a (.ptr 4 0 [] benchT))])
      (fun i => [.leaf progsT l, .leaf (.arr 32 .int) m, .leaf progsT l, .leaf (.arr 32 .int) m, .leaf benchT (L, i.2.2.2.1, (i.2.2.2.2.2.1, i.2.2.2.2.1), i.2.2.2.2.2.2.1)]) (fun i => ⟨i.2.2.2.2.2.2.2, [(i.2.2.2.2.2.1, 3), (i.2.2.1, 2)]⟩) (fun i => acts.length - i.1)
      (fun i => (i.1 ≤ acts.length ∧ Is (nL l) (pl (nL l) m acts i.1) L i.2.2.2.1 i.2.2.2.2.1 i.2.2.2.2.2.2.1) ∧ ((i.1 = 0 ∧ i.2.1 = .raw (.slice none 0 0) ∧ i.2.2.1 = nilH) ∨ i.2.1 = .of (.leaf (.lst replyT) (i.2.2.1, reps (nL l) m acts i.1)))) ?_ ?_)
    · exact ⟨(0, .raw (.slice none 0 0), nilH, ((deskT.zero.1, m), [], nilH, 0, n')), ⟨⟨Nat.zero_le _, hI0⟩, Or.inl ⟨rfl, rfl, rfl⟩⟩, ⟨rfl, rfl, rfl, rfl, rfl, trivial⟩, rfl, 5, Nat.le_refl _, rfl, rfl⟩
    · rintro ⟨i, x, rh, D, rs, H, k, nq⟩ ⟨⟨hi, hI⟩, hcase⟩
      have hi : i ≤ acts.length := hi
      have hI : Is (nL l) (pl (nL l) m acts i) L D rs k := hI
      have hcase : (i = 0 ∧ x = .raw (.slice none 0 0) ∧ rh = nilH) ∨ x = .of (.leaf (.lst replyT) (rh, reps (nL l) m acts i)) := hcase
      have h4 : ¬ (400 : Int) < (acts.length : Int) := by assumption
      have hrs : rs.length ≤ 10000 := by rw [hI.r]; exact Nat.le_trans (pl_len i) (by omega)
      have hend : i = acts.length → reps (nL l) m acts i = runL l m acts := fun e => by
        unfold runL
        rw [if_pos he, if_neg h4, e]
      have herr : (0 : Int) = runE l m acts := by
        unfold runE
        rw [if_pos he, if_neg h4]
      rcases hcase with ⟨h1, h2, h3⟩ | h2
      · subst h1 h2 h3
        repeat' (first | (with_reducible first | refine seq_k fun K1 n1 => ?_ | refine seq_nil ?_ | refine run_seq ?_ | refine run_skip ?_ | refine run_regS ?_ | refine run_cond ?_ | refine run_block ?_ | refine run_exit fun K1 n1 => ?_ | refine run_ret fun K1 n1 => ?_ | refine run_fin ?_) | ((with_reducible refine Go.mk ?_); (conv => whnf)) | refine Fork.dec (fun _ => ?_) (fun _ => ?_) | (with_reducible first | refine Need.mkG ?_ ?_) | ((with_reducible refine n1 _ _ _ ?_); clear n1 K1) | ((with_reducible refine n1 _ ?_); clear n1 K1) | fail)
        all_goals try (exact And.intro (by omega) (by omega))
        all_goals try dsimp only [Int.toNat_natCast] at *
        · refine do_at_4_1_0 hrs fun n2 H2 r2 D2 R2 k2 hn2 o2 => ?_
          refine n1 _ _ _ ?_
          clear n1 K1
          obtain ⟨hI2, hr2⟩ := hI.next o2
          have hI2 : Is (nL l) (pl (nL l) m acts (0 + 1)) L D2 R2 k2 := hI2
          have hre : [] ++ [r2] = reps (nL l) m acts (0 + 1) := by rw [hr2]; rfl
          repeat' (first | (with_reducible first | refine seq_k fun K1 n1 => ?_ | refine seq_nil ?_ | refine run_regS ?_ | refine run_endb ?_ | refine run_inv ?_) | ((with_reducible refine Go.mk ?_); (conv => whnf)) | (with_reducible first | refine Need.mkG ?_ ?_) | refine AppW.go1 ?_ ?_ | ((with_reducible refine n1 _ _ _ ?_); clear n1 K1) | fail)
          all_goals try (decide)
          all_goals try dsimp only [Int.toNat_natCast] at *
          · exact ⟨(by show 0 + 1 ≤ _; decide), (by show (0 + 1) * 16 ≤ _; decide)⟩
          · refine ⟨(0 + 1, .of (.leaf (.lst replyT) (.nm (n2 + 1), reps (nL l) m acts (0 + 1))), .nm (n2 + 1), D2, R2, H2, k2, n2 + 2), (show acts.length - (0 + 1) < acts.length - 0 by omega), ⟨⟨(show 0 + 1 ≤ acts.length by omega), hI2⟩, Or.inr rfl⟩, ⟨?_, rfl, rfl, ?_, rfl, trivial⟩, rfl, 5, Nat.le_of_ble_eq_true rfl, rfl, rfl⟩
            · show some (SV.a (AV.of (V.leaf Ty.int (wrap64 ((0 : Int) + 1))))) = some (SV.a (AV.of (V.leaf Ty.int ((0 + 1 : Nat) : Int))))
              rfl
            · rw [← hre]
              rfl
        · exact run_done (hend (by omega)) herr
      · subst h2
        repeat' (first | (with_reducible first | refine seq_k fun K1 n1 => ?_ | refine seq_nil ?_ | refine run_seq ?_ | refine run_skip ?_ | refine run_regS ?_ | refine run_cond ?_ | refine run_block ?_ | refine run_exit fun K1 n1 => ?_ | refine run_ret fun K1 n1 => ?_ | refine run_fin ?_) | ((with_reducible refine Go.mk ?_); (conv => whnf)) | refine Fork.dec (fun _ => ?_) (fun _ => ?_) | (with_reducible first | refine Need.mkG ?_ ?_) | ((with_reducible refine n1 _ _ _ ?_); clear n1 K1) | ((with_reducible refine n1 _ ?_); clear n1 K1) | fail)
        all_goals try (exact And.intro (by omega) (by omega))
        all_goals try dsimp only [Int.toNat_natCast] at *
        · refine do_at_4_1_0 hrs fun n2 H2 r2 D2 R2 k2 hn2 o2 => ?_
          refine n1 _ _ _ ?_
          clear n1 K1
          obtain ⟨hI2, hr2⟩ := hI.next o2
          have hI2 : Is (nL l) (pl (nL l) m acts (i + 1)) L D2 R2 k2 := hI2
          have hre : reps (nL l) m acts i ++ [r2] = reps (nL l) m acts (i + 1) := by rw [hr2]; rfl
          repeat' (first | (with_reducible first | refine seq_k fun K1 n1 => ?_ | refine seq_nil ?_ | refine run_regS ?_ | refine run_endb ?_ | refine run_inv ?_) | ((with_reducible refine Go.mk ?_); (conv => whnf)) | (with_reducible first | refine Need.mkG ?_ ?_) | refine AppW.go1 ?_ ?_ | ((with_reducible refine n1 _ _ _ ?_); clear n1 K1) | fail)
          all_goals try (decide)
          all_goals try dsimp only [Int.toNat_natCast] at *
          · exact ⟨(by show (reps (nL l) m acts i).length + 1 ≤ _; rw [reps_len]; omega), (by show ((reps (nL l) m acts i).length + 1) * 16 ≤ _; rw [reps_len]; omega)⟩
          · refine ⟨(i + 1, .of (.leaf (.lst replyT) (.nm (n2 + 1), reps (nL l) m acts (i + 1))), .nm (n2 + 1), D2, R2, H2, k2, n2 + 2), (show acts.length - (i + 1) < acts.length - i by omega), ⟨⟨(show i + 1 ≤ acts.length by omega), hI2⟩, Or.inr rfl⟩, ⟨?_, rfl, rfl, ?_, rfl, trivial⟩, rfl, 5, Nat.le_of_ble_eq_true rfl, rfl, rfl⟩
            · show some (SV.a (AV.of (V.leaf Ty.int (wrap64 ((i : Int) + 1))))) = some (SV.a (AV.of (V.leaf Ty.int ((i + 1 : Nat) : Int))))
              rw [← wrap_succ i (by omega)]
            · rw [← hre]
              rfl
        · exact run_done (hend (by omega)) herr
end Go.Proofs.YtjbbgpacijageacGreat.M
