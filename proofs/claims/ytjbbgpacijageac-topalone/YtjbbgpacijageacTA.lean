/- The law TopAlone. -/
import Derived.Test.YtjbbgpacijageacB4
import Derived.Test.YtjbbgpacijageacZ1
namespace Go.Proofs.Ytjbbgpacijageac.M
open Go.RowKit
set_option linter.unusedVariables false
set_option linter.unusedSimpArgs false

abbrev tabA : Tab := { tab with tks := [25] }
theorem tabAOk : TabOk Try.prog tabA := ⟨tabOk.ty, tabOk.eq, tabOk.mix, tabOk.ptr⟩
/-- So many steps of one core. -/
def aloneL (c : Int) (n : Nat) : List actT.D := List.replicate n (1, c, 0)
def mod2 (c : Int) : Int := (wrap64 (c.tmod 2 + 2)).tmod 2
def mod200 (n : Int) : Int := (wrap64 (n.tmod 200 + 200)).tmod 200
theorem mod2_rng (c : Int) : 0 ≤ mod2 c ∧ mod2 c < 2 := by
  unfold mod2
  have h1 := Int.tmod_lt_of_pos c (show (0 : Int) < 2 by decide)
  have h2 : -2 < c.tmod 2 := by
    rcases Int.le_total 0 c with h | h
    · rw [Int.tmod_eq_emod_of_nonneg h]; omega
    · have : c.tmod 2 = -((-c).tmod 2) := by rw [Int.neg_tmod]; omega
      rw [this, Int.tmod_eq_emod_of_nonneg (by omega)]
      omega
  rw [wrap_id (by omega), Int.tmod_eq_emod_of_nonneg (by omega)]
  omega
theorem mod200_rng (c : Int) : 0 ≤ mod200 c ∧ mod200 c < 200 := by
  unfold mod200
  have h1 := Int.tmod_lt_of_pos c (show (0 : Int) < 200 by decide)
  have h2 : -200 < c.tmod 200 := by
    rcases Int.le_total 0 c with h | h
    · rw [Int.tmod_eq_emod_of_nonneg h]; omega
    · have : c.tmod 200 = -((-c).tmod 200) := by rw [Int.neg_tmod]; omega
      rw [this, Int.tmod_eq_emod_of_nonneg (by omega)]
      omega
  rw [wrap_id (by omega), Int.tmod_eq_emod_of_nonneg (by omega)]
  omega
/-- Who works alone. -/
structure Alone (c : Int) (s : StT) : Prop where
  now : (s.1.1 (1 - c).toNat).1 = plainT.zero
  deep : (s.1.1 (1 - c).toNat).2.2.1 = 0
  rcs : ∀ r ∈ s.2.1, r.2.1 = c ∧ (r.1 = 3 → r.2.2 ≠ 1001 ∧ r.2.2 ≠ 1004)
theorem own_ne {d : deskT.D} {l : progsT.D} {c n : Int} (h : Own d l c n) : n ≠ 1001 ∧ n ≠ 1004 := by
  rcases h with ⟨h, _⟩ | h | ⟨h, _⟩ | ⟨_, _, _, h⟩
  · rw [h]; decide
  · rw [h]; decide
  · rw [h]; decide
  · constructor <;> intro g <;> rw [g] at h <;> exact absurd h (by decide)
theorem alone_step {L : progsT.D} {c : Int} (hc : 0 ≤ c ∧ c < 2) {s : StT} (hg : goodK s.1 = true) (h : Alone c s) : Alone c (stp L s (1, c, 0)) := by
  have hsame : Alone c (nhD s.1, s.2.1, doK s.2.2) := ⟨h.now, h.deep, h.rcs⟩
  unfold stp doD doR
  by_cases hk : s.2.2 = 400
  · rw [if_pos hk, if_pos hk]
    exact hsame
  · rw [if_neg hk, if_neg hk]
    have ha : actF 0 s.1 L (1, c, 0) = stepF 0 s.1 L c := rfl
    rw [ha]
    by_cases h0 : (stepF 0 s.1 L c).2.2 = 0
    · rw [if_pos h0, if_pos h0]
      rcases (step_ok (nn := 0) (l := L) (c := c) hg).2 with ⟨g, _⟩ | ⟨_, _, hS⟩
      · exact absurd h0 g
      · obtain ⟨f, T, q, hl, e, _, hq, _⟩ := hS
        have e' : (stepF 0 s.1 L c).2.1 = othR c f ++ q := e
        have hstp : (stepF 0 s.1 L c).2.1 = (stepsF 0 s.1 L c).2 := by
          unfold stepF at h0 ⊢
          split
          · rename_i hr0
            rw [if_pos hr0] at h0
            split
            · rename_i ho
              rw [if_pos ho] at h0
              cases h0
            · rfl
          · rename_i hr0
            rw [if_neg hr0] at h0
            exact absurd h0 hr0
        rcases hl.oth with ⟨hf, hx⟩ | ⟨_, hd, _⟩
        · rw [hf] at e'
          have e2 : (stepF 0 s.1 L c).2.1 = q := e'
          refine ⟨?_, ?_, fun r hr => ?_⟩
          · show ((stepF 0 s.1 L c).1.1 (1 - c).toNat).1 = _
            rw [hx.1]; exact h.now
          · show ((stepF 0 s.1 L c).1.1 (1 - c).toNat).2.2.1 = 0
            rw [hx.2]; exact h.deep
          · rcases List.mem_append.1 hr with g | g
            · exact h.rcs r g
            · have hrc : r.2.1 = c := hq r (by rw [← e2]; exact g)
              exact ⟨hrc, fun h3 => own_ne (own_why (nn := 0) (l := L) hc hg r (by rw [← hstp]; exact g) h3 hrc).2⟩
        · exact absurd h.deep hd
    · rw [if_neg h0, if_neg h0]
      exact hsame
theorem alone_pl {L : progsT.D} {m : Nat → Int} {c : Int} (hc : 0 ≤ c ∧ c < 2) (hg : goodK (deskT.zero.1, m) = true) (N : Nat) : ∀ n, n ≤ N → Alone c (pl L m (aloneL c N) n)
  | 0, _ => ⟨rfl, rfl, fun r hr => by cases hr⟩
  | n + 1, hn => by
    have h1 := alone_pl (L := L) hc hg N n (by omega)
    have ha : nthD actT (aloneL c N) n = (1, c, 0) := by
      unfold aloneL
      rw [nthD_eq (by rw [List.length_replicate]; omega), List.getElem_replicate]
    show Alone c (stp L (pl L m (aloneL c N) n) (nthD actT (aloneL c N) n))
    rw [ha]
    exact alone_step hc (pl_good hg n) h1
set_option maxRecDepth 4000 in
set_option maxHeartbeats 1600000 in
theorem playn_at_2 {t0 : Ty} {v0 : t0.D} {t1 : Ty} {v1 : t1.D} {tk : List (Hd × Nat)} {l : progsT.D} {m : Nat → Int} {n : Nat} (hsm : small progsT l) {K : SV → List V → NS → Prop}
    (h1 : ∀ n', n ≤ n' → newE l m ≠ 0 → K (.tup [.raw (.pointer none), .of (.leaf .bool true)]) [.leaf t0 v0, .leaf t1 v1] ⟨n', tk⟩)
    (h2 : ∀ n' L D rs H k, n ≤ n' → newE l m = 0 → Is (nL l) (pl (nL l) m [] 0) L D rs k → K (.tup [.ptr 6 0 [] benchT, .of (.leaf .bool true)]) [.leaf t0 v0, .leaf t1 v1, .leaf progsT l, .leaf (.arr 32 .int) m, .leaf progsT (progF n l), .leaf (.arr 32 .int) m, .leaf benchT (L, D, (H, rs), k)] ⟨n', (H, 3) :: tk⟩) :
    playTr [.of (.leaf progsT l), .of (.leaf (.arr 32 .int) m), .raw (.slice none 0 0), .clo 20 []] [.leaf t0 v0, .leaf t1 v1] ⟨n, tk⟩ K := by
  refine ⟨[.of (.leaf progsT l), .of (.leaf (.arr 32 .int) m), .raw (.slice none 0 0), .clo 20 []], [.leaf t0 v0, .leaf t1 v1], rfl, rfl, ?_⟩
  repeat' (first | with_reducible refine seq_k fun K1 n1 => ?_ | with_reducible refine seq_nil ?_ | with_reducible refine drw_k fun K1 n1 => ?_ | with_reducible refine drw_nil ?_ ?_ | with_reducible refine bar_k fun K1 n1 => ?_ | with_reducible refine run_seq ?_ | with_reducible refine run_skip ?_ | with_reducible refine run_regS ?_ | with_reducible refine inl_k (by with_unfolding_all rfl) (Nat.le_of_ble_eq_true rfl) fun K1 n1 => ?_ | with_reducible refine inlA_k (by with_unfolding_all rfl) (Nat.le_of_ble_eq_true rfl) fun K1 n1 => ?_ | with_reducible refine run_finA ?_ | with_reducible refine run_cond ?_ | with_reducible refine run_block ?_ | with_reducible refine run_endb ?_ | with_reducible refine run_exit fun K1 n1 => ?_ | with_reducible refine run_ret fun K1 n1 => ?_ | with_reducible refine run_fin ?_ | with_reducible refine run_inv ?_ | with_reducible refine go_rounds ?_ | ((with_reducible refine Go.mk ?_); (conv => whnf)) | refine Fork.yes ?_ | refine Fork.no ?_ | refine Fork.dec (fun _ => ?_) (fun _ => ?_) | refine Fork.ndec (fun _ => ?_) (fun _ => ?_) | refine Fork.mk (fun _ => ?_) (fun _ => ?_) | refine Way.yesG ?_ | refine Way.noG ?_ | refine Way.decG (fun _ => ?_) (fun _ => ?_) | refine Way.ndecG (fun _ => ?_) (fun _ => ?_) | refine Way.mkG (fun _ => ?_) (fun _ => ?_) | with_reducible refine Need.mkG ?_ ?_ | refine AppW.go0 ?_ ?_ | refine AppW.go1 ?_ ?_ | with_reducible refine NilW.goG (fun _ => ?_) ?_ | ((with_reducible refine n1 _ _ _ ?_); clear n1 K1) | ((with_reducible refine n1 _ ?_); clear n1 K1) | ((with_reducible refine n1 _ _ ?_); clear n1 K1) | ((with_reducible refine n1 _ _ _ _ ?_); clear n1 K1) | fail)
  all_goals try (first | exact trivial | omega | kernel_rfl | decide | exact And.intro (by omega) (by omega))
  all_goals try dsimp only [Int.toNat_natCast] at *
  all_goals try (first | exact trivial | omega | exact And.intro (by omega) (by omega))
  refine run_regC [3] (by kernel_rfl) ?_
  refine seg_cut [_, _, _] _ rfl rfl ?_
  repeat' (first | with_reducible refine seq_k fun K1 n1 => ?_ | with_reducible refine seq_nil ?_ | with_reducible refine drw_k fun K1 n1 => ?_ | with_reducible refine drw_nil ?_ ?_ | with_reducible refine bar_k fun K1 n1 => ?_ | with_reducible refine run_seq ?_ | with_reducible refine run_skip ?_ | with_reducible refine run_regS ?_ | with_reducible refine inl_k (by with_unfolding_all rfl) (Nat.le_of_ble_eq_true rfl) fun K1 n1 => ?_ | with_reducible refine inlA_k (by with_unfolding_all rfl) (Nat.le_of_ble_eq_true rfl) fun K1 n1 => ?_ | with_reducible refine run_finA ?_ | with_reducible refine run_cond ?_ | with_reducible refine run_block ?_ | with_reducible refine run_endb ?_ | with_reducible refine run_exit fun K1 n1 => ?_ | with_reducible refine run_ret fun K1 n1 => ?_ | with_reducible refine run_fin ?_ | with_reducible refine run_inv ?_ | with_reducible refine go_rounds ?_ | ((with_reducible refine Go.mk ?_); (conv => whnf)) | refine Fork.yes ?_ | refine Fork.no ?_ | refine Fork.dec (fun _ => ?_) (fun _ => ?_) | refine Fork.ndec (fun _ => ?_) (fun _ => ?_) | refine Fork.mk (fun _ => ?_) (fun _ => ?_) | refine Way.yesG ?_ | refine Way.noG ?_ | refine Way.decG (fun _ => ?_) (fun _ => ?_) | refine Way.ndecG (fun _ => ?_) (fun _ => ?_) | refine Way.mkG (fun _ => ?_) (fun _ => ?_) | with_reducible refine Need.mkG ?_ ?_ | refine AppW.go0 ?_ ?_ | refine AppW.go1 ?_ ?_ | with_reducible refine NilW.goG (fun _ => ?_) ?_ | ((with_reducible refine n1 _ _ _ ?_); clear n1 K1) | ((with_reducible refine n1 _ ?_); clear n1 K1) | ((with_reducible refine n1 _ _ ?_); clear n1 K1) | ((with_reducible refine n1 _ _ _ _ ?_); clear n1 K1) | fail)
  all_goals try (first | exact trivial | omega | kernel_rfl | decide | exact And.intro (by omega) (by omega))
  all_goals try dsimp only [Int.toNat_natCast] at *
  all_goals try (first | exact trivial | omega | exact And.intro (by omega) (by omega))
  refine new_at_4 (fun n' hn he => ?_) (fun n' L hn he hL => ?_)
  · refine n1 _ _ _ ?_
    clear n1 K1
    have he' : newE l m ≠ 0 := by rw [← newE_prog (prog_at n l)]; exact he
    refine seg_end [_, _, _, _, _, _, _, _, _] rfl ?_
    repeat' (first | with_reducible refine seq_k fun K1 n1 => ?_ | with_reducible refine seq_nil ?_ | with_reducible refine drw_k fun K1 n1 => ?_ | with_reducible refine drw_nil ?_ ?_ | with_reducible refine bar_k fun K1 n1 => ?_ | with_reducible refine run_seq ?_ | with_reducible refine run_skip ?_ | with_reducible refine run_regS ?_ | with_reducible refine inl_k (by with_unfolding_all rfl) (Nat.le_of_ble_eq_true rfl) fun K1 n1 => ?_ | with_reducible refine inlA_k (by with_unfolding_all rfl) (Nat.le_of_ble_eq_true rfl) fun K1 n1 => ?_ | with_reducible refine run_finA ?_ | with_reducible refine run_cond ?_ | with_reducible refine run_block ?_ | with_reducible refine run_endb ?_ | with_reducible refine run_exit fun K1 n1 => ?_ | with_reducible refine run_ret fun K1 n1 => ?_ | with_reducible refine run_fin ?_ | with_reducible refine run_inv ?_ | with_reducible refine go_rounds ?_ | ((with_reducible refine Go.mk ?_); (conv => whnf)) | refine Fork.yes ?_ | refine Fork.no ?_ | refine Fork.dec (fun _ => ?_) (fun _ => ?_) | refine Fork.ndec (fun _ => ?_) (fun _ => ?_) | refine Fork.mk (fun _ => ?_) (fun _ => ?_) | refine Way.yesG ?_ | refine Way.noG ?_ | refine Way.decG (fun _ => ?_) (fun _ => ?_) | refine Way.ndecG (fun _ => ?_) (fun _ => ?_) | refine Way.mkG (fun _ => ?_) (fun _ => ?_) | with_reducible refine Need.mkG ?_ ?_ | refine AppW.go0 ?_ ?_ | refine AppW.go1 ?_ ?_ | with_reducible refine NilW.goG (fun _ => ?_) ?_ | ((with_reducible refine n1 _ _ _ ?_); clear n1 K1) | ((with_reducible refine n1 _ ?_); clear n1 K1) | ((with_reducible refine n1 _ _ ?_); clear n1 K1) | ((with_reducible refine n1 _ _ _ _ ?_); clear n1 K1) | fail)
    all_goals try (first | exact trivial | omega | kernel_rfl | decide | exact And.intro (by omega) (by omega))
    all_goals try dsimp only [Int.toNat_natCast] at *
    all_goals try (first | exact trivial | omega | exact And.intro (by omega) (by omega))
    all_goals
      refine LaxE.mk' 2 n' tk (Nat.le_refl _) (Nat.le_of_ble_eq_true rfl) rfl (Nat.le_refl _) (TkLe.refl _) ?_
      exact h1 n' (by omega) he'
  · refine n1 _ _ _ ?_
    clear n1 K1
    have hI0 : Is (nL l) (pl (nL l) m [] 0) L (deskT.zero.1, m) [] 0 := by
      have := Is.init (n + 2) (progF n l) m []
      rw [nL_prog (prog_at n l), ← hL] at this
      exact this
    rw [newE_prog (prog_at n l)] at he
    refine seg_end [_, _, _, _, _, _, _, _, _] rfl ?_
    repeat' (first | with_reducible refine seq_k fun K1 n1 => ?_ | with_reducible refine seq_nil ?_ | with_reducible refine drw_k fun K1 n1 => ?_ | with_reducible refine drw_nil ?_ ?_ | with_reducible refine bar_k fun K1 n1 => ?_ | with_reducible refine run_seq ?_ | with_reducible refine run_skip ?_ | with_reducible refine run_regS ?_ | with_reducible refine inl_k (by with_unfolding_all rfl) (Nat.le_of_ble_eq_true rfl) fun K1 n1 => ?_ | with_reducible refine inlA_k (by with_unfolding_all rfl) (Nat.le_of_ble_eq_true rfl) fun K1 n1 => ?_ | with_reducible refine run_finA ?_ | with_reducible refine run_cond ?_ | with_reducible refine run_block ?_ | with_reducible refine run_endb ?_ | with_reducible refine run_exit fun K1 n1 => ?_ | with_reducible refine run_ret fun K1 n1 => ?_ | with_reducible refine run_fin ?_ | with_reducible refine run_inv ?_ | with_reducible refine go_rounds ?_ | ((with_reducible refine Go.mk ?_); (conv => whnf)) | refine Fork.yes ?_ | refine Fork.no ?_ | refine Fork.dec (fun _ => ?_) (fun _ => ?_) | refine Fork.ndec (fun _ => ?_) (fun _ => ?_) | refine Fork.mk (fun _ => ?_) (fun _ => ?_) | refine Way.yesG ?_ | refine Way.noG ?_ | refine Way.decG (fun _ => ?_) (fun _ => ?_) | refine Way.ndecG (fun _ => ?_) (fun _ => ?_) | refine Way.mkG (fun _ => ?_) (fun _ => ?_) | with_reducible refine Need.mkG ?_ ?_ | refine AppW.go0 ?_ ?_ | refine AppW.go1 ?_ ?_ | with_reducible refine NilW.goG (fun _ => ?_) ?_ | ((with_reducible refine n1 _ _ _ ?_); clear n1 K1) | ((with_reducible refine n1 _ ?_); clear n1 K1) | ((with_reducible refine n1 _ _ ?_); clear n1 K1) | ((with_reducible refine n1 _ _ _ _ ?_); clear n1 K1) | fail)
    all_goals try (first | exact trivial | omega | kernel_rfl | decide | exact And.intro (by omega) (by omega))
    all_goals try dsimp only [Int.toNat_natCast] at *
    all_goals try (first | exact trivial | omega | exact And.intro (by omega) (by omega))
    refine unroll 1 (rounds_succ ?_)
    repeat' (first | with_reducible refine seq_k fun K1 n1 => ?_ | with_reducible refine seq_nil ?_ | with_reducible refine drw_k fun K1 n1 => ?_ | with_reducible refine drw_nil ?_ ?_ | with_reducible refine bar_k fun K1 n1 => ?_ | with_reducible refine run_seq ?_ | with_reducible refine run_skip ?_ | with_reducible refine run_regS ?_ | with_reducible refine inl_k (by with_unfolding_all rfl) (Nat.le_of_ble_eq_true rfl) fun K1 n1 => ?_ | with_reducible refine inlA_k (by with_unfolding_all rfl) (Nat.le_of_ble_eq_true rfl) fun K1 n1 => ?_ | with_reducible refine run_finA ?_ | with_reducible refine run_cond ?_ | with_reducible refine run_block ?_ | with_reducible refine run_endb ?_ | with_reducible refine run_exit fun K1 n1 => ?_ | with_reducible refine run_ret fun K1 n1 => ?_ | with_reducible refine run_fin ?_ | with_reducible refine run_inv ?_ | with_reducible refine go_rounds ?_ | ((with_reducible refine Go.mk ?_); (conv => whnf)) | refine Fork.yes ?_ | refine Fork.no ?_ | refine Fork.dec (fun _ => ?_) (fun _ => ?_) | refine Fork.ndec (fun _ => ?_) (fun _ => ?_) | refine Fork.mk (fun _ => ?_) (fun _ => ?_) | refine Way.yesG ?_ | refine Way.noG ?_ | refine Way.decG (fun _ => ?_) (fun _ => ?_) | refine Way.ndecG (fun _ => ?_) (fun _ => ?_) | refine Way.mkG (fun _ => ?_) (fun _ => ?_) | with_reducible refine Need.mkG ?_ ?_ | refine AppW.go0 ?_ ?_ | refine AppW.go1 ?_ ?_ | with_reducible refine NilW.goG (fun _ => ?_) ?_ | ((with_reducible refine n1 _ _ _ ?_); clear n1 K1) | ((with_reducible refine n1 _ ?_); clear n1 K1) | ((with_reducible refine n1 _ _ ?_); clear n1 K1) | ((with_reducible refine n1 _ _ _ _ ?_); clear n1 K1) | fail)
    all_goals try (first | exact trivial | omega | kernel_rfl | decide | exact And.intro (by omega) (by omega))
    all_goals try dsimp only [Int.toNat_natCast] at *
    all_goals try (first | exact trivial | omega | exact And.intro (by omega) (by omega))
    refine LaxE.mk' 7 n' ((nilH, 3) :: tk) (Nat.le_of_ble_eq_true rfl) (Nat.le_of_ble_eq_true rfl) rfl (Nat.le_refl _) (TkLe.refl _) ?_
    exact h2 n' L _ _ _ _ (by omega) he hI0
theorem rec_at_6_0 {t0 : Ty} {v0 : t0.D} {t1 : Ty} {v1 : t1.D} {t2 : Ty} {v2 : t2.D} {t3 : Ty} {v3 : t3.D} {t4 : Ty} {v4 : t4.D} {t5 : Ty} {v5 : t5.D} {tk : List (Hd × Nat)} {L : progsT.D} {D : deskT.D} {H : Hd} {rs : Rec} {k : Int} {n : Nat} {K : SV → List V → NS → Prop} (hrs : rs.length ≤ 10000) (h : ∀ n' R, n ≤ n' → K (.a (.of (.leaf (.lst recordT) (R, rs)))) [.leaf t0 v0, .leaf t1 v1, .leaf t2 v2, .leaf t3 v3, .leaf t4 v4, .leaf t5 v5, .leaf benchT (L, D, (H, rs), k)] ⟨n', tk⟩) : rcsTr [.ptr 6 0 [] benchT] [.leaf t0 v0, .leaf t1 v1, .leaf t2 v2, .leaf t3 v3, .leaf t4 v4, .leaf t5 v5, .leaf benchT (L, D, (H, rs), k)] ⟨n, tk⟩ K := by
  refine ⟨[.ptr 6 0 [] benchT], [.leaf t0 v0, .leaf t1 v1, .leaf t2 v2, .leaf t3 v3, .leaf t4 v4, .leaf t5 v5, .leaf benchT (L, D, (H, rs), k)], rfl, rfl, ?_⟩
  repeat' (first | with_reducible refine seq_k fun K1 n1 => ?_ | with_reducible refine seq_nil ?_ | with_reducible refine drw_k fun K1 n1 => ?_ | with_reducible refine drw_nil ?_ ?_ | with_reducible refine bar_k fun K1 n1 => ?_ | with_reducible refine run_seq ?_ | with_reducible refine run_skip ?_ | with_reducible refine run_regS ?_ | with_reducible refine run_regD (by kernel_rfl) ?_ ?_ | with_reducible refine inl_k (by with_unfolding_all rfl) (Nat.le_of_ble_eq_true rfl) fun K1 n1 => ?_ | with_reducible refine inlA_k (by with_unfolding_all rfl) (Nat.le_of_ble_eq_true rfl) fun K1 n1 => ?_ | with_reducible refine run_finA ?_ | with_reducible refine run_cond ?_ | with_reducible refine run_block ?_ | with_reducible refine run_endb ?_ | with_reducible refine run_exit fun K1 n1 => ?_ | with_reducible refine run_ret fun K1 n1 => ?_ | with_reducible refine run_fin ?_ | with_reducible refine run_inv ?_ | with_reducible refine go_rounds ?_ | ((with_reducible refine Go.mk ?_); (conv => whnf)) | refine Fork.yes ?_ | refine Fork.no ?_ | refine Fork.dec (fun _ => ?_) (fun _ => ?_) | refine Fork.ndec (fun _ => ?_) (fun _ => ?_) | refine Fork.mk (fun _ => ?_) (fun _ => ?_) | refine Way.yesG ?_ | refine Way.noG ?_ | refine Way.decG (fun _ => ?_) (fun _ => ?_) | refine Way.ndecG (fun _ => ?_) (fun _ => ?_) | refine Way.mkG (fun _ => ?_) (fun _ => ?_) | with_reducible refine Need.mkG ?_ ?_ | refine AppW.go0 ?_ ?_ | refine AppW.go1 ?_ ?_ | with_reducible refine NilW.goG (fun _ => ?_) ?_ | ((with_reducible refine n1 _ _ _ ?_); clear n1 K1) | ((with_reducible refine n1 _ ?_); clear n1 K1) | ((with_reducible refine n1 _ _ ?_); clear n1 K1) | ((with_reducible refine n1 _ _ _ _ ?_); clear n1 K1) | fail)
  all_goals try (first | exact trivial | omega | kernel_rfl | decide | exact And.intro (by omega) (by omega))
  all_goals try dsimp only [Int.toNat_natCast] at *
  all_goals try (first | exact trivial | omega | exact And.intro (by omega) (by omega))
  · exact ⟨by show rs.length ≤ _; omega, by show rs.length * 24 ≤ _; omega⟩
  · exact LaxE.mk' 7 (n + 1) tk (Nat.le_refl _) (by simp only [List.length_cons, List.length_nil]; omega) rfl (Nat.le_refl _) (TkLe.refl _) (h (n + 1) _ (by omega))
theorem desk_at_6_0 {t0 : Ty} {v0 : t0.D} {t1 : Ty} {v1 : t1.D} {t2 : Ty} {v2 : t2.D} {t3 : Ty} {v3 : t3.D} {t4 : Ty} {v4 : t4.D} {t5 : Ty} {v5 : t5.D} {tk : List (Hd × Nat)} {L : progsT.D} {D : deskT.D} {H : Hd} {rs : Rec} {k : Int} {n : Nat} {K : SV → List V → NS → Prop} (hws : ∀ c, c < 2 → (D.1 c).2.2.2.2.1.2.length ≤ 4) (h : ∀ n' D', n ≤ n' → nhD D' = nhD D → K (.a (.of (.leaf deskT D'))) [.leaf t0 v0, .leaf t1 v1, .leaf t2 v2, .leaf t3 v3, .leaf t4 v4, .leaf t5 v5, .leaf benchT (L, D, (H, rs), k)] ⟨n', tk⟩) : deskTr [.ptr 6 0 [] benchT] [.leaf t0 v0, .leaf t1 v1, .leaf t2 v2, .leaf t3 v3, .leaf t4 v4, .leaf t5 v5, .leaf benchT (L, D, (H, rs), k)] ⟨n, tk⟩ K := by
  refine ⟨[.ptr 6 0 [] benchT], [.leaf t0 v0, .leaf t1 v1, .leaf t2 v2, .leaf t3 v3, .leaf t4 v4, .leaf t5 v5, .leaf benchT (L, D, (H, rs), k)], rfl, rfl, ?_⟩
  repeat' (first | with_reducible refine seq_k fun K1 n1 => ?_ | with_reducible refine seq_nil ?_ | with_reducible refine drw_k fun K1 n1 => ?_ | with_reducible refine drw_nil ?_ ?_ | with_reducible refine bar_k fun K1 n1 => ?_ | with_reducible refine run_seq ?_ | with_reducible refine run_skip ?_ | with_reducible refine run_regS ?_ | with_reducible refine run_regD (by kernel_rfl) ?_ ?_ | with_reducible refine inl_k (by with_unfolding_all rfl) (Nat.le_of_ble_eq_true rfl) fun K1 n1 => ?_ | with_reducible refine inlA_k (by with_unfolding_all rfl) (Nat.le_of_ble_eq_true rfl) fun K1 n1 => ?_ | with_reducible refine run_finA ?_ | with_reducible refine run_cond ?_ | with_reducible refine run_block ?_ | with_reducible refine run_endb ?_ | with_reducible refine run_exit fun K1 n1 => ?_ | with_reducible refine run_ret fun K1 n1 => ?_ | with_reducible refine run_fin ?_ | with_reducible refine run_inv ?_ | with_reducible refine go_rounds ?_ | ((with_reducible refine Go.mk ?_); (conv => whnf)) | refine Fork.yes ?_ | refine Fork.no ?_ | refine Fork.dec (fun _ => ?_) (fun _ => ?_) | refine Fork.ndec (fun _ => ?_) (fun _ => ?_) | refine Fork.mk (fun _ => ?_) (fun _ => ?_) | refine Way.yesG ?_ | refine Way.noG ?_ | refine Way.decG (fun _ => ?_) (fun _ => ?_) | refine Way.ndecG (fun _ => ?_) (fun _ => ?_) | refine Way.mkG (fun _ => ?_) (fun _ => ?_) | with_reducible refine Need.mkG ?_ ?_ | refine AppW.go0 ?_ ?_ | refine AppW.go1 ?_ ?_ | with_reducible refine NilW.goG (fun _ => ?_) ?_ | ((with_reducible refine n1 _ _ _ ?_); clear n1 K1) | ((with_reducible refine n1 _ ?_); clear n1 K1) | ((with_reducible refine n1 _ _ ?_); clear n1 K1) | ((with_reducible refine n1 _ _ _ _ ?_); clear n1 K1) | fail)
  all_goals try (first | exact trivial | omega | kernel_rfl | decide | exact And.intro (by omega) (by omega))
  all_goals try dsimp only [Int.toNat_natCast] at *
  all_goals try (first | exact trivial | omega | exact And.intro (by omega) (by omega))
  refine unroll 3 (rounds_succ ?_)
  repeat' (first | with_reducible refine seq_k fun K1 n1 => ?_ | with_reducible refine seq_nil ?_ | with_reducible refine drw_k fun K1 n1 => ?_ | with_reducible refine drw_nil ?_ ?_ | with_reducible refine bar_k fun K1 n1 => ?_ | with_reducible refine run_seq ?_ | with_reducible refine run_skip ?_ | with_reducible refine run_regS ?_ | with_reducible refine run_regD (by kernel_rfl) ?_ ?_ | with_reducible refine inl_k (by with_unfolding_all rfl) (Nat.le_of_ble_eq_true rfl) fun K1 n1 => ?_ | with_reducible refine inlA_k (by with_unfolding_all rfl) (Nat.le_of_ble_eq_true rfl) fun K1 n1 => ?_ | with_reducible refine run_finA ?_ | with_reducible refine run_cond ?_ | with_reducible refine run_block ?_ | with_reducible refine run_endb ?_ | with_reducible refine run_exit fun K1 n1 => ?_ | with_reducible refine run_ret fun K1 n1 => ?_ | with_reducible refine run_fin ?_ | with_reducible refine run_inv ?_ | with_reducible refine go_rounds ?_ | ((with_reducible refine Go.mk ?_); (conv => whnf)) | refine Fork.yes ?_ | refine Fork.no ?_ | refine Fork.dec (fun _ => ?_) (fun _ => ?_) | refine Fork.ndec (fun _ => ?_) (fun _ => ?_) | refine Fork.mk (fun _ => ?_) (fun _ => ?_) | refine Way.yesG ?_ | refine Way.noG ?_ | refine Way.decG (fun _ => ?_) (fun _ => ?_) | refine Way.ndecG (fun _ => ?_) (fun _ => ?_) | refine Way.mkG (fun _ => ?_) (fun _ => ?_) | with_reducible refine Need.mkG ?_ ?_ | refine AppW.go0 ?_ ?_ | refine AppW.go1 ?_ ?_ | with_reducible refine NilW.goG (fun _ => ?_) ?_ | ((with_reducible refine n1 _ _ _ ?_); clear n1 K1) | ((with_reducible refine n1 _ ?_); clear n1 K1) | ((with_reducible refine n1 _ _ ?_); clear n1 K1) | ((with_reducible refine n1 _ _ _ _ ?_); clear n1 K1) | fail)
  all_goals try (first | exact trivial | omega | kernel_rfl | decide | exact And.intro (by omega) (by omega))
  all_goals try dsimp only [Int.toNat_natCast] at *
  all_goals try (first | exact trivial | omega | exact And.intro (by omega) (by omega))
  · exact ws_small0 hws
  · exact ws_small1 hws
  · exact LaxE.mk' 7 (n + 1 + 1) tk (Nat.le_refl _) (by simp only [List.length_cons, List.length_nil]; omega) rfl (Nat.le_refl _) (TkLe.refl _) (h (n + 1 + 1) _ (by omega) (nh_two D n))
theorem alone_len (c : Int) (n : Nat) : (aloneL c n).length = n := List.length_replicate
theorem alone_snoc (c : Int) (n : Nat) : aloneL c n ++ [((1, c, 0) : actT.D)] = aloneL c (n + 1) := by
  unfold aloneL
  rw [List.replicate_succ']
set_option maxRecDepth 4000 in
set_option maxHeartbeats 1600000 in
theorem c_TopAlone : Ctr Try.prog 6 (lawZ [progsT, .arr 32 .int, .int, .int]) := by
  refine ctr_ofT [(nilH, 3)] ⟨[3], rfl⟩ tabAOk (SpecsOk.mut playOk (by kernel_rfl) (SpecsOk.mut deskOk (by kernel_rfl) (SpecsOk.mut rcsOk (by kernel_rfl) (SpecsOk.nil _)))) Try.func6 rfl _ (Nat.le_of_ble_eq_true rfl) (fun _ _ => rfl) ?_
  rintro nn ⟨l, m, (n0 : Int), (c0 : Int), ⟨⟩⟩ hpre hb
  refine ⟨200, init_k fun K1 n1 => ?_⟩
  conv => whnf
  refine n1 _ ?_
  clear n1 K1
  repeat' (first | with_reducible refine seq_k fun K1 n1 => ?_ | with_reducible refine seq_nil ?_ | with_reducible refine drw_k fun K1 n1 => ?_ | with_reducible refine drw_nil ?_ ?_ | with_reducible refine bar_k fun K1 n1 => ?_ | with_reducible refine run_seq ?_ | with_reducible refine run_skip ?_ | with_reducible refine run_regS ?_ | with_reducible refine inl_k (by with_unfolding_all rfl) (Nat.le_of_ble_eq_true rfl) fun K1 n1 => ?_ | with_reducible refine inlA_k (by with_unfolding_all rfl) (Nat.le_of_ble_eq_true rfl) fun K1 n1 => ?_ | with_reducible refine run_finA ?_ | with_reducible refine run_cond ?_ | with_reducible refine run_block ?_ | with_reducible refine run_endb ?_ | with_reducible refine run_exit fun K1 n1 => ?_ | with_reducible refine run_ret fun K1 n1 => ?_ | with_reducible refine run_fin ?_ | with_reducible refine run_inv ?_ | with_reducible refine go_rounds ?_ | ((with_reducible refine Go.mk ?_); (conv => whnf)) | refine Fork.yes ?_ | refine Fork.no ?_ | refine Fork.dec (fun _ => ?_) (fun _ => ?_) | refine Fork.ndec (fun _ => ?_) (fun _ => ?_) | refine Fork.mk (fun _ => ?_) (fun _ => ?_) | refine Way.yesG ?_ | refine Way.noG ?_ | refine Way.decG (fun _ => ?_) (fun _ => ?_) | refine Way.ndecG (fun _ => ?_) (fun _ => ?_) | refine Way.mkG (fun _ => ?_) (fun _ => ?_) | with_reducible refine Need.mkG ?_ ?_ | refine AppW.go0 ?_ ?_ | refine AppW.go1 ?_ ?_ | with_reducible refine NilW.goG (fun _ => ?_) ?_ | ((with_reducible refine n1 _ _ _ ?_); clear n1 K1) | ((with_reducible refine n1 _ ?_); clear n1 K1) | ((with_reducible refine n1 _ _ ?_); clear n1 K1) | ((with_reducible refine n1 _ _ _ _ ?_); clear n1 K1) | fail)
  all_goals try (first | exact trivial | omega | kernel_rfl | decide | exact And.intro (by omega) (by omega))
  all_goals try dsimp only [Int.toNat_natCast] at *
  all_goals try (first | exact trivial | omega | exact And.intro (by omega) (by omega))
  have hc := mod2_rng c0
  have hn := mod200_rng n0
  obtain ⟨c, hcc⟩ : ∃ c, c = mod2 c0 := ⟨_, rfl⟩
  obtain ⟨N, hN⟩ : ∃ N : Nat, (N : Int) = mod200 n0 := ⟨(mod200 n0).toNat, Int.toNat_of_nonneg hn.1⟩
  rw [← hcc] at hc
  rw [← hN] at hn
  refine run_loop (loop_fam (ι := Nat × AV × Hd × Nat) (fun i => [(24, .a (.of (.leaf .int (i.1 : Int)))), (23, .a (.of (.leaf .int (N : Int)))), (9, .a i.2.1), (3, .a (.of (.leaf .int c))), (5, .a (.ptr 1 0 [] (.arr 32 .int))), (4, .a (.ptr 0 0 [] progsT))])
    (fun i => [.leaf progsT l, .leaf (.arr 32 .int) m]) (fun i => ⟨i.2.2.2, [(i.2.2.1, 3)]⟩) (fun i => N - i.1) (fun i => (i.1 ≤ N ∧ i.2.1.lt 2 = true) ∧ ((i.1 = 0 ∧ i.2.1 = .raw (.slice none 0 0) ∧ i.2.2.1 = nilH) ∨ i.2.1 = .of (.leaf (.lst actT) (i.2.2.1, aloneL c i.1)))) ?_ ?_)
  · refine ⟨(0, .raw (.slice none 0 0), nilH, nn), ⟨⟨Nat.zero_le _, rfl⟩, Or.inl ⟨rfl, rfl, rfl⟩⟩, ⟨rfl, ?_, rfl, ?_, rfl, rfl, trivial⟩, rfl, 2, Nat.le_refl _, rfl, rfl⟩
    · show some (SV.a (AV.of (V.leaf Ty.int (mod200 n0)))) = some (SV.a (AV.of (V.leaf Ty.int (N : Int))))
      rw [hN]
    · show some (SV.a (AV.of (V.leaf Ty.int (mod2 c0)))) = some (SV.a (AV.of (V.leaf Ty.int c)))
      rw [hcc]
  · rintro ⟨i, x, ha, nq⟩ ⟨⟨hi, hx⟩, hcase⟩
    have hi : i ≤ N := hi
    have hcase : (i = 0 ∧ x = .raw (.slice none 0 0) ∧ ha = nilH) ∨ x = .of (.leaf (.lst actT) (ha, aloneL c i)) := hcase
    rcases hcase with ⟨h1, h2, h3⟩ | h2
    · subst h1 h2 h3
      repeat' (first | with_reducible refine seq_k fun K1 n1 => ?_ | with_reducible refine seq_nil ?_ | with_reducible refine drw_k fun K1 n1 => ?_ | with_reducible refine drw_nil ?_ ?_ | with_reducible refine bar_k fun K1 n1 => ?_ | with_reducible refine run_seq ?_ | with_reducible refine run_skip ?_ | with_reducible refine run_regS ?_ | with_reducible refine inl_k (by with_unfolding_all rfl) (Nat.le_of_ble_eq_true rfl) fun K1 n1 => ?_ | with_reducible refine inlA_k (by with_unfolding_all rfl) (Nat.le_of_ble_eq_true rfl) fun K1 n1 => ?_ | with_reducible refine run_finA ?_ | with_reducible refine run_cond ?_ | with_reducible refine run_block ?_ | with_reducible refine run_endb ?_ | with_reducible refine run_exit fun K1 n1 => ?_ | with_reducible refine run_ret fun K1 n1 => ?_ | with_reducible refine run_fin ?_ | with_reducible refine run_inv ?_ | with_reducible refine go_rounds ?_ | ((with_reducible refine Go.mk ?_); (conv => whnf)) | refine Fork.yes ?_ | refine Fork.no ?_ | refine Fork.dec (fun _ => ?_) (fun _ => ?_) | refine Fork.ndec (fun _ => ?_) (fun _ => ?_) | refine Fork.mk (fun _ => ?_) (fun _ => ?_) | refine Way.yesG ?_ | refine Way.noG ?_ | refine Way.decG (fun _ => ?_) (fun _ => ?_) | refine Way.ndecG (fun _ => ?_) (fun _ => ?_) | refine Way.mkG (fun _ => ?_) (fun _ => ?_) | with_reducible refine Need.mkG ?_ ?_ | refine AppW.go0 ?_ ?_ | refine AppW.go1 ?_ ?_ | with_reducible refine NilW.goG (fun _ => ?_) ?_ | ((with_reducible refine n1 _ _ _ ?_); clear n1 K1) | ((with_reducible refine n1 _ ?_); clear n1 K1) | ((with_reducible refine n1 _ _ ?_); clear n1 K1) | ((with_reducible refine n1 _ _ _ _ ?_); clear n1 K1) | fail)
      all_goals try (first | exact trivial | omega | kernel_rfl | decide | exact And.intro (by omega) (by omega))
      all_goals try dsimp only [Int.toNat_natCast] at *
      all_goals try (first | exact trivial | omega | exact And.intro (by omega) (by omega))
      · exact ⟨(by show 1 ≤ _; decide), (by show 1 * 24 ≤ _; decide)⟩
      · refine ⟨(1, .of (.leaf (.lst actT) (.nm (nq + 1), aloneL c 1)), .nm (nq + 1), nq + 2), (show N - 1 < N - 0 by omega), ⟨⟨(show 1 ≤ N by omega), rfl⟩, Or.inr rfl⟩, ⟨rfl, rfl, rfl, rfl, rfl, rfl, trivial⟩, rfl, 2, Nat.le_refl _, rfl, rfl⟩
      · refine playn_at_2 hpre.1 (fun n' hn he => ?_) (fun n' L D rs H k hn he hI => ?_)
        · refine n1 _ _ _ ?_
          clear n1 K1
          repeat' (first | with_reducible refine seq_k fun K1 n1 => ?_ | with_reducible refine seq_nil ?_ | with_reducible refine drw_k fun K1 n1 => ?_ | with_reducible refine drw_nil ?_ ?_ | with_reducible refine bar_k fun K1 n1 => ?_ | with_reducible refine run_seq ?_ | with_reducible refine run_skip ?_ | with_reducible refine run_regS ?_ | with_reducible refine inl_k (by with_unfolding_all rfl) (Nat.le_of_ble_eq_true rfl) fun K1 n1 => ?_ | with_reducible refine inlA_k (by with_unfolding_all rfl) (Nat.le_of_ble_eq_true rfl) fun K1 n1 => ?_ | with_reducible refine run_finA ?_ | with_reducible refine run_cond ?_ | with_reducible refine run_block ?_ | with_reducible refine run_endb ?_ | with_reducible refine run_exit fun K1 n1 => ?_ | with_reducible refine run_ret fun K1 n1 => ?_ | with_reducible refine run_fin ?_ | with_reducible refine run_inv ?_ | with_reducible refine go_rounds ?_ | ((with_reducible refine Go.mk ?_); (conv => whnf)) | refine Fork.yes ?_ | refine Fork.no ?_ | refine Fork.dec (fun _ => ?_) (fun _ => ?_) | refine Fork.ndec (fun _ => ?_) (fun _ => ?_) | refine Fork.mk (fun _ => ?_) (fun _ => ?_) | refine Way.yesG ?_ | refine Way.noG ?_ | refine Way.decG (fun _ => ?_) (fun _ => ?_) | refine Way.ndecG (fun _ => ?_) (fun _ => ?_) | refine Way.mkG (fun _ => ?_) (fun _ => ?_) | with_reducible refine Need.mkG ?_ ?_ | refine AppW.go0 ?_ ?_ | refine AppW.go1 ?_ ?_ | with_reducible refine NilW.goG (fun _ => ?_) ?_ | ((with_reducible refine n1 _ _ _ ?_); clear n1 K1) | ((with_reducible refine n1 _ ?_); clear n1 K1) | ((with_reducible refine n1 _ _ ?_); clear n1 K1) | ((with_reducible refine n1 _ _ _ _ ?_); clear n1 K1) | fail)
          all_goals try (first | exact trivial | omega | kernel_rfl | decide | exact And.intro (by omega) (by omega))
          all_goals try dsimp only [Int.toNat_natCast] at *
          all_goals try (first | exact trivial | omega | exact And.intro (by omega) (by omega))
          all_goals exact Done.of rfl (Or.inl rfl)
        · refine n1 _ _ _ ?_
          clear n1 K1
          have hg0 := newE_good he
          have hal := alone_pl (L := nL l) hc hg0 0 (0) (Nat.le_refl _)
          have hI : Is (nL l) (pl (nL l) m (aloneL c 0) (0)) L D rs k := hI
          have hgD : goodK D = true := by rw [hI.good]; exact pl_good hg0 _
          have hrs : rs.length ≤ 10000 := by rw [hI.r]; exact Nat.le_trans (pl_len _) (by decide)
          repeat' (first | with_reducible refine seq_k fun K1 n1 => ?_ | with_reducible refine seq_nil ?_ | with_reducible refine drw_k fun K1 n1 => ?_ | with_reducible refine drw_nil ?_ ?_ | with_reducible refine bar_k fun K1 n1 => ?_ | with_reducible refine run_seq ?_ | with_reducible refine run_skip ?_ | with_reducible refine run_regS ?_ | with_reducible refine inl_k (by with_unfolding_all rfl) (Nat.le_of_ble_eq_true rfl) fun K1 n1 => ?_ | with_reducible refine inlA_k (by with_unfolding_all rfl) (Nat.le_of_ble_eq_true rfl) fun K1 n1 => ?_ | with_reducible refine run_finA ?_ | with_reducible refine run_cond ?_ | with_reducible refine run_block ?_ | with_reducible refine run_endb ?_ | with_reducible refine run_exit fun K1 n1 => ?_ | with_reducible refine run_ret fun K1 n1 => ?_ | with_reducible refine run_fin ?_ | with_reducible refine run_inv ?_ | with_reducible refine go_rounds ?_ | ((with_reducible refine Go.mk ?_); (conv => whnf)) | refine Fork.yes ?_ | refine Fork.no ?_ | refine Fork.dec (fun _ => ?_) (fun _ => ?_) | refine Fork.ndec (fun _ => ?_) (fun _ => ?_) | refine Fork.mk (fun _ => ?_) (fun _ => ?_) | refine Way.yesG ?_ | refine Way.noG ?_ | refine Way.decG (fun _ => ?_) (fun _ => ?_) | refine Way.ndecG (fun _ => ?_) (fun _ => ?_) | refine Way.mkG (fun _ => ?_) (fun _ => ?_) | with_reducible refine Need.mkG ?_ ?_ | refine AppW.go0 ?_ ?_ | refine AppW.go1 ?_ ?_ | with_reducible refine NilW.goG (fun _ => ?_) ?_ | ((with_reducible refine n1 _ _ _ ?_); clear n1 K1) | ((with_reducible refine n1 _ ?_); clear n1 K1) | ((with_reducible refine n1 _ _ ?_); clear n1 K1) | ((with_reducible refine n1 _ _ _ _ ?_); clear n1 K1) | fail)
          all_goals try (first | exact trivial | omega | kernel_rfl | decide | exact And.intro (by omega) (by omega))
          all_goals try dsimp only [Int.toNat_natCast] at *
          all_goals try (first | exact trivial | omega | exact And.intro (by omega) (by omega))
          refine rec_at_6_0 hrs fun n2 R2 hn2 => ?_
          refine n1 _ _ _ ?_
          clear n1 K1
          have hrec : ∀ j, j < rs.length → (nthD recordT rs j).2.1 = c ∧ ((nthD recordT rs j).1 = 3 → (nthD recordT rs j).2.2 ≠ 1001 ∧ (nthD recordT rs j).2.2 ≠ 1004) := fun j hj => by
            refine hal.rcs _ ?_
            rw [← hI.r, nthD_eq hj]
            exact List.getElem_mem hj
          repeat' (first | with_reducible refine seq_k fun K1 n1 => ?_ | with_reducible refine seq_nil ?_ | with_reducible refine drw_k fun K1 n1 => ?_ | with_reducible refine drw_nil ?_ ?_ | with_reducible refine bar_k fun K1 n1 => ?_ | with_reducible refine run_seq ?_ | with_reducible refine run_skip ?_ | with_reducible refine run_regS ?_ | with_reducible refine inl_k (by with_unfolding_all rfl) (Nat.le_of_ble_eq_true rfl) fun K1 n1 => ?_ | with_reducible refine inlA_k (by with_unfolding_all rfl) (Nat.le_of_ble_eq_true rfl) fun K1 n1 => ?_ | with_reducible refine run_finA ?_ | with_reducible refine run_cond ?_ | with_reducible refine run_block ?_ | with_reducible refine run_endb ?_ | with_reducible refine run_exit fun K1 n1 => ?_ | with_reducible refine run_ret fun K1 n1 => ?_ | with_reducible refine run_fin ?_ | with_reducible refine run_inv ?_ | with_reducible refine go_rounds ?_ | ((with_reducible refine Go.mk ?_); (conv => whnf)) | refine Fork.yes ?_ | refine Fork.no ?_ | refine Fork.dec (fun _ => ?_) (fun _ => ?_) | refine Fork.ndec (fun _ => ?_) (fun _ => ?_) | refine Fork.mk (fun _ => ?_) (fun _ => ?_) | refine Way.yesG ?_ | refine Way.noG ?_ | refine Way.decG (fun _ => ?_) (fun _ => ?_) | refine Way.ndecG (fun _ => ?_) (fun _ => ?_) | refine Way.mkG (fun _ => ?_) (fun _ => ?_) | with_reducible refine Need.mkG ?_ ?_ | refine AppW.go0 ?_ ?_ | refine AppW.go1 ?_ ?_ | with_reducible refine NilW.goG (fun _ => ?_) ?_ | ((with_reducible refine n1 _ _ _ ?_); clear n1 K1) | ((with_reducible refine n1 _ ?_); clear n1 K1) | ((with_reducible refine n1 _ _ ?_); clear n1 K1) | ((with_reducible refine n1 _ _ _ _ ?_); clear n1 K1) | fail)
          all_goals try (first | exact trivial | omega | kernel_rfl | decide | exact And.intro (by omega) (by omega))
          all_goals try dsimp only [Int.toNat_natCast] at *
          all_goals try (first | exact trivial | omega | exact And.intro (by omega) (by omega))
          refine run_loop (loop_fam (ι := Nat) (fun j => [(49, .a (.of (.leaf .int (j : Int)))), (48, .a (.of (.leaf .int (rs.length : Int)))), (47, .a (.of (.leaf (.lst recordT) (R2, rs)))), (10, .a (.ptr 6 0 [] benchT)), (3, .a (.of (.leaf .int c)))])
            (fun _ => [.leaf progsT l, .leaf (.arr 32 .int) m, .leaf progsT l, .leaf (.arr 32 .int) m, .leaf progsT (progF nq l), .leaf (.arr 32 .int) m, .leaf benchT (L, D, (H, rs), k)]) (fun _ => ⟨n2, [(H, 3), (nilH, 3)]⟩) (fun j => rs.length - j) (fun j => j ≤ rs.length) ?_ ?_)
          · exact ⟨0, Nat.zero_le _, ⟨rfl, rfl, rfl, rfl, rfl, trivial⟩, rfl, 7, Nat.le_refl _, rfl, rfl⟩
          · rintro j hj
            have hj : j ≤ rs.length := hj
            repeat' (first | with_reducible refine seq_k fun K1 n1 => ?_ | with_reducible refine seq_nil ?_ | with_reducible refine drw_k fun K1 n1 => ?_ | with_reducible refine drw_nil ?_ ?_ | with_reducible refine bar_k fun K1 n1 => ?_ | with_reducible refine run_seq ?_ | with_reducible refine run_skip ?_ | with_reducible refine run_regS ?_ | with_reducible refine inl_k (by with_unfolding_all rfl) (Nat.le_of_ble_eq_true rfl) fun K1 n1 => ?_ | with_reducible refine inlA_k (by with_unfolding_all rfl) (Nat.le_of_ble_eq_true rfl) fun K1 n1 => ?_ | with_reducible refine run_finA ?_ | with_reducible refine run_cond ?_ | with_reducible refine run_block ?_ | with_reducible refine run_endb ?_ | with_reducible refine run_exit fun K1 n1 => ?_ | with_reducible refine run_ret fun K1 n1 => ?_ | with_reducible refine run_fin ?_ | with_reducible refine run_inv ?_ | with_reducible refine go_rounds ?_ | ((with_reducible refine Go.mk ?_); (conv => whnf)) | refine Fork.yes ?_ | refine Fork.no ?_ | refine Fork.dec (fun _ => ?_) (fun _ => ?_) | refine Fork.ndec (fun _ => ?_) (fun _ => ?_) | refine Fork.mk (fun _ => ?_) (fun _ => ?_) | refine Way.yesG ?_ | refine Way.noG ?_ | refine Way.decG (fun _ => ?_) (fun _ => ?_) | refine Way.ndecG (fun _ => ?_) (fun _ => ?_) | refine Way.mkG (fun _ => ?_) (fun _ => ?_) | with_reducible refine Need.mkG ?_ ?_ | refine AppW.go0 ?_ ?_ | refine AppW.go1 ?_ ?_ | with_reducible refine NilW.goG (fun _ => ?_) ?_ | ((with_reducible refine n1 _ _ _ ?_); clear n1 K1) | ((with_reducible refine n1 _ ?_); clear n1 K1) | ((with_reducible refine n1 _ _ ?_); clear n1 K1) | ((with_reducible refine n1 _ _ _ _ ?_); clear n1 K1) | fail)
            all_goals try (first | exact trivial | omega | kernel_rfl | decide | exact And.intro (by omega) (by omega))
            all_goals try dsimp only [Int.toNat_natCast] at *
            all_goals try (first | exact trivial | omega | exact And.intro (by omega) (by omega))
            · rename_i g1 g2
              exact absurd (hrec j (by omega)).1 g2
            · rename_i g1 g2 g3 g4
              exact absurd g4 ((hrec j (by omega)).2 g3).1
            · rename_i g1 g2 g3 g4 g5
              exact absurd g5 ((hrec j (by omega)).2 g3).2
            iterate 2
              · refine ⟨j + 1, (show rs.length - (j + 1) < rs.length - j by omega), (show j + 1 ≤ rs.length by omega), ⟨?_, rfl, rfl, rfl, rfl, trivial⟩, rfl, 7, Nat.le_of_ble_eq_true rfl, rfl, rfl⟩
                show some (SV.a (AV.of (V.leaf Ty.int (wrap64 ((j : Int) + 1))))) = some (SV.a (AV.of (V.leaf Ty.int ((j + 1 : Nat) : Int))))
                rw [← wrap_succ j (by omega)]
            · refine desk_at_6_0 (good_len hgD) fun n3 D3 hn3 h3 => ?_
              refine n1 _ _ _ ?_
              clear n1 K1
              have ho := other_eq hc
              have e1 : ((nhD D3).1 (1 - c).toNat).1 = plainT.zero := by rw [h3, hI.d]; exact hal.now
              have e2 : ((nhD D3).1 (1 - c).toNat).2.2.1 = 0 := by rw [h3, hI.d]; exact hal.deep
              have e1 : (D3.1 (1 - c).toNat).1 = plainT.zero := e1
              have e2 : (D3.1 (1 - c).toNat).2.2.1 = 0 := e2
              rw [← ho] at e1 e2
              have ho2 : 0 ≤ wrap64 (1 - c) ∧ wrap64 (1 - c) < ((2 : Nat) : Int) := by rw [ho]; omega
              repeat' (first | with_reducible refine seq_k fun K1 n1 => ?_ | with_reducible refine seq_nil ?_ | with_reducible refine drw_k fun K1 n1 => ?_ | with_reducible refine drw_nil ?_ ?_ | with_reducible refine bar_k fun K1 n1 => ?_ | with_reducible refine run_seq ?_ | with_reducible refine run_skip ?_ | with_reducible refine run_regS ?_ | with_reducible refine inl_k (by with_unfolding_all rfl) (Nat.le_of_ble_eq_true rfl) fun K1 n1 => ?_ | with_reducible refine inlA_k (by with_unfolding_all rfl) (Nat.le_of_ble_eq_true rfl) fun K1 n1 => ?_ | with_reducible refine run_finA ?_ | with_reducible refine run_cond ?_ | with_reducible refine run_block ?_ | with_reducible refine run_endb ?_ | with_reducible refine run_exit fun K1 n1 => ?_ | with_reducible refine run_ret fun K1 n1 => ?_ | with_reducible refine run_fin ?_ | with_reducible refine run_inv ?_ | with_reducible refine go_rounds ?_ | ((with_reducible refine Go.mk ?_); (conv => whnf)) | refine Fork.yes ?_ | refine Fork.no ?_ | refine Fork.dec (fun _ => ?_) (fun _ => ?_) | refine Fork.ndec (fun _ => ?_) (fun _ => ?_) | refine Fork.mk (fun _ => ?_) (fun _ => ?_) | refine Way.yesG ?_ | refine Way.noG ?_ | refine Way.decG (fun _ => ?_) (fun _ => ?_) | refine Way.ndecG (fun _ => ?_) (fun _ => ?_) | refine Way.mkG (fun _ => ?_) (fun _ => ?_) | with_reducible refine Need.mkG ?_ ?_ | refine AppW.go0 ?_ ?_ | refine AppW.go1 ?_ ?_ | with_reducible refine NilW.goG (fun _ => ?_) ?_ | ((with_reducible refine n1 _ _ _ ?_); clear n1 K1) | ((with_reducible refine n1 _ ?_); clear n1 K1) | ((with_reducible refine n1 _ _ ?_); clear n1 K1) | ((with_reducible refine n1 _ _ _ _ ?_); clear n1 K1) | fail)
              all_goals try (first | exact trivial | omega | kernel_rfl | decide | exact And.intro (by omega) (by omega))
              all_goals try dsimp only [Int.toNat_natCast] at *
              all_goals try (first | exact trivial | omega | exact And.intro (by omega) (by omega))
              · refine Done.of ?_ (Or.inl rfl)
                show (_, ()) = (true, ())
                rw [decide_eq_true e2]
              · rename_i g
                rw [e1, eqD_refl plainT rfl] at g
                cases g
    · subst h2
      repeat' (first | with_reducible refine seq_k fun K1 n1 => ?_ | with_reducible refine seq_nil ?_ | with_reducible refine drw_k fun K1 n1 => ?_ | with_reducible refine drw_nil ?_ ?_ | with_reducible refine bar_k fun K1 n1 => ?_ | with_reducible refine run_seq ?_ | with_reducible refine run_skip ?_ | with_reducible refine run_regS ?_ | with_reducible refine inl_k (by with_unfolding_all rfl) (Nat.le_of_ble_eq_true rfl) fun K1 n1 => ?_ | with_reducible refine inlA_k (by with_unfolding_all rfl) (Nat.le_of_ble_eq_true rfl) fun K1 n1 => ?_ | with_reducible refine run_finA ?_ | with_reducible refine run_cond ?_ | with_reducible refine run_block ?_ | with_reducible refine run_endb ?_ | with_reducible refine run_exit fun K1 n1 => ?_ | with_reducible refine run_ret fun K1 n1 => ?_ | with_reducible refine run_fin ?_ | with_reducible refine run_inv ?_ | with_reducible refine go_rounds ?_ | ((with_reducible refine Go.mk ?_); (conv => whnf)) | refine Fork.yes ?_ | refine Fork.no ?_ | refine Fork.dec (fun _ => ?_) (fun _ => ?_) | refine Fork.ndec (fun _ => ?_) (fun _ => ?_) | refine Fork.mk (fun _ => ?_) (fun _ => ?_) | refine Way.yesG ?_ | refine Way.noG ?_ | refine Way.decG (fun _ => ?_) (fun _ => ?_) | refine Way.ndecG (fun _ => ?_) (fun _ => ?_) | refine Way.mkG (fun _ => ?_) (fun _ => ?_) | with_reducible refine Need.mkG ?_ ?_ | refine AppW.go0 ?_ ?_ | refine AppW.go1 ?_ ?_ | with_reducible refine NilW.goG (fun _ => ?_) ?_ | ((with_reducible refine n1 _ _ _ ?_); clear n1 K1) | ((with_reducible refine n1 _ ?_); clear n1 K1) | ((with_reducible refine n1 _ _ ?_); clear n1 K1) | ((with_reducible refine n1 _ _ _ _ ?_); clear n1 K1) | fail)
      all_goals try (first | exact trivial | omega | kernel_rfl | decide | exact And.intro (by omega) (by omega))
      all_goals try dsimp only [Int.toNat_natCast] at *
      all_goals try (first | exact trivial | omega | exact And.intro (by omega) (by omega))
      · rw [alone_len]
        exact ⟨(by show i + 1 ≤ _; omega), (by show (i + 1) * 24 ≤ _; omega)⟩
      · refine ⟨(i + 1, .of (.leaf (.lst actT) (.nm (nq + 1), aloneL c (i + 1))), .nm (nq + 1), nq + 2), (show N - (i + 1) < N - i by omega), ⟨⟨(show i + 1 ≤ N by omega), rfl⟩, Or.inr rfl⟩, ⟨?_, rfl, ?_, rfl, rfl, rfl, trivial⟩, rfl, 2, Nat.le_refl _, rfl, rfl⟩
        · show some (SV.a (AV.of (V.leaf Ty.int (wrap64 ((i : Int) + 1))))) = some (SV.a (AV.of (V.leaf Ty.int ((i + 1 : Nat) : Int))))
          rw [← wrap_succ i (by omega)]
        · rw [← alone_snoc]
          rfl
      · have hiN : i = N := by omega
        subst hiN
        refine playq_at_2 hpre.1 (by rw [alone_len]; omega) (fun n' hn he => ?_) (fun n' L D rs H k hn he hI => ?_)
        · refine n1 _ _ _ ?_
          clear n1 K1
          repeat' (first | with_reducible refine seq_k fun K1 n1 => ?_ | with_reducible refine seq_nil ?_ | with_reducible refine drw_k fun K1 n1 => ?_ | with_reducible refine drw_nil ?_ ?_ | with_reducible refine bar_k fun K1 n1 => ?_ | with_reducible refine run_seq ?_ | with_reducible refine run_skip ?_ | with_reducible refine run_regS ?_ | with_reducible refine inl_k (by with_unfolding_all rfl) (Nat.le_of_ble_eq_true rfl) fun K1 n1 => ?_ | with_reducible refine inlA_k (by with_unfolding_all rfl) (Nat.le_of_ble_eq_true rfl) fun K1 n1 => ?_ | with_reducible refine run_finA ?_ | with_reducible refine run_cond ?_ | with_reducible refine run_block ?_ | with_reducible refine run_endb ?_ | with_reducible refine run_exit fun K1 n1 => ?_ | with_reducible refine run_ret fun K1 n1 => ?_ | with_reducible refine run_fin ?_ | with_reducible refine run_inv ?_ | with_reducible refine go_rounds ?_ | ((with_reducible refine Go.mk ?_); (conv => whnf)) | refine Fork.yes ?_ | refine Fork.no ?_ | refine Fork.dec (fun _ => ?_) (fun _ => ?_) | refine Fork.ndec (fun _ => ?_) (fun _ => ?_) | refine Fork.mk (fun _ => ?_) (fun _ => ?_) | refine Way.yesG ?_ | refine Way.noG ?_ | refine Way.decG (fun _ => ?_) (fun _ => ?_) | refine Way.ndecG (fun _ => ?_) (fun _ => ?_) | refine Way.mkG (fun _ => ?_) (fun _ => ?_) | with_reducible refine Need.mkG ?_ ?_ | refine AppW.go0 ?_ ?_ | refine AppW.go1 ?_ ?_ | with_reducible refine NilW.goG (fun _ => ?_) ?_ | ((with_reducible refine n1 _ _ _ ?_); clear n1 K1) | ((with_reducible refine n1 _ ?_); clear n1 K1) | ((with_reducible refine n1 _ _ ?_); clear n1 K1) | ((with_reducible refine n1 _ _ _ _ ?_); clear n1 K1) | fail)
          all_goals try (first | exact trivial | omega | kernel_rfl | decide | exact And.intro (by omega) (by omega))
          all_goals try dsimp only [Int.toNat_natCast] at *
          all_goals try (first | exact trivial | omega | exact And.intro (by omega) (by omega))
          all_goals exact Done.of rfl (Or.inl rfl)
        · refine n1 _ _ _ ?_
          clear n1 K1
          have hg0 := newE_good he
          have hal := alone_pl (L := nL l) hc hg0 i (min (aloneL c i).length 200) ((by rw [alone_len]; omega))
          have hI : Is (nL l) (pl (nL l) m (aloneL c i) (min (aloneL c i).length 200)) L D rs k := hI
          have hgD : goodK D = true := by rw [hI.good]; exact pl_good hg0 _
          have hrs : rs.length ≤ 10000 := by rw [hI.r]; exact Nat.le_trans (pl_len _) (by omega)
          repeat' (first | with_reducible refine seq_k fun K1 n1 => ?_ | with_reducible refine seq_nil ?_ | with_reducible refine drw_k fun K1 n1 => ?_ | with_reducible refine drw_nil ?_ ?_ | with_reducible refine bar_k fun K1 n1 => ?_ | with_reducible refine run_seq ?_ | with_reducible refine run_skip ?_ | with_reducible refine run_regS ?_ | with_reducible refine inl_k (by with_unfolding_all rfl) (Nat.le_of_ble_eq_true rfl) fun K1 n1 => ?_ | with_reducible refine inlA_k (by with_unfolding_all rfl) (Nat.le_of_ble_eq_true rfl) fun K1 n1 => ?_ | with_reducible refine run_finA ?_ | with_reducible refine run_cond ?_ | with_reducible refine run_block ?_ | with_reducible refine run_endb ?_ | with_reducible refine run_exit fun K1 n1 => ?_ | with_reducible refine run_ret fun K1 n1 => ?_ | with_reducible refine run_fin ?_ | with_reducible refine run_inv ?_ | with_reducible refine go_rounds ?_ | ((with_reducible refine Go.mk ?_); (conv => whnf)) | refine Fork.yes ?_ | refine Fork.no ?_ | refine Fork.dec (fun _ => ?_) (fun _ => ?_) | refine Fork.ndec (fun _ => ?_) (fun _ => ?_) | refine Fork.mk (fun _ => ?_) (fun _ => ?_) | refine Way.yesG ?_ | refine Way.noG ?_ | refine Way.decG (fun _ => ?_) (fun _ => ?_) | refine Way.ndecG (fun _ => ?_) (fun _ => ?_) | refine Way.mkG (fun _ => ?_) (fun _ => ?_) | with_reducible refine Need.mkG ?_ ?_ | refine AppW.go0 ?_ ?_ | refine AppW.go1 ?_ ?_ | with_reducible refine NilW.goG (fun _ => ?_) ?_ | ((with_reducible refine n1 _ _ _ ?_); clear n1 K1) | ((with_reducible refine n1 _ ?_); clear n1 K1) | ((with_reducible refine n1 _ _ ?_); clear n1 K1) | ((with_reducible refine n1 _ _ _ _ ?_); clear n1 K1) | fail)
          all_goals try (first | exact trivial | omega | kernel_rfl | decide | exact And.intro (by omega) (by omega))
          all_goals try dsimp only [Int.toNat_natCast] at *
          all_goals try (first | exact trivial | omega | exact And.intro (by omega) (by omega))
          refine rec_at_6_0 hrs fun n2 R2 hn2 => ?_
          refine n1 _ _ _ ?_
          clear n1 K1
          have hrec : ∀ j, j < rs.length → (nthD recordT rs j).2.1 = c ∧ ((nthD recordT rs j).1 = 3 → (nthD recordT rs j).2.2 ≠ 1001 ∧ (nthD recordT rs j).2.2 ≠ 1004) := fun j hj => by
            refine hal.rcs _ ?_
            rw [← hI.r, nthD_eq hj]
            exact List.getElem_mem hj
          repeat' (first | with_reducible refine seq_k fun K1 n1 => ?_ | with_reducible refine seq_nil ?_ | with_reducible refine drw_k fun K1 n1 => ?_ | with_reducible refine drw_nil ?_ ?_ | with_reducible refine bar_k fun K1 n1 => ?_ | with_reducible refine run_seq ?_ | with_reducible refine run_skip ?_ | with_reducible refine run_regS ?_ | with_reducible refine inl_k (by with_unfolding_all rfl) (Nat.le_of_ble_eq_true rfl) fun K1 n1 => ?_ | with_reducible refine inlA_k (by with_unfolding_all rfl) (Nat.le_of_ble_eq_true rfl) fun K1 n1 => ?_ | with_reducible refine run_finA ?_ | with_reducible refine run_cond ?_ | with_reducible refine run_block ?_ | with_reducible refine run_endb ?_ | with_reducible refine run_exit fun K1 n1 => ?_ | with_reducible refine run_ret fun K1 n1 => ?_ | with_reducible refine run_fin ?_ | with_reducible refine run_inv ?_ | with_reducible refine go_rounds ?_ | ((with_reducible refine Go.mk ?_); (conv => whnf)) | refine Fork.yes ?_ | refine Fork.no ?_ | refine Fork.dec (fun _ => ?_) (fun _ => ?_) | refine Fork.ndec (fun _ => ?_) (fun _ => ?_) | refine Fork.mk (fun _ => ?_) (fun _ => ?_) | refine Way.yesG ?_ | refine Way.noG ?_ | refine Way.decG (fun _ => ?_) (fun _ => ?_) | refine Way.ndecG (fun _ => ?_) (fun _ => ?_) | refine Way.mkG (fun _ => ?_) (fun _ => ?_) | with_reducible refine Need.mkG ?_ ?_ | refine AppW.go0 ?_ ?_ | refine AppW.go1 ?_ ?_ | with_reducible refine NilW.goG (fun _ => ?_) ?_ | ((with_reducible refine n1 _ _ _ ?_); clear n1 K1) | ((with_reducible refine n1 _ ?_); clear n1 K1) | ((with_reducible refine n1 _ _ ?_); clear n1 K1) | ((with_reducible refine n1 _ _ _ _ ?_); clear n1 K1) | fail)
          all_goals try (first | exact trivial | omega | kernel_rfl | decide | exact And.intro (by omega) (by omega))
          all_goals try dsimp only [Int.toNat_natCast] at *
          all_goals try (first | exact trivial | omega | exact And.intro (by omega) (by omega))
          refine run_loop (loop_fam (ι := Nat) (fun j => [(49, .a (.of (.leaf .int (j : Int)))), (48, .a (.of (.leaf .int (rs.length : Int)))), (47, .a (.of (.leaf (.lst recordT) (R2, rs)))), (10, .a (.ptr 6 0 [] benchT)), (3, .a (.of (.leaf .int c)))])
            (fun _ => [.leaf progsT l, .leaf (.arr 32 .int) m, .leaf progsT l, .leaf (.arr 32 .int) m, .leaf progsT (progF nq l), .leaf (.arr 32 .int) m, .leaf benchT (L, D, (H, rs), k)]) (fun _ => ⟨n2, [(H, 3), (ha, 3)]⟩) (fun j => rs.length - j) (fun j => j ≤ rs.length) ?_ ?_)
          · exact ⟨0, Nat.zero_le _, ⟨rfl, rfl, rfl, rfl, rfl, trivial⟩, rfl, 7, Nat.le_refl _, rfl, rfl⟩
          · rintro j hj
            have hj : j ≤ rs.length := hj
            repeat' (first | with_reducible refine seq_k fun K1 n1 => ?_ | with_reducible refine seq_nil ?_ | with_reducible refine drw_k fun K1 n1 => ?_ | with_reducible refine drw_nil ?_ ?_ | with_reducible refine bar_k fun K1 n1 => ?_ | with_reducible refine run_seq ?_ | with_reducible refine run_skip ?_ | with_reducible refine run_regS ?_ | with_reducible refine inl_k (by with_unfolding_all rfl) (Nat.le_of_ble_eq_true rfl) fun K1 n1 => ?_ | with_reducible refine inlA_k (by with_unfolding_all rfl) (Nat.le_of_ble_eq_true rfl) fun K1 n1 => ?_ | with_reducible refine run_finA ?_ | with_reducible refine run_cond ?_ | with_reducible refine run_block ?_ | with_reducible refine run_endb ?_ | with_reducible refine run_exit fun K1 n1 => ?_ | with_reducible refine run_ret fun K1 n1 => ?_ | with_reducible refine run_fin ?_ | with_reducible refine run_inv ?_ | with_reducible refine go_rounds ?_ | ((with_reducible refine Go.mk ?_); (conv => whnf)) | refine Fork.yes ?_ | refine Fork.no ?_ | refine Fork.dec (fun _ => ?_) (fun _ => ?_) | refine Fork.ndec (fun _ => ?_) (fun _ => ?_) | refine Fork.mk (fun _ => ?_) (fun _ => ?_) | refine Way.yesG ?_ | refine Way.noG ?_ | refine Way.decG (fun _ => ?_) (fun _ => ?_) | refine Way.ndecG (fun _ => ?_) (fun _ => ?_) | refine Way.mkG (fun _ => ?_) (fun _ => ?_) | with_reducible refine Need.mkG ?_ ?_ | refine AppW.go0 ?_ ?_ | refine AppW.go1 ?_ ?_ | with_reducible refine NilW.goG (fun _ => ?_) ?_ | ((with_reducible refine n1 _ _ _ ?_); clear n1 K1) | ((with_reducible refine n1 _ ?_); clear n1 K1) | ((with_reducible refine n1 _ _ ?_); clear n1 K1) | ((with_reducible refine n1 _ _ _ _ ?_); clear n1 K1) | fail)
            all_goals try (first | exact trivial | omega | kernel_rfl | decide | exact And.intro (by omega) (by omega))
            all_goals try dsimp only [Int.toNat_natCast] at *
            all_goals try (first | exact trivial | omega | exact And.intro (by omega) (by omega))
            · rename_i g1 g2
              exact absurd (hrec j (by omega)).1 g2
            · rename_i g1 g2 g3 g4
              exact absurd g4 ((hrec j (by omega)).2 g3).1
            · rename_i g1 g2 g3 g4 g5
              exact absurd g5 ((hrec j (by omega)).2 g3).2
            iterate 2
              · refine ⟨j + 1, (show rs.length - (j + 1) < rs.length - j by omega), (show j + 1 ≤ rs.length by omega), ⟨?_, rfl, rfl, rfl, rfl, trivial⟩, rfl, 7, Nat.le_of_ble_eq_true rfl, rfl, rfl⟩
                show some (SV.a (AV.of (V.leaf Ty.int (wrap64 ((j : Int) + 1))))) = some (SV.a (AV.of (V.leaf Ty.int ((j + 1 : Nat) : Int))))
                rw [← wrap_succ j (by omega)]
            · refine desk_at_6_0 (good_len hgD) fun n3 D3 hn3 h3 => ?_
              refine n1 _ _ _ ?_
              clear n1 K1
              have ho := other_eq hc
              have e1 : ((nhD D3).1 (1 - c).toNat).1 = plainT.zero := by rw [h3, hI.d]; exact hal.now
              have e2 : ((nhD D3).1 (1 - c).toNat).2.2.1 = 0 := by rw [h3, hI.d]; exact hal.deep
              have e1 : (D3.1 (1 - c).toNat).1 = plainT.zero := e1
              have e2 : (D3.1 (1 - c).toNat).2.2.1 = 0 := e2
              rw [← ho] at e1 e2
              have ho2 : 0 ≤ wrap64 (1 - c) ∧ wrap64 (1 - c) < ((2 : Nat) : Int) := by rw [ho]; omega
              repeat' (first | with_reducible refine seq_k fun K1 n1 => ?_ | with_reducible refine seq_nil ?_ | with_reducible refine drw_k fun K1 n1 => ?_ | with_reducible refine drw_nil ?_ ?_ | with_reducible refine bar_k fun K1 n1 => ?_ | with_reducible refine run_seq ?_ | with_reducible refine run_skip ?_ | with_reducible refine run_regS ?_ | with_reducible refine inl_k (by with_unfolding_all rfl) (Nat.le_of_ble_eq_true rfl) fun K1 n1 => ?_ | with_reducible refine inlA_k (by with_unfolding_all rfl) (Nat.le_of_ble_eq_true rfl) fun K1 n1 => ?_ | with_reducible refine run_finA ?_ | with_reducible refine run_cond ?_ | with_reducible refine run_block ?_ | with_reducible refine run_endb ?_ | with_reducible refine run_exit fun K1 n1 => ?_ | with_reducible refine run_ret fun K1 n1 => ?_ | with_reducible refine run_fin ?_ | with_reducible refine run_inv ?_ | with_reducible refine go_rounds ?_ | ((with_reducible refine Go.mk ?_); (conv => whnf)) | refine Fork.yes ?_ | refine Fork.no ?_ | refine Fork.dec (fun _ => ?_) (fun _ => ?_) | refine Fork.ndec (fun _ => ?_) (fun _ => ?_) | refine Fork.mk (fun _ => ?_) (fun _ => ?_) | refine Way.yesG ?_ | refine Way.noG ?_ | refine Way.decG (fun _ => ?_) (fun _ => ?_) | refine Way.ndecG (fun _ => ?_) (fun _ => ?_) | refine Way.mkG (fun _ => ?_) (fun _ => ?_) | with_reducible refine Need.mkG ?_ ?_ | refine AppW.go0 ?_ ?_ | refine AppW.go1 ?_ ?_ | with_reducible refine NilW.goG (fun _ => ?_) ?_ | ((with_reducible refine n1 _ _ _ ?_); clear n1 K1) | ((with_reducible refine n1 _ ?_); clear n1 K1) | ((with_reducible refine n1 _ _ ?_); clear n1 K1) | ((with_reducible refine n1 _ _ _ _ ?_); clear n1 K1) | fail)
              all_goals try (first | exact trivial | omega | kernel_rfl | decide | exact And.intro (by omega) (by omega))
              all_goals try dsimp only [Int.toNat_natCast] at *
              all_goals try (first | exact trivial | omega | exact And.intro (by omega) (by omega))
              · refine Done.of ?_ (Or.inl rfl)
                show (_, ()) = (true, ())
                rw [decide_eq_true e2]
              · rename_i g
                rw [e1, eqD_refl plainT rfl] at g
                cases g
end Go.Proofs.Ytjbbgpacijageac.M
