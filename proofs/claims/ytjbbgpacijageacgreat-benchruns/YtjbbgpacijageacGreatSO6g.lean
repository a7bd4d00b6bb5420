/- The document's own step of a desk, by the kind of instruction. -/
import Derived.Test.YtjbbgpacijageacGreatUT
namespace Go.Proofs.YtjbbgpacijageacGreat.M
open Go.RowKit
set_option linter.unusedVariables false
set_option linter.unusedSimpArgs false

set_option maxHeartbeats 1600000 in
theorem st_G {t0 t1 t2 : Ty} {v0 : t0.D} {v1 : t1.D} {v2 : t2.D} {D : deskT.D} {l : progsT.D} {c : Int} {i : instrT.D} {n : Nat} {tk : List (Hd × Nat)} (hg : goodK D = true) (hc : 0 ≤ c ∧ c < 2) (hi : fetchF (l c.toNat).2 (D.1 c.toNat).1 = i) (hop : i.1 = 10) (h9 : ¬ (D.1 c.toNat).2.2.2.2.2 = 399) (h1 : ¬ 1 < (D.1 c.toNat).2.2.1) (hd : 0 < (D.1 c.toNat).2.2.1) : StAt t0 t1 t2 v0 v1 v2 D l c i n tk := by
  intro K h
  have hk := core_ok hc hg
  refine ⟨[.ptr 3 0 [] workT, .of (.leaf .int c), .of (.leaf instrT i)], [.leaf t0 v0, .leaf t1 v1, .leaf t2 v2, .leaf workT (D, l, (nilH, []))], rfl, rfl, ?_⟩
  have e10 : i.1 = 10 := hop
  have e9 : ¬ i.1 = 9 := by rw [hop]; decide
  have e11 : ¬ i.1 = 11 := by rw [hop]; decide
  have e12 : ¬ i.1 = 12 := by rw [hop]; decide
  have n0 : ¬ (D.1 c.toNat).2.2.1 = 0 := fun e => by rw [e] at hd; exact absurd hd (by decide)
  have hlen : (wsOf D c).length ≤ 4 := good_ws hg hc
  have hws : goodWs (wsOf D c) = true := (hk.ins n0).2.2.2.2
  have hE : setCore (setCore D c.toNat (((D.1 c.toNat).1.1, wd (wrap64 ((D.1 c.toNat).1.2.1 + 1)), (D.1 c.toNat).1.2.2), (D.1 c.toNat).2)) c.toNat (freedF ((setCore D c.toNat (((D.1 c.toNat).1.1, wd (wrap64 ((D.1 c.toNat).1.2.1 + 1)), (D.1 c.toNat).1.2.2), (D.1 c.toNat).2)).1 c.toNat)) = endedD D c := by
    rw [set_at, set_twice, wd_wrap]
    rfl
  have hgE : goodK (endedD D c) = true := goodK_set hg (free_ok (good_next hk.now)) (sameL_freed (goodK_D hg))
  have hend : ∀ (E : deskT.D) (rs : Rec), putsAll (endedD D c, []) l c (wsOf D c) = (E, rs) → stepsF 0 D l c = (E, rs ++ [(2, c, wrap64 ((D.1 c.toNat).2.2.2.2.2 + 1))]) := fun E rs he => by
    unfold stepsF endF
    rw [hi, if_neg h9, if_neg e9, if_pos hop, if_neg n0, if_neg h1, he]
  repeat' (first | (with_reducible first | refine seq_k fun K1 n1 => ?_ | refine seq_nil ?_ | refine drw_k fun K1 n1 => ?_ | refine drw_nil ?_ ?_ | refine inlT_k (by with_unfolding_all rfl) (Nat.le_of_ble_eq_true rfl) fun K1 n1 => ?_ | refine run_seq ?_ | refine run_regS ?_ | refine run_regD (by with_unfolding_all rfl) ?_ ?_ | refine run_cond ?_ | refine run_block ?_) | ((with_reducible refine Go.mk ?_); (conv => whnf)) | refine Fork.no ?_ | refine Fork.decT (by assumption) ?_ | refine Fork.decN (by assumption) ?_ | refine Way.yesG ?_ | refine Way.noG ?_ | refine Way.decT (by assumption) ?_ | refine Way.decN (by assumption) ?_ | refine Way.ndecP (by assumption) ?_ | (with_reducible first | refine Need.mkG ?_ ?_) | ((with_reducible refine n1 _ _ _ ?_); clear n1 K1) | ((with_reducible refine n1 _ _ ?_); clear n1 K1) | ((with_reducible refine n1 _ _ _ _ ?_); clear n1 K1) | fail)
  all_goals try (first | exact trivial | omega | kernel_rfl)
  all_goals try dsimp only [Int.toNat_natCast] at *
  refine run_loop (loop_fam (ι := Nat × deskT.D × Rec × Hd × Nat) (fun ix => [(182, .a (.of (.leaf .int (ix.1 : Int)))), (181, .a (.of (.leaf .int ((wsOf D c).length : Int)))), (180, .a (.of (.leaf (.lst writeT) (D.1 c.toNat).2.2.2.2.1))), (9, .a (.of (.leaf .int (wrap64 ((D.1 c.toNat).2.2.2.2.2 + 1))))), (1, .a (.of (.leaf .int c))), (0, .a (.ptr 3 0 [] workT))])
    (fun ix => [.leaf t0 v0, .leaf t1 v1, .leaf t2 v2, .leaf workT (ix.2.1, l, (ix.2.2.2.1, ix.2.2.1)), .leaf instrT i]) (fun ix => ⟨ix.2.2.2.2, ((D.1 0).2.2.2.2.1.1, 2) :: ((D.1 1).2.2.2.2.1.1, 2) :: (ix.2.2.2.1, 3) :: tk⟩) (fun ix => (wsOf D c).length - ix.1)
    (fun ix => (ix.1 ≤ (wsOf D c).length ∧ ix.2.2.1.length ≤ ix.1) ∧ (goodK ix.2.1 = true ∧ n ≤ ix.2.2.2.2) ∧ putsAll (endedD D c, []) l c (wsOf D c) = putsAll (ix.2.1, ix.2.2.1) l c ((wsOf D c).drop ix.1)) ?_ ?_)
  · exact ⟨(0, setCore (setCore D c.toNat (((D.1 c.toNat).1.1, wd (wrap64 ((D.1 c.toNat).1.2.1 + 1)), (D.1 c.toNat).1.2.2), (D.1 c.toNat).2)) c.toNat (freedF ((setCore D c.toNat (((D.1 c.toNat).1.1, wd (wrap64 ((D.1 c.toNat).1.2.1 + 1)), (D.1 c.toNat).1.2.2), (D.1 c.toNat).2)).1 c.toNat)), [], nilH, n), ⟨⟨Nat.zero_le _, Nat.le_refl _⟩, ⟨by rw [hE]; exact hgE, Nat.le_refl _⟩, by rw [hE]; rfl⟩, ⟨rfl, rfl, rfl, rfl, rfl, rfl, trivial⟩, rfl, 5, Nat.le_refl _, rfl, rfl⟩
  · rintro ⟨k, E, rs, H, m⟩ ⟨⟨hkl, hrl⟩, ⟨hgD, hm⟩, hall⟩
    have hkl : k ≤ (wsOf D c).length := hkl
    have hrl : rs.length ≤ k := hrl
    have hgD : goodK E = true := hgD
    have hm : n ≤ m := hm
    have hall : putsAll (endedD D c, []) l c (wsOf D c) = putsAll (E, rs) l c ((wsOf D c).drop k) := hall
    rcases Nat.lt_or_ge k (wsOf D c).length with hlt | hge
    · have hlt' : (k : Int) < ((wsOf D c).length : Int) := by omega
      have hstep : putsAll (E, rs) l c ((wsOf D c).drop k) = putsAll (putsF (E, rs) l c (nthD writeT (wsOf D c) k).1 (nthD writeT (wsOf D c) k).2) l c ((wsOf D c).drop (k + 1)) := by
        rw [drop_nthW hlt]
        rfl
      have hb := ws_mem hws (nthD writeT (wsOf D c) k) (by rw [nthD_eq hlt]; exact List.getElem_mem _)
      obtain ⟨f, hl, hr2, _⟩ := lk_puts hc hgD rs l hb.1 hb.2
      have hr3 : (putsF (E, rs) l c (nthD writeT (wsOf D c) k).1 (nthD writeT (wsOf D c) k).2).2.length ≤ k + 1 := by
        rw [hr2, List.length_append]
        unfold othR
        split
        · show rs.length + 1 ≤ _; omega
        · show rs.length + 0 ≤ _; omega
      repeat' (first | (with_reducible first | refine seq_k fun K1 n1 => ?_ | refine seq_nil ?_ | refine run_seq ?_ | refine run_skip ?_ | refine run_regS ?_ | refine run_cond ?_ | refine run_block ?_) | ((with_reducible refine Go.mk ?_); (conv => whnf)) | refine Fork.decT (by assumption) ?_ | (with_reducible first | refine Need.mkG ?_ ?_) | ((with_reducible refine n1 _ _ _ ?_); clear n1 K1) | fail)
      all_goals try dsimp only [Int.toNat_natCast] at *
      · exact (show (0 : Int) ≤ (k : Int) ∧ (k : Int) < ((wsOf D c).length : Int) by omega)
      · refine lax_norm (wput_at_2 hgD hc (by omega) (X := fun D' R' => D' = (putsF (E, rs) l c (nthD writeT (wsOf D c) k).1 (nthD writeT (wsOf D c) k).2).1 ∧ R' = (putsF (E, rs) l c (nthD writeT (wsOf D c) k).1 (nthD writeT (wsOf D c) k).2).2) (fun _ _ h1 h2 => ⟨h1, h2⟩) ?_)
        rintro n' H' D' R' hn ⟨hD, hR⟩
        refine n1 _ _ _ ?_
        clear n1 K1
        repeat' (first | (with_reducible first | refine seq_k fun K1 n1 => ?_ | refine seq_nil ?_ | refine run_regS ?_ | refine run_endb ?_ | refine run_inv ?_) | ((with_reducible refine Go.mk ?_); (conv => whnf)) | ((with_reducible refine n1 _ _ _ ?_); clear n1 K1) | fail)
        refine ⟨(k + 1, D', R', H', n'), (by show (wsOf D c).length - (k + 1) < (wsOf D c).length - k; omega), ⟨⟨(by show k + 1 ≤ (wsOf D c).length; omega), (by show R'.length ≤ k + 1; rw [hR]; exact hr3)⟩, ⟨(by show goodK D' = true; rw [hD]; exact hl.good), (by show n ≤ n'; omega)⟩, ?_⟩, ⟨?_, rfl, rfl, rfl, rfl, rfl, trivial⟩, rfl, 5, Nat.le_of_ble_eq_true rfl, rfl, rfl⟩
        · show _ = putsAll (D', R') l c ((wsOf D c).drop (k + 1))
          rw [hall, hstep, hD, hR]
        · rw [wrap_succ k (by omega)]
          rfl
    · have hnl : ¬ (k : Int) < ((wsOf D c).length : Int) := by omega
      have hkl : (wsOf D c).drop k = [] := List.drop_of_length_le hge
      rw [hkl] at hall
      have eq := hend E rs hall
      repeat' (first | (with_reducible first | refine seq_k fun K1 n1 => ?_ | refine seq_nil ?_ | refine run_seq ?_ | refine run_regS ?_ | refine inl_k (by with_unfolding_all rfl) (Nat.le_of_ble_eq_true rfl) fun K1 n1 => ?_ | refine run_cond ?_ | refine run_endb ?_ | refine run_exit fun K1 n1 => ?_ | refine run_fin ?_) | ((with_reducible refine Go.mk ?_); (conv => whnf)) | refine Fork.decN (by assumption) ?_ | (with_reducible first | refine Need.mkG ?_ ?_) | refine AppW.go2 ?_ ?_ | ((with_reducible refine n1 _ _ _ ?_); clear n1 K1) | ((with_reducible refine n1 _ ?_); clear n1 K1) | ((with_reducible refine n1 _ _ ?_); clear n1 K1) | fail)
      all_goals try (decide)
      all_goals try dsimp only [Int.toNat_natCast] at *
      · exact few_small (by omega)
      · exact st_end h rfl (by rw [eq]; exact ⟨rfl, rfl⟩) (by omega)
end Go.Proofs.YtjbbgpacijageacGreat.M
