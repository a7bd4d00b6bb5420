/- The document's own step of a desk: a word touched inside of a transaction. -/
import Derived.Test.YtjbbgpacijageacGreatSO4
namespace Go.Proofs.YtjbbgpacijageacGreat.M
open Go.RowKit
set_option linter.unusedVariables false
set_option linter.unusedSimpArgs false

set_option maxHeartbeats 3200000 in
theorem whold_7 {t0 t1 t2 : Ty} {v0 : t0.D} {v1 : t1.D} {v2 : t2.D} {s0 : Ty} {u0 : s0.D} {D : deskT.D} {l : progsT.D} {c : Int} {n : Nat} {tk : List (Hd × Nat)} {K : SV → List V → NS → Prop} {i : instrT.D} {word : Int} (hop : i.1 = 7) (hkeep : ∀ p : StP, p.tk = ((D.1 0).2.2.2.2.1.1, 2) :: ((D.1 1).2.2.2.2.1.1, 2) :: (nilH, 3) :: tk → p.i ≤ 1 → keptD p t0 v0 v0 ∧ keptD p t1 v1 v1 ∧ keptD p t2 v2 v2 ∧ keptD p s0 u0 u0 ∧ keptD p progsT l l) (hg : goodK D = true) (hc : 0 ≤ c ∧ c < 2) (hd : 0 < (D.1 c.toNat).2.2.1) (hr : 0 ≤ i.2.1 ∧ i.2.1 < 8) (hw : 0 ≤ word ∧ word < 32) {X : deskT.D → Rec → Prop} (hX : ∀ D' R', nhD D' = nhD (inF 0 D l c i word).1 → R' = (inF 0 D l c i word).2 → X D' R') (h : ∀ n' H' D' R', n ≤ n' → X D' R' → K (.tup []) [.leaf t0 v0, .leaf t1 v1, .leaf t2 v2, .leaf workT (D', l, (H', R')), .leaf s0 u0] ⟨n', []⟩) :
    wholdTr [.ptr 3 0 [] workT, .of (.leaf .int c), .of (.leaf instrT i), .of (.leaf .int word)] [.leaf t0 v0, .leaf t1 v1, .leaf t2 v2, .leaf workT (D, l, (nilH, [])), .leaf s0 u0] ⟨n, ((D.1 0).2.2.2.2.1.1, 2) :: ((D.1 1).2.2.2.2.1.1, 2) :: (nilH, 3) :: tk⟩ K := by
  have h5 : ¬ i.1 = 5 := by first | exact hop | (rw [hop]; decide)
  have h6 : ¬ i.1 = 6 := by first | exact hop | (rw [hop]; decide)
  have hk := core_ok hc hg
  have hws : goodWs (wsOf D c) = true := (hk.ins (fun e => by rw [e] at hd; exact absurd hd (by decide))).2.2.2.2
  have hroom := room_eq (i := i) hg hc hw
  have hlw := word_line hw
  refine ⟨[.ptr 3 0 [] workT, .of (.leaf .int c), .of (.leaf instrT i), .of (.leaf .int word)], [.leaf t0 v0, .leaf t1 v1, .leaf t2 v2, .leaf workT (D, l, (nilH, [])), .leaf s0 u0], rfl, rfl, ?_⟩
  repeat' (first | (with_reducible first | refine seq_k fun K1 n1 => ?_ | refine seq_nil ?_ | refine inlT_k (by with_unfolding_all rfl) (Nat.le_of_ble_eq_true rfl) fun K1 n1 => ?_ | refine run_seq ?_ | refine run_regS ?_ | refine run_block ?_) | ((with_reducible refine Go.mk ?_); (conv => whnf)) | (with_reducible first | refine Need.mkG ?_ ?_) | ((with_reducible refine n1 _ _ _ ?_); clear n1 K1) | ((with_reducible refine n1 _ _ ?_); clear n1 K1) | fail)
  all_goals try (omega)
  all_goals try dsimp only [Int.toNat_natCast] at *
  refine run_loop (loop_fam (ι := Nat) (fun k => [(26, .a (.of (.leaf .int (k : Int)))), (9, .a (.of (.leaf .int (atW ((wsOf D c).take k) word)))), (25, .a (.of (.leaf .int ((wsOf D c).length : Int)))), (24, .a (.of (.leaf (.lst writeT) (D.1 c.toNat).2.2.2.2.1))), (8, .a (.ptr 3 (0 + 0 + 0 + c.toNat * coreT.sz) [Step.fst, Step.fst, Step.idx c.toNat] coreT)), (6, .a (.ptr 5 0 [] instrT)), (3, .a (.of (.leaf .int word))), (1, .a (.of (.leaf .int c))), (0, .a (.ptr 3 0 [] workT))]) (fun _ => [.leaf t0 v0, .leaf t1 v1, .leaf t2 v2, .leaf workT (D, l, (nilH, [])), .leaf s0 u0, .leaf instrT i]) (fun _ => ⟨n, ((D.1 0).2.2.2.2.1.1, 2) :: ((D.1 1).2.2.2.2.1.1, 2) :: (nilH, 3) :: tk⟩) (fun k => (wsOf D c).length - k) (fun k => k ≤ (wsOf D c).length) ?_ ?_)
  · exact ⟨0, Nat.zero_le _, ⟨rfl, rfl, rfl, rfl, rfl, rfl, rfl, rfl, rfl, trivial⟩, rfl, 6, Nat.le_refl _, rfl, rfl⟩
  · intro k hkl
    have hkl : k ≤ (wsOf D c).length := hkl
    have hlen : (wsOf D c).length ≤ 4 := good_ws hg hc
    have hway : 0 ≤ (wrap64 (word.tdiv 2)).tmod 4 ∧ (wrap64 (word.tdiv 2)).tmod 4 < 4 := hlw.2.2
    rcases Nat.lt_or_ge k (wsOf D c).length with hlt | hge
    · have hlt' : (k : Int) < ((wsOf D c).length : Int) := by omega
      repeat' (first | (with_reducible first | refine seq_k fun K1 n1 => ?_ | refine seq_nil ?_ | refine run_seq ?_ | refine run_skip ?_ | refine run_regS ?_ | refine run_cond ?_ | refine run_block ?_ | refine run_endb ?_ | refine run_inv ?_) | ((with_reducible refine Go.mk ?_); (conv => whnf)) | refine Fork.decT (by assumption) ?_ | refine Fork.dec (fun _ => ?_) (fun _ => ?_) | (with_reducible first | refine Need.mkG ?_ ?_) | ((with_reducible refine n1 _ _ _ ?_); clear n1 K1) | fail)
      all_goals try dsimp only [Int.toNat_natCast] at *
      · exact (show (0 : Int) ≤ (k : Int) ∧ (k : Int) < ((wsOf D c).length : Int) by omega)
      · rename_i g
        refine ⟨k + 1, by omega, (show k + 1 ≤ _ by omega), ⟨?_, ?_, rfl, rfl, rfl, rfl, rfl, rfl, rfl, trivial⟩, rfl, 6, Nat.le_of_ble_eq_true rfl, rfl, rfl⟩
        · rw [wrap_succ k (by omega)]
          rfl
        · rw [atW_hit hws hlt g]
          rfl
      · rename_i g
        refine ⟨k + 1, by omega, (show k + 1 ≤ _ by omega), ⟨?_, ?_, rfl, rfl, rfl, rfl, rfl, rfl, rfl, trivial⟩, rfl, 6, Nat.le_of_ble_eq_true rfl, rfl, rfl⟩
        · rw [wrap_succ k (by omega)]
          rfl
        · rw [atW_miss hlt g]
          rfl
    · obtain rfl : k = (wsOf D c).length := by omega
      have hnl : ¬ ((wsOf D c).length : Int) < ((wsOf D c).length : Int) := Int.lt_irrefl _
      rw [List.take_length]
      by_cases ho : atW (wsOf D c) word < 0
      · have ho' : ¬ 0 ≤ atW (wsOf D c) word := Int.not_le.2 ho
        repeat' (first | (with_reducible first | refine seq_k fun K1 n1 => ?_ | refine seq_nil ?_ | refine drw_k fun K1 n1 => ?_ | refine drw_nil ?_ ?_ | refine run_seq ?_ | refine run_skip ?_ | refine run_regS ?_ | refine run_regD (by with_unfolding_all rfl) ?_ ?_ | refine run_cond ?_ | refine run_exit fun K1 n1 => ?_) | ((with_reducible refine Go.mk ?_); (conv => whnf)) | refine Fork.yes ?_ | refine Fork.decN (by assumption) ?_ | refine Fork.dec (fun _ => ?_) (fun _ => ?_) | refine Fork.ndecQ (by assumption) ?_ | refine Way.yesG ?_ | refine Way.noG ?_ | refine Way.decT (by assumption) ?_ | refine Way.ndecQ (by assumption) ?_ | refine Way.ndecG (fun _ => ?_) (fun _ => ?_) | refine Way.mkG (fun _ => ?_) (fun _ => ?_) | (with_reducible first | refine Need.mkG ?_ ?_) | ((with_reducible refine n1 _ _ _ ?_); clear n1 K1) | ((with_reducible refine n1 _ ?_); clear n1 K1) | ((with_reducible refine n1 _ _ _ _ ?_); clear n1 K1) | fail)
        all_goals try (first | exact trivial | omega | kernel_rfl | decide)
        all_goals try dsimp only [Int.toNat_natCast] at *
        · have hrm : roomF D c i word = true := hroom.2 ⟨ho, Or.inl ⟨h6, by assumption, by assumption⟩⟩
          refine lax_norm (wfail_at_3 hg hc hd (Nat.zero_le _) (X := fun D' R' => nhD D' = nhD (inF 0 D l c i word).1 ∧ R' = (inF 0 D l c i word).2) (fun _ _ h1 h2 => by rw [in_yes hrm, h1, h2]; exact ⟨rfl, rfl⟩) ?_)
          rintro n' H' D' R' hn ⟨hD, hR⟩
          refine n1 _ _ _ ?_
          clear n1 K1
          repeat' (first | (with_reducible first | refine seq_nil ?_ | refine run_ret fun K1 n1 => ?_ | refine run_fin ?_) | ((with_reducible refine Go.mk ?_); (conv => whnf)) | ((with_reducible refine n1 _ ?_); clear n1 K1) | fail)
          exact hold_end h rfl (hX _ _ hD hR) hn
        · have hrm : roomF D c i word = true := hroom.2 ⟨ho, Or.inr ⟨h5, by assumption⟩⟩
          refine lax_norm (wfail_at_3 hg hc hd (Nat.zero_le _) (X := fun D' R' => nhD D' = nhD (inF 0 D l c i word).1 ∧ R' = (inF 0 D l c i word).2) (fun _ _ h1 h2 => by rw [in_yes hrm, h1, h2]; exact ⟨rfl, rfl⟩) ?_)
          rintro n' H' D' R' hn ⟨hD, hR⟩
          refine n1 _ _ _ ?_
          clear n1 K1
          repeat' (first | (with_reducible first | refine seq_nil ?_ | refine run_ret fun K1 n1 => ?_ | refine run_fin ?_) | ((with_reducible refine Go.mk ?_); (conv => whnf)) | ((with_reducible refine n1 _ ?_); clear n1 K1) | fail)
          exact hold_end h rfl (hX _ _ hD hR) hn
        · have hrm : ¬ roomF D c i word = true := fun e => by
            rcases (hroom.1 e).2 with g | g
            · first | exact g.2.2 (by assumption) | (have gb : ((D.1 c.toNat).2.1 ((wrap64 (word.tdiv 2)).tmod 4).toNat).2.2.2 = false := (by assumption); have gt := g.2.1; rw [show ((D.1 c.toNat).2.1 (wayOf (lineOf word))).2.2.2 = false from gb] at gt; cases gt)
            · first | exact g.1 h5 | exact absurd g.2 (by assumption)
          refine hold_app hc (show ((rdD D c word).1 c.toNat).2.2.2.2.1.1 = _ by rw [rd_ws]) (show ((rdD D c word).1 c.toNat).2.2.2.2.1.2 = _ by rw [rd_ws]; rfl) hlen (Nat.le_refl 1) ?_
          intro p q
          repeat' (first | (with_reducible first | refine seq_k fun K1 n1 => ?_ | refine seq_nil ?_ | refine drw_k fun K1 n1 => ?_ | refine drw_nil ?_ ?_ | refine run_seq ?_ | refine run_regS ?_ | refine run_regD (by with_unfolding_all rfl) ?_ ?_ | refine run_cond ?_) | ((with_reducible refine Go.mk ?_); (conv => whnf)) | refine Fork.ndecQ (by assumption) ?_ | (with_reducible first | refine Need.mkG ?_ ?_) | ((with_reducible refine n1 _ _ _ ?_); clear n1 K1) | ((with_reducible refine n1 _ _ _ _ ?_); clear n1 K1) | fail)
          all_goals try (first | exact trivial | kernel_rfl)
          all_goals try dsimp only [Int.toNat_natCast] at *
          refine lax_norm (won_at_3 (D := withNow (setCore (rdD D c word) c.toNat (reW ((rdD D c word).1 c.toNat) (.nm (n + 1), wsOf D c ++ [(word, (D.1 c.toNat).1.1 (Int.toNat i.2.1))]))) c (putF ((setCore (rdD D c word) c.toNat (reW ((rdD D c word).1 c.toNat) (.nm (n + 1), wsOf D c ++ [(word, (D.1 c.toNat).1.1 (Int.toNat i.2.1))]))).1 c.toNat).1 i.2.1 (valF D word))) hc (by unfold withNow; rw [set_at, set_at]; show 0 ≤ ((rdD D c word).1 c.toNat).2.2.1; rw [rd_ws]; exact hk.lo) (Nat.zero_le _) (X := fun D' R' => nhD D' = nhD (inF 0 D l c i word).1 ∧ R' = (inF 0 D l c i word).2) (fun _ _ h1 h2 => hold_fin hrm (by rw [kept_n h5, seen_neg hg hc hw h6 ho']; exact kept7 (by rw [show wsOf (rdD D c word) c = wsOf D c from by unfold wsOf; rw [rd_ws], held_neg ho, getF_in hr])) h1 h2) ?_)
          rintro n' H' D' R' hn ⟨hD, hR⟩
          refine n1 _ _ _ ?_
          clear n1 K1
          repeat' (first | (with_reducible first | refine seq_nil ?_ | refine run_fin ?_) | ((with_reducible refine Go.mk ?_); (conv => whnf)) | fail)
          exact hold_end h rfl (hX _ _ hD hR) (by omega)
        · have hrm : roomF D c i word = true := hroom.2 ⟨ho, Or.inr ⟨h5, by assumption⟩⟩
          refine lax_norm (wfail_at_3 hg hc hd (Nat.zero_le _) (X := fun D' R' => nhD D' = nhD (inF 0 D l c i word).1 ∧ R' = (inF 0 D l c i word).2) (fun _ _ h1 h2 => by rw [in_yes hrm, h1, h2]; exact ⟨rfl, rfl⟩) ?_)
          rintro n' H' D' R' hn ⟨hD, hR⟩
          refine n1 _ _ _ ?_
          clear n1 K1
          repeat' (first | (with_reducible first | refine seq_nil ?_ | refine run_ret fun K1 n1 => ?_ | refine run_fin ?_) | ((with_reducible refine Go.mk ?_); (conv => whnf)) | ((with_reducible refine n1 _ ?_); clear n1 K1) | fail)
          exact hold_end h rfl (hX _ _ hD hR) hn
        · have hrm : ¬ roomF D c i word = true := fun e => by
            rcases (hroom.1 e).2 with g | g
            · first | exact g.2.2 (by assumption) | (have gb : ((D.1 c.toNat).2.1 ((wrap64 (word.tdiv 2)).tmod 4).toNat).2.2.2 = false := (by assumption); have gt := g.2.1; rw [show ((D.1 c.toNat).2.1 (wayOf (lineOf word))).2.2.2 = false from gb] at gt; cases gt)
            · first | exact g.1 h5 | exact absurd g.2 (by assumption)
          refine hold_app hc (show ((rdD D c word).1 c.toNat).2.2.2.2.1.1 = _ by rw [rd_ws]) (show ((rdD D c word).1 c.toNat).2.2.2.2.1.2 = _ by rw [rd_ws]; rfl) hlen (Nat.le_refl 1) ?_
          intro p q
          repeat' (first | (with_reducible first | refine seq_k fun K1 n1 => ?_ | refine seq_nil ?_ | refine drw_k fun K1 n1 => ?_ | refine drw_nil ?_ ?_ | refine run_seq ?_ | refine run_regS ?_ | refine run_regD (by with_unfolding_all rfl) ?_ ?_ | refine run_cond ?_) | ((with_reducible refine Go.mk ?_); (conv => whnf)) | refine Fork.ndecQ (by assumption) ?_ | (with_reducible first | refine Need.mkG ?_ ?_) | ((with_reducible refine n1 _ _ _ ?_); clear n1 K1) | ((with_reducible refine n1 _ _ _ _ ?_); clear n1 K1) | fail)
          all_goals try (first | exact trivial | kernel_rfl)
          all_goals try dsimp only [Int.toNat_natCast] at *
          refine lax_norm (won_at_3 (D := withNow (setCore (rdD D c word) c.toNat (reW ((rdD D c word).1 c.toNat) (.nm (n + 1), wsOf D c ++ [(word, (D.1 c.toNat).1.1 (Int.toNat i.2.1))]))) c (putF ((setCore (rdD D c word) c.toNat (reW ((rdD D c word).1 c.toNat) (.nm (n + 1), wsOf D c ++ [(word, (D.1 c.toNat).1.1 (Int.toNat i.2.1))]))).1 c.toNat).1 i.2.1 (valF D word))) hc (by unfold withNow; rw [set_at, set_at]; show 0 ≤ ((rdD D c word).1 c.toNat).2.2.1; rw [rd_ws]; exact hk.lo) (Nat.zero_le _) (X := fun D' R' => nhD D' = nhD (inF 0 D l c i word).1 ∧ R' = (inF 0 D l c i word).2) (fun _ _ h1 h2 => hold_fin hrm (by rw [kept_n h5, seen_neg hg hc hw h6 ho']; exact kept7 (by rw [show wsOf (rdD D c word) c = wsOf D c from by unfold wsOf; rw [rd_ws], held_neg ho, getF_in hr])) h1 h2) ?_)
          rintro n' H' D' R' hn ⟨hD, hR⟩
          refine n1 _ _ _ ?_
          clear n1 K1
          repeat' (first | (with_reducible first | refine seq_nil ?_ | refine run_fin ?_) | ((with_reducible refine Go.mk ?_); (conv => whnf)) | fail)
          exact hold_end h rfl (hX _ _ hD hR) (by omega)
      · have ho' : 0 ≤ atW (wsOf D c) word := Int.not_lt.1 ho
        have hat : 0 ≤ atW (wsOf D c) word ∧ atW (wsOf D c) word < ((wsOf D c).length : Int) := ⟨ho', (atW_rng _ _).2⟩
        have hrm : ¬ roomF D c i word = true := fun e => ho (hroom.1 e).1
        repeat' (first | (with_reducible first | refine seq_k fun K1 n1 => ?_ | refine seq_nil ?_ | refine drw_k fun K1 n1 => ?_ | refine drw_nil ?_ ?_ | refine run_seq ?_ | refine run_skip ?_ | refine run_regS ?_ | refine run_regD (by with_unfolding_all rfl) ?_ ?_ | refine run_cond ?_ | refine run_exit fun K1 n1 => ?_) | ((with_reducible refine Go.mk ?_); (conv => whnf)) | refine Fork.no ?_ | refine Fork.decT (by assumption) ?_ | refine Fork.decN (by assumption) ?_ | refine Way.yesG ?_ | refine Way.noG ?_ | refine Way.decN (by assumption) ?_ | refine Way.ndecQ (by assumption) ?_ | (with_reducible first | refine Need.mkG ?_ ?_) | ((with_reducible refine n1 _ _ _ ?_); clear n1 K1) | ((with_reducible refine n1 _ ?_); clear n1 K1) | ((with_reducible refine n1 _ _ _ _ ?_); clear n1 K1) | fail)
        all_goals try (first | omega | kernel_rfl)
        all_goals try dsimp only [Int.toNat_natCast] at *
        · exact hat
        · exact hat
        · refine hold_store hc hkeep rfl rfl rfl rfl rfl ?_
          intro p q
          refine n1 _ _ _ ?_
          clear n1 K1
          repeat' (first | (with_reducible first | refine seq_k fun K1 n1 => ?_ | refine seq_nil ?_ | refine drw_k fun K1 n1 => ?_ | refine drw_nil ?_ ?_ | refine run_seq ?_ | refine run_regS ?_ | refine run_regD (by with_unfolding_all rfl) ?_ ?_ | refine run_cond ?_) | ((with_reducible refine Go.mk ?_); (conv => whnf)) | refine Fork.ndecQ (by assumption) ?_ | (with_reducible first | refine Need.mkG ?_ ?_) | ((with_reducible refine n1 _ _ _ ?_); clear n1 K1) | ((with_reducible refine n1 _ _ _ _ ?_); clear n1 K1) | fail)
          all_goals try (first | exact trivial | kernel_rfl)
          all_goals try dsimp only [Int.toNat_natCast] at *
          refine lax_norm (won_at_3 (D := withNow (setCore D c.toNat (reW (D.1 c.toNat) (.nm n, (wsOf D c).set (atW (wsOf D c) word).toNat ((nthD writeT (wsOf D c) (atW (wsOf D c) word).toNat).1, (D.1 c.toNat).1.1 (Int.toNat i.2.1))))) c (putF ((setCore D c.toNat (reW (D.1 c.toNat) (.nm n, (wsOf D c).set (atW (wsOf D c) word).toNat ((nthD writeT (wsOf D c) (atW (wsOf D c) word).toNat).1, (D.1 c.toNat).1.1 (Int.toNat i.2.1))))).1 c.toNat).1 i.2.1 (nthD writeT (wsOf D c) (atW (wsOf D c) word).toNat).2)) hc (by unfold withNow; rw [set_at, set_at]; exact hk.lo) (Nat.zero_le _) (X := fun D' R' => nhD D' = nhD (inF 0 D l c i word).1 ∧ R' = (inF 0 D l c i word).2) (fun _ _ h1 h2 => hold_fin hrm (by rw [kept_n h5, seen_pos h6 ho']; exact kept7 (by rw [held_pos ho, getF_in hr])) h1 h2) ?_)
          rintro n' H' D' R' hn ⟨hD, hR⟩
          refine n1 _ _ _ ?_
          clear n1 K1
          repeat' (first | (with_reducible first | refine seq_nil ?_ | refine run_fin ?_) | ((with_reducible refine Go.mk ?_); (conv => whnf)) | fail)
          exact hold_end h rfl (hX _ _ hD hR) (by omega)
end Go.Proofs.YtjbbgpacijageacGreat.M
