/- The document's own step of a desk, by the kind of instruction. -/
import Derived.Test.YtjbbgpacijageacGreatUT
namespace Go.Proofs.YtjbbgpacijageacGreat.M
open Go.RowKit
set_option linter.unusedVariables false
set_option linter.unusedSimpArgs false

set_option maxHeartbeats 1600000 in
theorem st_H5 {t0 t1 t2 : Ty} {v0 : t0.D} {v1 : t1.D} {v2 : t2.D} {D : deskT.D} {l : progsT.D} {c : Int} {i : instrT.D} {n : Nat} {tk : List (Hd × Nat)} (hg : goodK D = true) (hc : 0 ≤ c ∧ c < 2) (hi : fetchF (l c.toNat).2 (D.1 c.toNat).1 = i) (hkeep : ∀ p : StP, p.tk = ((D.1 0).2.2.2.2.1.1, 2) :: ((D.1 1).2.2.2.2.1.1, 2) :: (nilH, 3) :: tk → p.i ≤ 1 → keptD p t0 v0 v0 ∧ keptD p t1 v1 v1 ∧ keptD p t2 v2 v2 ∧ keptD p progsT l l) (hop : i.1 = 5) (h9 : ¬ (D.1 c.toNat).2.2.2.2.2 = 399) : StAt t0 t1 t2 v0 v1 v2 D l c i n tk := by
  intro K h
  have hk := core_ok hc hg
  refine ⟨[.ptr 3 0 [] workT, .of (.leaf .int c), .of (.leaf instrT i)], [.leaf t0 v0, .leaf t1 v1, .leaf t2 v2, .leaf workT (D, l, (nilH, []))], rfl, rfl, ?_⟩
  have e9 : ¬ i.1 = 9 := by rw [hop]; decide
  have e10 : ¬ i.1 = 10 := by rw [hop]; decide
  have e11 : ¬ i.1 = 11 := by rw [hop]; decide
  have e12 : ¬ i.1 = 12 := by rw [hop]; decide
  have g5 : 5 ≤ i.1 := by rw [hop]; decide
  have g7 : i.1 ≤ 7 := by rw [hop]; decide
  have e57 : i.1 = 5 ∨ i.1 = 6 ∨ i.1 = 7 := by rw [hop]; decide
  have et : stepsF 0 D l c = touchT 0 D l c i := by
    unfold stepsF
    rw [hi, if_neg h9, if_neg e9, if_neg e10, if_neg e11, if_pos e57]
  have hr : 0 ≤ i.2.1 ∧ i.2.1 < 8 := by rw [← hi]; exact (fetch_regs _ _).2.2
  by_cases hw : wordF (D.1 c.toNat).1 i < 32
  · have hw' : 0 ≤ wordF (D.1 c.toNat).1 i ∧ wordF (D.1 c.toNat).1 i < 32 := ⟨(wd_rng _).1, hw⟩
    by_cases hd : 0 < (D.1 c.toNat).2.2.1
    · have n0 : ¬ (D.1 c.toNat).2.2.1 = 0 := fun e => by rw [e] at hd; exact absurd hd (by decide)
      have eq : stepsF 0 D l c = inF 0 D l c i (wordF (D.1 c.toNat).1 i) := by
        rw [et]
        unfold touchT
        rw [if_pos hw, if_neg n0]
      repeat' (first | (with_reducible first | refine seq_k fun K1 n1 => ?_ | refine seq_nil ?_ | refine drw_k fun K1 n1 => ?_ | refine drw_nil ?_ ?_ | refine inlT_k (by with_unfolding_all rfl) (Nat.le_of_ble_eq_true rfl) fun K1 n1 => ?_ | refine run_seq ?_ | refine run_regS ?_ | refine run_regD (by with_unfolding_all rfl) ?_ ?_ | refine run_cond ?_ | refine run_block ?_) | ((with_reducible refine Go.mk ?_); (conv => whnf)) | refine Fork.no ?_ | refine Fork.decT (by assumption) ?_ | refine Fork.decN (by assumption) ?_ | refine Fork.ndecP (by assumption) ?_ | refine Way.yesG ?_ | refine Way.noG ?_ | refine Way.decT (by assumption) ?_ | refine Way.decN (by assumption) ?_ | refine Way.ndecP (by assumption) ?_ | (with_reducible first | refine Need.mkG ?_ ?_) | ((with_reducible refine n1 _ _ _ ?_); clear n1 K1) | ((with_reducible refine n1 _ _ ?_); clear n1 K1) | ((with_reducible refine n1 _ _ _ _ ?_); clear n1 K1) | fail)
      all_goals try (first | exact trivial | omega | kernel_rfl)
      all_goals try dsimp only [Int.toNat_natCast] at *
      refine lax_norm (whold_5 hop (fun p h1 h2 => ⟨(hkeep p h1 h2).1, (hkeep p h1 h2).2.1, (hkeep p h1 h2).2.2.1, keptD_nol instrT i rfl, (hkeep p h1 h2).2.2.2⟩) hg hc hd hr hw' (X := fun D' R' => AlX (D', R') (stepsF 0 D l c)) (fun _ _ h1 h2 => by rw [eq]; exact ⟨h1, h2⟩) ?_)
      rintro n' H' D' R' hn hx
      refine n1 _ _ _ ?_
      clear n1 K1
      repeat' (first | (with_reducible first | refine seq_nil ?_ | refine run_endb ?_ | refine run_fin ?_) | ((with_reducible refine Go.mk ?_); (conv => whnf)) | fail)
      exact st_end h rfl hx hn
    · have h0 : (D.1 c.toNat).2.2.1 = 0 := Int.le_antisymm (Int.not_lt.1 hd) hk.lo
      have eq : stepsF 0 D l c = outF D l c i (wordF (D.1 c.toNat).1 i) := by
        rw [et]
        unfold touchT
        rw [if_pos hw, if_pos h0]
      repeat' (first | (with_reducible first | refine seq_k fun K1 n1 => ?_ | refine seq_nil ?_ | refine drw_k fun K1 n1 => ?_ | refine drw_nil ?_ ?_ | refine inlT_k (by with_unfolding_all rfl) (Nat.le_of_ble_eq_true rfl) fun K1 n1 => ?_ | refine run_seq ?_ | refine run_regS ?_ | refine run_regD (by with_unfolding_all rfl) ?_ ?_ | refine run_cond ?_ | refine run_block ?_) | ((with_reducible refine Go.mk ?_); (conv => whnf)) | refine Fork.no ?_ | refine Fork.decT (by assumption) ?_ | refine Fork.decN (by assumption) ?_ | refine Fork.ndecP (by assumption) ?_ | refine Way.yesG ?_ | refine Way.noG ?_ | refine Way.decT (by assumption) ?_ | refine Way.decN (by assumption) ?_ | refine Way.ndecQ (by assumption) ?_ | (with_reducible first | refine Need.mkG ?_ ?_) | ((with_reducible refine n1 _ _ _ ?_); clear n1 K1) | ((with_reducible refine n1 _ _ ?_); clear n1 K1) | ((with_reducible refine n1 _ _ _ _ ?_); clear n1 K1) | fail)
      all_goals try (first | exact trivial | omega | kernel_rfl)
      all_goals try dsimp only [Int.toNat_natCast] at *
      refine lax_norm (wdir_at hg hc h0 hr hw' (X := fun D' R' => AlX (D', R') (stepsF 0 D l c)) (fun _ _ h1 h2 => by rw [h1, h2, eq]; exact ⟨rfl, rfl⟩) ?_)
      rintro n' H' D' R' hn hx
      refine n1 _ _ _ ?_
      clear n1 K1
      repeat' (first | (with_reducible first | refine seq_nil ?_ | refine run_endb ?_ | refine run_fin ?_) | ((with_reducible refine Go.mk ?_); (conv => whnf)) | fail)
      exact st_end h rfl hx hn
  · have eq : stepsF 0 D l c = stuckF D l c := by
      rw [et]
      unfold touchT
      rw [if_neg hw]
    by_cases hd : 0 < (D.1 c.toNat).2.2.1
    · repeat' (first | (with_reducible first | refine seq_k fun K1 n1 => ?_ | refine seq_nil ?_ | refine drw_k fun K1 n1 => ?_ | refine drw_nil ?_ ?_ | refine inlT_k (by with_unfolding_all rfl) (Nat.le_of_ble_eq_true rfl) fun K1 n1 => ?_ | refine run_seq ?_ | refine run_regS ?_ | refine run_regD (by with_unfolding_all rfl) ?_ ?_ | refine run_cond ?_ | refine run_block ?_) | ((with_reducible refine Go.mk ?_); (conv => whnf)) | refine Fork.no ?_ | refine Fork.decT (by assumption) ?_ | refine Fork.decN (by assumption) ?_ | refine Fork.ndecQ (by assumption) ?_ | refine Way.yesG ?_ | refine Way.noG ?_ | refine Way.decT (by assumption) ?_ | refine Way.decN (by assumption) ?_ | refine Way.ndecP (by assumption) ?_ | (with_reducible first | refine Need.mkG ?_ ?_) | ((with_reducible refine n1 _ _ _ ?_); clear n1 K1) | ((with_reducible refine n1 _ _ ?_); clear n1 K1) | ((with_reducible refine n1 _ _ _ _ ?_); clear n1 K1) | fail)
      all_goals try (first | exact trivial | omega | kernel_rfl)
      all_goals try dsimp only [Int.toNat_natCast] at *
      refine lax_norm (wstuck_at_1 hg hc (Nat.zero_le _) (X := fun D' R' => AlX (D', R') (stepsF 0 D l c)) (fun _ _ h1 h2 => by rw [h1, h2, eq]; exact ⟨rfl, rfl⟩) ?_)
      rintro n' H' D' R' hn hx
      refine n1 _ _ _ ?_
      clear n1 K1
      repeat' (first | (with_reducible first | refine seq_nil ?_ | refine run_endb ?_ | refine run_fin ?_) | ((with_reducible refine Go.mk ?_); (conv => whnf)) | fail)
      exact st_end h rfl hx hn
    · repeat' (first | (with_reducible first | refine seq_k fun K1 n1 => ?_ | refine seq_nil ?_ | refine drw_k fun K1 n1 => ?_ | refine drw_nil ?_ ?_ | refine inlT_k (by with_unfolding_all rfl) (Nat.le_of_ble_eq_true rfl) fun K1 n1 => ?_ | refine run_seq ?_ | refine run_regS ?_ | refine run_regD (by with_unfolding_all rfl) ?_ ?_ | refine run_cond ?_ | refine run_block ?_) | ((with_reducible refine Go.mk ?_); (conv => whnf)) | refine Fork.no ?_ | refine Fork.decT (by assumption) ?_ | refine Fork.decN (by assumption) ?_ | refine Fork.ndecQ (by assumption) ?_ | refine Way.yesG ?_ | refine Way.noG ?_ | refine Way.decT (by assumption) ?_ | refine Way.decN (by assumption) ?_ | refine Way.ndecQ (by assumption) ?_ | (with_reducible first | refine Need.mkG ?_ ?_) | ((with_reducible refine n1 _ _ _ ?_); clear n1 K1) | ((with_reducible refine n1 _ _ ?_); clear n1 K1) | ((with_reducible refine n1 _ _ _ _ ?_); clear n1 K1) | fail)
      all_goals try (first | exact trivial | omega | kernel_rfl)
      all_goals try dsimp only [Int.toNat_natCast] at *
      refine lax_norm (wstuck_at_1 hg hc (Nat.zero_le _) (X := fun D' R' => AlX (D', R') (stepsF 0 D l c)) (fun _ _ h1 h2 => by rw [h1, h2, eq]; exact ⟨rfl, rfl⟩) ?_)
      rintro n' H' D' R' hn hx
      refine n1 _ _ _ ?_
      clear n1 K1
      repeat' (first | (with_reducible first | refine seq_nil ?_ | refine run_endb ?_ | refine run_fin ?_) | ((with_reducible refine Go.mk ?_); (conv => whnf)) | fail)
      exact st_end h rfl hx hn
set_option maxHeartbeats 1600000 in
theorem st_H6 {t0 t1 t2 : Ty} {v0 : t0.D} {v1 : t1.D} {v2 : t2.D} {D : deskT.D} {l : progsT.D} {c : Int} {i : instrT.D} {n : Nat} {tk : List (Hd × Nat)} (hg : goodK D = true) (hc : 0 ≤ c ∧ c < 2) (hi : fetchF (l c.toNat).2 (D.1 c.toNat).1 = i) (hkeep : ∀ p : StP, p.tk = ((D.1 0).2.2.2.2.1.1, 2) :: ((D.1 1).2.2.2.2.1.1, 2) :: (nilH, 3) :: tk → p.i ≤ 1 → keptD p t0 v0 v0 ∧ keptD p t1 v1 v1 ∧ keptD p t2 v2 v2 ∧ keptD p progsT l l) (hop : i.1 = 6) (h9 : ¬ (D.1 c.toNat).2.2.2.2.2 = 399) : StAt t0 t1 t2 v0 v1 v2 D l c i n tk := by
  intro K h
  have hk := core_ok hc hg
  refine ⟨[.ptr 3 0 [] workT, .of (.leaf .int c), .of (.leaf instrT i)], [.leaf t0 v0, .leaf t1 v1, .leaf t2 v2, .leaf workT (D, l, (nilH, []))], rfl, rfl, ?_⟩
  have e9 : ¬ i.1 = 9 := by rw [hop]; decide
  have e10 : ¬ i.1 = 10 := by rw [hop]; decide
  have e11 : ¬ i.1 = 11 := by rw [hop]; decide
  have e12 : ¬ i.1 = 12 := by rw [hop]; decide
  have g5 : 5 ≤ i.1 := by rw [hop]; decide
  have g7 : i.1 ≤ 7 := by rw [hop]; decide
  have e57 : i.1 = 5 ∨ i.1 = 6 ∨ i.1 = 7 := by rw [hop]; decide
  have et : stepsF 0 D l c = touchT 0 D l c i := by
    unfold stepsF
    rw [hi, if_neg h9, if_neg e9, if_neg e10, if_neg e11, if_pos e57]
  have hr : 0 ≤ i.2.1 ∧ i.2.1 < 8 := by rw [← hi]; exact (fetch_regs _ _).2.2
  by_cases hw : wordF (D.1 c.toNat).1 i < 32
  · have hw' : 0 ≤ wordF (D.1 c.toNat).1 i ∧ wordF (D.1 c.toNat).1 i < 32 := ⟨(wd_rng _).1, hw⟩
    by_cases hd : 0 < (D.1 c.toNat).2.2.1
    · have n0 : ¬ (D.1 c.toNat).2.2.1 = 0 := fun e => by rw [e] at hd; exact absurd hd (by decide)
      have eq : stepsF 0 D l c = inF 0 D l c i (wordF (D.1 c.toNat).1 i) := by
        rw [et]
        unfold touchT
        rw [if_pos hw, if_neg n0]
      repeat' (first | (with_reducible first | refine seq_k fun K1 n1 => ?_ | refine seq_nil ?_ | refine drw_k fun K1 n1 => ?_ | refine drw_nil ?_ ?_ | refine inlT_k (by with_unfolding_all rfl) (Nat.le_of_ble_eq_true rfl) fun K1 n1 => ?_ | refine run_seq ?_ | refine run_regS ?_ | refine run_regD (by with_unfolding_all rfl) ?_ ?_ | refine run_cond ?_ | refine run_block ?_) | ((with_reducible refine Go.mk ?_); (conv => whnf)) | refine Fork.no ?_ | refine Fork.decT (by assumption) ?_ | refine Fork.decN (by assumption) ?_ | refine Fork.ndecP (by assumption) ?_ | refine Way.yesG ?_ | refine Way.noG ?_ | refine Way.decT (by assumption) ?_ | refine Way.decN (by assumption) ?_ | refine Way.ndecP (by assumption) ?_ | (with_reducible first | refine Need.mkG ?_ ?_) | ((with_reducible refine n1 _ _ _ ?_); clear n1 K1) | ((with_reducible refine n1 _ _ ?_); clear n1 K1) | ((with_reducible refine n1 _ _ _ _ ?_); clear n1 K1) | fail)
      all_goals try (first | exact trivial | omega | kernel_rfl)
      all_goals try dsimp only [Int.toNat_natCast] at *
      refine lax_norm (whold_6 hop (fun p h1 h2 => ⟨(hkeep p h1 h2).1, (hkeep p h1 h2).2.1, (hkeep p h1 h2).2.2.1, keptD_nol instrT i rfl, (hkeep p h1 h2).2.2.2⟩) hg hc hd hr hw' (X := fun D' R' => AlX (D', R') (stepsF 0 D l c)) (fun _ _ h1 h2 => by rw [eq]; exact ⟨h1, h2⟩) ?_)
      rintro n' H' D' R' hn hx
      refine n1 _ _ _ ?_
      clear n1 K1
      repeat' (first | (with_reducible first | refine seq_nil ?_ | refine run_endb ?_ | refine run_fin ?_) | ((with_reducible refine Go.mk ?_); (conv => whnf)) | fail)
      exact st_end h rfl hx hn
    · have h0 : (D.1 c.toNat).2.2.1 = 0 := Int.le_antisymm (Int.not_lt.1 hd) hk.lo
      have eq : stepsF 0 D l c = outF D l c i (wordF (D.1 c.toNat).1 i) := by
        rw [et]
        unfold touchT
        rw [if_pos hw, if_pos h0]
      repeat' (first | (with_reducible first | refine seq_k fun K1 n1 => ?_ | refine seq_nil ?_ | refine drw_k fun K1 n1 => ?_ | refine drw_nil ?_ ?_ | refine inlT_k (by with_unfolding_all rfl) (Nat.le_of_ble_eq_true rfl) fun K1 n1 => ?_ | refine run_seq ?_ | refine run_regS ?_ | refine run_regD (by with_unfolding_all rfl) ?_ ?_ | refine run_cond ?_ | refine run_block ?_) | ((with_reducible refine Go.mk ?_); (conv => whnf)) | refine Fork.no ?_ | refine Fork.decT (by assumption) ?_ | refine Fork.decN (by assumption) ?_ | refine Fork.ndecP (by assumption) ?_ | refine Way.yesG ?_ | refine Way.noG ?_ | refine Way.decT (by assumption) ?_ | refine Way.decN (by assumption) ?_ | refine Way.ndecQ (by assumption) ?_ | (with_reducible first | refine Need.mkG ?_ ?_) | ((with_reducible refine n1 _ _ _ ?_); clear n1 K1) | ((with_reducible refine n1 _ _ ?_); clear n1 K1) | ((with_reducible refine n1 _ _ _ _ ?_); clear n1 K1) | fail)
      all_goals try (first | exact trivial | omega | kernel_rfl)
      all_goals try dsimp only [Int.toNat_natCast] at *
      refine lax_norm (wdir_at hg hc h0 hr hw' (X := fun D' R' => AlX (D', R') (stepsF 0 D l c)) (fun _ _ h1 h2 => by rw [h1, h2, eq]; exact ⟨rfl, rfl⟩) ?_)
      rintro n' H' D' R' hn hx
      refine n1 _ _ _ ?_
      clear n1 K1
      repeat' (first | (with_reducible first | refine seq_nil ?_ | refine run_endb ?_ | refine run_fin ?_) | ((with_reducible refine Go.mk ?_); (conv => whnf)) | fail)
      exact st_end h rfl hx hn
  · have eq : stepsF 0 D l c = stuckF D l c := by
      rw [et]
      unfold touchT
      rw [if_neg hw]
    by_cases hd : 0 < (D.1 c.toNat).2.2.1
    · repeat' (first | (with_reducible first | refine seq_k fun K1 n1 => ?_ | refine seq_nil ?_ | refine drw_k fun K1 n1 => ?_ | refine drw_nil ?_ ?_ | refine inlT_k (by with_unfolding_all rfl) (Nat.le_of_ble_eq_true rfl) fun K1 n1 => ?_ | refine run_seq ?_ | refine run_regS ?_ | refine run_regD (by with_unfolding_all rfl) ?_ ?_ | refine run_cond ?_ | refine run_block ?_) | ((with_reducible refine Go.mk ?_); (conv => whnf)) | refine Fork.no ?_ | refine Fork.decT (by assumption) ?_ | refine Fork.decN (by assumption) ?_ | refine Fork.ndecQ (by assumption) ?_ | refine Way.yesG ?_ | refine Way.noG ?_ | refine Way.decT (by assumption) ?_ | refine Way.decN (by assumption) ?_ | refine Way.ndecP (by assumption) ?_ | (with_reducible first | refine Need.mkG ?_ ?_) | ((with_reducible refine n1 _ _ _ ?_); clear n1 K1) | ((with_reducible refine n1 _ _ ?_); clear n1 K1) | ((with_reducible refine n1 _ _ _ _ ?_); clear n1 K1) | fail)
      all_goals try (first | exact trivial | omega | kernel_rfl)
      all_goals try dsimp only [Int.toNat_natCast] at *
      refine lax_norm (wstuck_at_1 hg hc (Nat.zero_le _) (X := fun D' R' => AlX (D', R') (stepsF 0 D l c)) (fun _ _ h1 h2 => by rw [h1, h2, eq]; exact ⟨rfl, rfl⟩) ?_)
      rintro n' H' D' R' hn hx
      refine n1 _ _ _ ?_
      clear n1 K1
      repeat' (first | (with_reducible first | refine seq_nil ?_ | refine run_endb ?_ | refine run_fin ?_) | ((with_reducible refine Go.mk ?_); (conv => whnf)) | fail)
      exact st_end h rfl hx hn
    · repeat' (first | (with_reducible first | refine seq_k fun K1 n1 => ?_ | refine seq_nil ?_ | refine drw_k fun K1 n1 => ?_ | refine drw_nil ?_ ?_ | refine inlT_k (by with_unfolding_all rfl) (Nat.le_of_ble_eq_true rfl) fun K1 n1 => ?_ | refine run_seq ?_ | refine run_regS ?_ | refine run_regD (by with_unfolding_all rfl) ?_ ?_ | refine run_cond ?_ | refine run_block ?_) | ((with_reducible refine Go.mk ?_); (conv => whnf)) | refine Fork.no ?_ | refine Fork.decT (by assumption) ?_ | refine Fork.decN (by assumption) ?_ | refine Fork.ndecQ (by assumption) ?_ | refine Way.yesG ?_ | refine Way.noG ?_ | refine Way.decT (by assumption) ?_ | refine Way.decN (by assumption) ?_ | refine Way.ndecQ (by assumption) ?_ | (with_reducible first | refine Need.mkG ?_ ?_) | ((with_reducible refine n1 _ _ _ ?_); clear n1 K1) | ((with_reducible refine n1 _ _ ?_); clear n1 K1) | ((with_reducible refine n1 _ _ _ _ ?_); clear n1 K1) | fail)
      all_goals try (first | exact trivial | omega | kernel_rfl)
      all_goals try dsimp only [Int.toNat_natCast] at *
      refine lax_norm (wstuck_at_1 hg hc (Nat.zero_le _) (X := fun D' R' => AlX (D', R') (stepsF 0 D l c)) (fun _ _ h1 h2 => by rw [h1, h2, eq]; exact ⟨rfl, rfl⟩) ?_)
      rintro n' H' D' R' hn hx
      refine n1 _ _ _ ?_
      clear n1 K1
      repeat' (first | (with_reducible first | refine seq_nil ?_ | refine run_endb ?_ | refine run_fin ?_) | ((with_reducible refine Go.mk ?_); (conv => whnf)) | fail)
      exact st_end h rfl hx hn
set_option maxHeartbeats 1600000 in
theorem st_H7 {t0 t1 t2 : Ty} {v0 : t0.D} {v1 : t1.D} {v2 : t2.D} {D : deskT.D} {l : progsT.D} {c : Int} {i : instrT.D} {n : Nat} {tk : List (Hd × Nat)} (hg : goodK D = true) (hc : 0 ≤ c ∧ c < 2) (hi : fetchF (l c.toNat).2 (D.1 c.toNat).1 = i) (hkeep : ∀ p : StP, p.tk = ((D.1 0).2.2.2.2.1.1, 2) :: ((D.1 1).2.2.2.2.1.1, 2) :: (nilH, 3) :: tk → p.i ≤ 1 → keptD p t0 v0 v0 ∧ keptD p t1 v1 v1 ∧ keptD p t2 v2 v2 ∧ keptD p progsT l l) (hop : i.1 = 7) (h9 : ¬ (D.1 c.toNat).2.2.2.2.2 = 399) : StAt t0 t1 t2 v0 v1 v2 D l c i n tk := by
  intro K h
  have hk := core_ok hc hg
  refine ⟨[.ptr 3 0 [] workT, .of (.leaf .int c), .of (.leaf instrT i)], [.leaf t0 v0, .leaf t1 v1, .leaf t2 v2, .leaf workT (D, l, (nilH, []))], rfl, rfl, ?_⟩
  have e9 : ¬ i.1 = 9 := by rw [hop]; decide
  have e10 : ¬ i.1 = 10 := by rw [hop]; decide
  have e11 : ¬ i.1 = 11 := by rw [hop]; decide
  have e12 : ¬ i.1 = 12 := by rw [hop]; decide
  have g5 : 5 ≤ i.1 := by rw [hop]; decide
  have g7 : i.1 ≤ 7 := by rw [hop]; decide
  have e57 : i.1 = 5 ∨ i.1 = 6 ∨ i.1 = 7 := by rw [hop]; decide
  have et : stepsF 0 D l c = touchT 0 D l c i := by
    unfold stepsF
    rw [hi, if_neg h9, if_neg e9, if_neg e10, if_neg e11, if_pos e57]
  have hr : 0 ≤ i.2.1 ∧ i.2.1 < 8 := by rw [← hi]; exact (fetch_regs _ _).2.2
  by_cases hw : wordF (D.1 c.toNat).1 i < 32
  · have hw' : 0 ≤ wordF (D.1 c.toNat).1 i ∧ wordF (D.1 c.toNat).1 i < 32 := ⟨(wd_rng _).1, hw⟩
    by_cases hd : 0 < (D.1 c.toNat).2.2.1
    · have n0 : ¬ (D.1 c.toNat).2.2.1 = 0 := fun e => by rw [e] at hd; exact absurd hd (by decide)
      have eq : stepsF 0 D l c = inF 0 D l c i (wordF (D.1 c.toNat).1 i) := by
        rw [et]
        unfold touchT
        rw [if_pos hw, if_neg n0]
      repeat' (first | (with_reducible first | refine seq_k fun K1 n1 => ?_ | refine seq_nil ?_ | refine drw_k fun K1 n1 => ?_ | refine drw_nil ?_ ?_ | refine inlT_k (by with_unfolding_all rfl) (Nat.le_of_ble_eq_true rfl) fun K1 n1 => ?_ | refine run_seq ?_ | refine run_regS ?_ | refine run_regD (by with_unfolding_all rfl) ?_ ?_ | refine run_cond ?_ | refine run_block ?_) | ((with_reducible refine Go.mk ?_); (conv => whnf)) | refine Fork.no ?_ | refine Fork.decT (by assumption) ?_ | refine Fork.decN (by assumption) ?_ | refine Fork.ndecP (by assumption) ?_ | refine Way.yesG ?_ | refine Way.noG ?_ | refine Way.decT (by assumption) ?_ | refine Way.decN (by assumption) ?_ | refine Way.ndecP (by assumption) ?_ | (with_reducible first | refine Need.mkG ?_ ?_) | ((with_reducible refine n1 _ _ _ ?_); clear n1 K1) | ((with_reducible refine n1 _ _ ?_); clear n1 K1) | ((with_reducible refine n1 _ _ _ _ ?_); clear n1 K1) | fail)
      all_goals try (first | exact trivial | omega | kernel_rfl)
      all_goals try dsimp only [Int.toNat_natCast] at *
      refine lax_norm (whold_7 hop (fun p h1 h2 => ⟨(hkeep p h1 h2).1, (hkeep p h1 h2).2.1, (hkeep p h1 h2).2.2.1, keptD_nol instrT i rfl, (hkeep p h1 h2).2.2.2⟩) hg hc hd hr hw' (X := fun D' R' => AlX (D', R') (stepsF 0 D l c)) (fun _ _ h1 h2 => by rw [eq]; exact ⟨h1, h2⟩) ?_)
      rintro n' H' D' R' hn hx
      refine n1 _ _ _ ?_
      clear n1 K1
      repeat' (first | (with_reducible first | refine seq_nil ?_ | refine run_endb ?_ | refine run_fin ?_) | ((with_reducible refine Go.mk ?_); (conv => whnf)) | fail)
      exact st_end h rfl hx hn
    · have h0 : (D.1 c.toNat).2.2.1 = 0 := Int.le_antisymm (Int.not_lt.1 hd) hk.lo
      have eq : stepsF 0 D l c = outF D l c i (wordF (D.1 c.toNat).1 i) := by
        rw [et]
        unfold touchT
        rw [if_pos hw, if_pos h0]
      repeat' (first | (with_reducible first | refine seq_k fun K1 n1 => ?_ | refine seq_nil ?_ | refine drw_k fun K1 n1 => ?_ | refine drw_nil ?_ ?_ | refine inlT_k (by with_unfolding_all rfl) (Nat.le_of_ble_eq_true rfl) fun K1 n1 => ?_ | refine run_seq ?_ | refine run_regS ?_ | refine run_regD (by with_unfolding_all rfl) ?_ ?_ | refine run_cond ?_ | refine run_block ?_) | ((with_reducible refine Go.mk ?_); (conv => whnf)) | refine Fork.no ?_ | refine Fork.decT (by assumption) ?_ | refine Fork.decN (by assumption) ?_ | refine Fork.ndecP (by assumption) ?_ | refine Way.yesG ?_ | refine Way.noG ?_ | refine Way.decT (by assumption) ?_ | refine Way.decN (by assumption) ?_ | refine Way.ndecQ (by assumption) ?_ | (with_reducible first | refine Need.mkG ?_ ?_) | ((with_reducible refine n1 _ _ _ ?_); clear n1 K1) | ((with_reducible refine n1 _ _ ?_); clear n1 K1) | ((with_reducible refine n1 _ _ _ _ ?_); clear n1 K1) | fail)
      all_goals try (first | exact trivial | omega | kernel_rfl)
      all_goals try dsimp only [Int.toNat_natCast] at *
      refine lax_norm (wdir_at hg hc h0 hr hw' (X := fun D' R' => AlX (D', R') (stepsF 0 D l c)) (fun _ _ h1 h2 => by rw [h1, h2, eq]; exact ⟨rfl, rfl⟩) ?_)
      rintro n' H' D' R' hn hx
      refine n1 _ _ _ ?_
      clear n1 K1
      repeat' (first | (with_reducible first | refine seq_nil ?_ | refine run_endb ?_ | refine run_fin ?_) | ((with_reducible refine Go.mk ?_); (conv => whnf)) | fail)
      exact st_end h rfl hx hn
  · have eq : stepsF 0 D l c = stuckF D l c := by
      rw [et]
      unfold touchT
      rw [if_neg hw]
    by_cases hd : 0 < (D.1 c.toNat).2.2.1
    · repeat' (first | (with_reducible first | refine seq_k fun K1 n1 => ?_ | refine seq_nil ?_ | refine drw_k fun K1 n1 => ?_ | refine drw_nil ?_ ?_ | refine inlT_k (by with_unfolding_all rfl) (Nat.le_of_ble_eq_true rfl) fun K1 n1 => ?_ | refine run_seq ?_ | refine run_regS ?_ | refine run_regD (by with_unfolding_all rfl) ?_ ?_ | refine run_cond ?_ | refine run_block ?_) | ((with_reducible refine Go.mk ?_); (conv => whnf)) | refine Fork.no ?_ | refine Fork.decT (by assumption) ?_ | refine Fork.decN (by assumption) ?_ | refine Fork.ndecQ (by assumption) ?_ | refine Way.yesG ?_ | refine Way.noG ?_ | refine Way.decT (by assumption) ?_ | refine Way.decN (by assumption) ?_ | refine Way.ndecP (by assumption) ?_ | (with_reducible first | refine Need.mkG ?_ ?_) | ((with_reducible refine n1 _ _ _ ?_); clear n1 K1) | ((with_reducible refine n1 _ _ ?_); clear n1 K1) | ((with_reducible refine n1 _ _ _ _ ?_); clear n1 K1) | fail)
      all_goals try (first | exact trivial | omega | kernel_rfl)
      all_goals try dsimp only [Int.toNat_natCast] at *
      refine lax_norm (wstuck_at_1 hg hc (Nat.zero_le _) (X := fun D' R' => AlX (D', R') (stepsF 0 D l c)) (fun _ _ h1 h2 => by rw [h1, h2, eq]; exact ⟨rfl, rfl⟩) ?_)
      rintro n' H' D' R' hn hx
      refine n1 _ _ _ ?_
      clear n1 K1
      repeat' (first | (with_reducible first | refine seq_nil ?_ | refine run_endb ?_ | refine run_fin ?_) | ((with_reducible refine Go.mk ?_); (conv => whnf)) | fail)
      exact st_end h rfl hx hn
    · repeat' (first | (with_reducible first | refine seq_k fun K1 n1 => ?_ | refine seq_nil ?_ | refine drw_k fun K1 n1 => ?_ | refine drw_nil ?_ ?_ | refine inlT_k (by with_unfolding_all rfl) (Nat.le_of_ble_eq_true rfl) fun K1 n1 => ?_ | refine run_seq ?_ | refine run_regS ?_ | refine run_regD (by with_unfolding_all rfl) ?_ ?_ | refine run_cond ?_ | refine run_block ?_) | ((with_reducible refine Go.mk ?_); (conv => whnf)) | refine Fork.no ?_ | refine Fork.decT (by assumption) ?_ | refine Fork.decN (by assumption) ?_ | refine Fork.ndecQ (by assumption) ?_ | refine Way.yesG ?_ | refine Way.noG ?_ | refine Way.decT (by assumption) ?_ | refine Way.decN (by assumption) ?_ | refine Way.ndecQ (by assumption) ?_ | (with_reducible first | refine Need.mkG ?_ ?_) | ((with_reducible refine n1 _ _ _ ?_); clear n1 K1) | ((with_reducible refine n1 _ _ ?_); clear n1 K1) | ((with_reducible refine n1 _ _ _ _ ?_); clear n1 K1) | fail)
      all_goals try (first | exact trivial | omega | kernel_rfl)
      all_goals try dsimp only [Int.toNat_natCast] at *
      refine lax_norm (wstuck_at_1 hg hc (Nat.zero_le _) (X := fun D' R' => AlX (D', R') (stepsF 0 D l c)) (fun _ _ h1 h2 => by rw [h1, h2, eq]; exact ⟨rfl, rfl⟩) ?_)
      rintro n' H' D' R' hn hx
      refine n1 _ _ _ ?_
      clear n1 K1
      repeat' (first | (with_reducible first | refine seq_nil ?_ | refine run_endb ?_ | refine run_fin ?_) | ((with_reducible refine Go.mk ?_); (conv => whnf)) | fail)
      exact st_end h rfl hx hn
end Go.Proofs.YtjbbgpacijageacGreat.M
