/- The document's own functions on caches: a line for oneself alone. -/
import Derived.Test.YtjbbgpacijageaaR12
namespace Go.Proofs.Ytjbbgpacijageaa.M
open Go.RowKit
set_option linter.unusedVariables false
set_option linter.unusedSimpArgs false

theorem own_same {d : deskT.D} {c n : Int} (h : ¬ (goodD d = true ∧ (0 ≤ c ∧ c < 2) ∧ (0 ≤ n ∧ n < 16))) : ownF d c n = d := by
  have e : shareF d c n = d := by
    unfold shareF
    rw [if_neg h]
  unfold ownF
  rw [e, if_neg]
  rintro ⟨h1, h2⟩
  exact h ⟨h1, find_yes h2⟩
theorem own_alone {d : deskT.D} {c n : Int} (h1 : goodD d = true) (h2 : 0 ≤ c ∧ c < 2) (h3 : 0 ≤ n ∧ n < 16) : ownF d c n = aloneD (shareF d c n) c.toNat (wayOf n) n := by
  obtain ⟨o1, _, o3⟩ := shareF_ok h1 c n
  have o4 := o3 h2 h3
  unfold ownF
  rw [find_eq h2 h3, if_pos ⟨o1, o4⟩]
  rfl
set_option maxHeartbeats 1600000 in
theorem c_OwnLine : Ctr Try.prog 60 ownS := by
  refine ctr_of tabOk (SpecsOk.cons c_GoodCaches (by kernel_rfl) (SpecsOk.cons c_FindLine (by kernel_rfl) (SpecsOk.cons c_ShareLine (by kernel_rfl) (SpecsOk.nil _)))) Try.func60 rfl _ (Nat.le_of_ble_eq_true rfl) (fun _ _ => rfl) ?_
  rintro nn ⟨d, (c : Int), (n : Int), ⟨⟩⟩ _ _
  refine ⟨200, init_k fun K1 n1 => ?_⟩
  conv => whnf
  refine n1 _ ?_
  clear n1 K1
  repeat' (first | with_reducible refine seq_k fun K1 n1 => ?_ | with_reducible refine seq_nil ?_ | with_reducible refine drw_k fun K1 n1 => ?_ | with_reducible refine drw_nil ?_ ?_ | with_reducible refine run_seq ?_ | with_reducible refine run_skip ?_ | with_reducible refine run_regS ?_ | with_reducible refine run_regD (by kernel_rfl) ?_ ?_ | with_reducible refine inl_k (by with_unfolding_all rfl) (Nat.le_of_ble_eq_true rfl) fun K1 n1 => ?_ | with_reducible refine inlA_k (by with_unfolding_all rfl) (Nat.le_of_ble_eq_true rfl) fun K1 n1 => ?_ | with_reducible refine run_finA ?_ | with_reducible refine run_cond ?_ | with_reducible refine run_block ?_ | with_reducible refine run_endb ?_ | with_reducible refine run_exit fun K1 n1 => ?_ | with_reducible refine run_ret fun K1 n1 => ?_ | with_reducible refine run_fin ?_ | with_reducible refine run_inv ?_ | with_reducible refine go_rounds ?_ | ((with_reducible refine Go.mk ?_); (conv => whnf)) | refine Fork.yes ?_ | refine Fork.no ?_ | refine Fork.dec (fun _ => ?_) (fun _ => ?_) | refine Fork.ndec (fun _ => ?_) (fun _ => ?_) | refine Fork.mk (fun _ => ?_) (fun _ => ?_) | refine Way.yesG ?_ | refine Way.noG ?_ | refine Way.decG (fun _ => ?_) (fun _ => ?_) | refine Way.ndecG (fun _ => ?_) (fun _ => ?_) | refine Way.mkG (fun _ => ?_) (fun _ => ?_) | with_reducible refine Need.mkG ?_ ?_ | refine AppW.go0 ?_ ?_ | with_reducible refine NilW.goG (fun _ => ?_) ?_ | ((with_reducible refine n1 _ _ _ ?_); clear n1 K1) | ((with_reducible refine n1 _ ?_); clear n1 K1) | ((with_reducible refine n1 _ _ ?_); clear n1 K1) | ((with_reducible refine n1 _ _ _ _ ?_); clear n1 K1) | fail)
  all_goals try (first | exact trivial | omega | kernel_rfl | decide | exact And.intro (by omega) (by omega))
  all_goals try dsimp only [Int.toNat_natCast] at *
  all_goals try (first | exact trivial | omega | exact And.intro (by omega) (by omega))
  all_goals first
    | exact (show 0 ≤ c ∧ c < ((2 : Nat) : Int) from ⟨by omega, by omega⟩)
    | exact find_range _ _ _
    | exact tmod4 (by omega)
    | (rw [other_eq (show 0 ≤ c ∧ c < 2 from ⟨by omega, by omega⟩)]; exact (show 0 ≤ 1 - c ∧ 1 - c < ((2 : Nat) : Int) from ⟨by omega, by omega⟩))
    | (have h4 : (findF (shareF d c n) (wrap64 (1 - c)) n).2 = true := by assumption
       skip)
    | (have h4 : (findF (shareF d c n) (wrap64 (1 - c)) n).2 = false := by assumption
       skip)
    | (refine Done.of ?_ (Or.inr (Nat.le_refl _))
       show (_, ()) = (ownF d c n, ())
       rw [own_same (by first | omega | (have h : (!goodD d) = true := by assumption
                                         rw [not_t h]; simp))])
  all_goals
    have hg : goodD d = true := not_f (by assumption)
    have h2 : 0 ≤ c ∧ c < 2 := ⟨by omega, by omega⟩
    have h3 : 0 ≤ n ∧ n < 16 := ⟨by omega, by omega⟩
    have hfo := find_eq (d := shareF d c n) (c := 1 - c) (n := n) (by omega) h3
    have hno := other_nat h2
    simp only [other_eq h2, hno, hfo] at *
    refine Done.of ?_ (Or.inr (Nat.le_refl _))
    show (_, ()) = (ownF d c n, ())
    rw [own_alone hg h2 h3]
    unfold aloneD alone1
  · have h5 : hasL (lineAt (shareF d c n) (1 - c.toNat) (wayOf n)) n = true := by assumption
    have h6 : (lineAt (setLine (shareF d c n) (1 - c.toNat) (wayOf n) lineT.zero) c.toNat (wayOf n)).1 = 1 := by assumption
    rw [if_pos h5]
    unfold alone2
    rw [if_pos h6]
    try rfl
  · have h5 : hasL (lineAt (shareF d c n) (1 - c.toNat) (wayOf n)) n = true := by assumption
    have h6 : ¬ (lineAt (setLine (shareF d c n) (1 - c.toNat) (wayOf n) lineT.zero) c.toNat (wayOf n)).1 = 1 := by assumption
    rw [if_pos h5]
    unfold alone2
    rw [if_neg h6]
    try rfl
  · have h5 : hasL (lineAt (shareF d c n) (1 - c.toNat) (wayOf n)) n = false := by assumption
    have h6 : (lineAt (shareF d c n) c.toNat (wayOf n)).1 = 1 := by assumption
    rw [if_neg (by rw [h5]; decide)]
    unfold alone2
    rw [if_pos h6]
    try rfl
  · have h5 : hasL (lineAt (shareF d c n) (1 - c.toNat) (wayOf n)) n = false := by assumption
    have h6 : ¬ (lineAt (shareF d c n) c.toNat (wayOf n)).1 = 1 := by assumption
    rw [if_neg (by rw [h5]; decide)]
    unfold alone2
    rw [if_neg h6]
    try rfl
  · have h5 : hasL (lineAt (shareF d c n) (1 - c.toNat) (wayOf n)) n = true := by assumption
    have h6 : (lineAt (setLine (shareF d c n) (1 - c.toNat) (wayOf n) lineT.zero) c.toNat (wayOf n)).1 = 1 := by assumption
    rw [if_pos h5]
    unfold alone2
    rw [if_pos h6]
    try rfl
  · have h5 : hasL (lineAt (shareF d c n) (1 - c.toNat) (wayOf n)) n = true := by assumption
    have h6 : ¬ (lineAt (setLine (shareF d c n) (1 - c.toNat) (wayOf n) lineT.zero) c.toNat (wayOf n)).1 = 1 := by assumption
    rw [if_pos h5]
    unfold alone2
    rw [if_neg h6]
    try rfl
  · have h5 : hasL (lineAt (shareF d c n) (1 - c.toNat) (wayOf n)) n = false := by assumption
    have h6 : (lineAt (shareF d c n) c.toNat (wayOf n)).1 = 1 := by assumption
    rw [if_neg (by rw [h5]; decide)]
    unfold alone2
    rw [if_pos h6]
    try rfl
  · have h5 : hasL (lineAt (shareF d c n) (1 - c.toNat) (wayOf n)) n = false := by assumption
    have h6 : ¬ (lineAt (shareF d c n) c.toNat (wayOf n)).1 = 1 := by assumption
    rw [if_neg (by rw [h5]; decide)]
    unfold alone2
    rw [if_neg h6]
    try rfl
end Go.Proofs.Ytjbbgpacijageaa.M
