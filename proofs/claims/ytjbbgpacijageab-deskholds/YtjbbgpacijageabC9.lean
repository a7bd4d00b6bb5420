/- Package cache: Own, Write. -/
import Derived.Test.YtjbbgpacijageabC8
namespace Go.Proofs.Ytjbbgpacijageab.M
open Go.RowKit
set_option linter.unusedVariables false
set_option linter.unusedSimpArgs false

def alone1 (d : deskT.D) (c w : Nat) (n : Int) : deskT.D := if hasL (lineAt d (1 - c) w) n = true then setLine d (1 - c) w lineT.zero else d
def alone2 (d : deskT.D) (c w : Nat) : deskT.D := if (lineAt d c w).1 = 1 then setLine d c w (2, (lineAt d c w).2) else d
def aloneD (d : deskT.D) (c w : Nat) (n : Int) : deskT.D := alone2 (alone1 d c w n) c w
def ownF (d : deskT.D) (c n : Int) : deskT.D :=
  if goodD (shareF d c n) = true ∧ (findF (shareF d c n) c n).2 = true then aloneD (shareF d c n) c.toNat (findF (shareF d c n) c n).1.toNat n else shareF d c n
abbrev ownS : Spec := pureS [deskT, .int, .int] [deskT] fun d => (ownF d.1 d.2.1 d.2.2.1, ())
theorem find_yes {d : deskT.D} {c n : Int} (h : (findF d c n).2 = true) : (0 ≤ c ∧ c < 2) ∧ (0 ≤ n ∧ n < 16) := by
  unfold findF at h
  split at h
  · assumption
  · cases h
theorem c_Own : Ctr Try.prog 17 ownS := by
  refine ctr_of tabOk (SpecsOk.cons c_Good (by kernel_rfl) (SpecsOk.cons c_Share (by kernel_rfl) (SpecsOk.cons c_Find (by kernel_rfl) (SpecsOk.cons c_other (by kernel_rfl) (SpecsOk.cons c_has (by kernel_rfl) (SpecsOk.nil _)))))) Try.func17 rfl _ (Nat.le_of_ble_eq_true rfl) (fun _ _ => rfl) ?_
  rintro nn ⟨d, (c : Int), (n : Int), ⟨⟩⟩ _ _
  refine ⟨200, init_k fun K1 n1 => ?_⟩
  conv => whnf
  refine n1 _ ?_
  clear n1 K1
  repeat' (first | with_reducible refine seq_k fun K1 n1 => ?_ | with_reducible refine seq_nil ?_ | with_reducible refine drw_k fun K1 n1 => ?_ | with_reducible refine drw_nil ?_ ?_ | with_reducible refine run_seq ?_ | with_reducible refine run_skip ?_ | with_reducible refine run_regS ?_ | with_reducible refine run_regD (by kernel_rfl) ?_ ?_ | with_reducible refine inl_k (by with_unfolding_all rfl) (Nat.le_of_ble_eq_true rfl) fun K1 n1 => ?_ | with_reducible refine inlA_k (by with_unfolding_all rfl) (Nat.le_of_ble_eq_true rfl) fun K1 n1 => ?_ | with_reducible refine run_finA ?_ | with_reducible refine run_cond ?_ | with_reducible refine run_block ?_ | with_reducible refine run_endb ?_ | with_reducible refine run_exit fun K1 n1 => ?_ | with_reducible refine run_ret fun K1 n1 => ?_ | with_reducible refine run_fin ?_ | with_reducible refine run_inv ?_ | with_reducible refine go_rounds ?_ | ((with_reducible refine Go.mk ?_); (conv => whnf)) | refine Fork.yes ?_ | refine Fork.no ?_ | refine Fork.dec (fun _ => ?_) (fun _ => ?_) | refine Fork.ndec (fun _ => ?_) (fun _ => ?_) | refine Fork.mk (fun _ => ?_) (fun _ => ?_) | refine Way.yesG ?_ | refine Way.noG ?_ | refine Way.decG (fun _ => ?_) (fun _ => ?_) | refine Way.ndecG (fun _ => ?_) (fun _ => ?_) | refine Way.mkG (fun _ => ?_) (fun _ => ?_) | with_reducible refine Need.mkG ?_ ?_ | refine AppW.go0 ?_ ?_ | with_reducible refine NilW.goG (fun _ => ?_) ?_ | ((with_reducible refine n1 _ _ _ ?_); clear n1 K1) | ((with_reducible refine n1 _ ?_); clear n1 K1) | ((with_reducible refine n1 _ _ ?_); clear n1 K1) | ((with_reducible refine n1 _ _ _ _ ?_); clear n1 K1) | fail)
  all_goals try (first | exact trivial | omega | kernel_rfl | decide | exact And.intro (by omega) (by omega))
  all_goals try dsimp only [Int.toNat_natCast] at *
  all_goals try (first | exact trivial | omega | exact And.intro (by omega) (by omega))
  · refine Done.of ?_ (Or.inr (Nat.le_refl _))
    show (_, ()) = (ownF d c n, ())
    unfold ownF
    rw [if_neg (by rename_i h; rw [not_t h]; simp)]
  · refine Done.of ?_ (Or.inr (Nat.le_refl _))
    show (_, ()) = (ownF d c n, ())
    unfold ownF
    rw [if_neg (by rename_i h; rw [not_t h]; simp)]
  all_goals
    have h1 : (!goodD (shareF d c n)) = false := by assumption
    have h2 : (!(findF (shareF d c n) c n).2) = false := by assumption
    have h3 := find_yes (not_f h2)
    try simp only [other_eq h3.1, other_nat h3.1] at *
  · exact h3.1
  · exact find_range _ _ _
  · exact (show @LE.le Int _ 0 (1 - c) ∧ @LT.lt Int _ (1 - c) 2 from ⟨by omega, by omega⟩)
  · exact find_range _ _ _
  all_goals
    refine Done.of ?_ (Or.inr (Nat.le_refl _))
    show (_, ()) = (ownF d c n, ())
    unfold ownF
    rw [if_pos ⟨not_f h1, not_f h2⟩]
    unfold aloneD alone1
  · rename_i h5 h6
    rw [if_pos (show hasL (lineAt (shareF d c n) (1 - c.toNat) (findF (shareF d c n) c n).1.toNat) n = true from decide_eq_true h5)]
    unfold alone2
    rw [if_pos (show (lineAt (setLine (shareF d c n) (1 - c.toNat) (findF (shareF d c n) c n).1.toNat lineT.zero) c.toNat (findF (shareF d c n) c n).1.toNat).1 = 1 from h6)]
    rfl
  · rename_i h5 h6
    rw [if_pos (show hasL (lineAt (shareF d c n) (1 - c.toNat) (findF (shareF d c n) c n).1.toNat) n = true from decide_eq_true h5)]
    unfold alone2
    rw [if_neg (show ¬ (lineAt (setLine (shareF d c n) (1 - c.toNat) (findF (shareF d c n) c n).1.toNat lineT.zero) c.toNat (findF (shareF d c n) c n).1.toNat).1 = 1 from h6)]
    rfl
  · rename_i h6 h5
    rw [if_neg (by rw [show hasL (lineAt (shareF d c n) (1 - c.toNat) (findF (shareF d c n) c n).1.toNat) n = false from decide_eq_false h5]; decide)]
    unfold alone2
    rw [if_pos (show (lineAt (shareF d c n) c.toNat (findF (shareF d c n) c n).1.toNat).1 = 1 from h6)]
    rfl
  · rename_i h6 h5
    rw [if_neg (by rw [show hasL (lineAt (shareF d c n) (1 - c.toNat) (findF (shareF d c n) c n).1.toNat) n = false from decide_eq_false h5]; decide)]
    unfold alone2
    rw [if_neg (show ¬ (lineAt (shareF d c n) c.toNat (findF (shareF d c n) c n).1.toNat).1 = 1 from h6)]
def putW (d : deskT.D) (c w i : Nat) (n : Int) : deskT.D := setLine d c w ((lineAt d c w).1, (lineAt d c w).2.1, updA (lineAt d c w).2.2.1 i n, (lineAt d c w).2.2.2)
def setM (d : deskT.D) (c w : Nat) : deskT.D := setLine d c w (3, (lineAt d c w).2)
def writeF (d : deskT.D) (c word n : Int) : deskT.D :=
  if goodD d = true ∧ (0 ≤ word ∧ word < 32) ∧ (0 ≤ n ∧ n ≤ 4294967295) then
    if (findF d c (word.tdiv 2)).2 = true ∧ (lineAt d c.toNat (findF d c (word.tdiv 2)).1.toNat).1 ≠ 1 then
      setM (putW d c.toNat (findF d c (word.tdiv 2)).1.toNat (word.tmod 2).toNat n) c.toNat (findF d c (word.tdiv 2)).1.toNat
    else d
  else d
theorem half_eq {word : Int} (h : 0 ≤ word ∧ word < 32) : wrap64 (word.tdiv 2) = word.tdiv 2 := wrap_id (by rw [Int.tdiv_eq_ediv_of_nonneg h.1]; omega)
abbrev writeS : Spec := pureS [deskT, .int, .int, .int] [deskT] fun d => (writeF d.1 d.2.1 d.2.2.1 d.2.2.2.1, ())
theorem c_Write : Ctr Try.prog 19 writeS := by
  refine ctr_of tabOk (SpecsOk.cons c_Good (by kernel_rfl) (SpecsOk.cons c_isPlace (by kernel_rfl) (SpecsOk.cons c_isWord (by kernel_rfl) (SpecsOk.cons c_Find (by kernel_rfl) (SpecsOk.nil _))))) Try.func19 rfl _ (Nat.le_of_ble_eq_true rfl) (fun _ _ => rfl) ?_
  rintro nn ⟨d, (c : Int), (word : Int), (n : Int), ⟨⟩⟩ _ _
  refine ⟨200, init_k fun K1 n1 => ?_⟩
  conv => whnf
  refine n1 _ ?_
  clear n1 K1
  repeat' (first | with_reducible refine seq_k fun K1 n1 => ?_ | with_reducible refine seq_nil ?_ | with_reducible refine drw_k fun K1 n1 => ?_ | with_reducible refine drw_nil ?_ ?_ | with_reducible refine run_seq ?_ | with_reducible refine run_skip ?_ | with_reducible refine run_regS ?_ | with_reducible refine run_regD (by kernel_rfl) ?_ ?_ | with_reducible refine inl_k (by with_unfolding_all rfl) (Nat.le_of_ble_eq_true rfl) fun K1 n1 => ?_ | with_reducible refine inlA_k (by with_unfolding_all rfl) (Nat.le_of_ble_eq_true rfl) fun K1 n1 => ?_ | with_reducible refine run_finA ?_ | with_reducible refine run_cond ?_ | with_reducible refine run_block ?_ | with_reducible refine run_endb ?_ | with_reducible refine run_exit fun K1 n1 => ?_ | with_reducible refine run_ret fun K1 n1 => ?_ | with_reducible refine run_fin ?_ | with_reducible refine run_inv ?_ | with_reducible refine go_rounds ?_ | ((with_reducible refine Go.mk ?_); (conv => whnf)) | refine Fork.yes ?_ | refine Fork.no ?_ | refine Fork.dec (fun _ => ?_) (fun _ => ?_) | refine Fork.ndec (fun _ => ?_) (fun _ => ?_) | refine Fork.mk (fun _ => ?_) (fun _ => ?_) | refine Way.yesG ?_ | refine Way.noG ?_ | refine Way.decG (fun _ => ?_) (fun _ => ?_) | refine Way.ndecG (fun _ => ?_) (fun _ => ?_) | refine Way.mkG (fun _ => ?_) (fun _ => ?_) | with_reducible refine Need.mkG ?_ ?_ | refine AppW.go0 ?_ ?_ | with_reducible refine NilW.goG (fun _ => ?_) ?_ | ((with_reducible refine n1 _ _ _ ?_); clear n1 K1) | ((with_reducible refine n1 _ ?_); clear n1 K1) | ((with_reducible refine n1 _ _ ?_); clear n1 K1) | ((with_reducible refine n1 _ _ _ _ ?_); clear n1 K1) | fail)
  all_goals try (first | exact trivial | omega | kernel_rfl | decide | exact And.intro (by omega) (by omega))
  all_goals try dsimp only [Int.toNat_natCast] at *
  all_goals try (first | exact trivial | omega | exact And.intro (by omega) (by omega))
  · refine Done.of ?_ (Or.inr (Nat.le_refl _))
    show (_, ()) = (writeF d c word n, ())
    unfold writeF
    rw [if_neg (by rename_i h; rw [not_t h]; simp)]
  · refine Done.of ?_ (Or.inr (Nat.le_refl _))
    show (_, ()) = (writeF d c word n, ())
    unfold writeF
    rw [if_neg (by rename_i h; exact fun g => h g.2.1)]
  · refine Done.of ?_ (Or.inr (Nat.le_refl _))
    show (_, ()) = (writeF d c word n, ())
    unfold writeF
    rw [if_neg (by rename_i h; exact fun g => h g.2.2)]
  all_goals
    have h1 : (!goodD d) = false := by assumption
    have h2 : 0 ≤ word ∧ word < 32 := by assumption
    have h3 : 0 ≤ n ∧ n ≤ 4294967295 := by assumption
    try simp only [half_eq h2] at *
  · refine Done.of ?_ (Or.inr (Nat.le_refl _))
    show (_, ()) = (writeF d c word n, ())
    unfold writeF
    rw [if_pos ⟨not_f h1, h2, h3⟩, if_neg (by rename_i h; rw [not_t h]; simp)]
  all_goals
    have h4 : (!(findF d c (word.tdiv 2)).2) = false := by assumption
    have h5 := find_yes (not_f h4)
  · exact h5.1
  · exact find_range _ _ _
  · refine Done.of ?_ (Or.inr (Nat.le_refl _))
    show (_, ()) = (writeF d c word n, ())
    unfold writeF
    rw [if_pos ⟨not_f h1, h2, h3⟩, if_neg (by rename_i h; exact fun g => g.2 h)]
  · exact h5.1
  · exact find_range _ _ _
  · exact tmod2 h2.1
  · refine Done.of ?_ (Or.inr (Nat.le_refl _))
    show (_, ()) = (writeF d c word n, ())
    unfold writeF
    rw [if_pos ⟨not_f h1, h2, h3⟩, if_pos ⟨not_f h4, by rename_i h; exact h⟩]
    rfl
end Go.Proofs.Ytjbbgpacijageab.M
