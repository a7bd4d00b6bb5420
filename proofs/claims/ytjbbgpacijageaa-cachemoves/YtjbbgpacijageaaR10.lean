/- The document's own functions on caches: copies and moves. -/
import Derived.Test.YtjbbgpacijageaaR9
import Derived.Test.YtjbbgpacijageaaUK
namespace Go.Proofs.Ytjbbgpacijageaa.M
open Go.RowKit
set_option linter.unusedVariables false
set_option linter.unusedSimpArgs false

theorem c_WriteWord : Ctr Try.prog 62 writeS := by
  refine ctr_of tabOk (SpecsOk.cons c_GoodCaches (by kernel_rfl) (SpecsOk.cons c_FindLine (by kernel_rfl) (SpecsOk.cons c_rIsWord (by kernel_rfl) (SpecsOk.nil _)))) Try.func62 rfl _ (Nat.le_of_ble_eq_true rfl) (fun _ _ => rfl) ?_
  rintro nn ⟨d, (c : Int), (word : Int), (n : Int), ⟨⟩⟩ _ _
  refine ⟨200, init_k fun K1 n1 => ?_⟩
  conv => whnf
  refine n1 _ ?_
  clear n1 K1
  repeat' (first | with_reducible refine seq_k fun K1 n1 => ?_ | with_reducible refine seq_nil ?_ | with_reducible refine drw_k fun K1 n1 => ?_ | with_reducible refine drw_nil ?_ ?_ | with_reducible refine run_seq ?_ | with_reducible refine run_skip ?_ | with_reducible refine run_regS ?_ | with_reducible refine run_regD (by kernel_rfl) ?_ ?_ | with_reducible refine inl_k (by with_unfolding_all rfl) (Nat.le_of_ble_eq_true rfl) fun K1 n1 => ?_ | with_reducible refine inlA_k (by with_unfolding_all rfl) (Nat.le_of_ble_eq_true rfl) fun K1 n1 => ?_ | with_reducible refine run_finA ?_ | with_reducible refine run_cond ?_ | with_reducible refine run_block ?_ | with_reducible refine run_endb ?_ | with_reducible refine run_exit fun K1 n1 => ?_ | with_reducible refine run_ret fun K1 n1 => ?_ | with_reducible refine run_fin ?_ | with_reducible refine run_inv ?_ | with_reducible refine go_rounds ?_ | ((with_reducible refine Go.mk ?_); (conv => whnf)) | refine Fork.yes ?_ | refine Fork.no ?_ | refine Fork.dec (fun _ => ?_) (fun _ => ?_) | refine Fork.ndec (fun _ => ?_) (fun _ => ?_) | refine Fork.mk (fun _ => ?_) (fun _ => ?_) | refine Way.yesG ?_ | refine Way.noG ?_ | refine Way.decG (fun _ => ?_) (fun _ => ?_) | refine Way.ndecG (fun _ => ?_) (fun _ => ?_) | refine Way.mkG (fun _ => ?_) (fun _ => ?_) | with_reducible refine Need.mkG ?_ ?_ | refine AppW.go0 ?_ ?_ | with_reducible refine NilW.goG (fun _ => ?_) ?_ | ((with_reducible refine n1 _ _ _ ?_); clear n1 K1) | ((with_reducible refine n1 _ ?_); clear n1 K1) | ((with_reducible refine n1 _ _ ?_); clear n1 K1) | ((with_reducible refine n1 _ _ _ _ ?_); clear n1 K1) | fail)
  all_goals try (first | exact trivial | omega | kernel_rfl | decide | exact And.intro (by omega) (by omega))
  all_goals try dsimp only [Int.toNat_natCast] at *
  all_goals try (first | exact trivial | omega | exact And.intro (by omega) (by omega))
  · refine Done.of ?_ (Or.inr (Nat.le_refl _))
    show (_, ()) = (writeF d c word n, ())
    unfold writeF
    rw [if_neg (by omega)]
  · refine Done.of ?_ (Or.inr (Nat.le_refl _))
    show (_, ()) = (writeF d c word n, ())
    unfold writeF
    rw [if_neg (by omega)]
  · refine Done.of ?_ (Or.inr (Nat.le_refl _))
    show (_, ()) = (writeF d c word n, ())
    unfold writeF
    rw [if_neg (by omega)]
  · refine Done.of ?_ (Or.inr (Nat.le_refl _))
    show (_, ()) = (writeF d c word n, ())
    unfold writeF
    rw [if_neg (by rename_i h; rw [not_t h]; simp)]
  all_goals
    have h1 : (!goodD d) = false := by assumption
    have h2 : 0 ≤ word ∧ word < 32 := by omega
    have h3 : 0 ≤ n ∧ n ≤ 4294967295 := by assumption
    try simp only [half_eq h2] at *
  · exact (find_yes (by assumption)).1
  · exact find_range _ _ _
  · exact (find_yes (by assumption)).1
  · exact find_range _ _ _
  · exact (find_yes (by assumption)).1
  · exact find_range _ _ _
  · exact tmod2 h2.1
  · have h4 : (findF d c (word.tdiv 2)).2 = true := by assumption
    have h5 : 1 < ((d.1 c.toNat).2.1 (findF d c (word.tdiv 2)).1.toNat).1 := by assumption
    refine Done.of ?_ (Or.inr (Nat.le_refl _))
    show (_, ()) = (writeF d c word n, ())
    unfold writeF
    rw [if_pos ⟨not_f h1, h2, h3⟩, if_pos ⟨h4, fun g => by
      have g : ((d.1 c.toNat).2.1 (findF d c (word.tdiv 2)).1.toNat).1 = 1 := g
      rw [g] at h5
      exact absurd h5 (by decide)⟩]
    refine congrArg (fun z => (z, ())) ?_
    have e1 : setM (putW d c.toNat (findF d c (word.tdiv 2)).1.toNat (word.tmod 2).toNat n) c.toNat (findF d c (word.tdiv 2)).1.toNat = setLine d c.toNat (findF d c (word.tdiv 2)).1.toNat (3, (lineAt d c.toNat (findF d c (word.tdiv 2)).1.toNat).2.1, updA (lineAt d c.toNat (findF d c (word.tdiv 2)).1.toNat).2.2.1 (word.tmod 2).toNat n, (lineAt d c.toNat (findF d c (word.tdiv 2)).1.toNat).2.2.2) := by
      unfold setM putW
      rw [line_set_same, set_set]
    rw [e1]
    have e2 : ∀ d1 : deskT.D, d1 = setLine d c.toNat (findF d c (word.tdiv 2)).1.toNat (3, (lineAt d c.toNat (findF d c (word.tdiv 2)).1.toNat).2) → putW d1 c.toNat (findF d c (word.tdiv 2)).1.toNat (word.tmod 2).toNat n = setLine d c.toNat (findF d c (word.tdiv 2)).1.toNat (3, (lineAt d c.toNat (findF d c (word.tdiv 2)).1.toNat).2.1, updA (lineAt d c.toNat (findF d c (word.tdiv 2)).1.toNat).2.2.1 (word.tmod 2).toNat n, (lineAt d c.toNat (findF d c (word.tdiv 2)).1.toNat).2.2.2) := by
      rintro d1 rfl
      unfold putW
      rw [line_set_same, set_set]
    exact e2 _ rfl
  · have h5 : ¬ 1 < ((d.1 c.toNat).2.1 (findF d c (word.tdiv 2)).1.toNat).1 := by assumption
    have h4 : (findF d c (word.tdiv 2)).2 = true := by assumption
    have h6 := find_yes h4
    refine Done.of ?_ (Or.inr (Nat.le_refl _))
    show (_, ()) = (writeF d c word n, ())
    unfold writeF
    rw [if_pos ⟨not_f h1, h2, h3⟩, if_neg]
    rintro ⟨g1, g2⟩
    have hr := find_range d c (word.tdiv 2)
    have hh : hasL (lineAt d c.toNat (wayOf (word.tdiv 2))) (word.tdiv 2) = true := by
      rw [find_eq h6.1 h6.2] at g1
      exact g1
    have hne : (lineAt d c.toNat (wayOf (word.tdiv 2))).1 ≠ 0 := (of_decide_eq_true hh : _ ∧ _).1
    have hw := way_lt h6.2.1
    have hl := (good_line (not_f h1) (c := c.toNat) (w := wayOf (word.tdiv 2)) (by omega) hw hne).1
    rw [find_eq h6.1 h6.2] at g2 h5
    have g2 : (lineAt d c.toNat (wayOf (word.tdiv 2))).1 ≠ 1 := g2
    have h5 : ¬ 1 < (lineAt d c.toNat (wayOf (word.tdiv 2))).1 := h5
    have key : ∀ z : Int, (1 ≤ z ∧ z ≤ 3) → z ≠ 1 → ¬ 1 < z → False := fun z a b c => by omega
    exact key _ hl g2 h5
  · have h4 : (findF d c (word.tdiv 2)).2 = false := by assumption
    refine Done.of ?_ (Or.inr (Nat.le_refl _))
    show (_, ()) = (writeF d c word n, ())
    unfold writeF
    rw [if_pos ⟨not_f h1, h2, h3⟩, if_neg (by rw [h4]; simp)]
theorem two_upd (m x : Nat → Int) (z : Int) (h : 0 ≤ z ∧ z < 16) : updA (updA m (wrap64 (2 * z)).toNat (x (Int.toNat 0))) (wrap64 (wrap64 (2 * z) + 1)).toNat (x (Int.toNat 1)) = cpy m (2 * z.toNat) 2 x := by
  rw [wrap_id (show -9223372036854775808 ≤ 2 * z ∧ 2 * z ≤ 9223372036854775807 by omega), wrap_id (show -9223372036854775808 ≤ 2 * z + 1 ∧ 2 * z + 1 ≤ 9223372036854775807 by omega), show (2 * z).toNat = 2 * z.toNat from by omega, show (2 * z + 1).toNat = 2 * z.toNat + 1 from by omega]
  funext q
  unfold updA cpy
  by_cases h1 : q = 2 * z.toNat + 1
  · rw [if_pos h1, if_pos (by omega), show q - 2 * z.toNat = 1 from by omega]
    rfl
  · rw [if_neg h1]
    by_cases h2 : q = 2 * z.toNat
    · rw [if_pos h2, if_pos (by omega), show q - 2 * z.toNat = 0 from by omega]
      rfl
    · rw [if_neg h2, if_neg (by omega)]
theorem two_rng {z : Int} (h : 0 ≤ z ∧ z < 16) : (0 ≤ wrap64 (2 * z) ∧ wrap64 (2 * z) < ((32 : Nat) : Int)) ∧ (0 ≤ wrap64 (wrap64 (2 * z) + 1) ∧ wrap64 (wrap64 (2 * z) + 1) < ((32 : Nat) : Int)) := by
  rw [wrap_id (show -9223372036854775808 ≤ 2 * z ∧ 2 * z ≤ 9223372036854775807 by omega), wrap_id (show -9223372036854775808 ≤ 2 * z + 1 ∧ 2 * z + 1 ≤ 9223372036854775807 by omega)]
  omega
theorem c_DropLine : Ctr Try.prog 56 dropS := by
  refine ctr_of tabOk (SpecsOk.cons c_GoodCaches (by kernel_rfl) (SpecsOk.nil _)) Try.func56 rfl _ (Nat.le_of_ble_eq_true rfl) (fun _ _ => rfl) ?_
  rintro nn ⟨d, (c : Int), (way : Int), ⟨⟩⟩ _ _
  refine ⟨200, init_k fun K1 n1 => ?_⟩
  conv => whnf
  refine n1 _ ?_
  clear n1 K1
  repeat' (first | with_reducible refine seq_k fun K1 n1 => ?_ | with_reducible refine seq_nil ?_ | with_reducible refine drw_k fun K1 n1 => ?_ | with_reducible refine drw_nil ?_ ?_ | with_reducible refine run_seq ?_ | with_reducible refine run_skip ?_ | with_reducible refine run_regS ?_ | with_reducible refine run_regD (by kernel_rfl) ?_ ?_ | with_reducible refine inl_k (by with_unfolding_all rfl) (Nat.le_of_ble_eq_true rfl) fun K1 n1 => ?_ | with_reducible refine inlA_k (by with_unfolding_all rfl) (Nat.le_of_ble_eq_true rfl) fun K1 n1 => ?_ | with_reducible refine run_finA ?_ | with_reducible refine run_cond ?_ | with_reducible refine run_block ?_ | with_reducible refine run_endb ?_ | with_reducible refine run_exit fun K1 n1 => ?_ | with_reducible refine run_ret fun K1 n1 => ?_ | with_reducible refine run_fin ?_ | with_reducible refine run_inv ?_ | with_reducible refine go_rounds ?_ | ((with_reducible refine Go.mk ?_); (conv => whnf)) | refine Fork.yes ?_ | refine Fork.no ?_ | refine Fork.dec (fun _ => ?_) (fun _ => ?_) | refine Fork.ndec (fun _ => ?_) (fun _ => ?_) | refine Fork.mk (fun _ => ?_) (fun _ => ?_) | refine Way.yesG ?_ | refine Way.noG ?_ | refine Way.decG (fun _ => ?_) (fun _ => ?_) | refine Way.ndecG (fun _ => ?_) (fun _ => ?_) | refine Way.mkG (fun _ => ?_) (fun _ => ?_) | with_reducible refine Need.mkG ?_ ?_ | refine AppW.go0 ?_ ?_ | with_reducible refine NilW.goG (fun _ => ?_) ?_ | ((with_reducible refine n1 _ _ _ ?_); clear n1 K1) | ((with_reducible refine n1 _ ?_); clear n1 K1) | ((with_reducible refine n1 _ _ ?_); clear n1 K1) | ((with_reducible refine n1 _ _ _ _ ?_); clear n1 K1) | fail)
  all_goals try (first | exact trivial | omega | kernel_rfl | decide | exact And.intro (by omega) (by omega))
  all_goals try dsimp only [Int.toNat_natCast] at *
  all_goals try (first | exact trivial | omega | exact And.intro (by omega) (by omega))
  all_goals first
    | exact (show 0 ≤ c ∧ c < ((2 : Nat) : Int) from ⟨by omega, by omega⟩)
    | exact (show 0 ≤ way ∧ way < ((4 : Nat) : Int) from ⟨by omega, by omega⟩)
    | (have h1 : (!goodD d) = false := by assumption
       have h4 : ((d.1 c.toNat).2.1 way.toNat).1 = 3 := by assumption
       have hl := (good_line (not_f h1) (c := c.toNat) (w := way.toNat) (by omega) (by omega) (by show ((d.1 c.toNat).2.1 way.toNat).1 ≠ 0; rw [h4]; decide)).2.1
       first
         | exact (two_rng hl).1
         | exact (two_rng hl).2
         | (refine Done.of ?_ (Or.inr (Nat.le_refl _))
            show (_, ()) = (dropF d c way, ())
            unfold dropF dropD
            rw [if_pos ⟨not_f h1, by omega, by omega⟩]
            unfold goBackF lineAt
            rw [if_pos h4, two_upd d.2 ((d.1 c.toNat).2.1 way.toNat).2.2.1 ((d.1 c.toNat).2.1 way.toNat).2.1 hl]
            rfl))
    | (have h1 : (!goodD d) = false := by assumption
       have h4 : ¬ ((d.1 c.toNat).2.1 way.toNat).1 = 3 := by assumption
       refine Done.of ?_ (Or.inr (Nat.le_refl _))
       show (_, ()) = (dropF d c way, ())
       unfold dropF dropD
       rw [if_pos ⟨not_f h1, by omega, by omega⟩]
       unfold goBackF lineAt
       rw [if_neg h4]
       rfl)
    | (refine Done.of ?_ (Or.inr (Nat.le_refl _))
       show (_, ()) = (dropF d c way, ())
       unfold dropF
       rw [if_neg (by first | omega | (have h : (!goodD d) = true := by assumption
                                       rw [not_t h]; simp))])
end Go.Proofs.Ytjbbgpacijageaa.M
