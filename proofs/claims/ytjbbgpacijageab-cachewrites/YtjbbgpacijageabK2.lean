/- Package deskmateskeep: caches. -/
import Derived.Test.YtjbbgpacijageabUK
import Derived.Test.YtjbbgpacijageabO1
namespace Go.Proofs.Ytjbbgpacijageab.M
open Go.RowKit
set_option linter.unusedVariables false
set_option linter.unusedSimpArgs false

theorem zero_good : goodD deskT.zero = true := by kernel_rfl
theorem c_keeps : Ctr Try.prog 13 (lawS []) := by
  refine ctr_of tabOk (SpecsOk.cons c_Own (by kernel_rfl) (SpecsOk.cons c_Write (by kernel_rfl) (SpecsOk.cons c_Value (by kernel_rfl) (SpecsOk.nil _)))) Try.func13 rfl _ (Nat.le_of_ble_eq_true rfl) (fun _ _ => rfl) ?_
  rintro nn ⟨⟩ _ _
  refine ⟨200, init_k fun K1 n1 => ?_⟩
  conv => whnf
  refine n1 _ ?_
  clear n1 K1
  repeat' (first | with_reducible refine seq_k fun K1 n1 => ?_ | with_reducible refine seq_nil ?_ | with_reducible refine drw_k fun K1 n1 => ?_ | with_reducible refine drw_nil ?_ ?_ | with_reducible refine run_seq ?_ | with_reducible refine run_skip ?_ | with_reducible refine run_regS ?_ | with_reducible refine run_regD (by kernel_rfl) ?_ ?_ | with_reducible refine inl_k (by with_unfolding_all rfl) (Nat.le_of_ble_eq_true rfl) fun K1 n1 => ?_ | with_reducible refine inlA_k (by with_unfolding_all rfl) (Nat.le_of_ble_eq_true rfl) fun K1 n1 => ?_ | with_reducible refine run_finA ?_ | with_reducible refine run_cond ?_ | with_reducible refine run_block ?_ | with_reducible refine run_endb ?_ | with_reducible refine run_exit fun K1 n1 => ?_ | with_reducible refine run_ret fun K1 n1 => ?_ | with_reducible refine run_fin ?_ | with_reducible refine run_inv ?_ | with_reducible refine go_rounds ?_ | ((with_reducible refine Go.mk ?_); (conv => whnf)) | refine Fork.yes ?_ | refine Fork.no ?_ | refine Fork.dec (fun _ => ?_) (fun _ => ?_) | refine Fork.ndec (fun _ => ?_) (fun _ => ?_) | refine Fork.mk (fun _ => ?_) (fun _ => ?_) | refine Way.yesG ?_ | refine Way.noG ?_ | refine Way.decG (fun _ => ?_) (fun _ => ?_) | refine Way.ndecG (fun _ => ?_) (fun _ => ?_) | refine Way.mkG (fun _ => ?_) (fun _ => ?_) | with_reducible refine Need.mkG ?_ ?_ | refine AppW.go0 ?_ ?_ | with_reducible refine NilW.goG (fun _ => ?_) ?_ | ((with_reducible refine n1 _ _ _ ?_); clear n1 K1) | ((with_reducible refine n1 _ ?_); clear n1 K1) | ((with_reducible refine n1 _ _ ?_); clear n1 K1) | ((with_reducible refine n1 _ _ _ _ ?_); clear n1 K1) | fail)
  all_goals try (first | exact trivial | omega | kernel_rfl | decide | exact And.intro (by omega) (by omega))
  all_goals try dsimp only [Int.toNat_natCast] at *
  all_goals try (first | exact trivial | omega | exact And.intro (by omega) (by omega))
  refine Done.of ?_ (Or.inl rfl)
  show (_, ()) = (true, ())
  obtain ⟨o1, o2, o3⟩ := ownF_ok zero_good 1 3
  obtain ⟨o4, o5, o6⟩ := o3 (by decide) (by decide)
  obtain ⟨w1, w2⟩ := writeF_ok o1 1 (word := 6) (by decide) (v := 9) (by decide) (by decide) o4 o5
  have := w2 6 (by decide)
  rw [if_pos rfl] at this
  exact congrArg (fun b => (b, ())) (decide_eq_true this)
theorem val_out (d : deskT.D) {n : Int} (h : ¬ (0 ≤ n ∧ n < 32)) : valF d n = 0 := by
  unfold valF
  rw [if_neg h]
/-- All words are as they were. -/
theorem val_all {d d' : deskT.D} (h : ∀ k : Nat, k < 32 → valF d' (k : Int) = valF d (k : Int)) (n : Int) : valF d' n = valF d n := by
  by_cases hn : 0 ≤ n ∧ n < 32
  · have := h n.toNat (by omega)
    rwa [show ((n.toNat : Nat) : Int) = n from by omega] at this
  · rw [val_out d hn, val_out d' hn]
theorem c_CacheOwns : Ctr Try.prog 4 (lawS [deskT, .int, .int]) := by
  refine ctr_of tabOk (SpecsOk.cons c_keeps (by kernel_rfl) (SpecsOk.cons c_Good (by kernel_rfl) (SpecsOk.cons c_Share (by kernel_rfl) (SpecsOk.cons c_Own (by kernel_rfl) (SpecsOk.cons c_Find (by kernel_rfl) (SpecsOk.nil _)))))) Try.func4 rfl _ (Nat.le_of_ble_eq_true rfl) (fun _ _ => rfl) ?_
  rintro nn ⟨d, (c : Int), (n : Int), ⟨⟩⟩ _ _
  refine ⟨200, init_k fun K1 n1 => ?_⟩
  conv => whnf
  refine n1 _ ?_
  clear n1 K1
  repeat' (first | with_reducible refine seq_k fun K1 n1 => ?_ | with_reducible refine seq_nil ?_ | with_reducible refine drw_k fun K1 n1 => ?_ | with_reducible refine drw_nil ?_ ?_ | with_reducible refine run_seq ?_ | with_reducible refine run_skip ?_ | with_reducible refine run_regS ?_ | with_reducible refine run_regD (by kernel_rfl) ?_ ?_ | with_reducible refine inl_k (by with_unfolding_all rfl) (Nat.le_of_ble_eq_true rfl) fun K1 n1 => ?_ | with_reducible refine inlA_k (by with_unfolding_all rfl) (Nat.le_of_ble_eq_true rfl) fun K1 n1 => ?_ | with_reducible refine run_finA ?_ | with_reducible refine run_cond ?_ | with_reducible refine run_block ?_ | with_reducible refine run_endb ?_ | with_reducible refine run_exit fun K1 n1 => ?_ | with_reducible refine run_ret fun K1 n1 => ?_ | with_reducible refine run_fin ?_ | with_reducible refine run_inv ?_ | with_reducible refine go_rounds ?_ | ((with_reducible refine Go.mk ?_); (conv => whnf)) | refine Fork.yes ?_ | refine Fork.no ?_ | refine Fork.dec (fun _ => ?_) (fun _ => ?_) | refine Fork.ndec (fun _ => ?_) (fun _ => ?_) | refine Fork.mk (fun _ => ?_) (fun _ => ?_) | refine Way.yesG ?_ | refine Way.noG ?_ | refine Way.decG (fun _ => ?_) (fun _ => ?_) | refine Way.ndecG (fun _ => ?_) (fun _ => ?_) | refine Way.mkG (fun _ => ?_) (fun _ => ?_) | with_reducible refine Need.mkG ?_ ?_ | refine AppW.go0 ?_ ?_ | with_reducible refine NilW.goG (fun _ => ?_) ?_ | ((with_reducible refine n1 _ _ _ ?_); clear n1 K1) | ((with_reducible refine n1 _ ?_); clear n1 K1) | ((with_reducible refine n1 _ _ ?_); clear n1 K1) | ((with_reducible refine n1 _ _ _ _ ?_); clear n1 K1) | fail)
  all_goals try (first | exact trivial | omega | kernel_rfl | decide | exact And.intro (by omega) (by omega))
  all_goals try dsimp only [Int.toNat_natCast] at *
  all_goals try (first | exact trivial | omega | exact And.intro (by omega) (by omega))
  all_goals try exact Done.of rfl (Or.inl rfl)
  all_goals
    have hg : goodD d = true := not_f ‹_›
    have hc : 0 ≤ c ∧ c < 2 := by omega
    have hn : 0 ≤ n ∧ n < 16 := by omega
    obtain ⟨s1, s2, s3⟩ := shareF_ok hg c n
    obtain ⟨o1, o2, o3⟩ := ownF_ok hg c n
    obtain ⟨o4, o5, o6⟩ := o3 hc hn
    have hoth : wrap64 (1 - c) = 1 - c := other_eq hc
    have e1 := find_eq (d := shareF d c n) hc hn
    have e2 := find_eq (d := ownF d c n) hc hn
    have e3 := find_eq (d := ownF d c n) (c := 1 - c) (n := n) (by omega) hn
  · exact hc
  · exact find_range _ _ _
  · exfalso
    have h : ¬ 2 ≤ (((ownF d c n).1 c.toNat).2.1 (findF (shareF d c n) c n).1.toNat).1 := by assumption
    rw [e1] at h
    exact h o5
  · exfalso
    have h : (!(findF (ownF d c n) (wrap64 (1 - c)) n).2) = false := by assumption
    have h := not_f h
    rw [hoth, e3] at h
    have h : hasL (lineAt (ownF d c n) (1 - c).toNat (wayOf n)) n = true := h
    rw [other_nat hc, o6] at h
    cases h
  · exfalso
    have h : (findF (ownF d c n) c n).2 = false := by assumption
    rw [e2] at h
    have h : hasL (lineAt (ownF d c n) c.toNat (wayOf n)) n = false := h
    rw [o4] at h
    cases h
  · exfalso
    have h : (findF (shareF d c n) c n).2 = false := by assumption
    rw [e1] at h
    have h : hasL (lineAt (shareF d c n) c.toNat (wayOf n)) n = false := h
    rw [s3 hc hn] at h
    cases h
theorem c_CacheWrites : Ctr Try.prog 5 (lawS [deskT, .int, .int, .int, .int]) := by
  refine ctr_of tabOk (SpecsOk.cons c_keeps (by kernel_rfl) (SpecsOk.cons c_Good (by kernel_rfl) (SpecsOk.cons c_Write (by kernel_rfl) (SpecsOk.cons c_Own (by kernel_rfl) (SpecsOk.cons c_Value (by kernel_rfl) (SpecsOk.nil _)))))) Try.func5 rfl _ (Nat.le_of_ble_eq_true rfl) (fun _ _ => rfl) ?_
  rintro nn ⟨d, (c : Int), (word : Int), (v : Int), (n : Int), ⟨⟩⟩ _ _
  refine ⟨200, init_k fun K1 n1 => ?_⟩
  conv => whnf
  refine n1 _ ?_
  clear n1 K1
  repeat' (first | with_reducible refine seq_k fun K1 n1 => ?_ | with_reducible refine seq_nil ?_ | with_reducible refine drw_k fun K1 n1 => ?_ | with_reducible refine drw_nil ?_ ?_ | with_reducible refine run_seq ?_ | with_reducible refine run_skip ?_ | with_reducible refine run_regS ?_ | with_reducible refine run_regD (by kernel_rfl) ?_ ?_ | with_reducible refine inl_k (by with_unfolding_all rfl) (Nat.le_of_ble_eq_true rfl) fun K1 n1 => ?_ | with_reducible refine inlA_k (by with_unfolding_all rfl) (Nat.le_of_ble_eq_true rfl) fun K1 n1 => ?_ | with_reducible refine run_finA ?_ | with_reducible refine run_cond ?_ | with_reducible refine run_block ?_ | with_reducible refine run_endb ?_ | with_reducible refine run_exit fun K1 n1 => ?_ | with_reducible refine run_ret fun K1 n1 => ?_ | with_reducible refine run_fin ?_ | with_reducible refine run_inv ?_ | with_reducible refine go_rounds ?_ | ((with_reducible refine Go.mk ?_); (conv => whnf)) | refine Fork.yes ?_ | refine Fork.no ?_ | refine Fork.dec (fun _ => ?_) (fun _ => ?_) | refine Fork.ndec (fun _ => ?_) (fun _ => ?_) | refine Fork.mk (fun _ => ?_) (fun _ => ?_) | refine Way.yesG ?_ | refine Way.noG ?_ | refine Way.decG (fun _ => ?_) (fun _ => ?_) | refine Way.ndecG (fun _ => ?_) (fun _ => ?_) | refine Way.mkG (fun _ => ?_) (fun _ => ?_) | with_reducible refine Need.mkG ?_ ?_ | refine AppW.go0 ?_ ?_ | with_reducible refine NilW.goG (fun _ => ?_) ?_ | ((with_reducible refine n1 _ _ _ ?_); clear n1 K1) | ((with_reducible refine n1 _ ?_); clear n1 K1) | ((with_reducible refine n1 _ _ ?_); clear n1 K1) | ((with_reducible refine n1 _ _ _ _ ?_); clear n1 K1) | fail)
  all_goals try (first | exact trivial | omega | kernel_rfl | decide | exact And.intro (by omega) (by omega))
  all_goals try dsimp only [Int.toNat_natCast] at *
  all_goals try (first | exact trivial | omega | exact And.intro (by omega) (by omega))
  all_goals try exact Done.of rfl (Or.inl rfl)
  all_goals
    exfalso
    have hg : goodD d = true := not_f ‹_›
    have hc : 0 ≤ c ∧ c < 2 := by omega
    have hw : 0 ≤ word ∧ word < 32 := by omega
    have hv : 0 ≤ v ∧ v ≤ 4294967295 := by omega
    obtain ⟨k, rfl⟩ : ∃ k : Nat, word = (k : Int) := ⟨word.toNat, by omega⟩
    have h1 : (k : Int).tdiv 2 = ((k / 2 : Nat) : Int) := by rw [Int.tdiv_eq_ediv_of_nonneg (by omega)]; omega
    have hh := half_eq hw
    rw [h1] at hh
    obtain ⟨o1, o2, o3⟩ := ownF_ok hg c ((k / 2 : Nat) : Int)
    obtain ⟨o4, o5, o6⟩ := o3 hc (by omega)
    obtain ⟨w1, w2⟩ := writeF_ok o1 c (word := k) (by omega) hv hc o4 o5
    simp only [h1, hh] at *
  · have h : ¬ valF (writeF (ownF d c ((k / 2 : Nat) : Int)) c (k : Int) v) n = valF d n := by assumption
    have hne : ¬ n = (k : Int) := by assumption
    apply h
    by_cases hn : 0 ≤ n ∧ n < 32
    · have e := w2 n.toNat (by omega)
      rw [if_neg (by omega), show ((n.toNat : Nat) : Int) = n from by omega] at e
      rw [e]
      exact val_all o2 n
    · rw [val_out d hn, val_out _ hn]
  · have h : ¬ valF (writeF (ownF d c ((k / 2 : Nat) : Int)) c (k : Int) v) (k : Int) = v := by assumption
    apply h
    have e := w2 k (by omega)
    rwa [if_pos rfl] at e
  · have h : goodD (writeF (ownF d c ((k / 2 : Nat) : Int)) c (k : Int) v) = false := by assumption
    rw [w1] at h
    cases h
end Go.Proofs.Ytjbbgpacijageab.M
