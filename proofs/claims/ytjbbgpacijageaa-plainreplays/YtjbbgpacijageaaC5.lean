/- Package cache: whether the caches are in order. -/
import Derived.Test.YtjbbgpacijageaaC4
namespace Go.Proofs.Ytjbbgpacijageaa.M
open Go.RowKit
set_option linter.unusedVariables false
set_option linter.unusedSimpArgs false

/-- A line of core c goes with the rest. -/
def okAt (d : deskT.D) (c w : Nat) : Bool := goodLn ((d.1 c).2.1 w) w && agreesF ((d.1 c).2.1 w) ((d.1 (1 - c)).2.1 w) d.2
def goodD (d : deskT.D) : Bool := (ownL .int d.2 0 32).all isW && (List.range 2).all fun c => (List.range 4).all fun w => okAt d c w
theorem good_no {d : deskT.D} {c w : Nat} (hc : c < 2) (hw : w < 4) (h : okAt d c w = false) : goodD d = false := by
  have : ((List.range 2).all fun c => (List.range 4).all fun w => okAt d c w) = false := by
    rw [List.all_eq_false]
    refine ⟨c, List.mem_range.2 hc, fun g => ?_⟩
    have := List.all_eq_true.1 g w (List.mem_range.2 hw)
    rw [h] at this
    cases this
  unfold goodD
  rw [this, Bool.and_false]
theorem good_yes {d : deskT.D} (h1 : (ownL .int d.2 0 32).all isW = true) (h : ∀ c < 2, ∀ w < 4, okAt d c w = true) : goodD d = true := by
  unfold goodD
  rw [h1, Bool.true_and, List.all_eq_true]
  intro c hc
  rw [List.all_eq_true]
  intro w hw
  exact h c (List.mem_range.1 hc) w (List.mem_range.1 hw)
theorem not_t {b : Bool} (h : (!b) = true) : b = false := by revert h; cases b <;> simp
theorem not_f {b : Bool} (h : (!b) = false) : b = true := by revert h; cases b <;> simp
theorem good_range {l : lineT.D} {w : Int} (h : (!goodLn l w) = false) : (l.1 = 1 ∨ l.1 = 2) → @LE.le Int _ 0 l.2.1 ∧ @LT.lt Int _ l.2.1 16 := by
  intro hl
  have hn : decide (l.1 = 0) = false := by
    rcases hl with e | e <;> rw [e] <;> rfl
  unfold goodLn at h
  rw [hn] at h
  simp at h
  exact h.1.2.2.1
abbrev goodS : Spec := pureS [deskT] [.bool] fun d => (goodD d.1, ())
theorem c_Good : Ctr Try.prog 46 goodS := by
  refine ctr_of tabOk (SpecsOk.cons c_areWords (by kernel_rfl) (SpecsOk.cons c_GoodLine (by kernel_rfl) (SpecsOk.cons c_agrees (by kernel_rfl) (SpecsOk.cons c_other (by kernel_rfl) (SpecsOk.nil _))))) Try.func46 rfl _ (Nat.le_of_ble_eq_true rfl) (fun _ _ => rfl) ?_
  rintro nn ⟨d, ⟨⟩⟩ _ _
  refine ⟨200, init_k fun K1 n1 => ?_⟩
  conv => whnf
  refine n1 _ ?_
  clear n1 K1
  repeat' (first | with_reducible refine seq_k fun K1 n1 => ?_ | with_reducible refine seq_nil ?_ | with_reducible refine drw_k fun K1 n1 => ?_ | with_reducible refine drw_nil ?_ ?_ | with_reducible refine run_seq ?_ | with_reducible refine run_skip ?_ | with_reducible refine run_regS ?_ | with_reducible refine run_regD (by kernel_rfl) ?_ ?_ | with_reducible refine inl_k (by with_unfolding_all rfl) (Nat.le_of_ble_eq_true rfl) fun K1 n1 => ?_ | with_reducible refine run_cond ?_ | with_reducible refine run_block ?_ | with_reducible refine run_endb ?_ | with_reducible refine run_exit fun K1 n1 => ?_ | with_reducible refine run_ret fun K1 n1 => ?_ | with_reducible refine run_fin ?_ | with_reducible refine run_inv ?_ | with_reducible refine go_rounds ?_ | ((with_reducible refine Go.mk ?_); (conv => whnf)) | refine Fork.yes ?_ | refine Fork.no ?_ | refine Fork.dec (fun _ => ?_) (fun _ => ?_) | refine Fork.ndec (fun _ => ?_) (fun _ => ?_) | refine Fork.mk (fun _ => ?_) (fun _ => ?_) | refine Way.yesG ?_ | refine Way.noG ?_ | refine Way.decG (fun _ => ?_) (fun _ => ?_) | refine Way.ndecG (fun _ => ?_) (fun _ => ?_) | refine Way.mkG (fun _ => ?_) (fun _ => ?_) | with_reducible refine Need.mkG ?_ ?_ | ((with_reducible refine n1 _ _ _ ?_); clear n1 K1) | ((with_reducible refine n1 _ ?_); clear n1 K1) | ((with_reducible refine n1 _ _ ?_); clear n1 K1) | ((with_reducible refine n1 _ _ _ _ ?_); clear n1 K1) | fail)
  all_goals try (first | exact trivial | omega | kernel_rfl | decide | exact And.intro (by omega) (by omega))
  all_goals try dsimp only [Int.toNat_natCast] at *
  all_goals try (first | exact trivial | omega | exact And.intro (by omega) (by omega))
  · rename_i h
    have h : (ownL .int d.2 0 32).all isW = false := not_t h
    refine Done.of ?_ (Or.inl rfl)
    show (_, ()) = (goodD d, ())
    unfold goodD
    rw [h, Bool.false_and]
  · rename_i h
    have ha : (ownL .int d.2 0 32).all isW = true := not_f h
    clear h
    refine run_loop (loop_fam (ι := Nat) (fun c => [(10, .a (.of (.leaf .int (c : Int)))), (1, .a (.ptr 0 0 [] deskT))]) (fun _ => [.leaf deskT d]) (fun _ => ⟨nn + 1, []⟩) (fun c => 2 - c) (fun c => c ≤ 2 ∧ ∀ c' < c, ∀ w < 4, okAt d c' w = true) ?_ ?_)
    · exact ⟨0, ⟨Nat.zero_le _, fun _ h => absurd h (Nat.not_lt_zero _)⟩, ⟨rfl, rfl, trivial⟩, rfl, 1, Nat.le_refl _, rfl, rfl⟩
    · rintro c ⟨hc, hpre⟩
      repeat' (first | with_reducible refine seq_k fun K1 n1 => ?_ | with_reducible refine seq_nil ?_ | with_reducible refine drw_k fun K1 n1 => ?_ | with_reducible refine drw_nil ?_ ?_ | with_reducible refine run_seq ?_ | with_reducible refine run_skip ?_ | with_reducible refine run_regS ?_ | with_reducible refine run_regD (by kernel_rfl) ?_ ?_ | with_reducible refine inl_k (by with_unfolding_all rfl) (Nat.le_of_ble_eq_true rfl) fun K1 n1 => ?_ | with_reducible refine run_cond ?_ | with_reducible refine run_block ?_ | with_reducible refine run_endb ?_ | with_reducible refine run_exit fun K1 n1 => ?_ | with_reducible refine run_ret fun K1 n1 => ?_ | with_reducible refine run_fin ?_ | with_reducible refine run_inv ?_ | with_reducible refine go_rounds ?_ | ((with_reducible refine Go.mk ?_); (conv => whnf)) | refine Fork.yes ?_ | refine Fork.no ?_ | refine Fork.dec (fun _ => ?_) (fun _ => ?_) | refine Fork.ndec (fun _ => ?_) (fun _ => ?_) | refine Fork.mk (fun _ => ?_) (fun _ => ?_) | refine Way.yesG ?_ | refine Way.noG ?_ | refine Way.decG (fun _ => ?_) (fun _ => ?_) | refine Way.ndecG (fun _ => ?_) (fun _ => ?_) | refine Way.mkG (fun _ => ?_) (fun _ => ?_) | with_reducible refine Need.mkG ?_ ?_ | ((with_reducible refine n1 _ _ _ ?_); clear n1 K1) | ((with_reducible refine n1 _ ?_); clear n1 K1) | ((with_reducible refine n1 _ _ ?_); clear n1 K1) | ((with_reducible refine n1 _ _ _ _ ?_); clear n1 K1) | fail)
      all_goals try (first | exact trivial | omega | kernel_rfl | decide | exact And.intro (by omega) (by omega))
      all_goals try dsimp only [Int.toNat_natCast] at *
      all_goals try (first | exact trivial | omega | exact And.intro (by omega) (by omega))
      · rename_i h2
        have hc2 : c < 2 := by omega
        have hwc : wrap64 (1 - (c : Int)) = 1 - (c : Int) := wrap_id (by omega)
        have hwt : (wrap64 (1 - (c : Int))).toNat = 1 - c := by rw [hwc]; omega
        refine run_loop (loop_fam (ι := Nat) (fun k => [(18, .a (.of (.leaf .int (k : Int)))), (17, .a (.of (.leaf (.arr 4 lineT) (d.1 c).2.1))), (3, .a (.of (.leaf .int (c : Int)))), (10, .a (.of (.leaf .int (c : Int)))), (1, .a (.ptr 0 0 [] deskT))]) (fun _ => [.leaf deskT d]) (fun _ => ⟨nn + 1, []⟩) (fun k => 4 - k) (fun k => k ≤ 4 ∧ ∀ w < k, okAt d c w = true) ?_ ?_)
        · exact ⟨0, ⟨Nat.zero_le _, fun _ h => absurd h (Nat.not_lt_zero _)⟩, ⟨rfl, rfl, rfl, rfl, rfl, trivial⟩, rfl, 1, Nat.le_refl _, rfl, rfl⟩
        · rintro k ⟨hk, hok⟩
          repeat' (first | with_reducible refine seq_k fun K1 n1 => ?_ | with_reducible refine seq_nil ?_ | with_reducible refine drw_k fun K1 n1 => ?_ | with_reducible refine drw_nil ?_ ?_ | with_reducible refine run_seq ?_ | with_reducible refine run_skip ?_ | with_reducible refine run_regS ?_ | with_reducible refine run_regD (by kernel_rfl) ?_ ?_ | with_reducible refine inl_k (by with_unfolding_all rfl) (Nat.le_of_ble_eq_true rfl) fun K1 n1 => ?_ | with_reducible refine run_cond ?_ | with_reducible refine run_block ?_ | with_reducible refine run_endb ?_ | with_reducible refine run_exit fun K1 n1 => ?_ | with_reducible refine run_ret fun K1 n1 => ?_ | with_reducible refine run_fin ?_ | with_reducible refine run_inv ?_ | with_reducible refine go_rounds ?_ | ((with_reducible refine Go.mk ?_); (conv => whnf)) | refine Fork.yes ?_ | refine Fork.no ?_ | refine Fork.dec (fun _ => ?_) (fun _ => ?_) | refine Fork.ndec (fun _ => ?_) (fun _ => ?_) | refine Fork.mk (fun _ => ?_) (fun _ => ?_) | refine Way.yesG ?_ | refine Way.noG ?_ | refine Way.decG (fun _ => ?_) (fun _ => ?_) | refine Way.ndecG (fun _ => ?_) (fun _ => ?_) | refine Way.mkG (fun _ => ?_) (fun _ => ?_) | with_reducible refine Need.mkG ?_ ?_ | ((with_reducible refine n1 _ _ _ ?_); clear n1 K1) | ((with_reducible refine n1 _ ?_); clear n1 K1) | ((with_reducible refine n1 _ _ ?_); clear n1 K1) | ((with_reducible refine n1 _ _ _ _ ?_); clear n1 K1) | fail)
          all_goals try (first | exact trivial | omega | kernel_rfl | decide | exact And.intro (by omega) (by omega))
          all_goals try dsimp only [Int.toNat_natCast] at *
          all_goals try (first | exact trivial | omega | exact And.intro (by omega) (by omega))
          · rename_i h3 h4
            refine Done.of ?_ (Or.inl rfl)
            show (_, ()) = (goodD d, ())
            rw [good_no hc2 (w := k) (by omega) (by unfold okAt; rw [not_t h4, Bool.false_and])]
          · rw [hwc]
            exact (show @LE.le Int _ 0 (1 - (c : Int)) ∧ @LT.lt Int _ (1 - (c : Int)) 2 from ⟨by omega, by omega⟩)
          · rename_i h3 h4
            exact good_range h4
          · rename_i h3 h4 h5
            rw [hwt] at h5
            refine Done.of ?_ (Or.inl rfl)
            show (_, ()) = (goodD d, ())
            rw [good_no hc2 (w := k) (by omega) (by unfold okAt; rw [not_t h5, Bool.and_false])]
          · rename_i h3 h4 h5
            rw [hwt] at h5
            have hthis : okAt d c k = true := by unfold okAt; rw [not_f h4, not_f h5]; rfl
            refine ⟨k + 1, by omega, ⟨by omega, fun w hw => ?_⟩, ⟨?_, rfl, rfl, rfl, rfl, trivial⟩, rfl, 1, Nat.le_add_left _ _, rfl, rfl⟩
            · rcases Nat.lt_or_ge w k with g | g
              · exact hok w g
              · obtain rfl : w = k := by omega
                exact hthis
            · rw [← wrap_succ k (by omega)]
              rfl
          · rename_i h3
            obtain rfl : k = 4 := by omega
            refine ⟨c + 1, by omega, ⟨by omega, fun c' hc' => ?_⟩, ⟨?_, rfl, trivial⟩, rfl, 1, Nat.le_refl _, rfl, rfl⟩
            · rcases Nat.lt_or_ge c' c with g | g
              · exact hpre c' g
              · obtain rfl : c' = c := by omega
                exact hok
            · rw [← wrap_succ c (by omega)]
              rfl
      · rename_i h2
        obtain rfl : c = 2 := by omega
        refine Done.of ?_ (Or.inl rfl)
        show (_, ()) = (goodD d, ())
        rw [good_yes ha hpre]
end Go.Proofs.Ytjbbgpacijageaa.M
