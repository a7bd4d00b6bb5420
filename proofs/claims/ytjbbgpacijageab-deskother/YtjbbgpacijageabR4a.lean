/- The document's own functions on desks: alike. -/
import Derived.Test.YtjbbgpacijageabUD
namespace Go.Proofs.Ytjbbgpacijageab.M
open Go.RowKit
set_option linter.unusedVariables false
set_option linter.unusedSimpArgs false

def sameC (a b : coreT.D) : Bool := eqT plainT a.1 b.1 && (eqT (.arr 4 lineT) a.2.1 b.2.1 && (decide (a.2.2.1 = b.2.2.1) && (eqT plainT a.2.2.2.1 b.2.2.2.1 && (decide (a.2.2.2.2.2 = b.2.2.2.2.2) && (decide (a.2.2.2.2.1.2.length = b.2.2.2.2.1.2.length) && (List.range a.2.2.2.2.1.2.length).all fun k => eqT writeT (nthD writeT a.2.2.2.2.1.2 k) (nthD writeT b.2.2.2.2.1.2 k))))))
abbrev sameCoreS : Spec := pureS [coreT, coreT] [.bool] fun d => (sameC d.1 d.2.1, ())
theorem c_SameCore : Ctr Try.prog 58 sameCoreS := by
  refine ctr_of tabOk (SpecsOk.nil _) Try.func58 rfl _ (Nat.le_of_ble_eq_true rfl) (fun _ _ => rfl) ?_
  rintro nn ⟨a, b, ⟨⟩⟩ _ hb
  refine ⟨200, init_k fun K1 n1 => ?_⟩
  conv => whnf
  refine n1 _ ?_
  clear n1 K1
  repeat' (first | with_reducible refine seq_k fun K1 n1 => ?_ | with_reducible refine seq_nil ?_ | with_reducible refine drw_k fun K1 n1 => ?_ | with_reducible refine drw_nil ?_ ?_ | with_reducible refine run_seq ?_ | with_reducible refine run_skip ?_ | with_reducible refine run_regS ?_ | with_reducible refine run_regD (by kernel_rfl) ?_ ?_ | with_reducible refine inl_k (by with_unfolding_all rfl) (Nat.le_of_ble_eq_true rfl) fun K1 n1 => ?_ | with_reducible refine inlA_k (by with_unfolding_all rfl) (Nat.le_of_ble_eq_true rfl) fun K1 n1 => ?_ | with_reducible refine run_finA ?_ | with_reducible refine run_cond ?_ | with_reducible refine run_block ?_ | with_reducible refine run_endb ?_ | with_reducible refine run_exit fun K1 n1 => ?_ | with_reducible refine run_ret fun K1 n1 => ?_ | with_reducible refine run_fin ?_ | with_reducible refine run_inv ?_ | with_reducible refine go_rounds ?_ | ((with_reducible refine Go.mk ?_); (conv => whnf)) | refine Fork.yes ?_ | refine Fork.no ?_ | refine Fork.dec (fun _ => ?_) (fun _ => ?_) | refine Fork.ndec (fun _ => ?_) (fun _ => ?_) | refine Fork.mk (fun _ => ?_) (fun _ => ?_) | refine Way.yesG ?_ | refine Way.noG ?_ | refine Way.decG (fun _ => ?_) (fun _ => ?_) | refine Way.ndecG (fun _ => ?_) (fun _ => ?_) | refine Way.mkG (fun _ => ?_) (fun _ => ?_) | with_reducible refine Need.mkG ?_ ?_ | refine AppW.go0 ?_ ?_ | with_reducible refine NilW.goG (fun _ => ?_) ?_ | ((with_reducible refine n1 _ _ _ ?_); clear n1 K1) | ((with_reducible refine n1 _ ?_); clear n1 K1) | ((with_reducible refine n1 _ _ ?_); clear n1 K1) | ((with_reducible refine n1 _ _ _ _ ?_); clear n1 K1) | fail)
  all_goals try (first | exact trivial | omega | kernel_rfl | decide | exact And.intro (by omega) (by omega))
  all_goals try dsimp only [Int.toNat_natCast] at *
  all_goals try (first | exact trivial | omega | exact And.intro (by omega) (by omega))
  iterate 5
    · refine Done.of ?_ (Or.inl rfl)
      show (false, ()) = (sameC a b, ())
      unfold sameC
      simp_all
  · rename_i h1 h2 h3 h4 h5 h6
    refine Done.of ?_ (Or.inl rfl)
    show (false, ()) = (sameC a b, ())
    unfold sameC
    rw [show decide (a.2.2.2.2.1.2.length = b.2.2.2.2.1.2.length) = false from decide_eq_false (by omega)]
    simp only [Bool.false_and, Bool.and_false]
  · rename_i h1 h2 h3 h4 h5 h6
    have hlen : a.2.2.2.2.1.2.length ≤ 9223372036854775807 := hb.1.2.2.2.2.1
    have h6 : a.2.2.2.2.1.2.length = b.2.2.2.2.1.2.length := by omega
    refine run_loop (loop_fam (ι := Nat) (fun k => [(51, .a (.of (.leaf .int (k : Int)))), (50, .a (.of (.leaf .int (a.2.2.2.2.1.2.length : Int)))), (2, .a (.ptr 0 0 [] coreT)), (3, .a (.ptr 1 0 [] coreT))]) (fun _ => [.leaf coreT a, .leaf coreT b]) (fun _ => ⟨nn, []⟩) (fun k => a.2.2.2.2.1.2.length - k) (fun k => k ≤ a.2.2.2.2.1.2.length ∧ ∀ j < k, eqT writeT (nthD writeT a.2.2.2.2.1.2 j) (nthD writeT b.2.2.2.2.1.2 j) = true) ?_ ?_)
    · exact ⟨0, ⟨Nat.zero_le _, fun _ h => absurd h (Nat.not_lt_zero _)⟩, ⟨rfl, rfl, rfl, rfl, trivial⟩, rfl, 2, Nat.le_refl _, rfl, rfl⟩
    · rintro k ⟨hk, hok⟩
      repeat' (first | with_reducible refine seq_k fun K1 n1 => ?_ | with_reducible refine seq_nil ?_ | with_reducible refine drw_k fun K1 n1 => ?_ | with_reducible refine drw_nil ?_ ?_ | with_reducible refine run_seq ?_ | with_reducible refine run_skip ?_ | with_reducible refine run_regS ?_ | with_reducible refine run_regD (by kernel_rfl) ?_ ?_ | with_reducible refine inl_k (by with_unfolding_all rfl) (Nat.le_of_ble_eq_true rfl) fun K1 n1 => ?_ | with_reducible refine inlA_k (by with_unfolding_all rfl) (Nat.le_of_ble_eq_true rfl) fun K1 n1 => ?_ | with_reducible refine run_finA ?_ | with_reducible refine run_cond ?_ | with_reducible refine run_block ?_ | with_reducible refine run_endb ?_ | with_reducible refine run_exit fun K1 n1 => ?_ | with_reducible refine run_ret fun K1 n1 => ?_ | with_reducible refine run_fin ?_ | with_reducible refine run_inv ?_ | with_reducible refine go_rounds ?_ | ((with_reducible refine Go.mk ?_); (conv => whnf)) | refine Fork.yes ?_ | refine Fork.no ?_ | refine Fork.dec (fun _ => ?_) (fun _ => ?_) | refine Fork.ndec (fun _ => ?_) (fun _ => ?_) | refine Fork.mk (fun _ => ?_) (fun _ => ?_) | refine Way.yesG ?_ | refine Way.noG ?_ | refine Way.decG (fun _ => ?_) (fun _ => ?_) | refine Way.ndecG (fun _ => ?_) (fun _ => ?_) | refine Way.mkG (fun _ => ?_) (fun _ => ?_) | with_reducible refine Need.mkG ?_ ?_ | refine AppW.go0 ?_ ?_ | with_reducible refine NilW.goG (fun _ => ?_) ?_ | ((with_reducible refine n1 _ _ _ ?_); clear n1 K1) | ((with_reducible refine n1 _ ?_); clear n1 K1) | ((with_reducible refine n1 _ _ ?_); clear n1 K1) | ((with_reducible refine n1 _ _ _ _ ?_); clear n1 K1) | fail)
      all_goals try (first | exact trivial | omega | kernel_rfl | decide | exact And.intro (by omega) (by omega))
      all_goals try dsimp only [Int.toNat_natCast] at *
      all_goals try (first | exact trivial | omega | exact And.intro (by omega) (by omega))
      · rename_i g1
        exact (show @LE.le Int _ 0 (k : Int) ∧ @LT.lt Int _ (k : Int) (b.2.2.2.2.1.2.length : Int) from ⟨by omega, by omega⟩)
      · rename_i g1 g2
        have : ((List.range a.2.2.2.2.1.2.length).all fun k => eqT writeT (nthD writeT a.2.2.2.2.1.2 k) (nthD writeT b.2.2.2.2.1.2 k)) = false := by
          rw [List.all_eq_false]
          exact ⟨k, List.mem_range.2 (by omega), by rw [not_t g2]; exact Bool.false_ne_true⟩
        refine Done.of ?_ (Or.inl rfl)
        show (false, ()) = (sameC a b, ())
        unfold sameC
        rw [this]
        simp only [Bool.and_false]
      · rename_i g1 g2
        refine ⟨k + 1, by omega, ⟨by omega, fun j hj => ?_⟩, ⟨?_, rfl, rfl, rfl, trivial⟩, rfl, 2, Nat.le_refl _, rfl, rfl⟩
        · rcases Nat.lt_or_ge j k with g | g
          · exact hok j g
          · obtain rfl : j = k := by omega
            exact not_f g2
        · show some (SV.a (AV.of (V.leaf Ty.int (wrap64 (↑k + 1))))) = some (SV.a (AV.of (V.leaf Ty.int ((k + 1 : Nat) : Int))))
          rw [← wrap_succ k (by omega)]
      · rename_i g1
        have : ((List.range a.2.2.2.2.1.2.length).all fun k => eqT writeT (nthD writeT a.2.2.2.2.1.2 k) (nthD writeT b.2.2.2.2.1.2 k)) = true := by
          rw [List.all_eq_true]
          exact fun j hj => hok j (by have := List.mem_range.1 hj; omega)
        refine Done.of ?_ (Or.inl rfl)
        show (true, ()) = (sameC a b, ())
        unfold sameC
        rw [this, not_f h1, not_f h2, not_f h4, decide_eq_true h3, decide_eq_true h5, decide_eq_true h6]
        rfl
def sameD (a b : deskT.D) : Bool := sameC (a.1 0) (b.1 0) && (sameC (a.1 1) (b.1 1) && eqT (.arr 32 .int) a.2 b.2)
abbrev sameDeskS : Spec := pureS [deskT, deskT] [.bool] fun d => (sameD d.1 d.2.1, ())
theorem c_SameDesk : Ctr Try.prog 31 sameDeskS := by
  refine ctr_of tabOk (SpecsOk.cons c_SameCore (by kernel_rfl) (SpecsOk.nil _)) Try.func31 rfl _ (Nat.le_of_ble_eq_true rfl) (fun _ _ => rfl) ?_
  rintro nn ⟨a, b, ⟨⟩⟩ _ hb
  refine ⟨200, init_k fun K1 n1 => ?_⟩
  conv => whnf
  refine n1 _ ?_
  clear n1 K1
  repeat' (first | with_reducible refine seq_k fun K1 n1 => ?_ | with_reducible refine seq_nil ?_ | with_reducible refine drw_k fun K1 n1 => ?_ | with_reducible refine drw_nil ?_ ?_ | with_reducible refine run_seq ?_ | with_reducible refine run_skip ?_ | with_reducible refine run_regS ?_ | with_reducible refine run_regD (by kernel_rfl) ?_ ?_ | with_reducible refine inl_k (by with_unfolding_all rfl) (Nat.le_of_ble_eq_true rfl) fun K1 n1 => ?_ | with_reducible refine inlA_k (by with_unfolding_all rfl) (Nat.le_of_ble_eq_true rfl) fun K1 n1 => ?_ | with_reducible refine run_finA ?_ | with_reducible refine run_cond ?_ | with_reducible refine run_block ?_ | with_reducible refine run_endb ?_ | with_reducible refine run_exit fun K1 n1 => ?_ | with_reducible refine run_ret fun K1 n1 => ?_ | with_reducible refine run_fin ?_ | with_reducible refine run_inv ?_ | with_reducible refine go_rounds ?_ | ((with_reducible refine Go.mk ?_); (conv => whnf)) | refine Fork.yes ?_ | refine Fork.no ?_ | refine Fork.dec (fun _ => ?_) (fun _ => ?_) | refine Fork.ndec (fun _ => ?_) (fun _ => ?_) | refine Fork.mk (fun _ => ?_) (fun _ => ?_) | refine Way.yesG ?_ | refine Way.noG ?_ | refine Way.decG (fun _ => ?_) (fun _ => ?_) | refine Way.ndecG (fun _ => ?_) (fun _ => ?_) | refine Way.mkG (fun _ => ?_) (fun _ => ?_) | with_reducible refine Need.mkG ?_ ?_ | refine AppW.go0 ?_ ?_ | with_reducible refine NilW.goG (fun _ => ?_) ?_ | ((with_reducible refine n1 _ _ _ ?_); clear n1 K1) | ((with_reducible refine n1 _ ?_); clear n1 K1) | ((with_reducible refine n1 _ _ ?_); clear n1 K1) | ((with_reducible refine n1 _ _ _ _ ?_); clear n1 K1) | fail)
  all_goals try (first | exact trivial | omega | kernel_rfl | decide | exact And.intro (by omega) (by omega))
  all_goals try dsimp only [Int.toNat_natCast] at *
  all_goals try (first | exact trivial | omega | exact And.intro (by omega) (by omega))
  all_goals refine Done.of ?_ (Or.inl rfl)
  all_goals (show (_, ()) = (sameD a b, ()); unfold sameD)
  all_goals try simp only [show Int.toNat 0 = 0 from rfl, show Int.toNat 1 = 1 from rfl] at *
  all_goals simp [*]
end Go.Proofs.Ytjbbgpacijageab.M
