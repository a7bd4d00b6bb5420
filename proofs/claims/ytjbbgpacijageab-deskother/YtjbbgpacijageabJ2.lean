/- Package deskmateskeep: desks alike. -/
import Derived.Test.YtjbbgpacijageabUI
import Derived.Test.YtjbbgpacijageabR4a
import Derived.Test.YtjbbgpacijageabO1
namespace Go.Proofs.Ytjbbgpacijageab.M
open Go.RowKit
set_option linter.unusedVariables false
set_option linter.unusedSimpArgs false

theorem same_no {a b : deskT.D} {k : Nat} (hk : k < 2) (h : sameC (a.1 k) (b.1 k) = false) : sameD a b = false := by
  unfold sameD
  have : k = 0 ∨ k = 1 := by omega
  rcases this with rfl | rfl
  · rw [h]; rfl
  · rw [h]; simp only [Bool.false_and, Bool.and_false]
theorem lenWk {a : deskT.D} (h : bnd deskT a) {k : Nat} (hk : k < 2) : (a.1 k).2.2.2.2.1.2.length ≤ 9223372036854775807 := (h.1 k hk).2.2.2.2.1
theorem c_kSame : Ctr Try.prog 26 sameDeskS := by
  refine ctr_of tabOk (SpecsOk.nil _) Try.func26 rfl _ (Nat.le_of_ble_eq_true rfl) (fun _ _ => rfl) ?_
  rintro nn ⟨a, b, ⟨⟩⟩ _ hb
  refine ⟨200, init_k fun K1 n1 => ?_⟩
  conv => whnf
  refine n1 _ ?_
  clear n1 K1
  repeat' (first | with_reducible refine seq_k fun K1 n1 => ?_ | with_reducible refine seq_nil ?_ | with_reducible refine drw_k fun K1 n1 => ?_ | with_reducible refine drw_nil ?_ ?_ | with_reducible refine run_seq ?_ | with_reducible refine run_skip ?_ | with_reducible refine run_regS ?_ | with_reducible refine run_regD (by kernel_rfl) ?_ ?_ | with_reducible refine inl_k (by with_unfolding_all rfl) (Nat.le_of_ble_eq_true rfl) fun K1 n1 => ?_ | with_reducible refine inlA_k (by with_unfolding_all rfl) (Nat.le_of_ble_eq_true rfl) fun K1 n1 => ?_ | with_reducible refine run_finA ?_ | with_reducible refine run_cond ?_ | with_reducible refine run_block ?_ | with_reducible refine run_endb ?_ | with_reducible refine run_exit fun K1 n1 => ?_ | with_reducible refine run_ret fun K1 n1 => ?_ | with_reducible refine run_fin ?_ | with_reducible refine run_inv ?_ | with_reducible refine go_rounds ?_ | ((with_reducible refine Go.mk ?_); (conv => whnf)) | refine Fork.yes ?_ | refine Fork.no ?_ | refine Fork.dec (fun _ => ?_) (fun _ => ?_) | refine Fork.ndec (fun _ => ?_) (fun _ => ?_) | refine Fork.mk (fun _ => ?_) (fun _ => ?_) | refine Way.yesG ?_ | refine Way.noG ?_ | refine Way.decG (fun _ => ?_) (fun _ => ?_) | refine Way.ndecG (fun _ => ?_) (fun _ => ?_) | refine Way.mkG (fun _ => ?_) (fun _ => ?_) | with_reducible refine Need.mkG ?_ ?_ | refine AppW.go0 ?_ ?_ | with_reducible refine NilW.goG (fun _ => ?_) ?_ | ((with_reducible refine n1 _ _ _ ?_); clear n1 K1) | ((with_reducible refine n1 _ ?_); clear n1 K1) | ((with_reducible refine n1 _ _ ?_); clear n1 K1) | ((with_reducible refine n1 _ _ _ _ ?_); clear n1 K1) | fail)
  all_goals try (first | exact trivial | omega | kernel_rfl | decide | exact And.intro (by omega) (by omega))
  all_goals try dsimp only [Int.toNat_natCast] at *
  all_goals try (first | exact trivial | omega | exact And.intro (by omega) (by omega))
  refine run_loop (loop_fam (ι := Nat) (fun k => [(9, .a (.of (.leaf .int (k : Int)))), (3, .a (.ptr 1 0 [] deskT)), (2, .a (.ptr 0 0 [] deskT))]) (fun _ => [.leaf deskT a, .leaf deskT b]) (fun _ => ⟨nn, []⟩) (fun k => 2 - k) (fun k => k ≤ 2 ∧ ∀ j < k, sameC (a.1 j) (b.1 j) = true) ?_ ?_)
  · exact ⟨0, ⟨Nat.zero_le _, fun _ h => absurd h (Nat.not_lt_zero _)⟩, ⟨rfl, rfl, rfl, trivial⟩, rfl, 2, Nat.le_refl _, rfl, rfl⟩
  · rintro k ⟨hk, hok⟩
    repeat' (first | with_reducible refine seq_k fun K1 n1 => ?_ | with_reducible refine seq_nil ?_ | with_reducible refine drw_k fun K1 n1 => ?_ | with_reducible refine drw_nil ?_ ?_ | with_reducible refine run_seq ?_ | with_reducible refine run_skip ?_ | with_reducible refine run_regS ?_ | with_reducible refine run_regD (by kernel_rfl) ?_ ?_ | with_reducible refine inl_k (by with_unfolding_all rfl) (Nat.le_of_ble_eq_true rfl) fun K1 n1 => ?_ | with_reducible refine inlA_k (by with_unfolding_all rfl) (Nat.le_of_ble_eq_true rfl) fun K1 n1 => ?_ | with_reducible refine run_finA ?_ | with_reducible refine run_cond ?_ | with_reducible refine run_block ?_ | with_reducible refine run_endb ?_ | with_reducible refine run_exit fun K1 n1 => ?_ | with_reducible refine run_ret fun K1 n1 => ?_ | with_reducible refine run_fin ?_ | with_reducible refine run_inv ?_ | with_reducible refine go_rounds ?_ | ((with_reducible refine Go.mk ?_); (conv => whnf)) | refine Fork.yes ?_ | refine Fork.no ?_ | refine Fork.dec (fun _ => ?_) (fun _ => ?_) | refine Fork.ndec (fun _ => ?_) (fun _ => ?_) | refine Fork.mk (fun _ => ?_) (fun _ => ?_) | refine Way.yesG ?_ | refine Way.noG ?_ | refine Way.decG (fun _ => ?_) (fun _ => ?_) | refine Way.ndecG (fun _ => ?_) (fun _ => ?_) | refine Way.mkG (fun _ => ?_) (fun _ => ?_) | with_reducible refine Need.mkG ?_ ?_ | refine AppW.go0 ?_ ?_ | with_reducible refine NilW.goG (fun _ => ?_) ?_ | ((with_reducible refine n1 _ _ _ ?_); clear n1 K1) | ((with_reducible refine n1 _ ?_); clear n1 K1) | ((with_reducible refine n1 _ _ ?_); clear n1 K1) | ((with_reducible refine n1 _ _ _ _ ?_); clear n1 K1) | fail)
    all_goals try (first | exact trivial | omega | kernel_rfl | decide | exact And.intro (by omega) (by omega))
    all_goals try dsimp only [Int.toNat_natCast] at *
    all_goals try (first | exact trivial | omega | exact And.intro (by omega) (by omega))
    iterate 5
      · refine Done.of ?_ (Or.inl rfl)
        show (false, ()) = (sameD a b, ())
        rw [same_no (k := k) (by omega) (by unfold sameC; simp_all)]
    · rename_i h1 h2 h3 h4 h5 h6
      refine Done.of ?_ (Or.inl rfl)
      show (false, ()) = (sameD a b, ())
      rw [same_no (k := k) (by omega) (by unfold sameC; rw [show decide ((a.1 k).2.2.2.2.1.2.length = (b.1 k).2.2.2.2.1.2.length) = false from decide_eq_false (by omega)]; simp only [Bool.false_and, Bool.and_false])]
    · rename_i h0 h1 h2 h3 h4 h5 h6
      have hlen : (a.1 k).2.2.2.2.1.2.length ≤ 9223372036854775807 := (lenWk hb.1 (show k < 2 by omega))
      have h6 : (a.1 k).2.2.2.2.1.2.length = (b.1 k).2.2.2.2.1.2.length := by omega
      refine run_loop (loop_fam (ι := Nat) (fun j => [(65, .a (.of (.leaf .int (j : Int)))), (64, .a (.of (.leaf .int ((a.1 k).2.2.2.2.1.2.length : Int)))), (6, .a (.ptr 2 0 [] coreT)), (7, .a (.ptr 3 0 [] coreT)), (9, .a (.of (.leaf .int (k : Int)))), (3, .a (.ptr 1 0 [] deskT)), (2, .a (.ptr 0 0 [] deskT))]) (fun _ => [.leaf deskT a, .leaf deskT b, .leaf coreT (a.1 k), .leaf coreT (b.1 k)]) (fun _ => ⟨nn, []⟩) (fun j => (a.1 k).2.2.2.2.1.2.length - j) (fun j => j ≤ (a.1 k).2.2.2.2.1.2.length ∧ ∀ i < j, eqT writeT (nthD writeT (a.1 k).2.2.2.2.1.2 i) (nthD writeT (b.1 k).2.2.2.2.1.2 i) = true) ?_ ?_)
      · exact ⟨0, ⟨Nat.zero_le _, fun _ h => absurd h (Nat.not_lt_zero _)⟩, ⟨rfl, rfl, rfl, rfl, rfl, rfl, rfl, trivial⟩, rfl, 4, Nat.le_refl _, rfl, rfl⟩
      · rintro j ⟨hj, hall⟩
        repeat' (first | with_reducible refine seq_k fun K1 n1 => ?_ | with_reducible refine seq_nil ?_ | with_reducible refine drw_k fun K1 n1 => ?_ | with_reducible refine drw_nil ?_ ?_ | with_reducible refine run_seq ?_ | with_reducible refine run_skip ?_ | with_reducible refine run_regS ?_ | with_reducible refine run_regD (by kernel_rfl) ?_ ?_ | with_reducible refine inl_k (by with_unfolding_all rfl) (Nat.le_of_ble_eq_true rfl) fun K1 n1 => ?_ | with_reducible refine inlA_k (by with_unfolding_all rfl) (Nat.le_of_ble_eq_true rfl) fun K1 n1 => ?_ | with_reducible refine run_finA ?_ | with_reducible refine run_cond ?_ | with_reducible refine run_block ?_ | with_reducible refine run_endb ?_ | with_reducible refine run_exit fun K1 n1 => ?_ | with_reducible refine run_ret fun K1 n1 => ?_ | with_reducible refine run_fin ?_ | with_reducible refine run_inv ?_ | with_reducible refine go_rounds ?_ | ((with_reducible refine Go.mk ?_); (conv => whnf)) | refine Fork.yes ?_ | refine Fork.no ?_ | refine Fork.dec (fun _ => ?_) (fun _ => ?_) | refine Fork.ndec (fun _ => ?_) (fun _ => ?_) | refine Fork.mk (fun _ => ?_) (fun _ => ?_) | refine Way.yesG ?_ | refine Way.noG ?_ | refine Way.decG (fun _ => ?_) (fun _ => ?_) | refine Way.ndecG (fun _ => ?_) (fun _ => ?_) | refine Way.mkG (fun _ => ?_) (fun _ => ?_) | with_reducible refine Need.mkG ?_ ?_ | refine AppW.go0 ?_ ?_ | with_reducible refine NilW.goG (fun _ => ?_) ?_ | ((with_reducible refine n1 _ _ _ ?_); clear n1 K1) | ((with_reducible refine n1 _ ?_); clear n1 K1) | ((with_reducible refine n1 _ _ ?_); clear n1 K1) | ((with_reducible refine n1 _ _ _ _ ?_); clear n1 K1) | fail)
        all_goals try (first | exact trivial | omega | kernel_rfl | decide | exact And.intro (by omega) (by omega))
        all_goals try dsimp only [Int.toNat_natCast] at *
        all_goals try (first | exact trivial | omega | exact And.intro (by omega) (by omega))
        · rename_i g1
          exact (show @LE.le Int _ 0 (j : Int) ∧ @LT.lt Int _ (j : Int) ((b.1 k).2.2.2.2.1.2.length : Int) from ⟨by omega, by omega⟩)
        · rename_i g1 g2
          have : ((List.range (a.1 k).2.2.2.2.1.2.length).all fun i => eqT writeT (nthD writeT (a.1 k).2.2.2.2.1.2 i) (nthD writeT (b.1 k).2.2.2.2.1.2 i)) = false := by
            rw [List.all_eq_false]
            exact ⟨j, List.mem_range.2 (by omega), by rw [not_t g2]; exact Bool.false_ne_true⟩
          refine Done.of ?_ (Or.inl rfl)
          show (false, ()) = (sameD a b, ())
          rw [same_no (k := k) (by omega) (by unfold sameC; rw [this]; simp only [Bool.and_false])]
        · rename_i g1 g2
          refine ⟨j + 1, by omega, ⟨by omega, fun i hi => ?_⟩, ⟨?_, rfl, rfl, rfl, rfl, rfl, rfl, trivial⟩, rfl, 4, Nat.le_refl _, rfl, rfl⟩
          · rcases Nat.lt_or_ge i j with g | g
            · exact hall i g
            · obtain rfl : i = j := by omega
              exact not_f g2
          · show some (SV.a (AV.of (V.leaf Ty.int (wrap64 (↑j + 1))))) = some (SV.a (AV.of (V.leaf Ty.int ((j + 1 : Nat) : Int))))
            rw [← wrap_succ j (by omega)]
        · rename_i g1
          have hr : ((List.range (a.1 k).2.2.2.2.1.2.length).all fun i => eqT writeT (nthD writeT (a.1 k).2.2.2.2.1.2 i) (nthD writeT (b.1 k).2.2.2.2.1.2 i)) = true := by
            rw [List.all_eq_true]
            exact fun i hi => hall i (by have := List.mem_range.1 hi; omega)
          refine ⟨k + 1, by omega, ⟨by omega, fun i hi => ?_⟩, ⟨?_, rfl, rfl, trivial⟩, rfl, 2, Nat.le_add_left _ _, rfl, rfl⟩
          · rcases Nat.lt_or_ge i k with g | g
            · exact hok i g
            · obtain rfl : i = k := by omega
              unfold sameC
              rw [hr, not_f h1, not_f h2, not_f h4, decide_eq_true h3, decide_eq_true h5, decide_eq_true h6]
              rfl
          · show some (SV.a (AV.of (V.leaf Ty.int (wrap64 (↑k + 1))))) = some (SV.a (AV.of (V.leaf Ty.int ((k + 1 : Nat) : Int))))
            rw [← wrap_succ k (by omega)]
    · rename_i h0
      obtain rfl : k = 2 := by omega
      refine Done.of ?_ (Or.inl rfl)
      show (_, ()) = (sameD a b, ())
      unfold sameD
      rw [hok 0 (by decide), hok 1 (by decide)]
      rfl
end Go.Proofs.Ytjbbgpacijageab.M
