/- The document's own functions: records alike. -/
import Derived.Test.YtjbbgpacijageabGreatSD
namespace Go.Proofs.YtjbbgpacijageabGreat.M
open Go.RowKit
set_option linter.unusedVariables false
set_option linter.unusedSimpArgs false

theorem c_SameRecords : Ctr Tryz.prog 11 sameRS := by
  refine ctr_of tabOk (SpecsOk.nil _) Tryz.func11 rfl _ (Nat.le_of_ble_eq_true rfl) (fun _ _ => rfl) ?_
  rintro nn ⟨⟨ha, a⟩, ⟨hb', b⟩, ⟨⟩⟩ _ hb
  have hal : a.length ≤ 9223372036854775807 := hb.1
  have hbl : b.length ≤ 9223372036854775807 := hb.2.1
  refine ⟨200, init_k fun K1 n1 => ?_⟩
  conv => whnf
  refine n1 _ ?_
  clear n1 K1
  repeat' (first | (with_reducible first | refine seq_k fun K1 n1 => ?_ | refine seq_nil ?_ | refine drw_k fun K1 n1 => ?_ | refine drw_nil ?_ ?_ | refine run_seq ?_ | refine run_skip ?_ | refine run_regS ?_ | refine run_regD (by kernel_rfl) ?_ ?_ | refine inl_k (by with_unfolding_all rfl) (Nat.le_of_ble_eq_true rfl) fun K1 n1 => ?_ | refine inlA_k (by with_unfolding_all rfl) (Nat.le_of_ble_eq_true rfl) fun K1 n1 => ?_ | refine run_finA ?_ | refine run_cond ?_ | refine run_block ?_ | refine run_endb ?_ | refine run_exit fun K1 n1 => ?_ | refine run_ret fun K1 n1 => ?_ | refine run_fin ?_ | refine run_inv ?_ | refine go_rounds ?_) | ((with_reducible refine Go.mk ?_); (conv => whnf)) | refine Fork.yes ?_ | refine Fork.no ?_ | refine Fork.dec (fun _ => ?_) (fun _ => ?_) | refine Fork.ndec (fun _ => ?_) (fun _ => ?_) | refine Fork.mk (fun _ => ?_) (fun _ => ?_) | refine Way.yesG ?_ | refine Way.noG ?_ | refine Way.decG (fun _ => ?_) (fun _ => ?_) | refine Way.ndecG (fun _ => ?_) (fun _ => ?_) | refine Way.mkG (fun _ => ?_) (fun _ => ?_) | (with_reducible first | refine Need.mkG ?_ ?_) | refine AppW.go0 ?_ ?_ | (with_reducible first | refine NilW.goG (fun _ => ?_) ?_) | ((with_reducible refine n1 _ _ _ ?_); clear n1 K1) | ((with_reducible refine n1 _ ?_); clear n1 K1) | ((with_reducible refine n1 _ _ ?_); clear n1 K1) | ((with_reducible refine n1 _ _ _ _ ?_); clear n1 K1) | fail)
  all_goals try (first | exact trivial | omega | kernel_rfl | decide | exact And.intro (by omega) (by omega))
  all_goals try dsimp only [Int.toNat_natCast] at *
  all_goals try (first | exact trivial | omega | exact And.intro (by omega) (by omega))
  · rename_i h
    refine Done.of ?_ (Or.inl rfl)
    show (false, ()) = (sameR a b, ())
    unfold sameR
    rw [decide_eq_false (by omega)]
    rfl
  · rename_i h
    have hl : a.length = b.length := by omega
    refine run_loop (loop_fam (ι := Nat) (fun k => [(13, .a (.of (.leaf .int (k : Int)))), (12, .a (.of (.leaf .int (a.length : Int)))), (1, .a (.of (.leaf (.lst recordT) (hb', b)))), (0, .a (.of (.leaf (.lst recordT) (ha, a))))])
      (fun _ => []) (fun _ => ⟨nn, []⟩) (fun k => a.length - k) (fun k => k ≤ a.length ∧ ∀ j, j < k → eqT recordT (nthD recordT a j) (nthD recordT b j) = true) ?_ ?_)
    · exact ⟨0, ⟨Nat.zero_le _, fun j hj => by omega⟩, ⟨rfl, rfl, rfl, rfl, trivial⟩, rfl, 0, Nat.le_refl _, rfl, rfl⟩
    · rintro k ⟨hk, hall⟩
      repeat' (first | (with_reducible first | refine seq_k fun K1 n1 => ?_ | refine seq_nil ?_ | refine drw_k fun K1 n1 => ?_ | refine drw_nil ?_ ?_ | refine run_seq ?_ | refine run_skip ?_ | refine run_regS ?_ | refine run_regD (by kernel_rfl) ?_ ?_ | refine inl_k (by with_unfolding_all rfl) (Nat.le_of_ble_eq_true rfl) fun K1 n1 => ?_ | refine inlA_k (by with_unfolding_all rfl) (Nat.le_of_ble_eq_true rfl) fun K1 n1 => ?_ | refine run_finA ?_ | refine run_cond ?_ | refine run_block ?_ | refine run_endb ?_ | refine run_exit fun K1 n1 => ?_ | refine run_ret fun K1 n1 => ?_ | refine run_fin ?_ | refine run_inv ?_ | refine go_rounds ?_) | ((with_reducible refine Go.mk ?_); (conv => whnf)) | refine Fork.yes ?_ | refine Fork.no ?_ | refine Fork.dec (fun _ => ?_) (fun _ => ?_) | refine Fork.ndec (fun _ => ?_) (fun _ => ?_) | refine Fork.mk (fun _ => ?_) (fun _ => ?_) | refine Way.yesG ?_ | refine Way.noG ?_ | refine Way.decG (fun _ => ?_) (fun _ => ?_) | refine Way.ndecG (fun _ => ?_) (fun _ => ?_) | refine Way.mkG (fun _ => ?_) (fun _ => ?_) | (with_reducible first | refine Need.mkG ?_ ?_) | refine AppW.go0 ?_ ?_ | (with_reducible first | refine NilW.goG (fun _ => ?_) ?_) | ((with_reducible refine n1 _ _ _ ?_); clear n1 K1) | ((with_reducible refine n1 _ ?_); clear n1 K1) | ((with_reducible refine n1 _ _ ?_); clear n1 K1) | ((with_reducible refine n1 _ _ _ _ ?_); clear n1 K1) | fail)
      all_goals try (first | exact trivial | omega | kernel_rfl | decide | exact And.intro (by omega) (by omega))
      all_goals try dsimp only [Int.toNat_natCast] at *
      all_goals try (first | exact trivial | omega | exact And.intro (by omega) (by omega))
      · exact (show @LE.le Int _ 0 (k : Int) ∧ @LT.lt Int _ (k : Int) (b.length : Int) from ⟨by omega, by omega⟩)
      · rename_i g1 g2
        have : ((List.range a.length).all fun i => eqT recordT (nthD recordT a i) (nthD recordT b i)) = false := by
          rw [List.all_eq_false]
          exact ⟨k, List.mem_range.2 (by omega), by rw [not_t g2]; exact Bool.false_ne_true⟩
        refine Done.of ?_ (Or.inl rfl)
        show (false, ()) = (sameR a b, ())
        unfold sameR
        rw [this, Bool.and_false]
      · rename_i g1 g2
        refine ⟨k + 1, by omega, ⟨by omega, fun i hi => ?_⟩, ⟨?_, rfl, rfl, rfl, trivial⟩, rfl, 0, Nat.zero_le _, rfl, rfl⟩
        · rcases Nat.lt_or_ge i k with g | g
          · exact hall i g
          · obtain rfl : i = k := by omega
            exact not_f g2
        · show some (SV.a (AV.of (V.leaf Ty.int (wrap64 (↑k + 1))))) = some (SV.a (AV.of (V.leaf Ty.int ((k + 1 : Nat) : Int))))
          rw [← wrap_succ k (by omega)]
      · rename_i g1
        refine Done.of ?_ (Or.inl rfl)
        show (true, ()) = (sameR a b, ())
        unfold sameR
        rw [decide_eq_true hl, List.all_eq_true.2 (fun i hi => hall i (by have := List.mem_range.1 hi; omega))]
        rfl
end Go.Proofs.YtjbbgpacijageabGreat.M
