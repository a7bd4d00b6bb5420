/- The document's own functions on memories. -/
import Derived.Test.YtjbbgpacijageaaR2
namespace Go.Proofs.Ytjbbgpacijageaa.M
open Go.RowKit
set_option linter.unusedVariables false
set_option linter.unusedSimpArgs false

theorem ownL_succ (m : Nat → Int) (k : Nat) : (ownL .int m 0 (k + 1)).all isW = ((ownL .int m 0 k).all isW && isW (m k)) := by
  unfold ownL
  rw [List.range_succ, List.map_append, List.all_append]
  simp
abbrev goodMemS : Spec := pureS [.arr 32 .int] [.bool] fun d => ((ownL .int d.1 0 32).all isW, ())
theorem c_goodMemory : Ctr Try.prog 75 goodMemS := by
  refine ctr_of tabOk (SpecsOk.cons c_rIsWord (by kernel_rfl) (SpecsOk.nil _)) Try.func75 rfl _ (Nat.le_of_ble_eq_true rfl) (fun _ _ => rfl) ?_
  rintro nn ⟨m, ⟨⟩⟩ _ _
  refine ⟨200, init_k fun K1 n1 => ?_⟩
  conv => whnf
  refine n1 _ ?_
  clear n1 K1
  repeat' (first | with_reducible refine seq_k fun K1 n1 => ?_ | with_reducible refine seq_nil ?_ | with_reducible refine drw_k fun K1 n1 => ?_ | with_reducible refine drw_nil ?_ ?_ | with_reducible refine run_seq ?_ | with_reducible refine run_skip ?_ | with_reducible refine run_regS ?_ | with_reducible refine run_regD (by kernel_rfl) ?_ ?_ | with_reducible refine inl_k (by with_unfolding_all rfl) (Nat.le_of_ble_eq_true rfl) fun K1 n1 => ?_ | with_reducible refine inlA_k (by with_unfolding_all rfl) (Nat.le_of_ble_eq_true rfl) fun K1 n1 => ?_ | with_reducible refine run_finA ?_ | with_reducible refine run_cond ?_ | with_reducible refine run_block ?_ | with_reducible refine run_endb ?_ | with_reducible refine run_exit fun K1 n1 => ?_ | with_reducible refine run_ret fun K1 n1 => ?_ | with_reducible refine run_fin ?_ | with_reducible refine run_inv ?_ | with_reducible refine go_rounds ?_ | ((with_reducible refine Go.mk ?_); (conv => whnf)) | refine Fork.yes ?_ | refine Fork.no ?_ | refine Fork.dec (fun _ => ?_) (fun _ => ?_) | refine Fork.ndec (fun _ => ?_) (fun _ => ?_) | refine Fork.mk (fun _ => ?_) (fun _ => ?_) | refine Way.yesG ?_ | refine Way.noG ?_ | refine Way.decG (fun _ => ?_) (fun _ => ?_) | refine Way.ndecG (fun _ => ?_) (fun _ => ?_) | refine Way.mkG (fun _ => ?_) (fun _ => ?_) | with_reducible refine Need.mkG ?_ ?_ | refine AppW.go0 ?_ ?_ | with_reducible refine NilW.goG (fun _ => ?_) ?_ | ((with_reducible refine n1 _ _ _ ?_); clear n1 K1) | ((with_reducible refine n1 _ ?_); clear n1 K1) | ((with_reducible refine n1 _ _ ?_); clear n1 K1) | ((with_reducible refine n1 _ _ _ _ ?_); clear n1 K1) | fail)
  all_goals try (first | exact trivial | omega | kernel_rfl | decide | exact And.intro (by omega) (by omega))
  all_goals try dsimp only [Int.toNat_natCast] at *
  all_goals try (first | exact trivial | omega | exact And.intro (by omega) (by omega))
  refine run_loop (loop_fam (ι := Nat × Bool) (fun i => [(7, .a (.of (.leaf .int (i.1 : Int)))), (6, .a (.of (.leaf (.arr 32 .int) m))), (3, .a (.of (.leaf .bool i.2)))]) (fun _ => []) (fun _ => ⟨nn, []⟩) (fun i => 32 - i.1) (fun i => i.1 ≤ 32 ∧ i.2 = (ownL .int m 0 i.1).all isW) ?_ ?_)
  · exact ⟨(0, true), ⟨Nat.zero_le _, rfl⟩, ⟨rfl, rfl, rfl, trivial⟩, rfl, 0, Nat.zero_le _, rfl, rfl⟩
  · rintro ⟨k, b⟩ ⟨hk, hb⟩
    repeat' (first | with_reducible refine seq_k fun K1 n1 => ?_ | with_reducible refine seq_nil ?_ | with_reducible refine drw_k fun K1 n1 => ?_ | with_reducible refine drw_nil ?_ ?_ | with_reducible refine run_seq ?_ | with_reducible refine run_skip ?_ | with_reducible refine run_regS ?_ | with_reducible refine run_regD (by kernel_rfl) ?_ ?_ | with_reducible refine inl_k (by with_unfolding_all rfl) (Nat.le_of_ble_eq_true rfl) fun K1 n1 => ?_ | with_reducible refine inlA_k (by with_unfolding_all rfl) (Nat.le_of_ble_eq_true rfl) fun K1 n1 => ?_ | with_reducible refine run_finA ?_ | with_reducible refine run_cond ?_ | with_reducible refine run_block ?_ | with_reducible refine run_endb ?_ | with_reducible refine run_exit fun K1 n1 => ?_ | with_reducible refine run_ret fun K1 n1 => ?_ | with_reducible refine run_fin ?_ | with_reducible refine run_inv ?_ | with_reducible refine go_rounds ?_ | ((with_reducible refine Go.mk ?_); (conv => whnf)) | refine Fork.yes ?_ | refine Fork.no ?_ | refine Fork.dec (fun _ => ?_) (fun _ => ?_) | refine Fork.ndec (fun _ => ?_) (fun _ => ?_) | refine Fork.mk (fun _ => ?_) (fun _ => ?_) | refine Way.yesG ?_ | refine Way.noG ?_ | refine Way.decG (fun _ => ?_) (fun _ => ?_) | refine Way.ndecG (fun _ => ?_) (fun _ => ?_) | refine Way.mkG (fun _ => ?_) (fun _ => ?_) | with_reducible refine Need.mkG ?_ ?_ | refine AppW.go0 ?_ ?_ | with_reducible refine NilW.goG (fun _ => ?_) ?_ | ((with_reducible refine n1 _ _ _ ?_); clear n1 K1) | ((with_reducible refine n1 _ ?_); clear n1 K1) | ((with_reducible refine n1 _ _ ?_); clear n1 K1) | ((with_reducible refine n1 _ _ _ _ ?_); clear n1 K1) | fail)
    all_goals try (first | exact trivial | omega | kernel_rfl | decide | exact And.intro (by omega) (by omega))
    all_goals try dsimp only [Int.toNat_natCast] at *
    all_goals try (first | exact trivial | omega | exact And.intro (by omega) (by omega))
    · rename_i h1 h2
      have h2 : b = true := h2
      refine ⟨(k + 1, isW (m k)), by show 32 - (k + 1) < 32 - k; omega, ⟨by show k + 1 ≤ 32; omega, ?_⟩, ⟨?_, rfl, rfl, trivial⟩, rfl, 0, Nat.zero_le _, rfl, rfl⟩
      · show _ = (ownL .int m 0 (k + 1)).all isW
        rw [ownL_succ, ← hb, h2]
        rfl
      · show some (SV.a (AV.of (V.leaf Ty.int (wrap64 (↑k + 1))))) = some (SV.a (AV.of (V.leaf Ty.int ((k + 1 : Nat) : Int))))
        rw [← wrap_succ k (by omega)]
    · rename_i h1 h2
      have h2 : b = false := h2
      refine ⟨(k + 1, false), by show 32 - (k + 1) < 32 - k; omega, ⟨by show k + 1 ≤ 32; omega, ?_⟩, ⟨?_, rfl, rfl, trivial⟩, rfl, 0, Nat.zero_le _, rfl, rfl⟩
      · show _ = (ownL .int m 0 (k + 1)).all isW
        rw [ownL_succ, ← hb, h2]
        rfl
      · show some (SV.a (AV.of (V.leaf Ty.int (wrap64 (↑k + 1))))) = some (SV.a (AV.of (V.leaf Ty.int ((k + 1 : Nat) : Int))))
        rw [← wrap_succ k (by omega)]
    · rename_i h1
      obtain rfl : k = 32 := by omega
      refine Done.of ?_ (Or.inl rfl)
      show (b, ()) = ((ownL .int m 0 32).all isW, ())
      rw [hb]
end Go.Proofs.Ytjbbgpacijageaa.M
