/- Package deskmateskeep: a run of steps. -/
import Derived.Test.YtjbbgpacijageabUI
import Derived.Test.YtjbbgpacijageabR4a
import Derived.Test.YtjbbgpacijageabO1
namespace Go.Proofs.Ytjbbgpacijageab.M
open Go.RowKit
set_option linter.unusedVariables false
set_option linter.unusedSimpArgs false

abbrev stL : List instrT.D := ownL instrT (updA (updA (updA (updA (Ty.arr 4 instrT).zero 0 (9, instrT.zero.2)) 1 (1, 1, instrT.zero.2.2.1, instrT.zero.2.2.2.1, 4)) 2 (6, 1, instrT.zero.2.2.1, instrT.zero.2.2.2.1, 5)) 3 (10, instrT.zero.2)) 0 4
abbrev stP (nn : Nat) : progsT.D := updA (Ty.arr 2 (.lst instrT)).zero 0 (Hd.nm nn, stL)
def nk (nn k : Nat) : Nat := nn + 1 + 2 * k + (if k = 4 then 2 else 0)
def dk (nn : Nat) : Nat → deskT.D
  | 0 => deskT.zero
  | k + 1 => (stepF (nk nn k) (dk nn k) (stP nn) 0).1
def stK (nn k : Nat) : deskT.D × Rec × Int := stepF (nk nn k) (dk nn k) (stP nn) 0
theorem st0 (nn : Nat) : (stK nn 0).2.2 = 0 ∧ (stK nn 0).2.1.length = 0 := ⟨by kernel_rfl, by kernel_rfl⟩
theorem st1 (nn : Nat) : (stK nn 1).2.2 = 0 ∧ (stK nn 1).2.1.length = 0 := ⟨by kernel_rfl, by kernel_rfl⟩
theorem st2 (nn : Nat) : (stK nn 2).2.2 = 0 ∧ (stK nn 2).2.1.length = 0 := ⟨by kernel_rfl, by kernel_rfl⟩
theorem st3 (nn : Nat) : (stK nn 3).2.2 = 0 ∧ (stK nn 3).2.1.length = 1 := ⟨by kernel_rfl, by kernel_rfl⟩
theorem st4 (nn : Nat) : valF (dk nn 4) 5 = 4 := by kernel_rfl
theorem stAll (nn k : Nat) (h : k < 4) : (stK nn k).2.2 = 0 ∧ (stK nn k).2.1.length = if k = 3 then 1 else 0 := by
  have : k = 0 ∨ k = 1 ∨ k = 2 ∨ k = 3 := by omega
  rcases this with rfl | rfl | rfl | rfl
  · exact st0 nn
  · exact st1 nn
  · exact st2 nn
  · exact st3 nn
theorem c_kSteps : Ctr Try.prog 25 (lawS []) := by
  obtain ⟨F, hF, cF⟩ : ∃ F, F = stepF ∧ Ctr Try.prog 21 (actS [.int] fun nn d l a => F nn d l a.1) := ⟨_, rfl, c_Step⟩
  refine ctr_of tabOk (SpecsOk.cons cF (by kernel_rfl) (SpecsOk.cons c_Value (by kernel_rfl) (SpecsOk.nil _))) Try.func25 rfl _ (Nat.le_of_ble_eq_true rfl) (fun _ _ => rfl) ?_
  rintro nn ⟨⟩ _ _
  refine ⟨200, init_k fun K1 n1 => ?_⟩
  conv => whnf
  refine n1 _ ?_
  clear n1 K1
  repeat' (first | with_reducible refine seq_k fun K1 n1 => ?_ | with_reducible refine seq_nil ?_ | with_reducible refine drw_k fun K1 n1 => ?_ | with_reducible refine drw_nil ?_ ?_ | with_reducible refine run_seq ?_ | with_reducible refine run_skip ?_ | with_reducible refine run_regS ?_ | with_reducible refine run_regD (by kernel_rfl) ?_ ?_ | with_reducible refine inl_k (by with_unfolding_all rfl) (Nat.le_of_ble_eq_true rfl) fun K1 n1 => ?_ | with_reducible refine inlA_k (by with_unfolding_all rfl) (Nat.le_of_ble_eq_true rfl) fun K1 n1 => ?_ | with_reducible refine run_finA ?_ | with_reducible refine run_cond ?_ | with_reducible refine run_block ?_ | with_reducible refine run_endb ?_ | with_reducible refine run_exit fun K1 n1 => ?_ | with_reducible refine run_ret fun K1 n1 => ?_ | with_reducible refine run_fin ?_ | with_reducible refine run_inv ?_ | with_reducible refine go_rounds ?_ | ((with_reducible refine Go.mk ?_); (conv => whnf)) | refine Fork.yes ?_ | refine Fork.no ?_ | refine Fork.dec (fun _ => ?_) (fun _ => ?_) | refine Fork.ndec (fun _ => ?_) (fun _ => ?_) | refine Fork.mk (fun _ => ?_) (fun _ => ?_) | refine Way.yesG ?_ | refine Way.noG ?_ | refine Way.decG (fun _ => ?_) (fun _ => ?_) | refine Way.ndecG (fun _ => ?_) (fun _ => ?_) | refine Way.mkG (fun _ => ?_) (fun _ => ?_) | with_reducible refine Need.mkG ?_ ?_ | refine AppW.go0 ?_ ?_ | with_reducible refine NilW.goG (fun _ => ?_) ?_ | ((with_reducible refine n1 _ _ _ ?_); clear n1 K1) | ((with_reducible refine n1 _ ?_); clear n1 K1) | ((with_reducible refine n1 _ _ ?_); clear n1 K1) | ((with_reducible refine n1 _ _ _ _ ?_); clear n1 K1) | fail)
  all_goals try (first | exact trivial | omega | kernel_rfl | decide | exact And.intro (by omega) (by omega))
  all_goals try dsimp only [Int.toNat_natCast] at *
  all_goals try (first | exact trivial | omega | exact And.intro (by omega) (by omega))
  refine run_loop (loop_fam (ι := Nat × deskT.D × Int × Nat) (fun i => [(13, .a (.of (.leaf .int (i.1 : Int)))), (3, .a (.of (.leaf .int i.2.2.1))), (2, .a (.ptr 1 0 [] deskT)), (1, .a (.ptr 0 0 [] (.arr 2 (.lst instrT))))])
    (fun i => [.leaf (.arr 2 (.lst instrT)) (stP nn), .leaf deskT i.2.1]) (fun i => ⟨i.2.2.2, []⟩) (fun i => 4 - i.1) (fun i => i.1 ≤ 4 ∧ i.2.1 = dk nn i.1 ∧ i.2.2.1 = (if i.1 = 4 then 1 else 0) ∧ i.2.2.2 = nk nn i.1) ?_ ?_)
  · exact ⟨(0, _, 0, nn + 1), ⟨Nat.zero_le 4, rfl, rfl, rfl⟩, ⟨rfl, rfl, rfl, rfl, trivial⟩, rfl, 2, Nat.le_refl _, rfl, rfl⟩
  · rintro ⟨k, D, n, m⟩ ⟨hk, hD, hn, hm⟩
    have hk : k ≤ 4 := hk
    have hD : D = dk nn k := hD
    have hn : n = (if k = 4 then 1 else 0) := hn
    have hm : m = nk nn k := hm
    repeat' (first | with_reducible refine seq_k fun K1 n1 => ?_ | with_reducible refine seq_nil ?_ | with_reducible refine drw_k fun K1 n1 => ?_ | with_reducible refine drw_nil ?_ ?_ | with_reducible refine run_seq ?_ | with_reducible refine run_skip ?_ | with_reducible refine run_regS ?_ | with_reducible refine run_regD (by kernel_rfl) ?_ ?_ | with_reducible refine inl_k (by with_unfolding_all rfl) (Nat.le_of_ble_eq_true rfl) fun K1 n1 => ?_ | with_reducible refine inlA_k (by with_unfolding_all rfl) (Nat.le_of_ble_eq_true rfl) fun K1 n1 => ?_ | with_reducible refine run_finA ?_ | with_reducible refine run_cond ?_ | with_reducible refine run_block ?_ | with_reducible refine run_endb ?_ | with_reducible refine run_exit fun K1 n1 => ?_ | with_reducible refine run_ret fun K1 n1 => ?_ | with_reducible refine run_fin ?_ | with_reducible refine run_inv ?_ | with_reducible refine go_rounds ?_ | ((with_reducible refine Go.mk ?_); (conv => whnf)) | refine Fork.yes ?_ | refine Fork.no ?_ | refine Fork.dec (fun _ => ?_) (fun _ => ?_) | refine Fork.ndec (fun _ => ?_) (fun _ => ?_) | refine Fork.mk (fun _ => ?_) (fun _ => ?_) | refine Way.yesG ?_ | refine Way.noG ?_ | refine Way.decG (fun _ => ?_) (fun _ => ?_) | refine Way.ndecG (fun _ => ?_) (fun _ => ?_) | refine Way.mkG (fun _ => ?_) (fun _ => ?_) | with_reducible refine Need.mkG ?_ ?_ | refine AppW.go0 ?_ ?_ | with_reducible refine NilW.goG (fun _ => ?_) ?_ | ((with_reducible refine n1 _ _ _ ?_); clear n1 K1) | ((with_reducible refine n1 _ ?_); clear n1 K1) | ((with_reducible refine n1 _ _ ?_); clear n1 K1) | ((with_reducible refine n1 _ _ _ _ ?_); clear n1 K1) | fail)
    all_goals try (first | exact trivial | omega | kernel_rfl | decide | exact And.intro (by omega) (by omega))
    all_goals try dsimp only [Int.toNat_natCast] at *
    all_goals try (first | exact trivial | omega | exact And.intro (by omega) (by omega))
    all_goals
      have hst : ∀ h : k < 4, (F m D (stP nn) 0).2.2 = 0 ∧ (F m D (stP nn) 0).2.1.length = (if k = 3 then 1 else 0) ∧ (F 0 D (stP nn) 0).2.1.length = (if k = 3 then 1 else 0) ∧ (F m D (stP nn) 0).1 = dk nn (k + 1) := fun h => by
        rw [hF, hD, hm]
        refine ⟨(stAll nn k h).1, (stAll nn k h).2, ?_, rfl⟩
        rw [← step_rec (nk nn k)]
        exact (stAll nn k h).2
    · rename_i h1 h2
      exact absurd (hst (by omega)).1 h2
    · rename_i h1 h2
      obtain ⟨_, e1, e2, e3⟩ := hst (by omega)
      refine ⟨(k + 1, (F m D (stP nn) 0).1, (if k + 1 = 4 then 1 else 0), nk nn (k + 1)), (show 4 - (k + 1) < 4 - k by omega), ⟨(show k + 1 ≤ 4 by omega), e3, rfl, rfl⟩, ⟨?_, ?_, rfl, rfl, trivial⟩, ?_, 2, Nat.le_add_left _ _, rfl, rfl⟩
      · show some (SV.a (AV.of (V.leaf Ty.int (wrap64 (↑k + 1))))) = some (SV.a (AV.of (V.leaf Ty.int ((k + 1 : Nat) : Int))))
        rw [← wrap_succ k (by omega)]
      · show some (SV.a (AV.of (V.leaf Ty.int (wrap64 (n + ((F m D (stP nn) 0).2.1.length : Int)))))) = some (SV.a (AV.of (V.leaf Ty.int (if k + 1 = 4 then 1 else 0))))
        rw [e1, hn]
        have : k = 0 ∨ k = 1 ∨ k = 2 ∨ k = 3 := by omega
        rcases this with rfl | rfl | rfl | rfl <;> rfl
      · show (⟨m + (2 * (F 0 D (stP nn) 0).2.1.length + 2), []⟩ : NS) = ⟨nk nn (k + 1), []⟩
        rw [e2, hm]
        unfold nk
        have : k = 0 ∨ k = 1 ∨ k = 2 ∨ k = 3 := by omega
        rcases this with rfl | rfl | rfl | rfl <;> rfl
    · rename_i h1 h2
      obtain rfl : k = 4 := by omega
      refine Done.of ?_ (Or.inl rfl)
      show (_, ()) = (true, ())
      rw [hD, decide_eq_true (st4 nn)]
end Go.Proofs.Ytjbbgpacijageab.M
