/- The law DeskBack. -/
import Derived.Test.YtjbbgpacijageabJ1
import Derived.Test.YtjbbgpacijageabJ2
import Derived.Test.YtjbbgpacijageabUL
namespace Go.Proofs.Ytjbbgpacijageab.M
open Go.RowKit
set_option linter.unusedVariables false
set_option linter.unusedSimpArgs false

/-- An answer is no error only where there is a transaction. -/
theorem back_ok {d : deskT.D} {l : List instrT.D} {c why : Int} (h : (abortF d l c why).2 = 0) : (goodK d = true ∧ 0 ≤ c ∧ c < 2) ∧ (abortF d l c why).1 = setCore d c.toNat (failC (d.1 c.toNat) l why) ∧ (d.1 c.toNat).2.2.1 ≠ 0 := by
  unfold abortF at h ⊢
  by_cases h1 : refF d c = 0
  · rw [if_pos h1] at h ⊢
    by_cases h2 : (d.1 c.toNat).2.2.1 = 0
    · rw [if_pos h2] at h
      cases h
    · rw [if_neg h2]
      exact ⟨ref_ok h1, rfl, h2⟩
  · rw [if_neg h1] at h
    exact absurd h h1
theorem sameD_refl (d : deskT.D) : sameD d d = true := by
  have hC : ∀ x : coreT.D, sameC x x = true := fun x => by
    unfold sameC
    rw [eqD_refl plainT rfl, eqD_refl (.arr 4 lineT) rfl, eqD_refl plainT rfl, decide_eq_true rfl, decide_eq_true rfl, decide_eq_true rfl]
    have : ((List.range x.2.2.2.2.1.2.length).all fun k => eqT writeT (nthD writeT x.2.2.2.2.1.2 k) (nthD writeT x.2.2.2.2.1.2 k)) = true := by
      rw [List.all_eq_true]
      exact fun i _ => eqD_refl writeT rfl _
    rw [this]
    rfl
  unfold sameD
  rw [hC, hC, eqD_refl (.arr 32 .int) rfl]
  rfl
theorem back_no {d : deskT.D} {l : List instrT.D} {c why : Int} (h : ¬ (abortF d l c why).2 = 0) : (abortF d l c why).1 = d := by
  unfold abortF at h ⊢
  by_cases h1 : refF d c = 0
  · rw [if_pos h1] at h ⊢
    by_cases h2 : (d.1 c.toNat).2.2.1 = 0
    · rw [if_pos h2]
    · rw [if_neg h2] at h
      exact absurd rfl h
  · rw [if_neg h1]
theorem back_ref {d : deskT.D} {l : List instrT.D} {c why : Int} (hs : sameD (abortF d l c why).1 d = false) (hc : ¬ (abortF d l c why).2 = 0 ∨ c < 0 ∨ 2 ≤ c) : False := by
  by_cases h : (abortF d l c why).2 = 0
  · have := (back_ok h).1
    omega
  · rw [back_no h, sameD_refl] at hs
    cases hs
set_option maxHeartbeats 1600000 in
theorem c_DeskBack : Ctr Try.prog 9 (lawS [deskT, .lst instrT, .int, .int]) := by
  refine ctr_of tabOk (SpecsOk.cons c_kSteps (by kernel_rfl) (SpecsOk.cons c_kSame (by kernel_rfl) (SpecsOk.cons c_Abort (by kernel_rfl) (SpecsOk.cons c_Fetch (by kernel_rfl) (SpecsOk.cons c_Values (by kernel_rfl) (SpecsOk.cons c_dGood (by kernel_rfl) (SpecsOk.nil _))))))) Try.func9 rfl _ (Nat.le_of_ble_eq_true rfl) (fun _ _ => rfl) ?_
  rintro nn ⟨d, ⟨hl, l⟩, (c : Int), (why : Int), ⟨⟩⟩ _ hb
  refine ⟨200, init_k fun K1 n1 => ?_⟩
  conv => whnf
  refine n1 _ ?_
  clear n1 K1
  repeat' (first | with_reducible refine seq_k fun K1 n1 => ?_ | with_reducible refine seq_nil ?_ | with_reducible refine drw_k fun K1 n1 => ?_ | with_reducible refine drw_nil ?_ ?_ | with_reducible refine run_seq ?_ | with_reducible refine run_skip ?_ | with_reducible refine run_regS ?_ | with_reducible refine run_regD (by kernel_rfl) ?_ ?_ | with_reducible refine inl_k (by with_unfolding_all rfl) (Nat.le_of_ble_eq_true rfl) fun K1 n1 => ?_ | with_reducible refine inlA_k (by with_unfolding_all rfl) (Nat.le_of_ble_eq_true rfl) fun K1 n1 => ?_ | with_reducible refine run_finA ?_ | with_reducible refine run_cond ?_ | with_reducible refine run_block ?_ | with_reducible refine run_endb ?_ | with_reducible refine run_exit fun K1 n1 => ?_ | with_reducible refine run_ret fun K1 n1 => ?_ | with_reducible refine run_fin ?_ | with_reducible refine run_inv ?_ | with_reducible refine go_rounds ?_ | ((with_reducible refine Go.mk ?_); (conv => whnf)) | refine Fork.yes ?_ | refine Fork.no ?_ | refine Fork.dec (fun _ => ?_) (fun _ => ?_) | refine Fork.ndec (fun _ => ?_) (fun _ => ?_) | refine Fork.mk (fun _ => ?_) (fun _ => ?_) | refine Way.yesG ?_ | refine Way.noG ?_ | refine Way.decG (fun _ => ?_) (fun _ => ?_) | refine Way.ndecG (fun _ => ?_) (fun _ => ?_) | refine Way.mkG (fun _ => ?_) (fun _ => ?_) | with_reducible refine Need.mkG ?_ ?_ | refine AppW.go0 ?_ ?_ | with_reducible refine NilW.goG (fun _ => ?_) ?_ | ((with_reducible refine n1 _ _ _ ?_); clear n1 K1) | ((with_reducible refine n1 _ ?_); clear n1 K1) | ((with_reducible refine n1 _ _ ?_); clear n1 K1) | ((with_reducible refine n1 _ _ _ _ ?_); clear n1 K1) | fail)
  all_goals try (first | exact trivial | omega | kernel_rfl | decide | exact And.intro (by omega) (by omega))
  all_goals try dsimp only [Int.toNat_natCast] at *
  all_goals try (first | exact trivial | omega | exact And.intro (by omega) (by omega))
  all_goals try exact Done.of rfl (Or.inl rfl)
  all_goals first
    | (exfalso; exact back_ref (d := d) (l := l) (c := c) (why := why) (by assumption) (Or.inl (by assumption)))
    | (exfalso; exact back_ref (d := d) (l := l) (c := c) (why := why) (by assumption) (Or.inr (Or.inl (by assumption))))
    | (exfalso; exact back_ref (d := d) (l := l) (c := c) (why := why) (by assumption) (Or.inr (Or.inr (by assumption))))
    | skip
  all_goals first
    | exact (show 0 ≤ c ∧ c < 2 from ⟨by omega, by omega⟩)
    | skip
  · rename_i h0 h1 h2
    have hc : 0 ≤ c ∧ c < 2 := by omega
    obtain ⟨hg, hX, hd⟩ := back_ok h0
    refine run_loop (loop_fam (ι := Nat) (fun k => [(56, .a (.of (.leaf .int (k : Int)))), (13, .a (.ptr 4 0 [] instrT)), (12, .a (.ptr 3 0 [] plainT)), (11, .a (.ptr 2 0 [] plainT)), (9, .a (.ptr 1 0 [] deskT)), (4, .a (.ptr 0 0 [] deskT)), (2, .a (.of (.leaf .int c)))])
      (fun _ => [.leaf deskT d, .leaf deskT (abortF d l c why).1, .leaf plainT ((abortF d l c why).1.1 c.toNat).1, .leaf plainT (d.1 c.toNat).2.2.2.1, .leaf instrT (fetchF l (d.1 c.toNat).2.2.2.1)]) (fun _ => ⟨nn, []⟩) (fun k => 8 - k) (fun k => k ≤ 8) ?_ ?_)
    · exact ⟨0, Nat.zero_le _, ⟨rfl, rfl, rfl, rfl, rfl, rfl, rfl, trivial⟩, rfl, 5, Nat.le_refl _, rfl, rfl⟩
    · intro k hk
      have hk : k ≤ 8 := hk
      repeat' (first | with_reducible refine seq_k fun K1 n1 => ?_ | with_reducible refine seq_nil ?_ | with_reducible refine drw_k fun K1 n1 => ?_ | with_reducible refine drw_nil ?_ ?_ | with_reducible refine run_seq ?_ | with_reducible refine run_skip ?_ | with_reducible refine run_regS ?_ | with_reducible refine run_regD (by kernel_rfl) ?_ ?_ | with_reducible refine inl_k (by with_unfolding_all rfl) (Nat.le_of_ble_eq_true rfl) fun K1 n1 => ?_ | with_reducible refine inlA_k (by with_unfolding_all rfl) (Nat.le_of_ble_eq_true rfl) fun K1 n1 => ?_ | with_reducible refine run_finA ?_ | with_reducible refine run_cond ?_ | with_reducible refine run_block ?_ | with_reducible refine run_endb ?_ | with_reducible refine run_exit fun K1 n1 => ?_ | with_reducible refine run_ret fun K1 n1 => ?_ | with_reducible refine run_fin ?_ | with_reducible refine run_inv ?_ | with_reducible refine go_rounds ?_ | ((with_reducible refine Go.mk ?_); (conv => whnf)) | refine Fork.yes ?_ | refine Fork.no ?_ | refine Fork.dec (fun _ => ?_) (fun _ => ?_) | refine Fork.ndec (fun _ => ?_) (fun _ => ?_) | refine Fork.mk (fun _ => ?_) (fun _ => ?_) | refine Way.yesG ?_ | refine Way.noG ?_ | refine Way.decG (fun _ => ?_) (fun _ => ?_) | refine Way.ndecG (fun _ => ?_) (fun _ => ?_) | refine Way.mkG (fun _ => ?_) (fun _ => ?_) | with_reducible refine Need.mkG ?_ ?_ | refine AppW.go0 ?_ ?_ | with_reducible refine NilW.goG (fun _ => ?_) ?_ | ((with_reducible refine n1 _ _ _ ?_); clear n1 K1) | ((with_reducible refine n1 _ ?_); clear n1 K1) | ((with_reducible refine n1 _ _ ?_); clear n1 K1) | ((with_reducible refine n1 _ _ _ _ ?_); clear n1 K1) | fail)
      all_goals try (first | exact trivial | omega | kernel_rfl | decide | exact And.intro (by omega) (by omega))
      all_goals try dsimp only [Int.toNat_natCast] at *
      all_goals try (first | exact trivial | omega | exact And.intro (by omega) (by omega))
      all_goals
        have eN : ((abortF d l c why).1.1 c.toNat).1 = failP (d.1 c.toNat) l why := by rw [hX, set_at]; rfl
        have eD : ((abortF d l c why).1.1 c.toNat).2.2.1 = 0 := by rw [hX, set_at]; rfl
      · rename_i g1 g2 g3
        exfalso
        apply g2
        rw [eN]
        show (putF (d.1 c.toNat).2.2.2.1 (fetchF l (d.1 c.toNat).2.2.2.1).2.1 why).1 k = _
        unfold putF
        split
        · rename_i g4
          refine updA_ne fun g5 => g3 ?_
          omega
        · rfl
      · exact ⟨k + 1, by omega, (show k + 1 ≤ 8 by omega), ⟨by
          show some (SV.a (AV.of (V.leaf Ty.int (wrap64 (↑k + 1))))) = some (SV.a (AV.of (V.leaf Ty.int ((k + 1 : Nat) : Int))))
          rw [← wrap_succ k (by omega)], rfl, rfl, rfl, rfl, rfl, rfl, trivial⟩, rfl, 5, Nat.le_refl _, rfl, rfl⟩
      · exact ⟨k + 1, by omega, (show k + 1 ≤ 8 by omega), ⟨by
          show some (SV.a (AV.of (V.leaf Ty.int (wrap64 (↑k + 1))))) = some (SV.a (AV.of (V.leaf Ty.int ((k + 1 : Nat) : Int))))
          rw [← wrap_succ k (by omega)], rfl, rfl, rfl, rfl, rfl, rfl, trivial⟩, rfl, 5, Nat.le_refl _, rfl, rfl⟩
      · refine Done.of ?_ (Or.inl rfl)
        show (_, ()) = (true, ())
        rw [hX, fail_good hg.1 (by omega) hd]
      · rename_i g1 g2 g3 g4
        exfalso
        rw [hX, vals_same (val_same (fail_same (goodK_D hg.1) _ _ _))] at g4
        cases g4
      · rename_i g1 g2 g3
        exact absurd eD g3
      · rename_i g1 g2
        exact absurd (by rw [eN]; rfl) g2
end Go.Proofs.Ytjbbgpacijageab.M
