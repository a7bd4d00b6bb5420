/- The document's own functions on desks: lines let go, kicks. -/
import Derived.Test.YtjbbgpacijageacGreatR15
import Derived.Test.YtjbbgpacijageacGreatUL
import Derived.Test.YtjbbgpacijageacGreatR10
namespace Go.Proofs.YtjbbgpacijageacGreat.M
open Go.RowKit
set_option linter.unusedVariables false
set_option linter.unusedSimpArgs false

theorem ref_bad {d : deskT.D} {c : Int} (h : (!goodK d) = true) : refF d c = 1 := by
  unfold refF
  rw [if_neg (show ¬ goodK d = true by rw [not_t' h]; decide)]
theorem ref_out {d : deskT.D} {c : Int} (h : (!goodK d) = false) (g : ¬ (0 ≤ c ∧ c < 2)) : refF d c = 5 := by
  unfold refF
  rw [if_pos (not_f h), if_neg g]
theorem ref_in {d : deskT.D} {c : Int} (h : (!goodK d) = false) (g : 0 ≤ c ∧ c < 2) : refF d c = 0 := by
  unfold refF
  rw [if_pos (not_f h), if_pos g]
theorem abort_in {d : deskT.D} {c : Int} (h : (!goodK d) = false) (g : 0 ≤ c ∧ c < 2) (hd : 0 < (d.1 c.toNat).2.2.1) (l : List instrT.D) (why : Int) : (abortF d l c why).1 = setCore d c.toNat (failC (d.1 c.toNat) l why) := by
  unfold abortF
  rw [if_pos (ref_in h g), if_neg (fun e => by rw [e] at hd; exact absurd hd (by decide))]
theorem read_deep {d : deskT.D} {c way : Int} (h : (!goodK d) = false) (g : 0 ≤ c ∧ c < 2) (hw : 0 ≤ way ∧ way < 4) (hr : ((d.1 c.toNat).2.1 way.toNat).2.2.2 = true) (hd : ¬ 0 < (d.1 c.toNat).2.2.1) : False := by
  have hk := ((goodK_iff d).1 (not_f h)).1 c.toNat (by omega)
  have h0 : (d.1 c.toNat).2.2.1 = 0 := Int.le_antisymm (Int.not_lt.1 hd) hk.lo
  have h3 := (hk.out h0).2.2.2
  have : anyRead (d.1 c.toNat) = true := (any_iff _).2 ⟨way.toNat, by omega, hr⟩
  rw [h3] at this
  cases this
set_option maxHeartbeats 3200000 in
theorem c_EvictOf (c_IsDesk : Ctr Tryz.prog 66 goodKS) (c_AbortOf : Ctr Tryz.prog 104 abortS) : Ctr Tryz.prog 44 evictS := by
  refine ctr_ofT [(nilH, 3)] ⟨[3], rfl⟩ tabROk (SpecsOk.cons c_IsDesk (by kernel_rfl) (SpecsOk.cons c_DropLine (by kernel_rfl) (SpecsOk.mut (inl_ok tabROk (SpecsOk.cons c_AbortOf (by kernel_rfl) (SpecsOk.mut (inl_ok tabROk (SpecsOk.nil _) Tryz.func99 []) (by kernel_rfl) (SpecsOk.nil _))) Tryz.func70 []) (by kernel_rfl) (SpecsOk.nil _)))) Tryz.func44 rfl _ (Nat.le_of_ble_eq_true rfl) (fun h => by cases h) ?_
  rintro nn ⟨d, l, (c : Int), (way : Int), ⟨⟩⟩ _ hb
  refine ⟨200, init_k fun K1 n1 => ?_⟩
  conv => whnf
  refine n1 _ ?_
  clear n1 K1
  repeat' (first | (with_reducible first | refine seq_k fun K1 n1 => ?_ | refine seq_nil ?_ | refine drw_k fun K1 n1 => ?_ | refine drw_nil ?_ ?_ | refine run_seq ?_ | refine run_skip ?_ | refine run_regS ?_ | refine run_regD (by kernel_rfl) ?_ ?_ | refine inl_k (by with_unfolding_all rfl) (Nat.le_of_ble_eq_true rfl) fun K1 n1 => ?_ | refine run_cond ?_ | refine run_ret fun K1 n1 => ?_ | refine run_fin ?_) | ((with_reducible refine Go.mk ?_); (conv => whnf)) | refine Fork.yes ?_ | refine Fork.dec (fun _ => ?_) (fun _ => ?_) | refine Fork.mk (fun _ => ?_) (fun _ => ?_) | refine Way.yesG ?_ | refine Way.noG ?_ | refine Way.decG (fun _ => ?_) (fun _ => ?_) | refine Way.ndecG (fun _ => ?_) (fun _ => ?_) | (with_reducible first | refine Need.mkG ?_ ?_) | refine AppW.go0 ?_ ?_ | ((with_reducible refine n1 _ _ _ ?_); clear n1 K1) | ((with_reducible refine n1 _ ?_); clear n1 K1) | ((with_reducible refine n1 _ _ ?_); clear n1 K1) | ((with_reducible refine n1 _ _ _ _ ?_); clear n1 K1) | fail)
  all_goals try (first | exact trivial | kernel_rfl | decide)
  all_goals try dsimp only [Int.toNat_natCast] at *
  all_goals first
    | exact (show 0 ≤ c ∧ c < 2 by omega)
    | exact (show 0 ≤ way ∧ way < 4 by omega)
    | exact one_small
    | (have hg : (!goodK d) = true := by assumption
       exact act_done (x := (d, [], 1)) (by show _ = evictF d l c way; unfold evictF; rw [ref_bad hg]; rfl) rfl rfl (by show nn ≤ nn + 2 * 0 + 2; omega))
    | skip
  all_goals have hg : (!goodK d) = false := by assumption
  all_goals first
      | (exact act_done (x := (d, [], 5)) (by show _ = evictF d l c way; unfold evictF; rw [ref_out hg (show ¬ (0 ≤ c ∧ c < 2) by omega)]; rfl) rfl rfl (by show nn ≤ nn + 2 * 0 + 2; omega))
      | (exact act_done (x := (d, [], 5)) (by show _ = evictF d l c way; unfold evictF; rw [if_pos (ref_in hg (show 0 ≤ c ∧ c < 2 by omega)), if_neg (show ¬ (0 ≤ way ∧ way < 4) by omega)]) rfl rfl (by show nn ≤ nn + 2 * 0 + 2; omega))
      | skip
  all_goals have hc : 0 ≤ c ∧ c < 2 := by omega
  all_goals have hw : 0 ≤ way ∧ way < 4 := by omega
  all_goals first
    | (have hd : 0 < (d.1 c.toNat).2.2.1 := by assumption
       rw [abort_in hg hc hd]
       exact act_done (x := (dropF (failD d l c 1002).1 c way, [(3, c, 1002)], 0)) (by show _ = evictF d l c way; unfold evictF; rw [if_pos (ref_in hg hc), if_pos hw, if_pos (by assumption)]; rfl) rfl rfl (Nat.le_add_right _ 2))
    | (exfalso; exact read_deep hg hc (by omega) (by assumption) (by assumption))
    | (exact act_done (x := (dropF d c way, [], 0)) (by show _ = evictF d l c way; unfold evictF; rw [if_pos (ref_in hg hc), if_pos hw, if_neg (show ¬ _ = true by rw [show ((d.1 c.toNat).2.1 way.toNat).2.2.2 = false from by assumption]; decide)]) rfl rfl (by show nn ≤ nn + 2 * 0 + 2; omega))
set_option maxHeartbeats 3200000 in
theorem c_KickOf (c_IsDesk : Ctr Tryz.prog 66 goodKS) (c_AbortOf : Ctr Tryz.prog 104 abortS) : Ctr Tryz.prog 45 kickS := by
  refine ctr_ofT [(nilH, 3)] ⟨[3], rfl⟩ tabROk (SpecsOk.cons c_IsDesk (by kernel_rfl) (SpecsOk.mut (inl_ok tabROk (SpecsOk.cons c_AbortOf (by kernel_rfl) (SpecsOk.mut (inl_ok tabROk (SpecsOk.nil _) Tryz.func99 []) (by kernel_rfl) (SpecsOk.nil _))) Tryz.func70 []) (by kernel_rfl) (SpecsOk.nil _))) Tryz.func45 rfl _ (Nat.le_of_ble_eq_true rfl) (fun h => by cases h) ?_
  rintro nn ⟨d, l, (c : Int), ⟨⟩⟩ _ hb
  refine ⟨200, init_k fun K1 n1 => ?_⟩
  conv => whnf
  refine n1 _ ?_
  clear n1 K1
  repeat' (first | (with_reducible first | refine seq_k fun K1 n1 => ?_ | refine seq_nil ?_ | refine drw_k fun K1 n1 => ?_ | refine drw_nil ?_ ?_ | refine run_seq ?_ | refine run_skip ?_ | refine run_regS ?_ | refine run_regD (by kernel_rfl) ?_ ?_ | refine inl_k (by with_unfolding_all rfl) (Nat.le_of_ble_eq_true rfl) fun K1 n1 => ?_ | refine run_cond ?_ | refine run_ret fun K1 n1 => ?_ | refine run_fin ?_) | ((with_reducible refine Go.mk ?_); (conv => whnf)) | refine Fork.no ?_ | refine Fork.dec (fun _ => ?_) (fun _ => ?_) | refine Fork.ndec (fun _ => ?_) (fun _ => ?_) | refine Fork.mk (fun _ => ?_) (fun _ => ?_) | refine Way.yesG ?_ | refine Way.noG ?_ | refine Way.ndecG (fun _ => ?_) (fun _ => ?_) | (with_reducible first | refine Need.mkG ?_ ?_) | refine AppW.go0 ?_ ?_ | ((with_reducible refine n1 _ _ _ ?_); clear n1 K1) | ((with_reducible refine n1 _ ?_); clear n1 K1) | ((with_reducible refine n1 _ _ ?_); clear n1 K1) | ((with_reducible refine n1 _ _ _ _ ?_); clear n1 K1) | fail)
  all_goals try (first | exact trivial | kernel_rfl | decide)
  all_goals try dsimp only [Int.toNat_natCast] at *
  all_goals first
    | exact (show 0 ≤ c ∧ c < 2 by omega)
    | fail
    | exact one_small
    | (have hg : (!goodK d) = true := by assumption
       exact act_done (x := (d, [], 1)) (by show _ = kickF d l c; unfold kickF; rw [ref_bad hg]; rfl) rfl rfl (by show nn ≤ nn + 2 * 0 + 2; omega))
    | skip
  all_goals have hg : (!goodK d) = false := by assumption
  all_goals first
      | (exact act_done (x := (d, [], 5)) (by show _ = kickF d l c; unfold kickF; rw [ref_out hg (show ¬ (0 ≤ c ∧ c < 2) by omega)]; rfl) rfl rfl (by show nn ≤ nn + 2 * 0 + 2; omega))
      | skip
  all_goals have hc : 0 ≤ c ∧ c < 2 := by omega
  all_goals skip
  all_goals first
    | (have hd : 0 < (d.1 c.toNat).2.2.1 := by assumption
       rw [abort_in hg hc hd]
       exact act_done (x := ((failD d l c 1004).1, [(3, c, 1004)], 0)) (by show _ = kickF d l c; unfold kickF; rw [if_pos (ref_in hg hc), if_pos (by assumption)]; rfl) rfl rfl (Nat.le_add_right _ 2))
    | (exact act_done (x := (d, [], 0)) (by show _ = kickF d l c; unfold kickF; rw [if_pos (ref_in hg hc), if_neg (by assumption)]) rfl rfl (by show nn ≤ nn + 2 * 0 + 2; omega))
end Go.Proofs.YtjbbgpacijageacGreat.M
