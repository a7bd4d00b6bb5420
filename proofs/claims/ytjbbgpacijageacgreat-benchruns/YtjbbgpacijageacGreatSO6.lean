/- The document's own step of a desk, by the kind of instruction. -/
import Derived.Test.YtjbbgpacijageacGreatUT
namespace Go.Proofs.YtjbbgpacijageacGreat.M
open Go.RowKit
set_option linter.unusedVariables false
set_option linter.unusedSimpArgs false

set_option maxHeartbeats 1600000 in
theorem st_E {t0 t1 t2 : Ty} {v0 : t0.D} {v1 : t1.D} {v2 : t2.D} {D : deskT.D} {l : progsT.D} {c : Int} {i : instrT.D} {n : Nat} {tk : List (Hd × Nat)} (hg : goodK D = true) (hc : 0 ≤ c ∧ c < 2) (hi : fetchF (l c.toNat).2 (D.1 c.toNat).1 = i) (hop : i.1 = 11) (h9 : ¬ (D.1 c.toNat).2.2.2.2.2 = 399) (hd : 0 < (D.1 c.toNat).2.2.1) : StAt t0 t1 t2 v0 v1 v2 D l c i n tk := by
  intro K h
  have hk := core_ok hc hg
  refine ⟨[.ptr 3 0 [] workT, .of (.leaf .int c), .of (.leaf instrT i)], [.leaf t0 v0, .leaf t1 v1, .leaf t2 v2, .leaf workT (D, l, (nilH, []))], rfl, rfl, ?_⟩
  have e11 : i.1 = 11 := hop
  have e9 : ¬ i.1 = 9 := by rw [hop]; decide
  have e10 : ¬ i.1 = 10 := by rw [hop]; decide
  have e12 : ¬ i.1 = 12 := by rw [hop]; decide
  have n0 : ¬ (D.1 c.toNat).2.2.1 = 0 := fun e => by rw [e] at hd; exact absurd hd (by decide)
  have hN : isW i.2.2.2.2 = true := by
    have := fetch_ok (l c.toNat).2 (D.1 c.toNat).1
    rw [hi] at this
    unfold goodI at this
    simp only [Bool.and_eq_true] at this
    exact this.2.2.2.2
  have hN' : @LE.le Int _ 0 i.2.2.2.2 ∧ @LE.le Int _ i.2.2.2.2 4294967295 := of_decide_eq_true hN
  have ew : wrap64 (0 + (if 1000 < i.2.2.2.2 then 1000 else i.2.2.2.2)) = (if 1000 < i.2.2.2.2 then 1000 else i.2.2.2.2) := by
    generalize (i.2.2.2.2 : Int) = m at hN'
    rw [Int.zero_add]
    exact wrap_id (by split <;> omega)
  have eq : stepsF 0 D l c = failD D l c (if 1000 < i.2.2.2.2 then 1000 else i.2.2.2.2) := by
    unfold stepsF giveF
    rw [hi, if_neg h9, if_neg e9, if_neg e10, if_pos hop, if_neg n0, ew]
  repeat' (first | (with_reducible first | refine seq_k fun K1 n1 => ?_ | refine seq_nil ?_ | refine inlT_k (by with_unfolding_all rfl) (Nat.le_of_ble_eq_true rfl) fun K1 n1 => ?_ | refine run_seq ?_ | refine run_regS ?_ | refine run_cond ?_ | refine run_block ?_) | ((with_reducible refine Go.mk ?_); (conv => whnf)) | refine Fork.no ?_ | refine Fork.decT (by assumption) ?_ | refine Fork.decN (by assumption) ?_ | refine Way.yesG ?_ | refine Way.noG ?_ | refine Way.decT (by assumption) ?_ | refine Way.decN (by assumption) ?_ | refine Way.ndecP (by assumption) ?_ | (with_reducible first | refine Need.mkG ?_ ?_) | ((with_reducible refine n1 _ _ _ ?_); clear n1 K1) | ((with_reducible refine n1 _ _ ?_); clear n1 K1) | fail)
  all_goals try (omega)
  all_goals try dsimp only [Int.toNat_natCast] at *
  refine lax_norm (wfail_at_1 hg hc hd (Nat.zero_le _) (X := fun D' R' => AlX (D', R') (stepsF 0 D l c)) (fun _ _ h1 h2 => by rw [h1, h2, eq]; exact ⟨rfl, rfl⟩) ?_)
  rintro n' H' D' R' hn hx
  refine n1 _ _ _ ?_
  clear n1 K1
  repeat' (first | (with_reducible first | refine seq_nil ?_ | refine run_endb ?_ | refine run_fin ?_) | ((with_reducible refine Go.mk ?_); (conv => whnf)) | fail)
  exact st_end h rfl hx hn
end Go.Proofs.YtjbbgpacijageacGreat.M
