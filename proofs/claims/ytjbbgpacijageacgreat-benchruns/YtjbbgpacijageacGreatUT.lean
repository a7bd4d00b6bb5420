/- Several texts in one. -/
import Derived.Test.YtjbbgpacijageacGreatSO3
import Derived.Test.YtjbbgpacijageacGreatSO45
import Derived.Test.YtjbbgpacijageacGreatSO46
import Derived.Test.YtjbbgpacijageacGreatSO47
/- The document's own step of a desk, by the kind of instruction. -/
namespace Go.Proofs.YtjbbgpacijageacGreat.M
open Go.RowKit
set_option linter.unusedVariables false
set_option linter.unusedSimpArgs false

abbrev StAt (t0 t1 t2 : Ty) (v0 : t0.D) (v1 : t1.D) (v2 : t2.D) (D : deskT.D) (l : progsT.D) (c : Int) (i : instrT.D) (n : Nat) (tk : List (Hd × Nat)) : Prop :=
  ∀ K : SV → List V → NS → Prop, (∀ n' D' H' R', n ≤ n' → AlX (D', R') (stepsF 0 D l c) → K (.tup []) [.leaf t0 v0, .leaf t1 v1, .leaf t2 v2, .leaf workT (D', l, (H', R'))] ⟨n', []⟩) → wstepTr [.ptr 3 0 [] workT, .of (.leaf .int c), .of (.leaf instrT i)] [.leaf t0 v0, .leaf t1 v1, .leaf t2 v2, .leaf workT (D, l, (nilH, []))] ⟨n, ((D.1 0).2.2.2.2.1.1, 2) :: ((D.1 1).2.2.2.2.1.1, 2) :: (nilH, 3) :: tk⟩ K
theorem st_end {t0 t1 t2 : Ty} {v0 : t0.D} {v1 : t1.D} {v2 : t2.D}  {D : deskT.D} {l : progsT.D} {c : Int} {n : Nat} {K : SV → List V → NS → Prop} (h : ∀ n' D' H' R', n ≤ n' → AlX (D', R') (stepsF 0 D l c) → K (.tup []) [.leaf t0 v0, .leaf t1 v1, .leaf t2 v2, .leaf workT (D', l, (H', R'))] ⟨n', []⟩) {v : V} {junk : List V} {n' : Nat} {tk' : List (Hd × Nat)} {D' : deskT.D} {H' : Hd} {R' : Rec} (hv : v.norm = .leaf workT (D', l, (H', R'))) (hx : AlX (D', R') (stepsF 0 D l c)) (hn : n ≤ n') :
    LaxE 4 K (.tup []) (.leaf t0 v0 :: .leaf t1 v1 :: .leaf t2 v2 :: v :: junk) ⟨n', tk'⟩ := by
  refine LaxE.mk' 4 n' [] (Nat.le_refl _) (by simp only [List.length_cons]; omega) rfl (Nat.le_refl _) (TkLe.nil _) ?_
  show K _ [.leaf t0 v0, .leaf t1 v1, .leaf t2 v2, v.norm] _
  rw [hv]
  exact h n' D' H' R' hn hx
end Go.Proofs.YtjbbgpacijageacGreat.M

/- The document's own step of a desk, by the kind of instruction. -/
namespace Go.Proofs.YtjbbgpacijageacGreat.M
open Go.RowKit
set_option linter.unusedVariables false
set_option linter.unusedSimpArgs false

set_option maxHeartbeats 1600000 in
theorem st_A {t0 t1 t2 : Ty} {v0 : t0.D} {v1 : t1.D} {v2 : t2.D} {D : deskT.D} {l : progsT.D} {c : Int} {i : instrT.D} {n : Nat} {tk : List (Hd × Nat)} (hg : goodK D = true) (hc : 0 ≤ c ∧ c < 2) (hi : fetchF (l c.toNat).2 (D.1 c.toNat).1 = i) (h9 : (D.1 c.toNat).2.2.2.2.2 = 399) (hd : 0 < (D.1 c.toNat).2.2.1) : StAt t0 t1 t2 v0 v1 v2 D l c i n tk := by
  intro K h
  have hk := core_ok hc hg
  refine ⟨[.ptr 3 0 [] workT, .of (.leaf .int c), .of (.leaf instrT i)], [.leaf t0 v0, .leaf t1 v1, .leaf t2 v2, .leaf workT (D, l, (nilH, []))], rfl, rfl, ?_⟩
  have eq : stepsF 0 D l c = failD D l c 1002 := by
    unfold stepsF
    rw [if_pos h9]
  repeat' (first | (with_reducible first | refine seq_k fun K1 n1 => ?_ | refine seq_nil ?_ | refine inlT_k (by with_unfolding_all rfl) (Nat.le_of_ble_eq_true rfl) fun K1 n1 => ?_ | refine run_seq ?_ | refine run_regS ?_ | refine run_cond ?_ | refine run_block ?_) | ((with_reducible refine Go.mk ?_); (conv => whnf)) | refine Fork.decT (by assumption) ?_ | refine Way.yesG ?_ | refine Way.decT (by assumption) ?_ | (with_reducible first | refine Need.mkG ?_ ?_) | ((with_reducible refine n1 _ _ _ ?_); clear n1 K1) | ((with_reducible refine n1 _ _ ?_); clear n1 K1) | fail)
  all_goals try (omega)
  all_goals try dsimp only [Int.toNat_natCast] at *
  refine lax_norm (wfail_at_1 hg hc hd (Nat.zero_le _) (X := fun D' R' => AlX (D', R') (stepsF 0 D l c)) (fun _ _ h1 h2 => by rw [h1, h2, eq]; exact ⟨rfl, rfl⟩) ?_)
  rintro n' H' D' R' hn hx
  refine n1 _ _ _ ?_
  clear n1 K1
  repeat' (first | (with_reducible first | refine seq_nil ?_ | refine run_endb ?_ | refine run_fin ?_) | ((with_reducible refine Go.mk ?_); (conv => whnf)) | fail)
  exact st_end h rfl hx hn
set_option maxHeartbeats 1600000 in
theorem st_B {t0 t1 t2 : Ty} {v0 : t0.D} {v1 : t1.D} {v2 : t2.D} {D : deskT.D} {l : progsT.D} {c : Int} {i : instrT.D} {n : Nat} {tk : List (Hd × Nat)} (hg : goodK D = true) (hc : 0 ≤ c ∧ c < 2) (hi : fetchF (l c.toNat).2 (D.1 c.toNat).1 = i) (hop : i.1 = 9) (h9 : ¬ (D.1 c.toNat).2.2.2.2.2 = 399) (h3 : (D.1 c.toNat).2.2.1 = 3) (hd : 0 < (D.1 c.toNat).2.2.1) : StAt t0 t1 t2 v0 v1 v2 D l c i n tk := by
  intro K h
  have hk := core_ok hc hg
  refine ⟨[.ptr 3 0 [] workT, .of (.leaf .int c), .of (.leaf instrT i)], [.leaf t0 v0, .leaf t1 v1, .leaf t2 v2, .leaf workT (D, l, (nilH, []))], rfl, rfl, ?_⟩
  have e9 : i.1 = 9 := hop
  have e10 : ¬ i.1 = 10 := by rw [hop]; decide
  have e11 : ¬ i.1 = 11 := by rw [hop]; decide
  have e12 : ¬ i.1 = 12 := by rw [hop]; decide
  have eq : stepsF 0 D l c = failD D l c 1005 := by
    unfold stepsF beginF
    rw [hi, if_neg h9, if_pos hop, if_pos h3]
  repeat' (first | (with_reducible first | refine seq_k fun K1 n1 => ?_ | refine seq_nil ?_ | refine inlT_k (by with_unfolding_all rfl) (Nat.le_of_ble_eq_true rfl) fun K1 n1 => ?_ | refine run_seq ?_ | refine run_regS ?_ | refine run_cond ?_ | refine run_block ?_) | ((with_reducible refine Go.mk ?_); (conv => whnf)) | refine Fork.decT (by assumption) ?_ | refine Fork.decN (by assumption) ?_ | refine Way.yesG ?_ | refine Way.decT (by assumption) ?_ | (with_reducible first | refine Need.mkG ?_ ?_) | ((with_reducible refine n1 _ _ _ ?_); clear n1 K1) | ((with_reducible refine n1 _ _ ?_); clear n1 K1) | fail)
  all_goals try (omega)
  all_goals try dsimp only [Int.toNat_natCast] at *
  refine lax_norm (wfail_at_1 hg hc hd (Nat.zero_le _) (X := fun D' R' => AlX (D', R') (stepsF 0 D l c)) (fun _ _ h1 h2 => by rw [h1, h2, eq]; exact ⟨rfl, rfl⟩) ?_)
  rintro n' H' D' R' hn hx
  refine n1 _ _ _ ?_
  clear n1 K1
  repeat' (first | (with_reducible first | refine seq_nil ?_ | refine run_endb ?_ | refine run_fin ?_) | ((with_reducible refine Go.mk ?_); (conv => whnf)) | fail)
  exact st_end h rfl hx hn
set_option maxHeartbeats 1600000 in
theorem st_C1 {t0 t1 t2 : Ty} {v0 : t0.D} {v1 : t1.D} {v2 : t2.D} {D : deskT.D} {l : progsT.D} {c : Int} {i : instrT.D} {n : Nat} {tk : List (Hd × Nat)} (hg : goodK D = true) (hc : 0 ≤ c ∧ c < 2) (hi : fetchF (l c.toNat).2 (D.1 c.toNat).1 = i) (hop : i.1 = 9) (h9 : ¬ (D.1 c.toNat).2.2.2.2.2 = 399) (h3 : ¬ (D.1 c.toNat).2.2.1 = 3) (hd : 0 < (D.1 c.toNat).2.2.1) : StAt t0 t1 t2 v0 v1 v2 D l c i n tk := by
  intro K h
  have hk := core_ok hc hg
  refine ⟨[.ptr 3 0 [] workT, .of (.leaf .int c), .of (.leaf instrT i)], [.leaf t0 v0, .leaf t1 v1, .leaf t2 v2, .leaf workT (D, l, (nilH, []))], rfl, rfl, ?_⟩
  have e9 : i.1 = 9 := hop
  have e10 : ¬ i.1 = 10 := by rw [hop]; decide
  have e11 : ¬ i.1 = 11 := by rw [hop]; decide
  have e12 : ¬ i.1 = 12 := by rw [hop]; decide
  have n0 : ¬ (D.1 c.toNat).2.2.1 = 0 := fun e => by rw [e] at hd; exact absurd hd (by decide)
  have eE : setCore D c.toNat ((D.1 c.toNat).1, (D.1 c.toNat).2.1, wrap64 ((D.1 c.toNat).2.2.1 + 1), (D.1 c.toNat).2.2.2) = setCore D c.toNat (beganC (D.1 c.toNat)) := by
    unfold beganC
    rw [if_neg n0]
  have eq : stepsF 0 D l c = onF (setCore D c.toNat ((D.1 c.toNat).1, (D.1 c.toNat).2.1, wrap64 ((D.1 c.toNat).2.2.1 + 1), (D.1 c.toNat).2.2.2)) c := by
    rw [eE]
    unfold stepsF beginF
    rw [hi, if_neg h9, if_pos hop, if_neg h3]
  repeat' (first | (with_reducible first | refine seq_k fun K1 n1 => ?_ | refine seq_nil ?_ | refine inlT_k (by with_unfolding_all rfl) (Nat.le_of_ble_eq_true rfl) fun K1 n1 => ?_ | refine run_seq ?_ | refine run_skip ?_ | refine run_regS ?_ | refine run_cond ?_ | refine run_block ?_) | ((with_reducible refine Go.mk ?_); (conv => whnf)) | refine Fork.decT (by assumption) ?_ | refine Fork.decN (by assumption) ?_ | refine Fork.ndecP (by assumption) ?_ | refine Way.yesG ?_ | refine Way.decT (by assumption) ?_ | (with_reducible first | refine Need.mkG ?_ ?_) | ((with_reducible refine n1 _ _ _ ?_); clear n1 K1) | ((with_reducible refine n1 _ _ ?_); clear n1 K1) | fail)
  all_goals try (omega)
  all_goals try dsimp only [Int.toNat_natCast] at *
  refine lax_norm (won_at_1 (D := setCore D c.toNat ((D.1 c.toNat).1, (D.1 c.toNat).2.1, wrap64 ((D.1 c.toNat).2.2.1 + 1), (D.1 c.toNat).2.2.2)) hc (by rw [eE, set_at]; exact (deep_i1 hk.lo hk.hi h3).1) (Nat.zero_le _) (X := fun D' R' => AlX (D', R') (stepsF 0 D l c)) (fun _ _ h1 h2 => by rw [h1, h2, eq]; exact ⟨rfl, rfl⟩) ?_)
  rintro n' H' D' R' hn hx
  refine n1 _ _ _ ?_
  clear n1 K1
  repeat' (first | (with_reducible first | refine seq_nil ?_ | refine run_endb ?_ | refine run_fin ?_) | ((with_reducible refine Go.mk ?_); (conv => whnf)) | fail)
  exact st_end h rfl hx hn
set_option maxHeartbeats 1600000 in
theorem st_C0 {t0 t1 t2 : Ty} {v0 : t0.D} {v1 : t1.D} {v2 : t2.D} {D : deskT.D} {l : progsT.D} {c : Int} {i : instrT.D} {n : Nat} {tk : List (Hd × Nat)} (hg : goodK D = true) (hc : 0 ≤ c ∧ c < 2) (hi : fetchF (l c.toNat).2 (D.1 c.toNat).1 = i) (hop : i.1 = 9) (h9 : ¬ (D.1 c.toNat).2.2.2.2.2 = 399) (h3 : ¬ (D.1 c.toNat).2.2.1 = 3) (hd : ¬ 0 < (D.1 c.toNat).2.2.1) : StAt t0 t1 t2 v0 v1 v2 D l c i n tk := by
  intro K h
  have hk := core_ok hc hg
  refine ⟨[.ptr 3 0 [] workT, .of (.leaf .int c), .of (.leaf instrT i)], [.leaf t0 v0, .leaf t1 v1, .leaf t2 v2, .leaf workT (D, l, (nilH, []))], rfl, rfl, ?_⟩
  have e9 : i.1 = 9 := hop
  have e10 : ¬ i.1 = 10 := by rw [hop]; decide
  have e11 : ¬ i.1 = 11 := by rw [hop]; decide
  have e12 : ¬ i.1 = 12 := by rw [hop]; decide
  have h0 : (D.1 c.toNat).2.2.1 = 0 := Int.le_antisymm (Int.not_lt.1 hd) hk.lo
  have eE : setCore (setCore D c.toNat ((D.1 c.toNat).1, (D.1 c.toNat).2.1, (D.1 c.toNat).2.2.1, (D.1 c.toNat).1, (D.1 c.toNat).2.2.2.2)) c.toNat (((setCore D c.toNat ((D.1 c.toNat).1, (D.1 c.toNat).2.1, (D.1 c.toNat).2.2.1, (D.1 c.toNat).1, (D.1 c.toNat).2.2.2.2)).1 c.toNat).1, ((setCore D c.toNat ((D.1 c.toNat).1, (D.1 c.toNat).2.1, (D.1 c.toNat).2.2.1, (D.1 c.toNat).1, (D.1 c.toNat).2.2.2.2)).1 c.toNat).2.1, wrap64 (((setCore D c.toNat ((D.1 c.toNat).1, (D.1 c.toNat).2.1, (D.1 c.toNat).2.2.1, (D.1 c.toNat).1, (D.1 c.toNat).2.2.2.2)).1 c.toNat).2.2.1 + 1), ((setCore D c.toNat ((D.1 c.toNat).1, (D.1 c.toNat).2.1, (D.1 c.toNat).2.2.1, (D.1 c.toNat).1, (D.1 c.toNat).2.2.2.2)).1 c.toNat).2.2.2) = setCore D c.toNat (beganC (D.1 c.toNat)) := by
    rw [set_at, set_twice]
    unfold beganC
    rw [if_pos h0]
  have eq : stepsF 0 D l c = onF (setCore (setCore D c.toNat ((D.1 c.toNat).1, (D.1 c.toNat).2.1, (D.1 c.toNat).2.2.1, (D.1 c.toNat).1, (D.1 c.toNat).2.2.2.2)) c.toNat (((setCore D c.toNat ((D.1 c.toNat).1, (D.1 c.toNat).2.1, (D.1 c.toNat).2.2.1, (D.1 c.toNat).1, (D.1 c.toNat).2.2.2.2)).1 c.toNat).1, ((setCore D c.toNat ((D.1 c.toNat).1, (D.1 c.toNat).2.1, (D.1 c.toNat).2.2.1, (D.1 c.toNat).1, (D.1 c.toNat).2.2.2.2)).1 c.toNat).2.1, wrap64 (((setCore D c.toNat ((D.1 c.toNat).1, (D.1 c.toNat).2.1, (D.1 c.toNat).2.2.1, (D.1 c.toNat).1, (D.1 c.toNat).2.2.2.2)).1 c.toNat).2.2.1 + 1), ((setCore D c.toNat ((D.1 c.toNat).1, (D.1 c.toNat).2.1, (D.1 c.toNat).2.2.1, (D.1 c.toNat).1, (D.1 c.toNat).2.2.2.2)).1 c.toNat).2.2.2)) c := by
    rw [eE]
    unfold stepsF beginF
    rw [hi, if_neg h9, if_pos hop, if_neg h3]
  repeat' (first | (with_reducible first | refine seq_k fun K1 n1 => ?_ | refine seq_nil ?_ | refine inlT_k (by with_unfolding_all rfl) (Nat.le_of_ble_eq_true rfl) fun K1 n1 => ?_ | refine run_seq ?_ | refine run_regS ?_ | refine run_cond ?_ | refine run_block ?_) | ((with_reducible refine Go.mk ?_); (conv => whnf)) | refine Fork.no ?_ | refine Fork.decT (by assumption) ?_ | refine Fork.decN (by assumption) ?_ | refine Fork.ndecQ (by assumption) ?_ | refine Way.yesG ?_ | refine Way.noG ?_ | refine Way.decT (by assumption) ?_ | refine Way.decN (by assumption) ?_ | (with_reducible first | refine Need.mkG ?_ ?_) | ((with_reducible refine n1 _ _ _ ?_); clear n1 K1) | ((with_reducible refine n1 _ _ ?_); clear n1 K1) | fail)
  all_goals try (omega)
  all_goals try dsimp only [Int.toNat_natCast] at *
  refine lax_norm (won_at_1 (D := setCore (setCore D c.toNat ((D.1 c.toNat).1, (D.1 c.toNat).2.1, (D.1 c.toNat).2.2.1, (D.1 c.toNat).1, (D.1 c.toNat).2.2.2.2)) c.toNat (((setCore D c.toNat ((D.1 c.toNat).1, (D.1 c.toNat).2.1, (D.1 c.toNat).2.2.1, (D.1 c.toNat).1, (D.1 c.toNat).2.2.2.2)).1 c.toNat).1, ((setCore D c.toNat ((D.1 c.toNat).1, (D.1 c.toNat).2.1, (D.1 c.toNat).2.2.1, (D.1 c.toNat).1, (D.1 c.toNat).2.2.2.2)).1 c.toNat).2.1, wrap64 (((setCore D c.toNat ((D.1 c.toNat).1, (D.1 c.toNat).2.1, (D.1 c.toNat).2.2.1, (D.1 c.toNat).1, (D.1 c.toNat).2.2.2.2)).1 c.toNat).2.2.1 + 1), ((setCore D c.toNat ((D.1 c.toNat).1, (D.1 c.toNat).2.1, (D.1 c.toNat).2.2.1, (D.1 c.toNat).1, (D.1 c.toNat).2.2.2.2)).1 c.toNat).2.2.2)) hc (by rw [eE, set_at]; exact (deep_i1 hk.lo hk.hi h3).1) (Nat.zero_le _) (X := fun D' R' => AlX (D', R') (stepsF 0 D l c)) (fun _ _ h1 h2 => by rw [h1, h2, eq]; exact ⟨rfl, rfl⟩) ?_)
  rintro n' H' D' R' hn hx
  refine n1 _ _ _ ?_
  clear n1 K1
  repeat' (first | (with_reducible first | refine seq_nil ?_ | refine run_endb ?_ | refine run_fin ?_) | ((with_reducible refine Go.mk ?_); (conv => whnf)) | fail)
  exact st_end h rfl hx hn
set_option maxHeartbeats 1600000 in
theorem st_D10 {t0 t1 t2 : Ty} {v0 : t0.D} {v1 : t1.D} {v2 : t2.D} {D : deskT.D} {l : progsT.D} {c : Int} {i : instrT.D} {n : Nat} {tk : List (Hd × Nat)} (hg : goodK D = true) (hc : 0 ≤ c ∧ c < 2) (hi : fetchF (l c.toNat).2 (D.1 c.toNat).1 = i) (hop : i.1 = 10) (h9 : ¬ (D.1 c.toNat).2.2.2.2.2 = 399) (hd : ¬ 0 < (D.1 c.toNat).2.2.1) : StAt t0 t1 t2 v0 v1 v2 D l c i n tk := by
  intro K h
  have hk := core_ok hc hg
  refine ⟨[.ptr 3 0 [] workT, .of (.leaf .int c), .of (.leaf instrT i)], [.leaf t0 v0, .leaf t1 v1, .leaf t2 v2, .leaf workT (D, l, (nilH, []))], rfl, rfl, ?_⟩
  have e10 : i.1 = 10 := hop
  have e9 : ¬ i.1 = 9 := by rw [hop]; decide
  have e11 : ¬ i.1 = 11 := by rw [hop]; decide
  have e12 : ¬ i.1 = 12 := by rw [hop]; decide
  have h0 : (D.1 c.toNat).2.2.1 = 0 := Int.le_antisymm (Int.not_lt.1 hd) hk.lo
  have eq : stepsF 0 D l c = stuckF D l c := by
    unfold stepsF endF
    rw [hi, if_neg h9, if_neg e9, if_pos hop, if_pos h0]
  repeat' (first | (with_reducible first | refine seq_k fun K1 n1 => ?_ | refine seq_nil ?_ | refine inlT_k (by with_unfolding_all rfl) (Nat.le_of_ble_eq_true rfl) fun K1 n1 => ?_ | refine run_seq ?_ | refine run_skip ?_ | refine run_regS ?_ | refine run_cond ?_ | refine run_block ?_) | ((with_reducible refine Go.mk ?_); (conv => whnf)) | refine Fork.yes ?_ | refine Fork.no ?_ | refine Fork.decN (by assumption) ?_ | refine Way.yesG ?_ | refine Way.noG ?_ | refine Way.decT (by assumption) ?_ | refine Way.decN (by assumption) ?_ | refine Way.ndecQ (by assumption) ?_ | (with_reducible first | refine Need.mkG ?_ ?_) | ((with_reducible refine n1 _ _ _ ?_); clear n1 K1) | ((with_reducible refine n1 _ _ ?_); clear n1 K1) | fail)
  all_goals try (omega)
  all_goals try dsimp only [Int.toNat_natCast] at *
  refine lax_norm (wstuck_at_1 hg hc (Nat.zero_le _) (X := fun D' R' => AlX (D', R') (stepsF 0 D l c)) (fun _ _ h1 h2 => by rw [h1, h2, eq]; exact ⟨rfl, rfl⟩) ?_)
  rintro n' H' D' R' hn hx
  refine n1 _ _ _ ?_
  clear n1 K1
  repeat' (first | (with_reducible first | refine seq_nil ?_ | refine run_endb ?_ | refine run_fin ?_) | ((with_reducible refine Go.mk ?_); (conv => whnf)) | fail)
  exact st_end h rfl hx hn
set_option maxHeartbeats 1600000 in
theorem st_D11 {t0 t1 t2 : Ty} {v0 : t0.D} {v1 : t1.D} {v2 : t2.D} {D : deskT.D} {l : progsT.D} {c : Int} {i : instrT.D} {n : Nat} {tk : List (Hd × Nat)} (hg : goodK D = true) (hc : 0 ≤ c ∧ c < 2) (hi : fetchF (l c.toNat).2 (D.1 c.toNat).1 = i) (hop : i.1 = 11) (h9 : ¬ (D.1 c.toNat).2.2.2.2.2 = 399) (hd : ¬ 0 < (D.1 c.toNat).2.2.1) : StAt t0 t1 t2 v0 v1 v2 D l c i n tk := by
  intro K h
  have hk := core_ok hc hg
  refine ⟨[.ptr 3 0 [] workT, .of (.leaf .int c), .of (.leaf instrT i)], [.leaf t0 v0, .leaf t1 v1, .leaf t2 v2, .leaf workT (D, l, (nilH, []))], rfl, rfl, ?_⟩
  have e11 : i.1 = 11 := hop
  have e9 : ¬ i.1 = 9 := by rw [hop]; decide
  have e10 : ¬ i.1 = 10 := by rw [hop]; decide
  have e12 : ¬ i.1 = 12 := by rw [hop]; decide
  have h0 : (D.1 c.toNat).2.2.1 = 0 := Int.le_antisymm (Int.not_lt.1 hd) hk.lo
  have eq : stepsF 0 D l c = stuckF D l c := by
    unfold stepsF giveF
    rw [hi, if_neg h9, if_neg e9, if_neg e10, if_pos hop, if_pos h0]
  repeat' (first | (with_reducible first | refine seq_k fun K1 n1 => ?_ | refine seq_nil ?_ | refine inlT_k (by with_unfolding_all rfl) (Nat.le_of_ble_eq_true rfl) fun K1 n1 => ?_ | refine run_seq ?_ | refine run_skip ?_ | refine run_regS ?_ | refine run_cond ?_ | refine run_block ?_) | ((with_reducible refine Go.mk ?_); (conv => whnf)) | refine Fork.no ?_ | refine Fork.decT (by assumption) ?_ | refine Fork.decN (by assumption) ?_ | refine Way.yesG ?_ | refine Way.noG ?_ | refine Way.decN (by assumption) ?_ | refine Way.ndecQ (by assumption) ?_ | (with_reducible first | refine Need.mkG ?_ ?_) | ((with_reducible refine n1 _ _ _ ?_); clear n1 K1) | ((with_reducible refine n1 _ _ ?_); clear n1 K1) | fail)
  all_goals try (omega)
  all_goals try dsimp only [Int.toNat_natCast] at *
  refine lax_norm (wstuck_at_1 hg hc (Nat.zero_le _) (X := fun D' R' => AlX (D', R') (stepsF 0 D l c)) (fun _ _ h1 h2 => by rw [h1, h2, eq]; exact ⟨rfl, rfl⟩) ?_)
  rintro n' H' D' R' hn hx
  refine n1 _ _ _ ?_
  clear n1 K1
  repeat' (first | (with_reducible first | refine seq_nil ?_ | refine run_endb ?_ | refine run_fin ?_) | ((with_reducible refine Go.mk ?_); (conv => whnf)) | fail)
  exact st_end h rfl hx hn
set_option maxHeartbeats 1600000 in
theorem st_D12 {t0 t1 t2 : Ty} {v0 : t0.D} {v1 : t1.D} {v2 : t2.D} {D : deskT.D} {l : progsT.D} {c : Int} {i : instrT.D} {n : Nat} {tk : List (Hd × Nat)} (hg : goodK D = true) (hc : 0 ≤ c ∧ c < 2) (hi : fetchF (l c.toNat).2 (D.1 c.toNat).1 = i) (hop : i.1 = 12) (h9 : ¬ (D.1 c.toNat).2.2.2.2.2 = 399) (hd : 0 < (D.1 c.toNat).2.2.1) : StAt t0 t1 t2 v0 v1 v2 D l c i n tk := by
  intro K h
  have hk := core_ok hc hg
  refine ⟨[.ptr 3 0 [] workT, .of (.leaf .int c), .of (.leaf instrT i)], [.leaf t0 v0, .leaf t1 v1, .leaf t2 v2, .leaf workT (D, l, (nilH, []))], rfl, rfl, ?_⟩
  have e12 : i.1 = 12 := hop
  have e9 : ¬ i.1 = 9 := by rw [hop]; decide
  have e10 : ¬ i.1 = 10 := by rw [hop]; decide
  have e11 : ¬ i.1 = 11 := by rw [hop]; decide
  have e5 : ¬ (i.1 = 5 ∨ i.1 = 6 ∨ i.1 = 7) := by rw [hop]; decide
  have eq : stepsF 0 D l c = stuckF D l c := by
    unfold stepsF aloneT
    rw [hi, if_neg h9, if_neg e9, if_neg e10, if_neg e11, if_neg e5, if_pos ⟨hop, hd⟩]
  repeat' (first | (with_reducible first | refine seq_k fun K1 n1 => ?_ | refine seq_nil ?_ | refine inlT_k (by with_unfolding_all rfl) (Nat.le_of_ble_eq_true rfl) fun K1 n1 => ?_ | refine run_seq ?_ | refine run_regS ?_ | refine run_cond ?_ | refine run_block ?_) | ((with_reducible refine Go.mk ?_); (conv => whnf)) | refine Fork.no ?_ | refine Fork.decT (by assumption) ?_ | refine Fork.decN (by assumption) ?_ | refine Way.yesG ?_ | refine Way.noG ?_ | refine Way.decT (by assumption) ?_ | refine Way.decN (by assumption) ?_ | refine Way.ndecP (by assumption) ?_ | (with_reducible first | refine Need.mkG ?_ ?_) | ((with_reducible refine n1 _ _ _ ?_); clear n1 K1) | ((with_reducible refine n1 _ _ ?_); clear n1 K1) | fail)
  all_goals try (omega)
  all_goals try dsimp only [Int.toNat_natCast] at *
  refine lax_norm (wstuck_at_1 hg hc (Nat.zero_le _) (X := fun D' R' => AlX (D', R') (stepsF 0 D l c)) (fun _ _ h1 h2 => by rw [h1, h2, eq]; exact ⟨rfl, rfl⟩) ?_)
  rintro n' H' D' R' hn hx
  refine n1 _ _ _ ?_
  clear n1 K1
  repeat' (first | (with_reducible first | refine seq_nil ?_ | refine run_endb ?_ | refine run_fin ?_) | ((with_reducible refine Go.mk ?_); (conv => whnf)) | fail)
  exact st_end h rfl hx hn
set_option maxHeartbeats 1600000 in
theorem st_F {t0 t1 t2 : Ty} {v0 : t0.D} {v1 : t1.D} {v2 : t2.D} {D : deskT.D} {l : progsT.D} {c : Int} {i : instrT.D} {n : Nat} {tk : List (Hd × Nat)} (hg : goodK D = true) (hc : 0 ≤ c ∧ c < 2) (hi : fetchF (l c.toNat).2 (D.1 c.toNat).1 = i) (hop : i.1 = 10) (h9 : ¬ (D.1 c.toNat).2.2.2.2.2 = 399) (h1 : 1 < (D.1 c.toNat).2.2.1) (hd : 0 < (D.1 c.toNat).2.2.1) : StAt t0 t1 t2 v0 v1 v2 D l c i n tk := by
  intro K h
  have hk := core_ok hc hg
  refine ⟨[.ptr 3 0 [] workT, .of (.leaf .int c), .of (.leaf instrT i)], [.leaf t0 v0, .leaf t1 v1, .leaf t2 v2, .leaf workT (D, l, (nilH, []))], rfl, rfl, ?_⟩
  have e10 : i.1 = 10 := hop
  have e9 : ¬ i.1 = 9 := by rw [hop]; decide
  have e11 : ¬ i.1 = 11 := by rw [hop]; decide
  have e12 : ¬ i.1 = 12 := by rw [hop]; decide
  have n0 : ¬ (D.1 c.toNat).2.2.1 = 0 := fun e => by rw [e] at hd; exact absurd hd (by decide)
  have eq : stepsF 0 D l c = onF (setCore D c.toNat (downC (D.1 c.toNat))) c := by
    unfold stepsF endF
    rw [hi, if_neg h9, if_neg e9, if_pos hop, if_neg n0, if_pos h1]
  repeat' (first | (with_reducible first | refine seq_k fun K1 n1 => ?_ | refine seq_nil ?_ | refine inlT_k (by with_unfolding_all rfl) (Nat.le_of_ble_eq_true rfl) fun K1 n1 => ?_ | refine run_seq ?_ | refine run_regS ?_ | refine run_cond ?_ | refine run_block ?_) | ((with_reducible refine Go.mk ?_); (conv => whnf)) | refine Fork.no ?_ | refine Fork.decT (by assumption) ?_ | refine Fork.decN (by assumption) ?_ | refine Way.yesG ?_ | refine Way.noG ?_ | refine Way.decT (by assumption) ?_ | refine Way.decN (by assumption) ?_ | refine Way.ndecP (by assumption) ?_ | (with_reducible first | refine Need.mkG ?_ ?_) | ((with_reducible refine n1 _ _ _ ?_); clear n1 K1) | ((with_reducible refine n1 _ _ ?_); clear n1 K1) | fail)
  all_goals try (omega)
  all_goals try dsimp only [Int.toNat_natCast] at *
  refine lax_norm (won_at_1 (D := setCore D c.toNat (downC (D.1 c.toNat))) hc (lo_set (deep_i2 h1 hk.hi).1) (Nat.zero_le _) (X := fun D' R' => AlX (D', R') (stepsF 0 D l c)) (fun _ _ h1 h2 => by rw [h1, h2, eq]; exact ⟨rfl, rfl⟩) ?_)
  rintro n' H' D' R' hn hx
  refine n1 _ _ _ ?_
  clear n1 K1
  repeat' (first | (with_reducible first | refine seq_nil ?_ | refine run_endb ?_ | refine run_fin ?_) | ((with_reducible refine Go.mk ?_); (conv => whnf)) | fail)
  exact st_end h rfl hx hn
set_option maxHeartbeats 1600000 in
theorem st_I0 {t0 t1 t2 : Ty} {v0 : t0.D} {v1 : t1.D} {v2 : t2.D} {D : deskT.D} {l : progsT.D} {c : Int} {i : instrT.D} {n : Nat} {tk : List (Hd × Nat)} (hg : goodK D = true) (hc : 0 ≤ c ∧ c < 2) (hi : fetchF (l c.toNat).2 (D.1 c.toNat).1 = i) (e9 : ¬ i.1 = 9) (e10 : ¬ i.1 = 10) (e11 : ¬ i.1 = 11) (h57 : ¬ (5 ≤ i.1 ∧ i.1 ≤ 7)) (h9 : ¬ (D.1 c.toNat).2.2.2.2.2 = 399) (hd : ¬ 0 < (D.1 c.toNat).2.2.1) : StAt t0 t1 t2 v0 v1 v2 D l c i n tk := by
  intro K h
  have hk := core_ok hc hg
  refine ⟨[.ptr 3 0 [] workT, .of (.leaf .int c), .of (.leaf instrT i)], [.leaf t0 v0, .leaf t1 v1, .leaf t2 v2, .leaf workT (D, l, (nilH, []))], rfl, rfl, ?_⟩
  have e5 : ¬ (i.1 = 5 ∨ i.1 = 6 ∨ i.1 = 7) := fun e => h57 (by rcases e with e | e | e <;> rw [e] <;> exact ⟨by decide, by decide⟩)
  have h0 : (D.1 c.toNat).2.2.1 = 0 := Int.le_antisymm (Int.not_lt.1 hd) hk.lo
  have hz : ((withNow D c (aloneF (D.1 c.toNat).1 i).1).1 c.toNat).2.2.1 = 0 := by unfold withNow; rw [set_at]; exact h0
  have eq : stepsF 0 D l c = (withNow D c (aloneF (D.1 c.toNat).1 i).1, [(1, c, 0)]) := by
    unfold stepsF aloneT countF
    rw [hi, if_neg h9, if_neg e9, if_neg e10, if_neg e11, if_neg e5, if_neg (fun e => hd e.2), if_pos hz]
  by_cases h5 : 5 ≤ i.1
  · have h7 : ¬ i.1 ≤ 7 := fun e => h57 ⟨h5, e⟩
    repeat' (first | (with_reducible first | refine seq_k fun K1 n1 => ?_ | refine seq_nil ?_ | refine drw_k fun K1 n1 => ?_ | refine drw_nil ?_ ?_ | refine inlT_k (by with_unfolding_all rfl) (Nat.le_of_ble_eq_true rfl) fun K1 n1 => ?_ | refine run_seq ?_ | refine run_regS ?_ | refine run_regD (by with_unfolding_all rfl) ?_ ?_ | refine inl_k (by with_unfolding_all rfl) (Nat.le_of_ble_eq_true rfl) fun K1 n1 => ?_ | refine run_cond ?_ | refine run_block ?_ | refine run_endb ?_ | refine run_fin ?_) | ((with_reducible refine Go.mk ?_); (conv => whnf)) | refine Fork.no ?_ | refine Fork.decN (by assumption) ?_ | refine Way.yesG ?_ | refine Way.noG ?_ | refine Way.decT (by assumption) ?_ | refine Way.decN (by assumption) ?_ | refine Way.ndecQ (by assumption) ?_ | (with_reducible first | refine Need.mkG ?_ ?_) | refine AppW.go2 ?_ ?_ | ((with_reducible refine n1 _ _ _ ?_); clear n1 K1) | ((with_reducible refine n1 _ _ ?_); clear n1 K1) | ((with_reducible refine n1 _ _ _ _ ?_); clear n1 K1) | fail)
    all_goals try (first | exact trivial | omega | kernel_rfl | decide)
    all_goals try dsimp only [Int.toNat_natCast] at *
    · exact few_small (Nat.zero_le _)
    · exact st_end h rfl (by rw [eq]; exact ⟨rfl, rfl⟩) (by omega)
  · repeat' (first | (with_reducible first | refine seq_k fun K1 n1 => ?_ | refine seq_nil ?_ | refine drw_k fun K1 n1 => ?_ | refine drw_nil ?_ ?_ | refine inlT_k (by with_unfolding_all rfl) (Nat.le_of_ble_eq_true rfl) fun K1 n1 => ?_ | refine run_seq ?_ | refine run_regS ?_ | refine run_regD (by with_unfolding_all rfl) ?_ ?_ | refine inl_k (by with_unfolding_all rfl) (Nat.le_of_ble_eq_true rfl) fun K1 n1 => ?_ | refine run_cond ?_ | refine run_block ?_ | refine run_endb ?_ | refine run_fin ?_) | ((with_reducible refine Go.mk ?_); (conv => whnf)) | refine Fork.no ?_ | refine Fork.decN (by assumption) ?_ | refine Way.yesG ?_ | refine Way.noG ?_ | refine Way.decN (by assumption) ?_ | refine Way.ndecQ (by assumption) ?_ | (with_reducible first | refine Need.mkG ?_ ?_) | refine AppW.go2 ?_ ?_ | ((with_reducible refine n1 _ _ _ ?_); clear n1 K1) | ((with_reducible refine n1 _ _ ?_); clear n1 K1) | ((with_reducible refine n1 _ _ _ _ ?_); clear n1 K1) | fail)
    all_goals try (first | exact trivial | omega | kernel_rfl | decide)
    all_goals try dsimp only [Int.toNat_natCast] at *
    · exact few_small (Nat.zero_le _)
    · exact st_end h rfl (by rw [eq]; exact ⟨rfl, rfl⟩) (by omega)
set_option maxHeartbeats 1600000 in
theorem st_I1 {t0 t1 t2 : Ty} {v0 : t0.D} {v1 : t1.D} {v2 : t2.D} {D : deskT.D} {l : progsT.D} {c : Int} {i : instrT.D} {n : Nat} {tk : List (Hd × Nat)} (hg : goodK D = true) (hc : 0 ≤ c ∧ c < 2) (hi : fetchF (l c.toNat).2 (D.1 c.toNat).1 = i) (e9 : ¬ i.1 = 9) (e10 : ¬ i.1 = 10) (e11 : ¬ i.1 = 11) (e12 : ¬ i.1 = 12) (h57 : ¬ (5 ≤ i.1 ∧ i.1 ≤ 7)) (h9 : ¬ (D.1 c.toNat).2.2.2.2.2 = 399) (hd : 0 < (D.1 c.toNat).2.2.1) : StAt t0 t1 t2 v0 v1 v2 D l c i n tk := by
  intro K h
  have hk := core_ok hc hg
  refine ⟨[.ptr 3 0 [] workT, .of (.leaf .int c), .of (.leaf instrT i)], [.leaf t0 v0, .leaf t1 v1, .leaf t2 v2, .leaf workT (D, l, (nilH, []))], rfl, rfl, ?_⟩
  have e5 : ¬ (i.1 = 5 ∨ i.1 = 6 ∨ i.1 = 7) := fun e => h57 (by rcases e with e | e | e <;> rw [e] <;> exact ⟨by decide, by decide⟩)
  have n0 : ¬ (D.1 c.toNat).2.2.1 = 0 := fun e => by rw [e] at hd; exact absurd hd (by decide)
  have hz : ¬ ((withNow D c (aloneF (D.1 c.toNat).1 i).1).1 c.toNat).2.2.1 = 0 := by unfold withNow; rw [set_at]; exact n0
  have eq : stepsF 0 D l c = (setCore (withNow D c (aloneF (D.1 c.toNat).1 i).1) c.toNat (bump ((withNow D c (aloneF (D.1 c.toNat).1 i).1).1 c.toNat)), []) := by
    unfold stepsF aloneT countF
    rw [hi, if_neg h9, if_neg e9, if_neg e10, if_neg e11, if_neg e5, if_neg (fun e => e12 e.1), if_neg hz]
  by_cases h5 : 5 ≤ i.1
  · have h7 : ¬ i.1 ≤ 7 := fun e => h57 ⟨h5, e⟩
    repeat' (first | (with_reducible first | refine seq_k fun K1 n1 => ?_ | refine seq_nil ?_ | refine drw_k fun K1 n1 => ?_ | refine drw_nil ?_ ?_ | refine inlT_k (by with_unfolding_all rfl) (Nat.le_of_ble_eq_true rfl) fun K1 n1 => ?_ | refine run_seq ?_ | refine run_regS ?_ | refine run_regD (by with_unfolding_all rfl) ?_ ?_ | refine run_cond ?_ | refine run_block ?_ | refine run_endb ?_ | refine run_fin ?_) | ((with_reducible refine Go.mk ?_); (conv => whnf)) | refine Fork.no ?_ | refine Fork.decT (by assumption) ?_ | refine Fork.decN (by assumption) ?_ | refine Way.yesG ?_ | refine Way.noG ?_ | refine Way.decT (by assumption) ?_ | refine Way.decN (by assumption) ?_ | refine Way.ndecP (by assumption) ?_ | (with_reducible first | refine Need.mkG ?_ ?_) | ((with_reducible refine n1 _ _ _ ?_); clear n1 K1) | ((with_reducible refine n1 _ _ ?_); clear n1 K1) | ((with_reducible refine n1 _ _ _ _ ?_); clear n1 K1) | fail)
    all_goals try (first | exact trivial | omega | kernel_rfl)
    all_goals try dsimp only [Int.toNat_natCast] at *
    exact st_end h rfl (by rw [eq]; exact ⟨rfl, rfl⟩) (by omega)
  · repeat' (first | (with_reducible first | refine seq_k fun K1 n1 => ?_ | refine seq_nil ?_ | refine drw_k fun K1 n1 => ?_ | refine drw_nil ?_ ?_ | refine inlT_k (by with_unfolding_all rfl) (Nat.le_of_ble_eq_true rfl) fun K1 n1 => ?_ | refine run_seq ?_ | refine run_regS ?_ | refine run_regD (by with_unfolding_all rfl) ?_ ?_ | refine run_cond ?_ | refine run_block ?_ | refine run_endb ?_ | refine run_fin ?_) | ((with_reducible refine Go.mk ?_); (conv => whnf)) | refine Fork.no ?_ | refine Fork.decT (by assumption) ?_ | refine Fork.decN (by assumption) ?_ | refine Way.yesG ?_ | refine Way.noG ?_ | refine Way.decT (by assumption) ?_ | refine Way.decN (by assumption) ?_ | refine Way.ndecP (by assumption) ?_ | (with_reducible first | refine Need.mkG ?_ ?_) | ((with_reducible refine n1 _ _ _ ?_); clear n1 K1) | ((with_reducible refine n1 _ _ ?_); clear n1 K1) | ((with_reducible refine n1 _ _ _ _ ?_); clear n1 K1) | fail)
    all_goals try (first | exact trivial | omega | kernel_rfl)
    all_goals try dsimp only [Int.toNat_natCast] at *
    exact st_end h rfl (by rw [eq]; exact ⟨rfl, rfl⟩) (by omega)
end Go.Proofs.YtjbbgpacijageacGreat.M
