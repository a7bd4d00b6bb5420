/- The document's own step of a desk: its parts. -/
import Derived.Test.YtjbbgpacijageacGreatSO1
namespace Go.Proofs.YtjbbgpacijageacGreat.M
open Go.RowKit
set_option linter.unusedVariables false
set_option linter.unusedSimpArgs false

theorem wk_end_1 {t0 t1 t2 : Ty} {v0 : t0.D} {v1 : t1.D} {v2 : t2.D} {s0 : Ty} {u0 : s0.D} {l : progsT.D} {n : Nat} {p r : Hd × Nat} {tk : List (Hd × Nat)} {K : SV → List V → NS → Prop} {X : deskT.D → Rec → Prop} (h : ∀ n' H' D' R', n ≤ n' → X D' R' → K (.tup []) [.leaf t0 v0, .leaf t1 v1, .leaf t2 v2, .leaf workT (D', l, (H', R')), .leaf s0 u0] ⟨n', p :: r :: (H', 3) :: tk⟩) {v : V} {junk : List V} {n' : Nat} {D' : deskT.D} {H' : Hd} {R' : Rec} (hv : v.norm = .leaf workT (D', l, (H', R'))) (hx : X D' R') (hn : n ≤ n') :
    LaxE 5 K (.tup []) (.leaf t0 v0 :: .leaf t1 v1 :: .leaf t2 v2 :: v :: .leaf s0 u0 :: junk) ⟨n', p :: r :: (H', 3) :: tk⟩ := by
  refine LaxE.mk' 5 n' _ (Nat.le_refl _) (by simp only [List.length_cons]; omega) rfl (Nat.le_refl _) (TkLe.refl _) ?_
  show K _ [.leaf t0 v0, .leaf t1 v1, .leaf t2 v2, v.norm, .leaf s0 u0] _
  rw [hv]
  exact h n' H' D' R' hn hx
theorem wk_end_2 {t0 t1 t2 : Ty} {v0 : t0.D} {v1 : t1.D} {v2 : t2.D} {s0 : Ty} {u0 : s0.D} {s1 : Ty} {u1 : s1.D} {l : progsT.D} {n : Nat} {p r : Hd × Nat} {tk : List (Hd × Nat)} {K : SV → List V → NS → Prop} {X : deskT.D → Rec → Prop} (h : ∀ n' H' D' R', n ≤ n' → X D' R' → K (.tup []) [.leaf t0 v0, .leaf t1 v1, .leaf t2 v2, .leaf workT (D', l, (H', R')), .leaf s0 u0, .leaf s1 u1] ⟨n', p :: r :: (H', 3) :: tk⟩) {v : V} {junk : List V} {n' : Nat} {D' : deskT.D} {H' : Hd} {R' : Rec} (hv : v.norm = .leaf workT (D', l, (H', R'))) (hx : X D' R') (hn : n ≤ n') :
    LaxE 6 K (.tup []) (.leaf t0 v0 :: .leaf t1 v1 :: .leaf t2 v2 :: v :: .leaf s0 u0 :: .leaf s1 u1 :: junk) ⟨n', p :: r :: (H', 3) :: tk⟩ := by
  refine LaxE.mk' 6 n' _ (Nat.le_refl _) (by simp only [List.length_cons]; omega) rfl (Nat.le_refl _) (TkLe.refl _) ?_
  show K _ [.leaf t0 v0, .leaf t1 v1, .leaf t2 v2, v.norm, .leaf s0 u0, .leaf s1 u1] _
  rw [hv]
  exact h n' H' D' R' hn hx
theorem wk_end_3 {t0 t1 t2 : Ty} {v0 : t0.D} {v1 : t1.D} {v2 : t2.D} {s0 : Ty} {u0 : s0.D} {s1 : Ty} {u1 : s1.D} {s2 : Ty} {u2 : s2.D} {l : progsT.D} {n : Nat} {p r : Hd × Nat} {tk : List (Hd × Nat)} {K : SV → List V → NS → Prop} {X : deskT.D → Rec → Prop} (h : ∀ n' H' D' R', n ≤ n' → X D' R' → K (.tup []) [.leaf t0 v0, .leaf t1 v1, .leaf t2 v2, .leaf workT (D', l, (H', R')), .leaf s0 u0, .leaf s1 u1, .leaf s2 u2] ⟨n', p :: r :: (H', 3) :: tk⟩) {v : V} {junk : List V} {n' : Nat} {D' : deskT.D} {H' : Hd} {R' : Rec} (hv : v.norm = .leaf workT (D', l, (H', R'))) (hx : X D' R') (hn : n ≤ n') :
    LaxE 7 K (.tup []) (.leaf t0 v0 :: .leaf t1 v1 :: .leaf t2 v2 :: v :: .leaf s0 u0 :: .leaf s1 u1 :: .leaf s2 u2 :: junk) ⟨n', p :: r :: (H', 3) :: tk⟩ := by
  refine LaxE.mk' 7 n' _ (Nat.le_refl _) (by simp only [List.length_cons]; omega) rfl (Nat.le_refl _) (TkLe.refl _) ?_
  show K _ [.leaf t0 v0, .leaf t1 v1, .leaf t2 v2, v.norm, .leaf s0 u0, .leaf s1 u1, .leaf s2 u2] _
  rw [hv]
  exact h n' H' D' R' hn hx
set_option maxHeartbeats 1600000 in
theorem won_at_1 {t0 t1 t2 : Ty} {v0 : t0.D} {v1 : t1.D} {v2 : t2.D} {s0 : Ty} {u0 : s0.D} {D : deskT.D} {l : progsT.D} {c : Int} {n : Nat} {p r : Hd × Nat} {tk : List (Hd × Nat)} {H : Hd} {rs : Rec} {K : SV → List V → NS → Prop} (hc : 0 ≤ c ∧ c < 2) (hlo : 0 ≤ (D.1 c.toNat).2.2.1) (hrs : rs.length ≤ 1000) {X : deskT.D → Rec → Prop} (hX : ∀ D' R', D' = (onF D c).1 → R' = rs ++ (onF D c).2 → X D' R') (h : ∀ n' H' D' R', n ≤ n' → X D' R' → K (.tup []) [.leaf t0 v0, .leaf t1 v1, .leaf t2 v2, .leaf workT (D', l, (H', R')), .leaf s0 u0] ⟨n', p :: r :: (H', 3) :: tk⟩) :
    wonTr [.ptr 3 0 [] workT, .of (.leaf .int c)] [.leaf t0 v0, .leaf t1 v1, .leaf t2 v2, .leaf workT (D, l, (H, rs)), .leaf s0 u0] ⟨n, p :: r :: (H, 3) :: tk⟩ K := by
  refine ⟨[.ptr 3 0 [] workT, .of (.leaf .int c)], [.leaf t0 v0, .leaf t1 v1, .leaf t2 v2, .leaf workT (D, l, (H, rs)), .leaf s0 u0], rfl, rfl, ?_⟩
  repeat' (first | (with_reducible first | refine seq_k fun K1 n1 => ?_ | refine seq_nil ?_ | refine run_seq ?_ | refine run_regS ?_ | refine inl_k (by with_unfolding_all rfl) (Nat.le_of_ble_eq_true rfl) fun K1 n1 => ?_ | refine run_cond ?_ | refine run_fin ?_) | ((with_reducible refine Go.mk ?_); (conv => whnf)) | refine Fork.dec (fun _ => ?_) (fun _ => ?_) | (with_reducible first | refine Need.mkG ?_ ?_) | refine AppW.go2 ?_ ?_ | ((with_reducible refine n1 _ _ _ ?_); clear n1 K1) | ((with_reducible refine n1 _ _ ?_); clear n1 K1) | fail)
  all_goals try (first | exact trivial | omega | decide)
  all_goals try dsimp only [Int.toNat_natCast] at *
  · rename_i g
    rw [updA_at] at g
    have g : 0 < (D.1 c.toNat).2.2.1 := g
    have g0 : ¬ (D.1 c.toNat).2.2.1 = 0 := fun e => by rw [e] at g; exact absurd g (by decide)
    refine wk_end_1 h rfl (hX _ _ ?_ ?_) (Nat.le_refl _)
    · show (updA (updA D.1 c.toNat _) c.toNat _, D.2) = _
      rw [on_self, updA_twice, updA_at, wd_wrap]
      unfold cntC setCore nextF
      rw [if_neg (show ¬ (D.1 c.toNat).2.2.1 = 0 from g0)]
      rfl
    · rw [on_self, if_neg g0, List.append_nil]
  · exact few_small hrs
  · rename_i g
    rw [updA_at] at g
    have g0 : (D.1 c.toNat).2.2.1 = 0 := Int.le_antisymm (Int.not_lt.1 g) hlo
    refine wk_end_1 h rfl (hX _ _ ?_ ?_) (by omega)
    · show (updA D.1 c.toNat _, D.2) = _
      rw [on_self, wd_wrap]
      unfold cntC setCore nextF
      rw [if_pos (show (D.1 c.toNat).2.2.1 = 0 from g0)]
    · rw [on_self, if_pos g0]
      rfl
set_option maxHeartbeats 1600000 in
theorem won_at_2 {t0 t1 t2 : Ty} {v0 : t0.D} {v1 : t1.D} {v2 : t2.D} {s0 : Ty} {u0 : s0.D} {s1 : Ty} {u1 : s1.D} {D : deskT.D} {l : progsT.D} {c : Int} {n : Nat} {p r : Hd × Nat} {tk : List (Hd × Nat)} {H : Hd} {rs : Rec} {K : SV → List V → NS → Prop} (hc : 0 ≤ c ∧ c < 2) (hlo : 0 ≤ (D.1 c.toNat).2.2.1) (hrs : rs.length ≤ 1000) {X : deskT.D → Rec → Prop} (hX : ∀ D' R', D' = (onF D c).1 → R' = rs ++ (onF D c).2 → X D' R') (h : ∀ n' H' D' R', n ≤ n' → X D' R' → K (.tup []) [.leaf t0 v0, .leaf t1 v1, .leaf t2 v2, .leaf workT (D', l, (H', R')), .leaf s0 u0, .leaf s1 u1] ⟨n', p :: r :: (H', 3) :: tk⟩) :
    wonTr [.ptr 3 0 [] workT, .of (.leaf .int c)] [.leaf t0 v0, .leaf t1 v1, .leaf t2 v2, .leaf workT (D, l, (H, rs)), .leaf s0 u0, .leaf s1 u1] ⟨n, p :: r :: (H, 3) :: tk⟩ K := by
  refine ⟨[.ptr 3 0 [] workT, .of (.leaf .int c)], [.leaf t0 v0, .leaf t1 v1, .leaf t2 v2, .leaf workT (D, l, (H, rs)), .leaf s0 u0, .leaf s1 u1], rfl, rfl, ?_⟩
  repeat' (first | (with_reducible first | refine seq_k fun K1 n1 => ?_ | refine seq_nil ?_ | refine run_seq ?_ | refine run_regS ?_ | refine inl_k (by with_unfolding_all rfl) (Nat.le_of_ble_eq_true rfl) fun K1 n1 => ?_ | refine run_cond ?_ | refine run_fin ?_) | ((with_reducible refine Go.mk ?_); (conv => whnf)) | refine Fork.dec (fun _ => ?_) (fun _ => ?_) | (with_reducible first | refine Need.mkG ?_ ?_) | refine AppW.go2 ?_ ?_ | ((with_reducible refine n1 _ _ _ ?_); clear n1 K1) | ((with_reducible refine n1 _ _ ?_); clear n1 K1) | fail)
  all_goals try (first | exact trivial | omega | decide)
  all_goals try dsimp only [Int.toNat_natCast] at *
  · rename_i g
    rw [updA_at] at g
    have g : 0 < (D.1 c.toNat).2.2.1 := g
    have g0 : ¬ (D.1 c.toNat).2.2.1 = 0 := fun e => by rw [e] at g; exact absurd g (by decide)
    refine wk_end_2 h rfl (hX _ _ ?_ ?_) (Nat.le_refl _)
    · show (updA (updA D.1 c.toNat _) c.toNat _, D.2) = _
      rw [on_self, updA_twice, updA_at, wd_wrap]
      unfold cntC setCore nextF
      rw [if_neg (show ¬ (D.1 c.toNat).2.2.1 = 0 from g0)]
      rfl
    · rw [on_self, if_neg g0, List.append_nil]
  · exact few_small hrs
  · rename_i g
    rw [updA_at] at g
    have g0 : (D.1 c.toNat).2.2.1 = 0 := Int.le_antisymm (Int.not_lt.1 g) hlo
    refine wk_end_2 h rfl (hX _ _ ?_ ?_) (by omega)
    · show (updA D.1 c.toNat _, D.2) = _
      rw [on_self, wd_wrap]
      unfold cntC setCore nextF
      rw [if_pos (show (D.1 c.toNat).2.2.1 = 0 from g0)]
    · rw [on_self, if_pos g0]
      rfl
set_option maxHeartbeats 1600000 in
theorem won_at_3 {t0 t1 t2 : Ty} {v0 : t0.D} {v1 : t1.D} {v2 : t2.D} {s0 : Ty} {u0 : s0.D} {s1 : Ty} {u1 : s1.D} {s2 : Ty} {u2 : s2.D} {D : deskT.D} {l : progsT.D} {c : Int} {n : Nat} {p r : Hd × Nat} {tk : List (Hd × Nat)} {H : Hd} {rs : Rec} {K : SV → List V → NS → Prop} (hc : 0 ≤ c ∧ c < 2) (hlo : 0 ≤ (D.1 c.toNat).2.2.1) (hrs : rs.length ≤ 1000) {X : deskT.D → Rec → Prop} (hX : ∀ D' R', D' = (onF D c).1 → R' = rs ++ (onF D c).2 → X D' R') (h : ∀ n' H' D' R', n ≤ n' → X D' R' → K (.tup []) [.leaf t0 v0, .leaf t1 v1, .leaf t2 v2, .leaf workT (D', l, (H', R')), .leaf s0 u0, .leaf s1 u1, .leaf s2 u2] ⟨n', p :: r :: (H', 3) :: tk⟩) :
    wonTr [.ptr 3 0 [] workT, .of (.leaf .int c)] [.leaf t0 v0, .leaf t1 v1, .leaf t2 v2, .leaf workT (D, l, (H, rs)), .leaf s0 u0, .leaf s1 u1, .leaf s2 u2] ⟨n, p :: r :: (H, 3) :: tk⟩ K := by
  refine ⟨[.ptr 3 0 [] workT, .of (.leaf .int c)], [.leaf t0 v0, .leaf t1 v1, .leaf t2 v2, .leaf workT (D, l, (H, rs)), .leaf s0 u0, .leaf s1 u1, .leaf s2 u2], rfl, rfl, ?_⟩
  repeat' (first | (with_reducible first | refine seq_k fun K1 n1 => ?_ | refine seq_nil ?_ | refine run_seq ?_ | refine run_regS ?_ | refine inl_k (by with_unfolding_all rfl) (Nat.le_of_ble_eq_true rfl) fun K1 n1 => ?_ | refine run_cond ?_ | refine run_fin ?_) | ((with_reducible refine Go.mk ?_); (conv => whnf)) | refine Fork.dec (fun _ => ?_) (fun _ => ?_) | (with_reducible first | refine Need.mkG ?_ ?_) | refine AppW.go2 ?_ ?_ | ((with_reducible refine n1 _ _ _ ?_); clear n1 K1) | ((with_reducible refine n1 _ _ ?_); clear n1 K1) | fail)
  all_goals try (first | exact trivial | omega | decide)
  all_goals try dsimp only [Int.toNat_natCast] at *
  · rename_i g
    rw [updA_at] at g
    have g : 0 < (D.1 c.toNat).2.2.1 := g
    have g0 : ¬ (D.1 c.toNat).2.2.1 = 0 := fun e => by rw [e] at g; exact absurd g (by decide)
    refine wk_end_3 h rfl (hX _ _ ?_ ?_) (Nat.le_refl _)
    · show (updA (updA D.1 c.toNat _) c.toNat _, D.2) = _
      rw [on_self, updA_twice, updA_at, wd_wrap]
      unfold cntC setCore nextF
      rw [if_neg (show ¬ (D.1 c.toNat).2.2.1 = 0 from g0)]
      rfl
    · rw [on_self, if_neg g0, List.append_nil]
  · exact few_small hrs
  · rename_i g
    rw [updA_at] at g
    have g0 : (D.1 c.toNat).2.2.1 = 0 := Int.le_antisymm (Int.not_lt.1 g) hlo
    refine wk_end_3 h rfl (hX _ _ ?_ ?_) (by omega)
    · show (updA D.1 c.toNat _, D.2) = _
      rw [on_self, wd_wrap]
      unfold cntC setCore nextF
      rw [if_pos (show (D.1 c.toNat).2.2.1 = 0 from g0)]
    · rw [on_self, if_pos g0]
      rfl
set_option maxHeartbeats 1600000 in
theorem wfail_at_1 {t0 t1 t2 : Ty} {v0 : t0.D} {v1 : t1.D} {v2 : t2.D} {s0 : Ty} {u0 : s0.D} {D : deskT.D} {l : progsT.D} {c : Int} {n : Nat} {p r : Hd × Nat} {tk : List (Hd × Nat)} {H : Hd} {rs : Rec} {K : SV → List V → NS → Prop} {why : Int} (hg : goodK D = true) (hc : 0 ≤ c ∧ c < 2) (hd : 0 < (D.1 c.toNat).2.2.1) (hrs : rs.length ≤ 1000) {X : deskT.D → Rec → Prop} (hX : ∀ D' R', D' = (failD D l c why).1 → R' = rs ++ [(3, c, why)] → X D' R') (h : ∀ n' H' D' R', n ≤ n' → X D' R' → K (.tup []) [.leaf t0 v0, .leaf t1 v1, .leaf t2 v2, .leaf workT (D', l, (H', R')), .leaf s0 u0] ⟨n', p :: r :: (H', 3) :: tk⟩) :
    failTr [.ptr 3 0 [] workT, .of (.leaf .int c), .of (.leaf .int why)] [.leaf t0 v0, .leaf t1 v1, .leaf t2 v2, .leaf workT (D, l, (H, rs)), .leaf s0 u0] ⟨n, p :: r :: (H, 3) :: tk⟩ K := by
  refine ⟨[.ptr 3 0 [] workT, .of (.leaf .int c), .of (.leaf .int why)], [.leaf t0 v0, .leaf t1 v1, .leaf t2 v2, .leaf workT (D, l, (H, rs)), .leaf s0 u0], rfl, rfl, ?_⟩
  repeat' (first | (with_reducible first | refine seq_k fun K1 n1 => ?_ | refine seq_nil ?_ | refine drw_k fun K1 n1 => ?_ | refine drw_nil ?_ ?_ | refine run_seq ?_ | refine run_regS ?_ | refine run_regD (by with_unfolding_all rfl) ?_ ?_ | refine inl_k (by with_unfolding_all rfl) (Nat.le_of_ble_eq_true rfl) fun K1 n1 => ?_ | refine run_cond ?_ | refine run_fin ?_) | ((with_reducible refine Go.mk ?_); (conv => whnf)) | refine Fork.decT (by assumption) ?_ | (with_reducible first | refine Need.mkG ?_ ?_) | refine AppW.go2 ?_ ?_ | ((with_reducible refine n1 _ _ _ ?_); clear n1 K1) | ((with_reducible refine n1 _ _ ?_); clear n1 K1) | ((with_reducible refine n1 _ _ _ _ ?_); clear n1 K1) | fail)
  all_goals try (first | exact trivial | omega | kernel_rfl | decide)
  all_goals try dsimp only [Int.toNat_natCast] at *
  all_goals first
    | exact hc
    | exact few_small hrs
    | exact wk_end_1 h rfl (hX _ _ (abort_in (by rw [hg]; rfl) hc hd _ _) rfl) (by omega)
    | trace_state
set_option maxHeartbeats 1600000 in
theorem wfail_at_2 {t0 t1 t2 : Ty} {v0 : t0.D} {v1 : t1.D} {v2 : t2.D} {s0 : Ty} {u0 : s0.D} {s1 : Ty} {u1 : s1.D} {D : deskT.D} {l : progsT.D} {c : Int} {n : Nat} {p r : Hd × Nat} {tk : List (Hd × Nat)} {H : Hd} {rs : Rec} {K : SV → List V → NS → Prop} {why : Int} (hg : goodK D = true) (hc : 0 ≤ c ∧ c < 2) (hd : 0 < (D.1 c.toNat).2.2.1) (hrs : rs.length ≤ 1000) {X : deskT.D → Rec → Prop} (hX : ∀ D' R', D' = (failD D l c why).1 → R' = rs ++ [(3, c, why)] → X D' R') (h : ∀ n' H' D' R', n ≤ n' → X D' R' → K (.tup []) [.leaf t0 v0, .leaf t1 v1, .leaf t2 v2, .leaf workT (D', l, (H', R')), .leaf s0 u0, .leaf s1 u1] ⟨n', p :: r :: (H', 3) :: tk⟩) :
    failTr [.ptr 3 0 [] workT, .of (.leaf .int c), .of (.leaf .int why)] [.leaf t0 v0, .leaf t1 v1, .leaf t2 v2, .leaf workT (D, l, (H, rs)), .leaf s0 u0, .leaf s1 u1] ⟨n, p :: r :: (H, 3) :: tk⟩ K := by
  refine ⟨[.ptr 3 0 [] workT, .of (.leaf .int c), .of (.leaf .int why)], [.leaf t0 v0, .leaf t1 v1, .leaf t2 v2, .leaf workT (D, l, (H, rs)), .leaf s0 u0, .leaf s1 u1], rfl, rfl, ?_⟩
  repeat' (first | (with_reducible first | refine seq_k fun K1 n1 => ?_ | refine seq_nil ?_ | refine drw_k fun K1 n1 => ?_ | refine drw_nil ?_ ?_ | refine run_seq ?_ | refine run_regS ?_ | refine run_regD (by with_unfolding_all rfl) ?_ ?_ | refine inl_k (by with_unfolding_all rfl) (Nat.le_of_ble_eq_true rfl) fun K1 n1 => ?_ | refine run_cond ?_ | refine run_fin ?_) | ((with_reducible refine Go.mk ?_); (conv => whnf)) | refine Fork.decT (by assumption) ?_ | (with_reducible first | refine Need.mkG ?_ ?_) | refine AppW.go2 ?_ ?_ | ((with_reducible refine n1 _ _ _ ?_); clear n1 K1) | ((with_reducible refine n1 _ _ ?_); clear n1 K1) | ((with_reducible refine n1 _ _ _ _ ?_); clear n1 K1) | fail)
  all_goals try (first | exact trivial | omega | kernel_rfl | decide)
  all_goals try dsimp only [Int.toNat_natCast] at *
  all_goals first
    | exact hc
    | exact few_small hrs
    | exact wk_end_2 h rfl (hX _ _ (abort_in (by rw [hg]; rfl) hc hd _ _) rfl) (by omega)
    | trace_state
set_option maxHeartbeats 1600000 in
theorem wfail_at_3 {t0 t1 t2 : Ty} {v0 : t0.D} {v1 : t1.D} {v2 : t2.D} {s0 : Ty} {u0 : s0.D} {s1 : Ty} {u1 : s1.D} {s2 : Ty} {u2 : s2.D} {D : deskT.D} {l : progsT.D} {c : Int} {n : Nat} {p r : Hd × Nat} {tk : List (Hd × Nat)} {H : Hd} {rs : Rec} {K : SV → List V → NS → Prop} {why : Int} (hg : goodK D = true) (hc : 0 ≤ c ∧ c < 2) (hd : 0 < (D.1 c.toNat).2.2.1) (hrs : rs.length ≤ 1000) {X : deskT.D → Rec → Prop} (hX : ∀ D' R', D' = (failD D l c why).1 → R' = rs ++ [(3, c, why)] → X D' R') (h : ∀ n' H' D' R', n ≤ n' → X D' R' → K (.tup []) [.leaf t0 v0, .leaf t1 v1, .leaf t2 v2, .leaf workT (D', l, (H', R')), .leaf s0 u0, .leaf s1 u1, .leaf s2 u2] ⟨n', p :: r :: (H', 3) :: tk⟩) :
    failTr [.ptr 3 0 [] workT, .of (.leaf .int c), .of (.leaf .int why)] [.leaf t0 v0, .leaf t1 v1, .leaf t2 v2, .leaf workT (D, l, (H, rs)), .leaf s0 u0, .leaf s1 u1, .leaf s2 u2] ⟨n, p :: r :: (H, 3) :: tk⟩ K := by
  refine ⟨[.ptr 3 0 [] workT, .of (.leaf .int c), .of (.leaf .int why)], [.leaf t0 v0, .leaf t1 v1, .leaf t2 v2, .leaf workT (D, l, (H, rs)), .leaf s0 u0, .leaf s1 u1, .leaf s2 u2], rfl, rfl, ?_⟩
  repeat' (first | (with_reducible first | refine seq_k fun K1 n1 => ?_ | refine seq_nil ?_ | refine drw_k fun K1 n1 => ?_ | refine drw_nil ?_ ?_ | refine run_seq ?_ | refine run_regS ?_ | refine run_regD (by with_unfolding_all rfl) ?_ ?_ | refine inl_k (by with_unfolding_all rfl) (Nat.le_of_ble_eq_true rfl) fun K1 n1 => ?_ | refine run_cond ?_ | refine run_fin ?_) | ((with_reducible refine Go.mk ?_); (conv => whnf)) | refine Fork.decT (by assumption) ?_ | (with_reducible first | refine Need.mkG ?_ ?_) | refine AppW.go2 ?_ ?_ | ((with_reducible refine n1 _ _ _ ?_); clear n1 K1) | ((with_reducible refine n1 _ _ ?_); clear n1 K1) | ((with_reducible refine n1 _ _ _ _ ?_); clear n1 K1) | fail)
  all_goals try (first | exact trivial | omega | kernel_rfl | decide)
  all_goals try dsimp only [Int.toNat_natCast] at *
  all_goals first
    | exact hc
    | exact few_small hrs
    | exact wk_end_3 h rfl (hX _ _ (abort_in (by rw [hg]; rfl) hc hd _ _) rfl) (by omega)
    | trace_state
set_option maxHeartbeats 1600000 in
theorem wstuck_at_1 {t0 t1 t2 : Ty} {v0 : t0.D} {v1 : t1.D} {v2 : t2.D} {s0 : Ty} {u0 : s0.D} {D : deskT.D} {l : progsT.D} {c : Int} {n : Nat} {p r : Hd × Nat} {tk : List (Hd × Nat)} {H : Hd} {rs : Rec} {K : SV → List V → NS → Prop} (hg : goodK D = true) (hc : 0 ≤ c ∧ c < 2) (hrs : rs.length ≤ 1000) {X : deskT.D → Rec → Prop} (hX : ∀ D' R', D' = (stuckF D l c).1 → R' = rs ++ (stuckF D l c).2 → X D' R') (h : ∀ n' H' D' R', n ≤ n' → X D' R' → K (.tup []) [.leaf t0 v0, .leaf t1 v1, .leaf t2 v2, .leaf workT (D', l, (H', R')), .leaf s0 u0] ⟨n', p :: r :: (H', 3) :: tk⟩) :
    wstuckTr [.ptr 3 0 [] workT, .of (.leaf .int c)] [.leaf t0 v0, .leaf t1 v1, .leaf t2 v2, .leaf workT (D, l, (H, rs)), .leaf s0 u0] ⟨n, p :: r :: (H, 3) :: tk⟩ K := by
  refine ⟨[.ptr 3 0 [] workT, .of (.leaf .int c)], [.leaf t0 v0, .leaf t1 v1, .leaf t2 v2, .leaf workT (D, l, (H, rs)), .leaf s0 u0], rfl, rfl, ?_⟩
  by_cases hd : 0 < (D.1 c.toNat).2.2.1
  · repeat' (first | (with_reducible first | refine seq_k fun K1 n1 => ?_ | refine seq_nil ?_ | refine run_seq ?_ | refine run_regS ?_ | refine inl_k (by with_unfolding_all rfl) (Nat.le_of_ble_eq_true rfl) fun K1 n1 => ?_ | refine run_cond ?_) | ((with_reducible refine Go.mk ?_); (conv => whnf)) | refine Fork.decT (by assumption) ?_ | (with_reducible first | refine Need.mkG ?_ ?_) | ((with_reducible refine n1 _ _ _ ?_); clear n1 K1) | ((with_reducible refine n1 _ _ ?_); clear n1 K1) | fail)
    all_goals try (omega)
    all_goals try dsimp only [Int.toNat_natCast] at *
    refine lax_norm (wfail_at_1 hg hc hd hrs (X := fun D' R' => D' = (failD D l c 1003).1 ∧ R' = rs ++ [(3, c, 1003)]) (fun _ _ h1 h2 => ⟨h1, h2⟩) ?_)
    rintro n' H' D' R' hn ⟨hD, hR⟩
    refine n1 _ _ _ ?_
    clear n1 K1
    repeat' (first | (with_reducible first | refine seq_nil ?_ | refine run_ret fun K1 n1 => ?_ | refine run_fin ?_) | ((with_reducible refine Go.mk ?_); (conv => whnf)) | ((with_reducible refine n1 _ ?_); clear n1 K1) | fail)
    refine wk_end_1 h rfl (hX _ _ ?_ ?_) hn
    · unfold stuckF
      rw [if_pos hd]
      exact hD
    · unfold stuckF
      rw [if_pos hd]
      exact hR
  · repeat' (first | (with_reducible first | refine seq_k fun K1 n1 => ?_ | refine seq_nil ?_ | refine run_seq ?_ | refine run_skip ?_ | refine run_regS ?_ | refine inl_k (by with_unfolding_all rfl) (Nat.le_of_ble_eq_true rfl) fun K1 n1 => ?_ | refine run_cond ?_ | refine run_fin ?_) | ((with_reducible refine Go.mk ?_); (conv => whnf)) | refine Fork.decN (by assumption) ?_ | (with_reducible first | refine Need.mkG ?_ ?_) | refine AppW.go2 ?_ ?_ | ((with_reducible refine n1 _ _ _ ?_); clear n1 K1) | ((with_reducible refine n1 _ _ ?_); clear n1 K1) | fail)
    all_goals try (first | omega | decide)
    all_goals try dsimp only [Int.toNat_natCast] at *
    · exact few_small hrs
    · have g0 : (D.1 c.toNat).2.2.1 = 0 := Int.le_antisymm (Int.not_lt.1 hd) ((((goodK_iff D).1 hg).1 c.toNat (by omega)).lo)
      have e : stuckF D l c = (withNow D c ((D.1 c.toNat).1.1, (D.1 c.toNat).1.2.1, true), [(1, c, 0)]) := by
        unfold stuckF countF
        rw [if_neg hd, if_pos (show ((withNow D c ((D.1 c.toNat).1.1, (D.1 c.toNat).1.2.1, true)).1 c.toNat).2.2.1 = 0 by unfold withNow; rw [set_at]; exact g0)]
      refine wk_end_1 h rfl (hX _ _ ?_ ?_) (by omega)
      · rw [e]
        rfl
      · rw [e]
        rfl
set_option maxHeartbeats 1600000 in
theorem wput_at_2 {t0 t1 t2 : Ty} {v0 : t0.D} {v1 : t1.D} {v2 : t2.D} {s0 : Ty} {u0 : s0.D} {s1 : Ty} {u1 : s1.D} {D : deskT.D} {l : progsT.D} {c : Int} {n : Nat} {p r : Hd × Nat} {tk : List (Hd × Nat)} {H : Hd} {rs : Rec} {K : SV → List V → NS → Prop} {word : Int} {m : Int} (hg : goodK D = true) (hc : 0 ≤ c ∧ c < 2) (hrs : rs.length ≤ 1000) {X : deskT.D → Rec → Prop} (hX : ∀ D' R', D' = (putsF (D, rs) l c word m).1 → R' = (putsF (D, rs) l c word m).2 → X D' R') (h : ∀ n' H' D' R', n ≤ n' → X D' R' → K (.tup []) [.leaf t0 v0, .leaf t1 v1, .leaf t2 v2, .leaf workT (D', l, (H', R')), .leaf s0 u0, .leaf s1 u1] ⟨n', p :: r :: (H', 3) :: tk⟩) :
    wputTr [.ptr 3 0 [] workT, .of (.leaf .int c), .of (.leaf .int word), .of (.leaf .int m)] [.leaf t0 v0, .leaf t1 v1, .leaf t2 v2, .leaf workT (D, l, (H, rs)), .leaf s0 u0, .leaf s1 u1] ⟨n, p :: r :: (H, 3) :: tk⟩ K := by
  refine ⟨[.ptr 3 0 [] workT, .of (.leaf .int c), .of (.leaf .int word), .of (.leaf .int m)], [.leaf t0 v0, .leaf t1 v1, .leaf t2 v2, .leaf workT (D, l, (H, rs)), .leaf s0 u0, .leaf s1 u1], rfl, rfl, ?_⟩
  have hoth : 0 ≤ wrap64 (1 - c) ∧ wrap64 (1 - c) < 2 := by rw [other_eq hc]; omega
  repeat' (first | (with_reducible first | refine seq_k fun K1 n1 => ?_ | refine seq_nil ?_ | refine run_seq ?_ | refine run_skip ?_ | refine run_regS ?_ | refine inl_k (by with_unfolding_all rfl) (Nat.le_of_ble_eq_true rfl) fun K1 n1 => ?_ | refine run_cond ?_ | refine run_fin ?_) | ((with_reducible refine Go.mk ?_); (conv => whnf)) | refine Fork.mk (fun _ => ?_) (fun _ => ?_) | (with_reducible first | refine Need.mkG ?_ ?_) | ((with_reducible refine n1 _ _ _ ?_); clear n1 K1) | ((with_reducible refine n1 _ _ ?_); clear n1 K1) | fail)
  all_goals try (first | exact trivial | omega)
  all_goals try dsimp only [Int.toNat_natCast] at *
  · rename_i hh
    have hh : holdsF D (wrap64 (1 - c)) (lineOf word) = true := hh
    have hd0 := (holds_yes hh).2
    have hd : 0 < (D.1 (wrap64 (1 - c)).toNat).2.2.1 := deep_i3 ((((goodK_iff D).1 hg).1 (wrap64 (1 - c)).toNat (by omega)).lo) hd0
    refine lax_norm (wfail_at_2 hg hoth hd hrs (X := fun D' R' => D' = (failD D l (wrap64 (1 - c)) 1001).1 ∧ R' = rs ++ [(3, wrap64 (1 - c), 1001)]) (fun _ _ h1 h2 => ⟨h1, h2⟩) ?_)
    rintro n' H' D' R' hn ⟨hD, hR⟩
    refine n1 _ _ _ ?_
    clear n1 K1
    repeat' (first | (with_reducible first | refine seq_k fun K1 n1 => ?_ | refine seq_nil ?_ | refine run_regS ?_ | refine run_fin ?_) | ((with_reducible refine Go.mk ?_); (conv => whnf)) | (with_reducible first | refine Need.mkG ?_ ?_) | ((with_reducible refine n1 _ _ _ ?_); clear n1 K1) | fail)
    all_goals try (first | exact trivial | omega)
    all_goals try dsimp only [Int.toNat_natCast] at *
    refine wk_end_2 h rfl (hX _ _ ?_ ?_) hn
    · unfold putsF
      rw [if_pos hh, ← hD]
      rfl
    · unfold putsF
      rw [if_pos hh, hR]
  · rename_i hh
    have hh : ¬ holdsF D (wrap64 (1 - c)) (lineOf word) = true := fun e => by rw [show holdsF D (wrap64 (1 - c)) (lineOf word) = false from hh] at e; cases e
    refine wk_end_2 h rfl (hX _ _ ?_ ?_) (Nat.le_refl _)
    · unfold putsF
      rw [if_neg hh]
      rfl
    · unfold putsF
      rw [if_neg hh]
end Go.Proofs.YtjbbgpacijageacGreat.M
