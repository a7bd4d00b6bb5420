/- The document's own functions on caches: lines are shared and owned. -/
import Derived.Test.YtjbbgpacijageaaR10
namespace Go.Proofs.Ytjbbgpacijageaa.M
open Go.RowKit
set_option linter.unusedVariables false
set_option linter.unusedSimpArgs false

theorem eqv_set {d : deskT.D} {c w : Nat} {l l' : lineT.D} (h1 : l.1 = l'.1) (h2 : l.2.1 = l'.2.1) (h3 : ∀ i, i < 2 → l.2.2.1 i = l'.2.2.1 i) (h4 : l.2.2.2 = l'.2.2.2) : eqv deskT (setLine d c w l) (setLine d c w l') := by
  refine ⟨fun c1 hc1 => ?_, fun i _ => eqv_refl .int _⟩
  show eqv coreT (updA d.1 c ((d.1 c).1, updA (d.1 c).2.1 w l, (d.1 c).2.2) c1) (updA d.1 c ((d.1 c).1, updA (d.1 c).2.1 w l', (d.1 c).2.2) c1)
  unfold updA
  split
  · refine ⟨eqv_refl _ _, fun w1 hw1 => ?_, eqv_refl _ _⟩
    show eqv lineT (if w1 = w then l else (d.1 c).2.1 w1) (if w1 = w then l' else (d.1 c).2.1 w1)
    split
    · exact ⟨h1, h2, h3, h4⟩
    · exact eqv_refl _ _
  · exact eqv_refl _ _
/-- A word that one has not is as it goes back. -/
theorem val_back {D : deskT.D} (hg : goodD D = true) {c w k : Nat} (hc : c < 2) (h0 : lineAt D c w = lineT.zero) (hk : k < 32) (hw : k / 2 % 4 = w) : valF D (k : Int) = goBackF D.2 (lineAt D (1 - c) w) k := by
  obtain ⟨g1, g2⟩ := (good_iff D).1 hg
  have hw4 : w < 4 := by omega
  have e : valW D c (1 - c) w k = goBackF D.2 (lineAt D (1 - c) w) k := by
    have hb : OkW D (1 - c) c w := by
      have := g2 (1 - c) (by omega) w hw4
      rwa [show 1 - (1 - c) = c from by omega] at this
    rw [goBack_gb, gb_at]
    unfold valW
    rw [h0]
    show val2 0 0 _ (lineAt D (1 - c) w).1 (lineAt D (1 - c) w).2.1 _ D.2 k = _
    unfold val2
    rw [if_neg (by omega)]
    by_cases h3 : (lineAt D (1 - c) w).1 = 3
    · have hr := hb.rng (by rw [h3]; decide)
      have key : ∀ L : Int, 0 ≤ L → (L = ((k / 2 : Nat) : Int) ↔ L.toNat = k / 2) := fun L h => by omega
      have hq := key (lineAt D (1 - c) w).2.1 hr.2.2.1
      by_cases h6 : (lineAt D (1 - c) w).2.1 = ((k / 2 : Nat) : Int)
      · rw [if_pos ⟨h3, h6⟩, if_pos ⟨h3, hq.1 h6⟩]
      · rw [if_neg (fun g => h6 g.2), if_neg (fun g => h6 (hq.2 g.2))]
    · rw [if_neg (fun g => h3 g.1), if_neg (fun g => h3 g.1)]
  rw [val_eq D k hk, hw]
  have : c = 0 ∨ c = 1 := by omega
  rcases this with rfl | rfl
  · exact e
  · have c1 := val_comm (x := (lineAt D 1 w).2.2.1) (x' := (lineAt D 0 w).2.2.1) (k := k) (g2 1 (by omega) w hw4)
    exact c1.symm.trans e
theorem back_upd {m : Nat → Int} {l : lineT.D} {n : Nat} (hl : l.2.1.toNat = n) : updA (updA m (2 * n) (goBackF m l (2 * n))) (2 * n + 1) (goBackF m l (2 * n + 1)) = goBackF m l := by
  funext q
  unfold updA
  by_cases h1 : q = 2 * n + 1
  · rw [if_pos h1, h1]
  · rw [if_neg h1]
    by_cases h2 : q = 2 * n
    · rw [if_pos h2, h2]
    · rw [if_neg h2, goBack_gb, gb_no]
      rintro ⟨_, h4⟩
      rw [hl] at h4
      omega
theorem two_all {p : Nat → Prop} (h0 : p 0) (h1 : p 1) : ∀ i, i < 2 → p i := fun i hi => by
  have : i = 0 ∨ i = 1 := by omega
  rcases this with rfl | rfl <;> assumption
theorem share_has {D : deskT.D} {c w : Nat} {n : Int} (hh : hasL (lineAt D (1 - c) w) n = true) :
    eqv deskT (setLine (setLine (setMem D (updA (updA D.2 (2 * n.toNat) (goBackF D.2 (lineAt D (1 - c) w) (2 * n.toNat))) (2 * n.toNat + 1) (goBackF D.2 (lineAt D (1 - c) w) (2 * n.toNat + 1)))) (1 - c) w (1, (lineAt D (1 - c) w).2)) c w (1, n, updA (updA (Ty.arr 2 .int).zero 0 (goBackF D.2 (lineAt D (1 - c) w) (2 * n.toNat))) 1 (goBackF D.2 (lineAt D (1 - c) w) (2 * n.toNat + 1)), false))
      (takeD D c w n) := by
  have hl : (lineAt D (1 - c) w).2.1 = n := (of_decide_eq_true hh : _ ∧ _).2
  unfold takeD
  rw [if_pos hh, back_upd (by rw [hl])]
  exact eqv_set rfl rfl (two_all rfl rfl) rfl
theorem share_not {D : deskT.D} {c w : Nat} {n : Int} (hg : goodD D = true) (hc : c < 2) (hw : w < 4) (hn : 0 ≤ n ∧ n < 16) (hh : hasL (lineAt D (1 - c) w) n = false) :
    eqv deskT (setLine D c w (2, n, updA (updA (Ty.arr 2 .int).zero 0 (goBackF D.2 (lineAt D (1 - c) w) (2 * n.toNat))) 1 (goBackF D.2 (lineAt D (1 - c) w) (2 * n.toNat + 1)), false)) (takeD D c w n) := by
  have hno : ∀ k : Nat, k / 2 = n.toNat → goBackF D.2 (lineAt D (1 - c) w) k = D.2 k := fun k hk => by
    rw [goBack_gb, gb_no]
    rintro ⟨h3, h4⟩
    have hl := (good_line hg (c := 1 - c) (w := w) (by omega) hw (by rw [h3]; decide)).2.1
    have h5 : ¬ ((lineAt D (1 - c) w).1 ≠ 0 ∧ (lineAt D (1 - c) w).2.1 = n) := of_decide_eq_false hh
    have key : ∀ L : Int, 0 ≤ L → L.toNat = k / 2 → L = n := fun L a b => by omega
    exact h5 ⟨by rw [h3]; decide, key _ hl.1 h4⟩
  unfold takeD
  rw [if_neg (by rw [hh]; decide)]
  refine eqv_set rfl rfl (two_all ?_ ?_) rfl
  · exact hno (2 * n.toNat) (by omega)
  · exact hno (2 * n.toNat + 1) (by omega)
set_option maxHeartbeats 1600000 in
theorem c_ShareLine : Ctr Try.prog 58 shareS := by
  refine ctr_of tabOk (SpecsOk.cons c_GoodCaches (by kernel_rfl) (SpecsOk.cons c_FindLine (by kernel_rfl) (SpecsOk.cons c_DropLine (by kernel_rfl) (SpecsOk.cons c_ValueOf (by kernel_rfl) (SpecsOk.nil _))))) Try.func58 rfl _ (Nat.le_of_ble_eq_true rfl) (fun _ _ => rfl) ?_
  rintro nn ⟨d, (c : Int), (n : Int), ⟨⟩⟩ _ _
  refine ⟨200, init_k fun K1 n1 => ?_⟩
  conv => whnf
  refine n1 _ ?_
  clear n1 K1
  repeat' (first | with_reducible refine seq_k fun K1 n1 => ?_ | with_reducible refine seq_nil ?_ | with_reducible refine drw_k fun K1 n1 => ?_ | with_reducible refine drw_nil ?_ ?_ | with_reducible refine run_seq ?_ | with_reducible refine run_skip ?_ | with_reducible refine run_regS ?_ | with_reducible refine run_regD (by kernel_rfl) ?_ ?_ | with_reducible refine inl_k (by with_unfolding_all rfl) (Nat.le_of_ble_eq_true rfl) fun K1 n1 => ?_ | with_reducible refine inlA_k (by with_unfolding_all rfl) (Nat.le_of_ble_eq_true rfl) fun K1 n1 => ?_ | with_reducible refine run_finA ?_ | with_reducible refine run_cond ?_ | with_reducible refine run_block ?_ | with_reducible refine run_endb ?_ | with_reducible refine run_exit fun K1 n1 => ?_ | with_reducible refine run_ret fun K1 n1 => ?_ | with_reducible refine run_fin ?_ | with_reducible refine run_inv ?_ | with_reducible refine go_rounds ?_ | ((with_reducible refine Go.mk ?_); (conv => whnf)) | refine Fork.yes ?_ | refine Fork.no ?_ | refine Fork.dec (fun _ => ?_) (fun _ => ?_) | refine Fork.ndec (fun _ => ?_) (fun _ => ?_) | refine Fork.mk (fun _ => ?_) (fun _ => ?_) | refine Way.yesG ?_ | refine Way.noG ?_ | refine Way.decG (fun _ => ?_) (fun _ => ?_) | refine Way.ndecG (fun _ => ?_) (fun _ => ?_) | refine Way.mkG (fun _ => ?_) (fun _ => ?_) | with_reducible refine Need.mkG ?_ ?_ | refine AppW.go0 ?_ ?_ | with_reducible refine NilW.goG (fun _ => ?_) ?_ | ((with_reducible refine n1 _ _ _ ?_); clear n1 K1) | ((with_reducible refine n1 _ ?_); clear n1 K1) | ((with_reducible refine n1 _ _ ?_); clear n1 K1) | ((with_reducible refine n1 _ _ _ _ ?_); clear n1 K1) | fail)
  all_goals try (first | exact trivial | omega | kernel_rfl | decide | exact And.intro (by omega) (by omega))
  all_goals try dsimp only [Int.toNat_natCast] at *
  all_goals try (first | exact trivial | omega | exact And.intro (by omega) (by omega))
  all_goals first
    | exact (show 0 ≤ c ∧ c < ((2 : Nat) : Int) from ⟨by omega, by omega⟩)
    | exact find_range _ _ _
    | exact tmod4 (by omega)
    | exact (two_rng (show 0 ≤ n ∧ n < 16 from ⟨by omega, by omega⟩)).1
    | exact (two_rng (show 0 ≤ n ∧ n < 16 from ⟨by omega, by omega⟩)).2
    | (rw [other_eq (show 0 ≤ c ∧ c < 2 from ⟨by omega, by omega⟩)]; exact (show 0 ≤ 1 - c ∧ 1 - c < ((2 : Nat) : Int) from ⟨by omega, by omega⟩))
    | (have h4 : (findF d c n).2 = true := by assumption
       have h1 : (!goodD d) = false := by assumption
       have hr := find_yes h4
       rw [find_eq hr.1 hr.2] at h4
       refine Done.of ?_ (Or.inr (Nat.le_refl _))
       show (_, ()) = (shareF d c n, ())
       unfold shareF
       rw [if_pos ⟨not_f h1, hr⟩, if_pos h4])
    | (have h4 : (findF d c n).2 = false := by assumption
       skip)
    | (refine Done.of ?_ (Or.inr (Nat.le_refl _))
       show (_, ()) = (shareF d c n, ())
       unfold shareF
       rw [if_neg (by first | omega | (have h : (!goodD d) = true := by assumption
                                       rw [not_t h]; simp))])
  all_goals
    have hg : goodD d = true := not_f (by assumption)
    have h2 : 0 ≤ c ∧ c < 2 := ⟨by omega, by omega⟩
    have h3 : 0 ≤ n ∧ n < 16 := ⟨by omega, by omega⟩
    have h4 : (findF d c n).2 = false := by assumption
    rw [find_eq h2 h3] at h4
    have h4 : hasL (lineAt d c.toNat (wayOf n)) n = false := h4
    have hw := way_lt h3.1
    have hwn : n % 4 = (wayOf n : Int) := by rw [← way_of h3.1, Int.tmod_eq_emod_of_nonneg h3.1]
    obtain ⟨l1, l2, l3, l4⟩ := drop_loc hg (c := c.toNat) (w := wayOf n) (by omega) hw
    have hgD := l1.good (by omega) hg
    have hsh : shareF d c n = takeD (dropD d c.toNat (wayOf n)) c.toNat (wayOf n) n := by
      unfold shareF
      rw [if_pos ⟨hg, h2, h3⟩, if_neg (by rw [h4]; decide)]
    have hw2 : wrap64 (2 * n) = ((2 * n.toNat : Nat) : Int) := by rw [wrap_id (by omega)]; omega
    have hw3 : wrap64 (((2 * n.toNat : Nat) : Int) + 1) = ((2 * n.toNat + 1 : Nat) : Int) := by rw [wrap_id (by omega)]; omega
    have hfo := find_eq (d := dropD d c.toNat (wayOf n)) (c := 1 - c) (n := n) (by omega) h3
    have hno := other_nat h2
    have v0 := val_back hgD (c := c.toNat) (w := wayOf n) (k := 2 * n.toNat) (by omega) l2 (by omega) (by omega)
    have v1 := val_back hgD (c := c.toNat) (w := wayOf n) (k := 2 * n.toNat + 1) (by omega) l2 (by omega) (by omega)
    simp only [drop_eq hg h2 h3, other_eq h2, hno, hw2, hw3, v0, v1, Int.toNat_natCast, hfo] at *
    refine ⟨⟨?_, trivial⟩, Or.inr (Nat.le_refl _)⟩
    show eqv deskT _ (shareF d c n)
    rw [hsh]
  · have hh : hasL (lineAt (dropD d c.toNat (wayOf n)) (1 - c.toNat) (wayOf n)) n = true := by assumption
    exact share_has hh
  · have hh : hasL (lineAt (dropD d c.toNat (wayOf n)) (1 - c.toNat) (wayOf n)) n = false := by assumption
    exact share_not (w := wayOf n) hgD (by omega) hw h3 hh
  · have hh : hasL (lineAt (dropD d c.toNat (wayOf n)) (1 - c.toNat) (wayOf n)) n = true := by assumption
    exact share_has hh
  · have hh : hasL (lineAt (dropD d c.toNat (wayOf n)) (1 - c.toNat) (wayOf n)) n = false := by assumption
    exact share_not (w := wayOf n) hgD (by omega) hw h3 hh
end Go.Proofs.Ytjbbgpacijageaa.M
