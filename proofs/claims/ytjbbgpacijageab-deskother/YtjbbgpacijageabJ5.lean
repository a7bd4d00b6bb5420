/- The laws DeskHidden, DeskOther, DeskHolds. -/
import Derived.Test.YtjbbgpacijageabJ3
import Derived.Test.YtjbbgpacijageabUM
namespace Go.Proofs.Ytjbbgpacijageab.M
open Go.RowKit
set_option linter.unusedVariables false
set_option linter.unusedSimpArgs false

theorem hold_w {n : Int} (hn : 0 ≤ n ∧ n < 16) : wrap64 (wrap64 (n + 1) * 2) = n * 2 + 2 := by
  rw [show wrap64 (n + 1) = n + 1 from wrap_id (by omega), show wrap64 ((n + 1) * 2) = (n + 1) * 2 from wrap_id (by omega)]
  omega
theorem oth_ne (c : Int) : ¬ (1 - c : Int) = c := by omega
theorem sk_len {c : Int} {d : deskT.D} {x : deskT.D × Rec} (h : Sk c d x) : x.2.length ≤ 2 := by
  obtain ⟨f, T, q, _, e, hq, _⟩ := h
  rw [e, List.length_append]
  have : (othR c f).length ≤ 1 := by cases f; exact Nat.zero_le _; exact Nat.le_refl _
  omega
theorem sk_zero {nn : Nat} {d : deskT.D} {l : progsT.D} {c : Int} (h : (stepF nn d l c).2.2 = 0) : (0 ≤ c ∧ c < 2) ∧ Sk c d ((stepF nn d l c).1, (stepF nn d l c).2.1) := by
  rcases (step_ok (nn := nn) (l := l) (c := c) (step_zero h)).2 with ⟨g, _⟩ | ⟨_, g⟩
  · exact absurd h g
  · exact g
theorem mem_nthR {rs : Rec} {r : recordT.D} (h : r ∈ rs) : ∃ k, k < rs.length ∧ nthD recordT rs k = r := by
  obtain ⟨k, hk, e⟩ := List.getElem_of_mem h
  exact ⟨k, hk, by rw [nthD_eq hk]; exact e⟩
theorem sk_hidden {c : Int} {d : deskT.D} {x : deskT.D × Rec} (h : Sk c d x) (hno : ∀ k, k < x.2.length → ¬ ((nthD recordT x.2 k).2.1 = c ∧ (nthD recordT x.2 k).1 ≠ 3)) (n : Int) : valF x.1 n = valF d n := by
  obtain ⟨f, T, q, h1, e, hq, hc, hT⟩ := h
  refine h1.val n (hT (fun r hr => ?_) n)
  obtain ⟨k, hk, ek⟩ := mem_nthR (rs := x.2) (r := r) (by rw [e]; exact List.mem_append_right _ hr)
  have := hno k hk
  rw [ek] at this
  exact Decidable.byContradiction fun g => this ⟨hc r hr, g⟩
theorem sk_other {c : Int} {d : deskT.D} {x : deskT.D × Rec} (hc2 : 0 ≤ c ∧ c < 2) (h : Sk c d x) : (∀ k, k < x.2.length → (nthD recordT x.2 k).2.1 = 1 - c → (nthD recordT x.2 k).1 = 3 ∧ (nthD recordT x.2 k).2.2 = 1001) ∧ ((∀ k, k < x.2.length → (nthD recordT x.2 k).2.1 ≠ 1 - c) → sameX (x.1.1 (1 - c).toNat) (d.1 (1 - c).toNat)) := by
  obtain ⟨f, T, q, h1, e, hq, hc, hT⟩ := h
  constructor
  · intro k hk hcore
    have hm : nthD recordT x.2 k ∈ x.2 := by rw [nthD_eq hk]; exact List.getElem_mem hk
    have hm2 : nthD recordT x.2 k ∈ othR c f ++ q := by rw [← e]; exact hm
    rcases List.mem_append.1 hm2 with g | g
    · unfold othR at g
      split at g
      · rw [List.mem_singleton.1 g]
        exact ⟨rfl, rfl⟩
      · cases g
    · exact absurd (hcore.symm.trans (hc _ g)) (oth_ne c)
  · intro hno
    rcases h1.oth with ⟨_, g⟩ | ⟨hf, _⟩
    · exact g
    · exfalso
      rw [hf] at e
      obtain ⟨k, hk, ek⟩ := mem_nthR (rs := x.2) (r := (3, 1 - c, 1001)) (by rw [e]; exact List.mem_append_left _ (List.mem_singleton.2 rfl))
      exact hno k hk (by rw [ek])
theorem sk_holds {c : Int} {d : deskT.D} {x : deskT.D × Rec} (h : Sk c d x) {n k : Int} (hh : holdsF x.1 (1 - c) n = true) (hk : lineOf k = n) : valF x.1 k = valF d k := by
  obtain ⟨f, T, q, h1, _⟩ := h
  exact h1.val k fun hT => (h1.hold n hh).2 k hT hk
set_option maxHeartbeats 1600000 in
theorem c_DeskHidden : Ctr Try.prog 7 (lawS [deskT, .arr 2 (.lst instrT), .int]) := by
  refine ctr_of tabOk (SpecsOk.cons c_kSteps (by kernel_rfl) (SpecsOk.cons c_Step (by kernel_rfl) (SpecsOk.cons c_Values (by kernel_rfl) (SpecsOk.nil _)))) Try.func7 rfl _ (Nat.le_of_ble_eq_true rfl) (fun _ _ => rfl) ?_
  rintro nn ⟨d, l, (c : Int), ⟨⟩⟩ _ hb
  refine ⟨200, init_k fun K1 n1 => ?_⟩
  conv => whnf
  refine n1 _ ?_
  clear n1 K1
  repeat' (first | with_reducible refine seq_k fun K1 n1 => ?_ | with_reducible refine seq_nil ?_ | with_reducible refine drw_k fun K1 n1 => ?_ | with_reducible refine drw_nil ?_ ?_ | with_reducible refine run_seq ?_ | with_reducible refine run_skip ?_ | with_reducible refine run_regS ?_ | with_reducible refine run_regD (by kernel_rfl) ?_ ?_ | with_reducible refine inl_k (by with_unfolding_all rfl) (Nat.le_of_ble_eq_true rfl) fun K1 n1 => ?_ | with_reducible refine inlA_k (by with_unfolding_all rfl) (Nat.le_of_ble_eq_true rfl) fun K1 n1 => ?_ | with_reducible refine run_finA ?_ | with_reducible refine run_cond ?_ | with_reducible refine run_block ?_ | with_reducible refine run_endb ?_ | with_reducible refine run_exit fun K1 n1 => ?_ | with_reducible refine run_ret fun K1 n1 => ?_ | with_reducible refine run_fin ?_ | with_reducible refine run_inv ?_ | with_reducible refine go_rounds ?_ | ((with_reducible refine Go.mk ?_); (conv => whnf)) | refine Fork.yes ?_ | refine Fork.no ?_ | refine Fork.dec (fun _ => ?_) (fun _ => ?_) | refine Fork.ndec (fun _ => ?_) (fun _ => ?_) | refine Fork.mk (fun _ => ?_) (fun _ => ?_) | refine Way.yesG ?_ | refine Way.noG ?_ | refine Way.decG (fun _ => ?_) (fun _ => ?_) | refine Way.ndecG (fun _ => ?_) (fun _ => ?_) | refine Way.mkG (fun _ => ?_) (fun _ => ?_) | with_reducible refine Need.mkG ?_ ?_ | refine AppW.go0 ?_ ?_ | with_reducible refine NilW.goG (fun _ => ?_) ?_ | ((with_reducible refine n1 _ _ _ ?_); clear n1 K1) | ((with_reducible refine n1 _ ?_); clear n1 K1) | ((with_reducible refine n1 _ _ ?_); clear n1 K1) | ((with_reducible refine n1 _ _ _ _ ?_); clear n1 K1) | fail)
  all_goals try (first | exact trivial | omega | kernel_rfl | decide | exact And.intro (by omega) (by omega))
  all_goals try dsimp only [Int.toNat_natCast] at *
  all_goals try (first | exact trivial | omega | exact And.intro (by omega) (by omega))
  all_goals try exact Done.of rfl (Or.inl rfl)
  rename_i h0 h1 h2
  obtain ⟨hc, hs⟩ := sk_zero h0
  have hlen := sk_len hs
  have hlen : (stepF nn d l c).2.1.length ≤ 2 := hlen
  refine run_loop (loop_fam (ι := Nat × Bool) (fun i => [(38, .a (.of (.leaf .int (i.1 : Int)))), (37, .a (.of (.leaf .int ((stepF nn d l c).2.1.length : Int)))), (36, .a (.of (.leaf (.lst recordT) (recH nn (stepF nn d l c).2.1.length, (stepF nn d l c).2.1)))), (10, .a (.of (.leaf .bool i.2))), (7, .a (.ptr 2 0 [] deskT)), (3, .a (.ptr 0 0 [] deskT)), (2, .a (.of (.leaf .int c)))])
    (fun _ => [.leaf deskT d, .leaf (.arr 2 (.lst instrT)) l, .leaf deskT (stepF nn d l c).1]) (fun _ => ⟨nn + (2 * (stepF 0 d l c).2.1.length + 2), []⟩) (fun i => (stepF nn d l c).2.1.length - i.1) (fun i => i.1 ≤ (stepF nn d l c).2.1.length ∧ (i.2 = false → ∀ j, j < i.1 → ¬ ((nthD recordT (stepF nn d l c).2.1 j).2.1 = c ∧ (nthD recordT (stepF nn d l c).2.1 j).1 ≠ 3))) ?_ ?_)
  · exact ⟨(0, false), ⟨Nat.zero_le _, fun _ j hj => absurd hj (Nat.not_lt_zero _)⟩, ⟨rfl, rfl, rfl, rfl, rfl, rfl, rfl, trivial⟩, rfl, 3, Nat.le_refl _, rfl, rfl⟩
  · rintro ⟨k, b⟩ ⟨hk, hno⟩
    have hk : k ≤ (stepF nn d l c).2.1.length := hk
    repeat' (first | with_reducible refine seq_k fun K1 n1 => ?_ | with_reducible refine seq_nil ?_ | with_reducible refine drw_k fun K1 n1 => ?_ | with_reducible refine drw_nil ?_ ?_ | with_reducible refine run_seq ?_ | with_reducible refine run_skip ?_ | with_reducible refine run_regS ?_ | with_reducible refine run_regD (by kernel_rfl) ?_ ?_ | with_reducible refine inl_k (by with_unfolding_all rfl) (Nat.le_of_ble_eq_true rfl) fun K1 n1 => ?_ | with_reducible refine inlA_k (by with_unfolding_all rfl) (Nat.le_of_ble_eq_true rfl) fun K1 n1 => ?_ | with_reducible refine run_finA ?_ | with_reducible refine run_cond ?_ | with_reducible refine run_block ?_ | with_reducible refine run_endb ?_ | with_reducible refine run_exit fun K1 n1 => ?_ | with_reducible refine run_ret fun K1 n1 => ?_ | with_reducible refine run_fin ?_ | with_reducible refine run_inv ?_ | with_reducible refine go_rounds ?_ | ((with_reducible refine Go.mk ?_); (conv => whnf)) | refine Fork.yes ?_ | refine Fork.no ?_ | refine Fork.dec (fun _ => ?_) (fun _ => ?_) | refine Fork.ndec (fun _ => ?_) (fun _ => ?_) | refine Fork.mk (fun _ => ?_) (fun _ => ?_) | refine Way.yesG ?_ | refine Way.noG ?_ | refine Way.decG (fun _ => ?_) (fun _ => ?_) | refine Way.ndecG (fun _ => ?_) (fun _ => ?_) | refine Way.mkG (fun _ => ?_) (fun _ => ?_) | with_reducible refine Need.mkG ?_ ?_ | refine AppW.go0 ?_ ?_ | with_reducible refine NilW.goG (fun _ => ?_) ?_ | ((with_reducible refine n1 _ _ _ ?_); clear n1 K1) | ((with_reducible refine n1 _ ?_); clear n1 K1) | ((with_reducible refine n1 _ _ ?_); clear n1 K1) | ((with_reducible refine n1 _ _ _ _ ?_); clear n1 K1) | fail)
    all_goals try (first | exact trivial | omega | kernel_rfl | decide | exact And.intro (by omega) (by omega))
    all_goals try dsimp only [Int.toNat_natCast] at *
    all_goals try (first | exact trivial | omega | exact And.intro (by omega) (by omega))
    · rename_i g1 g2
      subst g2
      exact ⟨(k + 1, true), (show (stepF nn d l c).2.1.length - (k + 1) < (stepF nn d l c).2.1.length - k by omega), ⟨(show k + 1 ≤ (stepF nn d l c).2.1.length by omega), fun h => by cases h⟩, ⟨(by
        show some (SV.a (AV.of (V.leaf Ty.int (wrap64 (↑k + 1))))) = some (SV.a (AV.of (V.leaf Ty.int ((k + 1 : Nat) : Int))))
        rw [← wrap_succ k (by omega)]), rfl, rfl, rfl, rfl, rfl, rfl, trivial⟩, rfl, 3, Nat.le_of_ble_eq_true rfl, rfl, rfl⟩
    · rename_i g1 g2 g3
      subst g2
      refine ⟨(k + 1, !decide ((nthD recordT (stepF nn d l c).2.1 k).1 = 3)), (show (stepF nn d l c).2.1.length - (k + 1) < (stepF nn d l c).2.1.length - k by omega), ⟨(show k + 1 ≤ (stepF nn d l c).2.1.length by omega), fun h j hj => ?_⟩, ⟨(by
        show some (SV.a (AV.of (V.leaf Ty.int (wrap64 (↑k + 1))))) = some (SV.a (AV.of (V.leaf Ty.int ((k + 1 : Nat) : Int))))
        rw [← wrap_succ k (by omega)]), rfl, rfl, rfl, rfl, rfl, rfl, trivial⟩, rfl, 3, Nat.le_of_ble_eq_true rfl, rfl, rfl⟩
      by_cases e : j = k
      · rw [e]
        exact fun g => g.2 (of_decide_eq_true (not_f h))
      · exact hno rfl j (Nat.lt_of_le_of_ne (Nat.le_of_lt_succ hj) e)
    · rename_i g1 g2 g3
      subst g2
      refine ⟨(k + 1, false), (show (stepF nn d l c).2.1.length - (k + 1) < (stepF nn d l c).2.1.length - k by omega), ⟨(show k + 1 ≤ (stepF nn d l c).2.1.length by omega), fun h j hj => ?_⟩, ⟨(by
        show some (SV.a (AV.of (V.leaf Ty.int (wrap64 (↑k + 1))))) = some (SV.a (AV.of (V.leaf Ty.int ((k + 1 : Nat) : Int))))
        rw [← wrap_succ k (by omega)]), rfl, rfl, rfl, rfl, rfl, rfl, trivial⟩, rfl, 3, Nat.le_of_ble_eq_true rfl, rfl, rfl⟩
      by_cases e : j = k
      · rw [e]
        exact fun g => g3 g.1
      · exact hno rfl j (Nat.lt_of_le_of_ne (Nat.le_of_lt_succ hj) e)
    · exact Done.of rfl (Or.inl rfl)
    · rename_i g1 g2
      refine Done.of ?_ (Or.inl rfl)
      show (_, ()) = (true, ())
      obtain rfl : k = (stepF nn d l c).2.1.length := by omega
      rw [vals_same (sk_hidden hs (hno g2))]
set_option maxHeartbeats 1600000 in
theorem c_DeskOther : Ctr Try.prog 8 (lawS [deskT, .arr 2 (.lst instrT), .int]) := by
  refine ctr_of tabOk (SpecsOk.cons c_kSteps (by kernel_rfl) (SpecsOk.cons c_Step (by kernel_rfl) (SpecsOk.nil _))) Try.func8 rfl _ (Nat.le_of_ble_eq_true rfl) (fun _ _ => rfl) ?_
  rintro nn ⟨d, l, (c : Int), ⟨⟩⟩ _ hb
  refine ⟨200, init_k fun K1 n1 => ?_⟩
  conv => whnf
  refine n1 _ ?_
  clear n1 K1
  repeat' (first | with_reducible refine seq_k fun K1 n1 => ?_ | with_reducible refine seq_nil ?_ | with_reducible refine drw_k fun K1 n1 => ?_ | with_reducible refine drw_nil ?_ ?_ | with_reducible refine run_seq ?_ | with_reducible refine run_skip ?_ | with_reducible refine run_regS ?_ | with_reducible refine run_regD (by kernel_rfl) ?_ ?_ | with_reducible refine inl_k (by with_unfolding_all rfl) (Nat.le_of_ble_eq_true rfl) fun K1 n1 => ?_ | with_reducible refine inlA_k (by with_unfolding_all rfl) (Nat.le_of_ble_eq_true rfl) fun K1 n1 => ?_ | with_reducible refine run_finA ?_ | with_reducible refine run_cond ?_ | with_reducible refine run_block ?_ | with_reducible refine run_endb ?_ | with_reducible refine run_exit fun K1 n1 => ?_ | with_reducible refine run_ret fun K1 n1 => ?_ | with_reducible refine run_fin ?_ | with_reducible refine run_inv ?_ | with_reducible refine go_rounds ?_ | ((with_reducible refine Go.mk ?_); (conv => whnf)) | refine Fork.yes ?_ | refine Fork.no ?_ | refine Fork.dec (fun _ => ?_) (fun _ => ?_) | refine Fork.ndec (fun _ => ?_) (fun _ => ?_) | refine Fork.mk (fun _ => ?_) (fun _ => ?_) | refine Way.yesG ?_ | refine Way.noG ?_ | refine Way.decG (fun _ => ?_) (fun _ => ?_) | refine Way.ndecG (fun _ => ?_) (fun _ => ?_) | refine Way.mkG (fun _ => ?_) (fun _ => ?_) | with_reducible refine Need.mkG ?_ ?_ | refine AppW.go0 ?_ ?_ | with_reducible refine NilW.goG (fun _ => ?_) ?_ | ((with_reducible refine n1 _ _ _ ?_); clear n1 K1) | ((with_reducible refine n1 _ ?_); clear n1 K1) | ((with_reducible refine n1 _ _ ?_); clear n1 K1) | ((with_reducible refine n1 _ _ _ _ ?_); clear n1 K1) | fail)
  all_goals try (first | exact trivial | omega | kernel_rfl | decide | exact And.intro (by omega) (by omega))
  all_goals try dsimp only [Int.toNat_natCast] at *
  all_goals try (first | exact trivial | omega | exact And.intro (by omega) (by omega))
  all_goals try exact Done.of rfl (Or.inl rfl)
  rename_i h0 h1 h2
  obtain ⟨hc, hs⟩ := sk_zero h0
  have hlen := sk_len hs
  have hlen : (stepF nn d l c).2.1.length ≤ 2 := hlen
  refine run_loop (loop_fam (ι := Nat × Bool) (fun i => [(40, .a (.of (.leaf .int (i.1 : Int)))), (39, .a (.of (.leaf .int ((stepF nn d l c).2.1.length : Int)))), (38, .a (.of (.leaf (.lst recordT) (recH nn (stepF nn d l c).2.1.length, (stepF nn d l c).2.1)))), (10, .a (.of (.leaf .bool i.2))), (7, .a (.ptr 2 0 [] deskT)), (3, .a (.ptr 0 0 [] deskT)), (2, .a (.of (.leaf .int c)))])
    (fun _ => [.leaf deskT d, .leaf (.arr 2 (.lst instrT)) l, .leaf deskT (stepF nn d l c).1]) (fun _ => ⟨nn + (2 * (stepF 0 d l c).2.1.length + 2), []⟩) (fun i => (stepF nn d l c).2.1.length - i.1) (fun i => i.1 ≤ (stepF nn d l c).2.1.length ∧ (i.2 = false → ∀ j, j < i.1 → (nthD recordT (stepF nn d l c).2.1 j).2.1 ≠ 1 - c)) ?_ ?_)
  · exact ⟨(0, false), ⟨Nat.zero_le _, fun _ j hj => absurd hj (Nat.not_lt_zero _)⟩, ⟨rfl, rfl, rfl, rfl, rfl, rfl, rfl, trivial⟩, rfl, 3, Nat.le_refl _, rfl, rfl⟩
  · rintro ⟨k, b⟩ ⟨hk, hno⟩
    have hk : k ≤ (stepF nn d l c).2.1.length := hk
    repeat' (first | with_reducible refine seq_k fun K1 n1 => ?_ | with_reducible refine seq_nil ?_ | with_reducible refine drw_k fun K1 n1 => ?_ | with_reducible refine drw_nil ?_ ?_ | with_reducible refine run_seq ?_ | with_reducible refine run_skip ?_ | with_reducible refine run_regS ?_ | with_reducible refine run_regD (by kernel_rfl) ?_ ?_ | with_reducible refine inl_k (by with_unfolding_all rfl) (Nat.le_of_ble_eq_true rfl) fun K1 n1 => ?_ | with_reducible refine inlA_k (by with_unfolding_all rfl) (Nat.le_of_ble_eq_true rfl) fun K1 n1 => ?_ | with_reducible refine run_finA ?_ | with_reducible refine run_cond ?_ | with_reducible refine run_block ?_ | with_reducible refine run_endb ?_ | with_reducible refine run_exit fun K1 n1 => ?_ | with_reducible refine run_ret fun K1 n1 => ?_ | with_reducible refine run_fin ?_ | with_reducible refine run_inv ?_ | with_reducible refine go_rounds ?_ | ((with_reducible refine Go.mk ?_); (conv => whnf)) | refine Fork.yes ?_ | refine Fork.no ?_ | refine Fork.dec (fun _ => ?_) (fun _ => ?_) | refine Fork.ndec (fun _ => ?_) (fun _ => ?_) | refine Fork.mk (fun _ => ?_) (fun _ => ?_) | refine Way.yesG ?_ | refine Way.noG ?_ | refine Way.decG (fun _ => ?_) (fun _ => ?_) | refine Way.ndecG (fun _ => ?_) (fun _ => ?_) | refine Way.mkG (fun _ => ?_) (fun _ => ?_) | with_reducible refine Need.mkG ?_ ?_ | refine AppW.go0 ?_ ?_ | with_reducible refine NilW.goG (fun _ => ?_) ?_ | ((with_reducible refine n1 _ _ _ ?_); clear n1 K1) | ((with_reducible refine n1 _ ?_); clear n1 K1) | ((with_reducible refine n1 _ _ ?_); clear n1 K1) | ((with_reducible refine n1 _ _ _ _ ?_); clear n1 K1) | fail)
    all_goals try (first | exact trivial | omega | kernel_rfl | decide | exact And.intro (by omega) (by omega))
    all_goals try dsimp only [Int.toNat_natCast] at *
    all_goals try (first | exact trivial | omega | exact And.intro (by omega) (by omega))
    all_goals first
      | exact Done.of rfl (Or.inl rfl)
      | exact (show 0 ≤ wrap64 (1 - c) ∧ wrap64 (1 - c) < 2 by rw [other_eq hc]; omega)
      | skip
    all_goals first
      | (have g : (nthD recordT (stepF nn d l c).2.1 k).2.1 = wrap64 (1 - c) := by assumption
         rw [other_eq hc] at g
         have e := (sk_other hc hs).1 k (show k < (stepF nn d l c).2.1.length by omega) g
         first
           | exact absurd e.1 (by assumption)
           | exact absurd e.2 (by assumption))
      | skip
    all_goals first
      | (have g2 : b = true := by assumption
         subst g2
         exact ⟨(k + 1, true), (show (stepF nn d l c).2.1.length - (k + 1) < (stepF nn d l c).2.1.length - k by omega), ⟨(show k + 1 ≤ (stepF nn d l c).2.1.length by omega), fun h => by cases h⟩, ⟨(by
        show some (SV.a (AV.of (V.leaf Ty.int (wrap64 (↑k + 1))))) = some (SV.a (AV.of (V.leaf Ty.int ((k + 1 : Nat) : Int))))
        rw [← wrap_succ k (by omega)]), rfl, rfl, rfl, rfl, rfl, rfl, trivial⟩, rfl, 3, Nat.le_of_ble_eq_true rfl, rfl, rfl⟩)
      | (have g2 : b = false := by assumption
         have gk : (k : Int) < ((stepF nn d l c).2.1.length : Int) := by assumption
         subst g2
         refine ⟨(k + 1, decide ((nthD recordT (stepF nn d l c).2.1 k).2.1 = wrap64 (1 - c))), (show (stepF nn d l c).2.1.length - (k + 1) < (stepF nn d l c).2.1.length - k by omega), ⟨(show k + 1 ≤ (stepF nn d l c).2.1.length by omega), fun h j hj => ?_⟩, ⟨(by
        show some (SV.a (AV.of (V.leaf Ty.int (wrap64 (↑k + 1))))) = some (SV.a (AV.of (V.leaf Ty.int ((k + 1 : Nat) : Int))))
        rw [← wrap_succ k (by omega)]), rfl, rfl, rfl, rfl, rfl, rfl, trivial⟩, rfl, 3, Nat.le_of_ble_eq_true rfl, rfl, rfl⟩
         by_cases e : j = k
         · rw [e, ← other_eq hc]
           exact of_decide_eq_false h
         · exact hno rfl j (Nat.lt_of_le_of_ne (Nat.le_of_lt_succ hj) e))
      | (have g2 : b = false := by assumption
         have hkL : k = (stepF nn d l c).2.1.length := by omega
         have hX : sameX ((stepF nn d l c).1.1 (wrap64 (1 - c)).toNat) (d.1 (wrap64 (1 - c)).toNat) := by rw [other_eq hc]; exact (sk_other hc hs).2 (fun j hj => hno g2 j (by rw [hkL]; exact hj))
         obtain ⟨hX1, hX2⟩ := hX
         first
           | (refine Done.of ?_ (Or.inl rfl)
              show (decide _, ()) = (true, ())
              rw [hX2, decide_eq_true rfl]; done)
           | (exfalso
              have h : eqT plainT (d.1 (wrap64 (1 - c)).toNat).1 ((stepF nn d l c).1.1 (wrap64 (1 - c)).toNat).1 = false := by assumption
              rw [hX1, eqD_refl plainT rfl] at h
              cases h; done)
           | (exfalso
              have h : eqT plainT (d.1 (wrap64 (1 - c)).toNat).2.2.2.1 ((stepF nn d l c).1.1 (wrap64 (1 - c)).toNat).2.2.2.1 = false := by assumption
              rw [hX2, eqD_refl plainT rfl] at h
              cases h; done)
           | (exfalso
              have h : ¬ (d.1 (wrap64 (1 - c)).toNat).2.2.1 = ((stepF nn d l c).1.1 (wrap64 (1 - c)).toNat).2.2.1 := by assumption
              exact h (by rw [hX2]))
           | (exfalso
              have h : ¬ (d.1 (wrap64 (1 - c)).toNat).2.2.2.2.2 = ((stepF nn d l c).1.1 (wrap64 (1 - c)).toNat).2.2.2.2.2 := by assumption
              exact h (by rw [hX2])))
set_option maxHeartbeats 1600000 in
theorem c_DeskHolds : Ctr Try.prog 10 (lawS [deskT, .arr 2 (.lst instrT), .int, .int]) := by
  refine ctr_of tabOk (SpecsOk.cons c_kSteps (by kernel_rfl) (SpecsOk.cons c_Step (by kernel_rfl) (SpecsOk.cons c_Holds (by kernel_rfl) (SpecsOk.cons c_Value (by kernel_rfl) (SpecsOk.nil _))))) Try.func10 rfl _ (Nat.le_of_ble_eq_true rfl) (fun _ _ => rfl) ?_
  rintro nn ⟨d, l, (c : Int), (n : Int), ⟨⟩⟩ _ hb
  refine ⟨200, init_k fun K1 n1 => ?_⟩
  conv => whnf
  refine n1 _ ?_
  clear n1 K1
  repeat' (first | with_reducible refine seq_k fun K1 n1 => ?_ | with_reducible refine seq_nil ?_ | with_reducible refine drw_k fun K1 n1 => ?_ | with_reducible refine drw_nil ?_ ?_ | with_reducible refine run_seq ?_ | with_reducible refine run_skip ?_ | with_reducible refine run_regS ?_ | with_reducible refine run_regD (by kernel_rfl) ?_ ?_ | with_reducible refine inl_k (by with_unfolding_all rfl) (Nat.le_of_ble_eq_true rfl) fun K1 n1 => ?_ | with_reducible refine inlA_k (by with_unfolding_all rfl) (Nat.le_of_ble_eq_true rfl) fun K1 n1 => ?_ | with_reducible refine run_finA ?_ | with_reducible refine run_cond ?_ | with_reducible refine run_block ?_ | with_reducible refine run_endb ?_ | with_reducible refine run_exit fun K1 n1 => ?_ | with_reducible refine run_ret fun K1 n1 => ?_ | with_reducible refine run_fin ?_ | with_reducible refine run_inv ?_ | with_reducible refine go_rounds ?_ | ((with_reducible refine Go.mk ?_); (conv => whnf)) | refine Fork.yes ?_ | refine Fork.no ?_ | refine Fork.dec (fun _ => ?_) (fun _ => ?_) | refine Fork.ndec (fun _ => ?_) (fun _ => ?_) | refine Fork.mk (fun _ => ?_) (fun _ => ?_) | refine Way.yesG ?_ | refine Way.noG ?_ | refine Way.decG (fun _ => ?_) (fun _ => ?_) | refine Way.ndecG (fun _ => ?_) (fun _ => ?_) | refine Way.mkG (fun _ => ?_) (fun _ => ?_) | with_reducible refine Need.mkG ?_ ?_ | refine AppW.go0 ?_ ?_ | with_reducible refine NilW.goG (fun _ => ?_) ?_ | ((with_reducible refine n1 _ _ _ ?_); clear n1 K1) | ((with_reducible refine n1 _ ?_); clear n1 K1) | ((with_reducible refine n1 _ _ ?_); clear n1 K1) | ((with_reducible refine n1 _ _ _ _ ?_); clear n1 K1) | fail)
  all_goals try (first | exact trivial | omega | kernel_rfl | decide | exact And.intro (by omega) (by omega))
  all_goals try dsimp only [Int.toNat_natCast] at *
  all_goals try (first | exact trivial | omega | exact And.intro (by omega) (by omega))
  all_goals try exact Done.of rfl (Or.inl rfl)
  rename_i h0 h1 h2 h3 h4
  obtain ⟨hc, hs⟩ := sk_zero h0
  have hlen := sk_len hs
  have hlen : (stepF nn d l c).2.1.length ≤ 2 := hlen
  have hn : 0 ≤ n ∧ n < 16 := by omega
  refine run_loop (loop_fam (ι := Int) (fun k => [(12, .a (.of (.leaf .int k))), (10, .a (.of (.leaf (.lst recordT) (recH nn (stepF nn d l c).2.1.length, (stepF nn d l c).2.1)))), (9, .a (.ptr 2 0 [] deskT)), (4, .a (.ptr 0 0 [] deskT)), (3, .a (.of (.leaf .int n))), (2, .a (.of (.leaf .int c)))])
    (fun _ => [.leaf deskT d, .leaf (.arr 2 (.lst instrT)) l, .leaf deskT (stepF nn d l c).1]) (fun _ => ⟨nn + (2 * (stepF 0 d l c).2.1.length + 2), []⟩) (fun k => (n * 2 + 2 - k).toNat) (fun k => n * 2 ≤ k ∧ k ≤ n * 2 + 2) ?_ ?_)
  · exact ⟨wrap64 (n * 2), by rw [wrap_id (by omega)]; omega, ⟨rfl, rfl, rfl, rfl, rfl, rfl, trivial⟩, rfl, 3, Nat.le_refl _, rfl, rfl⟩
  · rintro k ⟨hk, hk2⟩
    repeat' (first | with_reducible refine seq_k fun K1 n1 => ?_ | with_reducible refine seq_nil ?_ | with_reducible refine drw_k fun K1 n1 => ?_ | with_reducible refine drw_nil ?_ ?_ | with_reducible refine run_seq ?_ | with_reducible refine run_skip ?_ | with_reducible refine run_regS ?_ | with_reducible refine run_regD (by kernel_rfl) ?_ ?_ | with_reducible refine inl_k (by with_unfolding_all rfl) (Nat.le_of_ble_eq_true rfl) fun K1 n1 => ?_ | with_reducible refine inlA_k (by with_unfolding_all rfl) (Nat.le_of_ble_eq_true rfl) fun K1 n1 => ?_ | with_reducible refine run_finA ?_ | with_reducible refine run_cond ?_ | with_reducible refine run_block ?_ | with_reducible refine run_endb ?_ | with_reducible refine run_exit fun K1 n1 => ?_ | with_reducible refine run_ret fun K1 n1 => ?_ | with_reducible refine run_fin ?_ | with_reducible refine run_inv ?_ | with_reducible refine go_rounds ?_ | ((with_reducible refine Go.mk ?_); (conv => whnf)) | refine Fork.yes ?_ | refine Fork.no ?_ | refine Fork.dec (fun _ => ?_) (fun _ => ?_) | refine Fork.ndec (fun _ => ?_) (fun _ => ?_) | refine Fork.mk (fun _ => ?_) (fun _ => ?_) | refine Way.yesG ?_ | refine Way.noG ?_ | refine Way.decG (fun _ => ?_) (fun _ => ?_) | refine Way.ndecG (fun _ => ?_) (fun _ => ?_) | refine Way.mkG (fun _ => ?_) (fun _ => ?_) | with_reducible refine Need.mkG ?_ ?_ | refine AppW.go0 ?_ ?_ | with_reducible refine NilW.goG (fun _ => ?_) ?_ | ((with_reducible refine n1 _ _ _ ?_); clear n1 K1) | ((with_reducible refine n1 _ ?_); clear n1 K1) | ((with_reducible refine n1 _ _ ?_); clear n1 K1) | ((with_reducible refine n1 _ _ _ _ ?_); clear n1 K1) | fail)
    all_goals try (first | exact trivial | omega | kernel_rfl | decide | exact And.intro (by omega) (by omega))
    all_goals try dsimp only [Int.toNat_natCast] at *
    all_goals try (first | exact trivial | omega | exact And.intro (by omega) (by omega))
    all_goals have hw := hold_w hn
    · rename_i g1 g2 g3
      exfalso
      rw [other_eq hc] at g2
      rw [hw] at g1
      refine g3 (sk_holds hs g2 ?_)
      obtain ⟨w, rfl⟩ : ∃ w : Nat, k = (w : Int) := ⟨k.toNat, by omega⟩
      rw [lineOf_nat (by omega)]
      omega
    · rename_i g1 g2 g3
      rw [hw] at g1
      exact ⟨wrap64 (k + 1), by rw [wrap_id (by omega)]; omega, by rw [wrap_id (by omega)]; omega, ⟨rfl, rfl, rfl, rfl, rfl, rfl, trivial⟩, rfl, 3, Nat.le_of_ble_eq_true rfl, rfl, rfl⟩
    · rename_i g1 g2
      rw [hw] at g1
      exact ⟨wrap64 (k + 1), by rw [wrap_id (by omega)]; omega, by rw [wrap_id (by omega)]; omega, ⟨rfl, rfl, rfl, rfl, rfl, rfl, trivial⟩, rfl, 3, Nat.le_of_ble_eq_true rfl, rfl, rfl⟩
    · refine Done.of ?_ (Or.inl rfl)
      show (decide _, ()) = (true, ())
      rw [decide_eq_true (by omega)]
end Go.Proofs.Ytjbbgpacijageab.M
