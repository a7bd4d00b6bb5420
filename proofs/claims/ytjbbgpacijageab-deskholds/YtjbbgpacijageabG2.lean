/- Package desk: who holds what; a transaction that fails. -/
import Derived.Test.YtjbbgpacijageabG1
namespace Go.Proofs.Ytjbbgpacijageab.M
open Go.RowKit
set_option linter.unusedVariables false
set_option linter.unusedSimpArgs false

def wrL (line : Int) (w : writeT.D) : Bool := decide (wrap64 (w.1.tdiv 2) = line)
def holdsF (d : deskT.D) (c line : Int) : Bool :=
  if (0 ≤ c ∧ c < 2) ∧ (d.1 c.toNat).2.2.1 ≠ 0 then
    ((findF d c line).2 && ((d.1 c.toNat).2.1 (findF d c line).1.toNat).2.2.2) || (d.1 c.toNat).2.2.2.2.1.2.any (wrL line)
  else false
theorem any_yes {p : writeT.D → Bool} {l : List writeT.D} {k : Nat} (hk : k < l.length) (h : p (nthD writeT l k) = true) : l.any p = true := by
  rw [nthD_eq hk] at h
  exact List.any_eq_true.2 ⟨l[k], List.getElem_mem hk, h⟩
theorem any_no {p : writeT.D → Bool} {l : List writeT.D} (h : ∀ k, k < l.length → p (nthD writeT l k) = false) : l.any p = false := by
  rw [← Bool.not_eq_true]
  intro ha
  obtain ⟨w, hw, hp⟩ := List.any_eq_true.1 ha
  obtain ⟨k, hk⟩ := List.getElem?_of_mem hw
  have hlt := (List.getElem?_eq_some_iff.1 hk).1
  have h1 := h k hlt
  rw [nthD_eq hlt, (List.getElem?_eq_some_iff.1 hk).2, hp] at h1
  cases h1
abbrev holdsS : Spec := pureS [deskT, .int, .int] [.bool] fun d => (holdsF d.1 d.2.1 d.2.2.1, ())
theorem c_Holds : Ctr Try.prog 29 holdsS := by
  refine ctr_of tabOk (SpecsOk.cons c_dIsCore (by kernel_rfl) (SpecsOk.cons c_Find (by kernel_rfl) (SpecsOk.mut (inl_ok tabOk (SpecsOk.mut (inl_ok tabOk (SpecsOk.mut (inl_ok tabOk (SpecsOk.nil _) Try.func55 [.bool]) (by kernel_rfl) (SpecsOk.nil _)) Try.func74 [.int]) (by kernel_rfl) (SpecsOk.nil _)) Try.func54 [.bool]) (by kernel_rfl) (SpecsOk.nil _)))) Try.func29 rfl _ (Nat.le_of_ble_eq_true rfl) (fun _ _ => rfl) ?_
  rintro nn ⟨d, (c : Int), (line : Int), ⟨⟩⟩ _ hb
  refine ⟨200, init_k fun K1 n1 => ?_⟩
  conv => whnf
  refine n1 _ ?_
  clear n1 K1
  repeat' (first | with_reducible refine seq_k fun K1 n1 => ?_ | with_reducible refine seq_nil ?_ | with_reducible refine drw_k fun K1 n1 => ?_ | with_reducible refine drw_nil ?_ ?_ | with_reducible refine run_seq ?_ | with_reducible refine run_skip ?_ | with_reducible refine run_regS ?_ | with_reducible refine run_regD (by kernel_rfl) ?_ ?_ | with_reducible refine inl_k (by with_unfolding_all rfl) (Nat.le_of_ble_eq_true rfl) fun K1 n1 => ?_ | with_reducible refine inlA_k (by with_unfolding_all rfl) (Nat.le_of_ble_eq_true rfl) fun K1 n1 => ?_ | with_reducible refine run_finA ?_ | with_reducible refine run_cond ?_ | with_reducible refine run_block ?_ | with_reducible refine run_endb ?_ | with_reducible refine run_exit fun K1 n1 => ?_ | with_reducible refine run_ret fun K1 n1 => ?_ | with_reducible refine run_fin ?_ | with_reducible refine run_inv ?_ | with_reducible refine go_rounds ?_ | ((with_reducible refine Go.mk ?_); (conv => whnf)) | refine Fork.yes ?_ | refine Fork.no ?_ | refine Fork.dec (fun _ => ?_) (fun _ => ?_) | refine Fork.ndec (fun _ => ?_) (fun _ => ?_) | refine Fork.mk (fun _ => ?_) (fun _ => ?_) | refine Way.yesG ?_ | refine Way.noG ?_ | refine Way.decG (fun _ => ?_) (fun _ => ?_) | refine Way.ndecG (fun _ => ?_) (fun _ => ?_) | refine Way.mkG (fun _ => ?_) (fun _ => ?_) | with_reducible refine Need.mkG ?_ ?_ | refine AppW.go0 ?_ ?_ | with_reducible refine NilW.goG (fun _ => ?_) ?_ | ((with_reducible refine n1 _ _ _ ?_); clear n1 K1) | ((with_reducible refine n1 _ ?_); clear n1 K1) | ((with_reducible refine n1 _ _ ?_); clear n1 K1) | ((with_reducible refine n1 _ _ _ _ ?_); clear n1 K1) | fail)
  all_goals try (first | exact trivial | omega | kernel_rfl | decide | exact And.intro (by omega) (by omega))
  all_goals try dsimp only [Int.toNat_natCast] at *
  all_goals try (first | exact trivial | omega | exact And.intro (by omega) (by omega))
  · rename_i h
    refine Done.of ?_ (Or.inl rfl)
    show (false, ()) = (holdsF d c line, ())
    unfold holdsF
    rw [if_neg (fun g => h g.1)]
  · rename_i h1 h
    refine Done.of ?_ (Or.inl rfl)
    show (false, ()) = (holdsF d c line, ())
    unfold holdsF
    rw [if_neg (fun g => g.2 h)]
  · exact find_range d c line
  · rename_i h1 h2 h3 h4
    refine Done.of ?_ (Or.inl rfl)
    show (true, ()) = (holdsF d c line, ())
    unfold holdsF
    rw [if_pos ⟨h1, h2⟩, h3, h4]
    rfl
  · refine run_loop (loop_fam (ι := Nat) (fun k => [(8, .a (.of (.leaf .int (k : Int)))), (7, .a (.of (.leaf .int ((d.1 c.toNat).2.2.2.2.1.2.length : Int)))), (6, .a (.of (.leaf (.lst writeT) (d.1 c.toNat).2.2.2.2.1))), (1, .a (.clo 55 [(1, 0, [], .int)])), (0, .a (.of (.leaf (.lst writeT) (d.1 c.toNat).2.2.2.2.1)))])
      (fun _ => [.leaf deskT d, .leaf .int line]) (fun _ => ⟨nn, []⟩) (fun k => (d.1 c.toNat).2.2.2.2.1.2.length - k) (fun k => k ≤ (d.1 c.toNat).2.2.2.2.1.2.length ∧ ∀ j, j < k → wrL line (nthD writeT (d.1 c.toNat).2.2.2.2.1.2 j) = false) ?_ ?_)
    · exact ⟨0, ⟨Nat.zero_le _, fun j hj => by omega⟩, ⟨rfl, rfl, rfl, rfl, rfl, trivial⟩, rfl, 2, Nat.le_refl _, rfl, rfl⟩
    · rintro k ⟨hk, hno⟩
      have hc : 0 ≤ c ∧ c < 2 := by assumption
      have hdp : ¬ (d.1 c.toNat).2.2.1 = 0 := by assumption
      have hws : (d.1 c.toNat).2.2.2.2.1.2.length ≤ 9223372036854775807 := (hb.1.1 c.toNat (by omega)).2.2.2.2.1
      have hF : holdsF d c line = (d.1 c.toNat).2.2.2.2.1.2.any (wrL line) := by
        unfold holdsF
        rw [if_pos ⟨hc, hdp⟩]
        simp_all
      repeat' (first | with_reducible refine seq_k fun K1 n1 => ?_ | with_reducible refine seq_nil ?_ | with_reducible refine drw_k fun K1 n1 => ?_ | with_reducible refine drw_nil ?_ ?_ | with_reducible refine run_seq ?_ | with_reducible refine run_skip ?_ | with_reducible refine run_regS ?_ | with_reducible refine run_regD (by kernel_rfl) ?_ ?_ | with_reducible refine inl_k (by with_unfolding_all rfl) (Nat.le_of_ble_eq_true rfl) fun K1 n1 => ?_ | with_reducible refine inlA_k (by with_unfolding_all rfl) (Nat.le_of_ble_eq_true rfl) fun K1 n1 => ?_ | with_reducible refine run_finA ?_ | with_reducible refine run_cond ?_ | with_reducible refine run_block ?_ | with_reducible refine run_endb ?_ | with_reducible refine run_exit fun K1 n1 => ?_ | with_reducible refine run_ret fun K1 n1 => ?_ | with_reducible refine run_fin ?_ | with_reducible refine run_inv ?_ | with_reducible refine go_rounds ?_ | ((with_reducible refine Go.mk ?_); (conv => whnf)) | refine Fork.yes ?_ | refine Fork.no ?_ | refine Fork.dec (fun _ => ?_) (fun _ => ?_) | refine Fork.ndec (fun _ => ?_) (fun _ => ?_) | refine Fork.mk (fun _ => ?_) (fun _ => ?_) | refine Way.yesG ?_ | refine Way.noG ?_ | refine Way.decG (fun _ => ?_) (fun _ => ?_) | refine Way.ndecG (fun _ => ?_) (fun _ => ?_) | refine Way.mkG (fun _ => ?_) (fun _ => ?_) | with_reducible refine Need.mkG ?_ ?_ | refine AppW.go0 ?_ ?_ | with_reducible refine NilW.goG (fun _ => ?_) ?_ | ((with_reducible refine n1 _ _ _ ?_); clear n1 K1) | ((with_reducible refine n1 _ ?_); clear n1 K1) | ((with_reducible refine n1 _ _ ?_); clear n1 K1) | ((with_reducible refine n1 _ _ _ _ ?_); clear n1 K1) | fail)
      all_goals try (first | exact trivial | omega | kernel_rfl | decide | exact And.intro (by omega) (by omega))
      all_goals try dsimp only [Int.toNat_natCast] at *
      all_goals try (first | exact trivial | omega | exact And.intro (by omega) (by omega))
      · rename_i h1 h2
        refine Done.of ?_ (Or.inl rfl)
        show (decide (0 ≤ (k : Int)), ()) = (holdsF d c line, ())
        rw [hF, decide_eq_true (by omega), any_yes (k := k) (by omega) (decide_eq_true h2)]
      · rename_i h1 h2
        refine ⟨k + 1, by omega, ⟨by omega, fun j hj => ?_⟩, ⟨?_, rfl, rfl, rfl, rfl, trivial⟩, rfl, 2, Nat.le_of_ble_eq_true rfl, rfl, rfl⟩
        · by_cases hjk : j = k
          · subst hjk; exact decide_eq_false h2
          · exact hno j (by omega)
        · rw [← wrap_succ k (by omega)]
          rfl
      · rename_i h1
        refine Done.of ?_ (Or.inl rfl)
        show (decide ((0 : Int) ≤ -1), ()) = (holdsF d c line, ())
        rw [hF, decide_eq_false (by omega), any_no (fun j hj => hno j (by omega))]
  · refine run_loop (loop_fam (ι := Nat) (fun k => [(8, .a (.of (.leaf .int (k : Int)))), (7, .a (.of (.leaf .int ((d.1 c.toNat).2.2.2.2.1.2.length : Int)))), (6, .a (.of (.leaf (.lst writeT) (d.1 c.toNat).2.2.2.2.1))), (1, .a (.clo 55 [(1, 0, [], .int)])), (0, .a (.of (.leaf (.lst writeT) (d.1 c.toNat).2.2.2.2.1)))])
      (fun _ => [.leaf deskT d, .leaf .int line]) (fun _ => ⟨nn, []⟩) (fun k => (d.1 c.toNat).2.2.2.2.1.2.length - k) (fun k => k ≤ (d.1 c.toNat).2.2.2.2.1.2.length ∧ ∀ j, j < k → wrL line (nthD writeT (d.1 c.toNat).2.2.2.2.1.2 j) = false) ?_ ?_)
    · exact ⟨0, ⟨Nat.zero_le _, fun j hj => by omega⟩, ⟨rfl, rfl, rfl, rfl, rfl, trivial⟩, rfl, 2, Nat.le_refl _, rfl, rfl⟩
    · rintro k ⟨hk, hno⟩
      have hc : 0 ≤ c ∧ c < 2 := by assumption
      have hdp : ¬ (d.1 c.toNat).2.2.1 = 0 := by assumption
      have hws : (d.1 c.toNat).2.2.2.2.1.2.length ≤ 9223372036854775807 := (hb.1.1 c.toNat (by omega)).2.2.2.2.1
      have hF : holdsF d c line = (d.1 c.toNat).2.2.2.2.1.2.any (wrL line) := by
        unfold holdsF
        rw [if_pos ⟨hc, hdp⟩]
        simp_all
      repeat' (first | with_reducible refine seq_k fun K1 n1 => ?_ | with_reducible refine seq_nil ?_ | with_reducible refine drw_k fun K1 n1 => ?_ | with_reducible refine drw_nil ?_ ?_ | with_reducible refine run_seq ?_ | with_reducible refine run_skip ?_ | with_reducible refine run_regS ?_ | with_reducible refine run_regD (by kernel_rfl) ?_ ?_ | with_reducible refine inl_k (by with_unfolding_all rfl) (Nat.le_of_ble_eq_true rfl) fun K1 n1 => ?_ | with_reducible refine inlA_k (by with_unfolding_all rfl) (Nat.le_of_ble_eq_true rfl) fun K1 n1 => ?_ | with_reducible refine run_finA ?_ | with_reducible refine run_cond ?_ | with_reducible refine run_block ?_ | with_reducible refine run_endb ?_ | with_reducible refine run_exit fun K1 n1 => ?_ | with_reducible refine run_ret fun K1 n1 => ?_ | with_reducible refine run_fin ?_ | with_reducible refine run_inv ?_ | with_reducible refine go_rounds ?_ | ((with_reducible refine Go.mk ?_); (conv => whnf)) | refine Fork.yes ?_ | refine Fork.no ?_ | refine Fork.dec (fun _ => ?_) (fun _ => ?_) | refine Fork.ndec (fun _ => ?_) (fun _ => ?_) | refine Fork.mk (fun _ => ?_) (fun _ => ?_) | refine Way.yesG ?_ | refine Way.noG ?_ | refine Way.decG (fun _ => ?_) (fun _ => ?_) | refine Way.ndecG (fun _ => ?_) (fun _ => ?_) | refine Way.mkG (fun _ => ?_) (fun _ => ?_) | with_reducible refine Need.mkG ?_ ?_ | refine AppW.go0 ?_ ?_ | with_reducible refine NilW.goG (fun _ => ?_) ?_ | ((with_reducible refine n1 _ _ _ ?_); clear n1 K1) | ((with_reducible refine n1 _ ?_); clear n1 K1) | ((with_reducible refine n1 _ _ ?_); clear n1 K1) | ((with_reducible refine n1 _ _ _ _ ?_); clear n1 K1) | fail)
      all_goals try (first | exact trivial | omega | kernel_rfl | decide | exact And.intro (by omega) (by omega))
      all_goals try dsimp only [Int.toNat_natCast] at *
      all_goals try (first | exact trivial | omega | exact And.intro (by omega) (by omega))
      · rename_i h1 h2
        refine Done.of ?_ (Or.inl rfl)
        show (decide (0 ≤ (k : Int)), ()) = (holdsF d c line, ())
        rw [hF, decide_eq_true (by omega), any_yes (k := k) (by omega) (decide_eq_true h2)]
      · rename_i h1 h2
        refine ⟨k + 1, by omega, ⟨by omega, fun j hj => ?_⟩, ⟨?_, rfl, rfl, rfl, rfl, trivial⟩, rfl, 2, Nat.le_of_ble_eq_true rfl, rfl, rfl⟩
        · by_cases hjk : j = k
          · subst hjk; exact decide_eq_false h2
          · exact hno j (by omega)
        · rw [← wrap_succ k (by omega)]
          rfl
      · rename_i h1
        refine Done.of ?_ (Or.inl rfl)
        show (decide ((0 : Int) ≤ -1), ()) = (holdsF d c line, ())
        rw [hF, decide_eq_false (by omega), any_no (fun j hj => hno j (by omega))]
def refF (d : deskT.D) (c : Int) : Int := if goodK d = true then (if 0 ≤ c ∧ c < 2 then 0 else 5) else 1
abbrev refS : Spec := pureS [deskT, .int] [.int] fun d => (refF d.1 d.2.1, ())
theorem c_refused : Ctr Try.prog 46 refS := by
  refine ctr_of tabOk (SpecsOk.cons c_dGood (by kernel_rfl) (SpecsOk.cons c_dIsCore (by kernel_rfl) (SpecsOk.nil _))) Try.func46 rfl _ (Nat.le_of_ble_eq_true rfl) (fun _ _ => rfl) ?_
  rintro nn ⟨d, (c : Int), ⟨⟩⟩ _ hb
  refine ⟨200, init_k fun K1 n1 => ?_⟩
  conv => whnf
  refine n1 _ ?_
  clear n1 K1
  repeat' (first | with_reducible refine seq_k fun K1 n1 => ?_ | with_reducible refine seq_nil ?_ | with_reducible refine drw_k fun K1 n1 => ?_ | with_reducible refine drw_nil ?_ ?_ | with_reducible refine run_seq ?_ | with_reducible refine run_skip ?_ | with_reducible refine run_regS ?_ | with_reducible refine run_regD (by kernel_rfl) ?_ ?_ | with_reducible refine inl_k (by with_unfolding_all rfl) (Nat.le_of_ble_eq_true rfl) fun K1 n1 => ?_ | with_reducible refine inlA_k (by with_unfolding_all rfl) (Nat.le_of_ble_eq_true rfl) fun K1 n1 => ?_ | with_reducible refine run_finA ?_ | with_reducible refine run_cond ?_ | with_reducible refine run_block ?_ | with_reducible refine run_endb ?_ | with_reducible refine run_exit fun K1 n1 => ?_ | with_reducible refine run_ret fun K1 n1 => ?_ | with_reducible refine run_fin ?_ | with_reducible refine run_inv ?_ | with_reducible refine go_rounds ?_ | ((with_reducible refine Go.mk ?_); (conv => whnf)) | refine Fork.yes ?_ | refine Fork.no ?_ | refine Fork.dec (fun _ => ?_) (fun _ => ?_) | refine Fork.ndec (fun _ => ?_) (fun _ => ?_) | refine Fork.mk (fun _ => ?_) (fun _ => ?_) | refine Way.yesG ?_ | refine Way.noG ?_ | refine Way.decG (fun _ => ?_) (fun _ => ?_) | refine Way.ndecG (fun _ => ?_) (fun _ => ?_) | refine Way.mkG (fun _ => ?_) (fun _ => ?_) | with_reducible refine Need.mkG ?_ ?_ | refine AppW.go0 ?_ ?_ | with_reducible refine NilW.goG (fun _ => ?_) ?_ | ((with_reducible refine n1 _ _ _ ?_); clear n1 K1) | ((with_reducible refine n1 _ ?_); clear n1 K1) | ((with_reducible refine n1 _ _ ?_); clear n1 K1) | ((with_reducible refine n1 _ _ _ _ ?_); clear n1 K1) | fail)
  all_goals try (first | exact trivial | omega | kernel_rfl | decide | exact And.intro (by omega) (by omega))
  all_goals try dsimp only [Int.toNat_natCast] at *
  all_goals try (first | exact trivial | omega | exact And.intro (by omega) (by omega))
  all_goals
    refine Done.of ?_ (Or.inl rfl)
    show (_, ()) = (refF d c, ())
    unfold refF
    simp_all
/-- A core without a transaction. -/
def noRead (f : Nat → lineT.D) : Nat → lineT.D := fun w => if w < 4 then ((f w).1, (f w).2.1, (f w).2.2.1, false) else f w
def freedF (c : coreT.D) : coreT.D := (c.1, noRead c.2.1, 0, plainT.zero, (nilH, []), 0)
abbrev freedS : Spec := pureS [coreT] [coreT] fun d => (freedF d.1, ())
theorem c_freed : Ctr Try.prog 71 freedS := by
  refine ctr_of tabOk (SpecsOk.nil _) Try.func71 rfl _ (Nat.le_of_ble_eq_true rfl) (fun _ _ => rfl) ?_
  rintro nn ⟨c, ⟨⟩⟩ _ hb
  refine ⟨200, init_k fun K1 n1 => ?_⟩
  conv => whnf
  refine n1 _ ?_
  clear n1 K1
  repeat' (first | with_reducible refine seq_k fun K1 n1 => ?_ | with_reducible refine seq_nil ?_ | with_reducible refine drw_k fun K1 n1 => ?_ | with_reducible refine drw_nil ?_ ?_ | with_reducible refine run_seq ?_ | with_reducible refine run_skip ?_ | with_reducible refine run_regS ?_ | with_reducible refine run_regD (by kernel_rfl) ?_ ?_ | with_reducible refine inl_k (by with_unfolding_all rfl) (Nat.le_of_ble_eq_true rfl) fun K1 n1 => ?_ | with_reducible refine inlA_k (by with_unfolding_all rfl) (Nat.le_of_ble_eq_true rfl) fun K1 n1 => ?_ | with_reducible refine run_finA ?_ | with_reducible refine run_cond ?_ | with_reducible refine run_block ?_ | with_reducible refine run_endb ?_ | with_reducible refine run_exit fun K1 n1 => ?_ | with_reducible refine run_ret fun K1 n1 => ?_ | with_reducible refine run_fin ?_ | with_reducible refine run_inv ?_ | with_reducible refine go_rounds ?_ | ((with_reducible refine Go.mk ?_); (conv => whnf)) | refine Fork.yes ?_ | refine Fork.no ?_ | refine Fork.dec (fun _ => ?_) (fun _ => ?_) | refine Fork.ndec (fun _ => ?_) (fun _ => ?_) | refine Fork.mk (fun _ => ?_) (fun _ => ?_) | refine Way.yesG ?_ | refine Way.noG ?_ | refine Way.decG (fun _ => ?_) (fun _ => ?_) | refine Way.ndecG (fun _ => ?_) (fun _ => ?_) | refine Way.mkG (fun _ => ?_) (fun _ => ?_) | with_reducible refine Need.mkG ?_ ?_ | refine AppW.go0 ?_ ?_ | with_reducible refine NilW.goG (fun _ => ?_) ?_ | ((with_reducible refine n1 _ _ _ ?_); clear n1 K1) | ((with_reducible refine n1 _ ?_); clear n1 K1) | ((with_reducible refine n1 _ _ ?_); clear n1 K1) | ((with_reducible refine n1 _ _ _ _ ?_); clear n1 K1) | fail)
  all_goals try (first | exact trivial | omega | kernel_rfl | decide | exact And.intro (by omega) (by omega))
  all_goals try dsimp only [Int.toNat_natCast] at *
  all_goals try (first | exact trivial | omega | exact And.intro (by omega) (by omega))
  refine run_loop (loop_fam (ι := Nat × (Nat → lineT.D)) (fun i => [(9, .a (.of (.leaf .int (i.1 : Int)))), (2, .a (.ptr 1 0 [] coreT)), (1, .a (.ptr 0 0 [] coreT))])
    (fun i => [.leaf coreT (c.1, i.2, 0, plainT.zero, (nilH, []), 0), .leaf coreT coreT.zero]) (fun _ => ⟨nn, []⟩) (fun i => 4 - i.1) (fun i => i.1 ≤ 4 ∧ i.2 = fun w => if w < i.1 then ((c.2.1 w).1, (c.2.1 w).2.1, (c.2.1 w).2.2.1, false) else c.2.1 w) ?_ ?_)
  · exact ⟨(0, c.2.1), ⟨Nat.zero_le _, by funext w; rw [if_neg (by omega)]⟩, ⟨rfl, rfl, rfl, trivial⟩, rfl, 2, Nat.le_refl _, rfl, rfl⟩
  · rintro ⟨k, f⟩ ⟨hk, hf⟩
    have hk : k ≤ 4 := hk
    have hf : f = fun w => if w < k then ((c.2.1 w).1, (c.2.1 w).2.1, (c.2.1 w).2.2.1, false) else c.2.1 w := hf
    repeat' (first | with_reducible refine seq_k fun K1 n1 => ?_ | with_reducible refine seq_nil ?_ | with_reducible refine drw_k fun K1 n1 => ?_ | with_reducible refine drw_nil ?_ ?_ | with_reducible refine run_seq ?_ | with_reducible refine run_skip ?_ | with_reducible refine run_regS ?_ | with_reducible refine run_regD (by kernel_rfl) ?_ ?_ | with_reducible refine inl_k (by with_unfolding_all rfl) (Nat.le_of_ble_eq_true rfl) fun K1 n1 => ?_ | with_reducible refine inlA_k (by with_unfolding_all rfl) (Nat.le_of_ble_eq_true rfl) fun K1 n1 => ?_ | with_reducible refine run_finA ?_ | with_reducible refine run_cond ?_ | with_reducible refine run_block ?_ | with_reducible refine run_endb ?_ | with_reducible refine run_exit fun K1 n1 => ?_ | with_reducible refine run_ret fun K1 n1 => ?_ | with_reducible refine run_fin ?_ | with_reducible refine run_inv ?_ | with_reducible refine go_rounds ?_ | ((with_reducible refine Go.mk ?_); (conv => whnf)) | refine Fork.yes ?_ | refine Fork.no ?_ | refine Fork.dec (fun _ => ?_) (fun _ => ?_) | refine Fork.ndec (fun _ => ?_) (fun _ => ?_) | refine Fork.mk (fun _ => ?_) (fun _ => ?_) | refine Way.yesG ?_ | refine Way.noG ?_ | refine Way.decG (fun _ => ?_) (fun _ => ?_) | refine Way.ndecG (fun _ => ?_) (fun _ => ?_) | refine Way.mkG (fun _ => ?_) (fun _ => ?_) | with_reducible refine Need.mkG ?_ ?_ | refine AppW.go0 ?_ ?_ | with_reducible refine NilW.goG (fun _ => ?_) ?_ | ((with_reducible refine n1 _ _ _ ?_); clear n1 K1) | ((with_reducible refine n1 _ ?_); clear n1 K1) | ((with_reducible refine n1 _ _ ?_); clear n1 K1) | ((with_reducible refine n1 _ _ _ _ ?_); clear n1 K1) | fail)
    all_goals try (first | exact trivial | omega | kernel_rfl | decide | exact And.intro (by omega) (by omega))
    all_goals try dsimp only [Int.toNat_natCast] at *
    all_goals try (first | exact trivial | omega | exact And.intro (by omega) (by omega))
    · rename_i h1
      have hfk : f k = c.2.1 k := by rw [hf]; exact if_neg (Nat.lt_irrefl _)
      refine ⟨(k + 1, updA f k ((f k).1, (f k).2.1, (f k).2.2.1, false)), (by show 4 - (k + 1) < 4 - k; omega), ⟨(by show k + 1 ≤ 4; omega), ?_⟩, ⟨?_, rfl, rfl, trivial⟩, rfl, 2, Nat.le_of_ble_eq_true rfl, rfl, rfl⟩
      · funext w
        show updA f k _ w = if w < k + 1 then _ else _
        unfold updA
        by_cases hw : w = k
        · subst hw
          rw [if_pos rfl, if_pos (by omega), hfk]
        · rw [if_neg hw, hf]
          show (if w < k then _ else _) = _
          by_cases h2 : w < k
          · rw [if_pos h2, if_pos (by omega)]
          · rw [if_neg h2, if_neg (by omega)]
      · rw [← wrap_succ k (by omega)]
        rfl
    · rename_i h1
      obtain rfl : k = 4 := by omega
      refine Done.of ?_ (Or.inr (Nat.le_refl _))
      show ((c.1, f, 0, plainT.zero, (nilH, []), 0), ()) = (freedF c, ())
      unfold freedF noRead
      rw [hf]
def failC (c : coreT.D) (l : List instrT.D) (why : Int) : coreT.D :=
  freedF (((putF c.2.2.2.1 (fetchF l c.2.2.2.1).2.1 why).1, (fetchF l c.2.2.2.1).2.2.2.2, (putF c.2.2.2.1 (fetchF l c.2.2.2.1).2.1 why).2.2), c.2)
abbrev failCS : Spec := pureS [coreT, .lst instrT, .int] [coreT] fun d => (failC d.1 d.2.1.2 d.2.2.1, ())
theorem c_failed : Ctr Try.prog 51 failCS := by
  refine ctr_of tabOk (SpecsOk.cons c_Fetch (by kernel_rfl) (SpecsOk.cons c_Put (by kernel_rfl) (SpecsOk.cons c_freed (by kernel_rfl) (SpecsOk.nil _)))) Try.func51 rfl _ (Nat.le_of_ble_eq_true rfl) (fun _ _ => rfl) ?_
  rintro nn ⟨c, ⟨hl, l⟩, (why : Int), ⟨⟩⟩ _ hb
  refine ⟨200, init_k fun K1 n1 => ?_⟩
  conv => whnf
  refine n1 _ ?_
  clear n1 K1
  repeat' (first | with_reducible refine seq_k fun K1 n1 => ?_ | with_reducible refine seq_nil ?_ | with_reducible refine drw_k fun K1 n1 => ?_ | with_reducible refine drw_nil ?_ ?_ | with_reducible refine run_seq ?_ | with_reducible refine run_skip ?_ | with_reducible refine run_regS ?_ | with_reducible refine run_regD (by kernel_rfl) ?_ ?_ | with_reducible refine inl_k (by with_unfolding_all rfl) (Nat.le_of_ble_eq_true rfl) fun K1 n1 => ?_ | with_reducible refine inlA_k (by with_unfolding_all rfl) (Nat.le_of_ble_eq_true rfl) fun K1 n1 => ?_ | with_reducible refine run_finA ?_ | with_reducible refine run_cond ?_ | with_reducible refine run_block ?_ | with_reducible refine run_endb ?_ | with_reducible refine run_exit fun K1 n1 => ?_ | with_reducible refine run_ret fun K1 n1 => ?_ | with_reducible refine run_fin ?_ | with_reducible refine run_inv ?_ | with_reducible refine go_rounds ?_ | ((with_reducible refine Go.mk ?_); (conv => whnf)) | refine Fork.yes ?_ | refine Fork.no ?_ | refine Fork.dec (fun _ => ?_) (fun _ => ?_) | refine Fork.ndec (fun _ => ?_) (fun _ => ?_) | refine Fork.mk (fun _ => ?_) (fun _ => ?_) | refine Way.yesG ?_ | refine Way.noG ?_ | refine Way.decG (fun _ => ?_) (fun _ => ?_) | refine Way.ndecG (fun _ => ?_) (fun _ => ?_) | refine Way.mkG (fun _ => ?_) (fun _ => ?_) | with_reducible refine Need.mkG ?_ ?_ | refine AppW.go0 ?_ ?_ | with_reducible refine NilW.goG (fun _ => ?_) ?_ | ((with_reducible refine n1 _ _ _ ?_); clear n1 K1) | ((with_reducible refine n1 _ ?_); clear n1 K1) | ((with_reducible refine n1 _ _ ?_); clear n1 K1) | ((with_reducible refine n1 _ _ _ _ ?_); clear n1 K1) | fail)
  all_goals try (first | exact trivial | omega | kernel_rfl | decide | exact And.intro (by omega) (by omega))
  all_goals try dsimp only [Int.toNat_natCast] at *
  all_goals try (first | exact trivial | omega | exact And.intro (by omega) (by omega))
  exact Done.of rfl (Or.inr (Nat.le_refl _))
def setCore (d : deskT.D) (c : Nat) (x : coreT.D) : deskT.D := (updA d.1 c x, d.2)
def abortF (d : deskT.D) (l : List instrT.D) (c why : Int) : deskT.D × Int :=
  if refF d c = 0 then (if (d.1 c.toNat).2.2.1 = 0 then (d, 5) else (setCore d c.toNat (failC (d.1 c.toNat) l why), 0)) else (d, refF d c)
abbrev abortS : Spec := pureS [deskT, .lst instrT, .int, .int] [deskT, .int] fun d => ((abortF d.1 d.2.1.2 d.2.2.1 d.2.2.2.1).1, (abortF d.1 d.2.1.2 d.2.2.1 d.2.2.2.1).2, ())
theorem ref_ok {d : deskT.D} {c : Int} (h : refF d c = 0) : goodK d = true ∧ 0 ≤ c ∧ c < 2 := by
  unfold refF at h
  split at h
  · split at h
    · exact ⟨by assumption, by assumption⟩
    · cases h
  · cases h
theorem c_Abort : Ctr Try.prog 27 abortS := by
  refine ctr_of tabOk (SpecsOk.cons c_refused (by kernel_rfl) (SpecsOk.cons c_failed (by kernel_rfl) (SpecsOk.nil _))) Try.func27 rfl _ (Nat.le_of_ble_eq_true rfl) (fun _ _ => rfl) ?_
  rintro nn ⟨d, ⟨hl, l⟩, (c : Int), (why : Int), ⟨⟩⟩ _ hb
  refine ⟨200, init_k fun K1 n1 => ?_⟩
  conv => whnf
  refine n1 _ ?_
  clear n1 K1
  repeat' (first | with_reducible refine seq_k fun K1 n1 => ?_ | with_reducible refine seq_nil ?_ | with_reducible refine drw_k fun K1 n1 => ?_ | with_reducible refine drw_nil ?_ ?_ | with_reducible refine run_seq ?_ | with_reducible refine run_skip ?_ | with_reducible refine run_regS ?_ | with_reducible refine run_regD (by kernel_rfl) ?_ ?_ | with_reducible refine inl_k (by with_unfolding_all rfl) (Nat.le_of_ble_eq_true rfl) fun K1 n1 => ?_ | with_reducible refine inlA_k (by with_unfolding_all rfl) (Nat.le_of_ble_eq_true rfl) fun K1 n1 => ?_ | with_reducible refine run_finA ?_ | with_reducible refine run_cond ?_ | with_reducible refine run_block ?_ | with_reducible refine run_endb ?_ | with_reducible refine run_exit fun K1 n1 => ?_ | with_reducible refine run_ret fun K1 n1 => ?_ | with_reducible refine run_fin ?_ | with_reducible refine run_inv ?_ | with_reducible refine go_rounds ?_ | ((with_reducible refine Go.mk ?_); (conv => whnf)) | refine Fork.yes ?_ | refine Fork.no ?_ | refine Fork.dec (fun _ => ?_) (fun _ => ?_) | refine Fork.ndec (fun _ => ?_) (fun _ => ?_) | refine Fork.mk (fun _ => ?_) (fun _ => ?_) | refine Way.yesG ?_ | refine Way.noG ?_ | refine Way.decG (fun _ => ?_) (fun _ => ?_) | refine Way.ndecG (fun _ => ?_) (fun _ => ?_) | refine Way.mkG (fun _ => ?_) (fun _ => ?_) | with_reducible refine Need.mkG ?_ ?_ | refine AppW.go0 ?_ ?_ | with_reducible refine NilW.goG (fun _ => ?_) ?_ | ((with_reducible refine n1 _ _ _ ?_); clear n1 K1) | ((with_reducible refine n1 _ ?_); clear n1 K1) | ((with_reducible refine n1 _ _ ?_); clear n1 K1) | ((with_reducible refine n1 _ _ _ _ ?_); clear n1 K1) | fail)
  all_goals try (first | exact trivial | omega | kernel_rfl | decide | exact And.intro (by omega) (by omega))
  all_goals try dsimp only [Int.toNat_natCast] at *
  all_goals try (first | exact trivial | omega | exact And.intro (by omega) (by omega))
  · rename_i h
    refine Done.of ?_ (Or.inr (Nat.le_refl _))
    show (_, _, ()) = ((abortF d l c why).1, (abortF d l c why).2, ())
    unfold abortF
    rw [if_neg h]
  · rename_i h
    exact (ref_ok h).2
  · rename_i h h2
    refine Done.of ?_ (Or.inr (Nat.le_refl _))
    show (_, _, ()) = ((abortF d l c why).1, (abortF d l c why).2, ())
    unfold abortF
    rw [if_pos h, if_pos h2]
  · rename_i h h2
    refine Done.of ?_ (Or.inr (Nat.le_refl _))
    show (_, _, ()) = ((abortF d l c why).1, (abortF d l c why).2, ())
    unfold abortF
    rw [if_pos h, if_neg h2]
    rfl
end Go.Proofs.Ytjbbgpacijageab.M
