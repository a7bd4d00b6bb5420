/- Several texts in one. -/
import Derived.Test.YtjbbgpacijageabUG
import Derived.Test.YtjbbgpacijageabUE
/- Package desk: a turn; what is recorded. -/
namespace Go.Proofs.Ytjbbgpacijageab.M
open Go.RowKit
set_option linter.unusedVariables false
set_option linter.unusedSimpArgs false

abbrev tabR : Tab := { tab with tks := [49] }
theorem tabROk : TabOk Try.prog tabR := ⟨tabOk.ty, tabOk.eq, tabOk.mix, tabOk.ptr⟩
/-- The name of a list of records that has grown k times. -/
def recH (nn : Nat) : Nat → Hd
  | 0 => nilH
  | k + 1 => .nm (nn + 2 * k + 1)
abbrev Rec := List recordT.D
def outT (nn : Nat) (x : deskT.D × Rec) (l : progsT.D) (c : Int) : turnT.D := (x.1, l, c, (recH nn x.2.length, x.2))
/-- A turn of a core that there is, with nothing recorded yet. -/
def newT (t : turnT.D) : Prop := (0 ≤ t.2.2.1 ∧ t.2.2.1 < 2) ∧ t.2.2.2 = (nilH, [])
def failD (d : deskT.D) (l : progsT.D) (c why : Int) : deskT.D × Rec := (setCore d c.toNat (failC (d.1 c.toNat) (l c.toNat).2 why), [(3, c, why)])
abbrev turnS (args : List Ty) (pre : turnT.D → DL args → Prop) (F : turnT.D → DL args → deskT.D × Rec) : Spec :=
  { args := turnT :: args, res := [turnT], cr := true, m := fun d => 2 * (F d.1 d.2).2.length, fn := fun nn d => (outT nn (F d.1 d.2) d.1.2.1 d.1.2.2.1, ()), pre := fun d => newT d.1 ∧ pre d.1 d.2 }
theorem updA_at {α : Type} (f : Nat → α) (k : Nat) (x : α) : updA f k x k = x := if_pos rfl
theorem updA_twice {α : Type} (f : Nat → α) (k : Nat) (x y : α) : updA (updA f k x) k y = updA f k y := by
  funext j
  unfold updA
  by_cases h : j = k
  · rw [if_pos h, if_pos h]
  · rw [if_neg h, if_neg h, if_neg h]
theorem updA_ne {α : Type} {f : Nat → α} {k j : Nat} {x : α} (h : j ≠ k) : updA f k x j = f j := if_neg h
theorem turn_done {args : List Ty} {pre : turnT.D → DL args → Prop} {F : turnT.D → DL args → deskT.D × Rec} {nn : Nat} {t : turnT.D} {a : DL args} {x : deskT.D × Rec} {tk : List (Hd × Nat)} (hx : x = F t a) : Done (turnS args pre F) nn (t, a) (outT nn x t.2.1 t.2.2.1, ()) ⟨nn + 2 * x.2.length, tk⟩ := by
  subst hx
  exact Done.of rfl (Or.inr (Nat.le_refl _))
theorem one_small {r : recordT.D} : ([] : List recordT.D).length + (ownL recordT (updA (Ty.arr 1 recordT).zero 0 r) 0 1).length ≤ 140737488355328 ∧ (([] : List recordT.D).length + (ownL recordT (updA (Ty.arr 1 recordT).zero 0 r) 0 1).length) * recordT.byt ≤ 140737488355328 := ⟨(by show 1 ≤ 140737488355328; decide), (by show 1 * 24 ≤ 140737488355328; decide)⟩
abbrev failsS : Spec := turnS [.int, .int] (fun _ a => 0 ≤ a.1 ∧ a.1 < 2) fun t a => failD t.1 t.2.1 a.1 a.2.1
theorem c_fails : Ctr Try.prog 49 failsS := by
  refine ctr_ofT [(nilH, 3)] ⟨[3], rfl⟩ tabROk (SpecsOk.cons c_failed (by kernel_rfl) (SpecsOk.mut (inl_ok tabROk (SpecsOk.nil _) Try.func66 [turnT]) (by kernel_rfl) (SpecsOk.nil _))) Try.func49 rfl _ (Nat.le_of_ble_eq_true rfl) (fun h => by cases h) ?_
  rintro nn ⟨⟨d, l, (c : Int), h, rs⟩, (k : Int), (why : Int), ⟨⟩⟩ ⟨⟨hc, hr⟩, hk⟩ hb
  obtain ⟨rfl, rfl⟩ := Prod.mk.inj hr
  refine ⟨200, init_k fun K1 n1 => ?_⟩
  conv => whnf
  refine n1 _ ?_
  clear n1 K1
  repeat' (first | with_reducible refine seq_k fun K1 n1 => ?_ | with_reducible refine seq_nil ?_ | with_reducible refine drw_k fun K1 n1 => ?_ | with_reducible refine drw_nil ?_ ?_ | with_reducible refine run_seq ?_ | with_reducible refine run_skip ?_ | with_reducible refine run_regS ?_ | with_reducible refine run_regD (by kernel_rfl) ?_ ?_ | with_reducible refine inl_k (by with_unfolding_all rfl) (Nat.le_of_ble_eq_true rfl) fun K1 n1 => ?_ | with_reducible refine inlA_k (by with_unfolding_all rfl) (Nat.le_of_ble_eq_true rfl) fun K1 n1 => ?_ | with_reducible refine run_finA ?_ | with_reducible refine run_cond ?_ | with_reducible refine run_block ?_ | with_reducible refine run_endb ?_ | with_reducible refine run_exit fun K1 n1 => ?_ | with_reducible refine run_ret fun K1 n1 => ?_ | with_reducible refine run_fin ?_ | with_reducible refine run_inv ?_ | with_reducible refine go_rounds ?_ | ((with_reducible refine Go.mk ?_); (conv => whnf)) | refine Fork.yes ?_ | refine Fork.no ?_ | refine Fork.dec (fun _ => ?_) (fun _ => ?_) | refine Fork.ndec (fun _ => ?_) (fun _ => ?_) | refine Fork.mk (fun _ => ?_) (fun _ => ?_) | refine Way.yesG ?_ | refine Way.noG ?_ | refine Way.decG (fun _ => ?_) (fun _ => ?_) | refine Way.ndecG (fun _ => ?_) (fun _ => ?_) | refine Way.mkG (fun _ => ?_) (fun _ => ?_) | with_reducible refine Need.mkG ?_ ?_ | refine AppW.go0 ?_ ?_ | with_reducible refine NilW.goG (fun _ => ?_) ?_ | ((with_reducible refine n1 _ _ _ ?_); clear n1 K1) | ((with_reducible refine n1 _ ?_); clear n1 K1) | ((with_reducible refine n1 _ _ ?_); clear n1 K1) | ((with_reducible refine n1 _ _ _ _ ?_); clear n1 K1) | fail)
  all_goals try (first | exact trivial | omega | kernel_rfl | decide | exact And.intro (by omega) (by omega))
  all_goals try dsimp only [Int.toNat_natCast] at *
  all_goals try (first | exact trivial | omega | exact And.intro (by omega) (by omega))
  · exact one_small
  · exact Done.of rfl (Or.inr (Nat.le_refl _))
def bump (x : coreT.D) : coreT.D := (x.1, x.2.1, x.2.2.1, x.2.2.2.1, x.2.2.2.2.1, wrap64 (x.2.2.2.2.2 + 1))
def countF (d : deskT.D) (c : Int) : deskT.D × Rec := if (d.1 c.toNat).2.2.1 = 0 then (d, [(1, c, 0)]) else (setCore d c.toNat (bump (d.1 c.toNat)), [])
abbrev countS : Spec := turnS [] (fun _ _ => True) fun t _ => countF t.1 t.2.2.1
theorem c_counted : Ctr Try.prog 83 countS := by
  refine ctr_ofT [(nilH, 3)] ⟨[3], rfl⟩ tabROk (SpecsOk.mut (inl_ok tabROk (SpecsOk.nil _) Try.func66 [turnT]) (by kernel_rfl) (SpecsOk.nil _)) Try.func83 rfl _ (Nat.le_of_ble_eq_true rfl) (fun h => by cases h) ?_
  rintro nn ⟨⟨d, l, (c : Int), h, rs⟩, ⟨⟩⟩ ⟨⟨hc, hr⟩, _⟩ hb
  obtain ⟨rfl, rfl⟩ := Prod.mk.inj hr
  refine ⟨200, init_k fun K1 n1 => ?_⟩
  conv => whnf
  refine n1 _ ?_
  clear n1 K1
  repeat' (first | with_reducible refine seq_k fun K1 n1 => ?_ | with_reducible refine seq_nil ?_ | with_reducible refine drw_k fun K1 n1 => ?_ | with_reducible refine drw_nil ?_ ?_ | with_reducible refine run_seq ?_ | with_reducible refine run_skip ?_ | with_reducible refine run_regS ?_ | with_reducible refine run_regD (by kernel_rfl) ?_ ?_ | with_reducible refine inl_k (by with_unfolding_all rfl) (Nat.le_of_ble_eq_true rfl) fun K1 n1 => ?_ | with_reducible refine inlA_k (by with_unfolding_all rfl) (Nat.le_of_ble_eq_true rfl) fun K1 n1 => ?_ | with_reducible refine run_finA ?_ | with_reducible refine run_cond ?_ | with_reducible refine run_block ?_ | with_reducible refine run_endb ?_ | with_reducible refine run_exit fun K1 n1 => ?_ | with_reducible refine run_ret fun K1 n1 => ?_ | with_reducible refine run_fin ?_ | with_reducible refine run_inv ?_ | with_reducible refine go_rounds ?_ | ((with_reducible refine Go.mk ?_); (conv => whnf)) | refine Fork.yes ?_ | refine Fork.no ?_ | refine Fork.dec (fun _ => ?_) (fun _ => ?_) | refine Fork.ndec (fun _ => ?_) (fun _ => ?_) | refine Fork.mk (fun _ => ?_) (fun _ => ?_) | refine Way.yesG ?_ | refine Way.noG ?_ | refine Way.decG (fun _ => ?_) (fun _ => ?_) | refine Way.ndecG (fun _ => ?_) (fun _ => ?_) | refine Way.mkG (fun _ => ?_) (fun _ => ?_) | with_reducible refine Need.mkG ?_ ?_ | refine AppW.go0 ?_ ?_ | with_reducible refine NilW.goG (fun _ => ?_) ?_ | ((with_reducible refine n1 _ _ _ ?_); clear n1 K1) | ((with_reducible refine n1 _ ?_); clear n1 K1) | ((with_reducible refine n1 _ _ ?_); clear n1 K1) | ((with_reducible refine n1 _ _ _ _ ?_); clear n1 K1) | fail)
  all_goals try (first | exact trivial | omega | kernel_rfl | decide | exact And.intro (by omega) (by omega))
  all_goals try dsimp only [Int.toNat_natCast] at *
  all_goals try (first | exact trivial | omega | exact And.intro (by omega) (by omega))
  · exact one_small
  · rename_i h
    refine Done.of ?_ (Or.inr ?_)
    · show (_, ()) = (outT nn (countF d c) l c, ())
      unfold countF
      rw [if_pos h]
      rfl
    · show nn + 1 + 1 ≤ nn + 2 * (countF d c).2.length
      unfold countF
      rw [if_pos h]
      exact Nat.le_refl _
  · rename_i h
    refine Done.of ?_ (Or.inr (Nat.le_add_right _ _))
    show (_, ()) = (outT nn (countF d c) l c, ())
    unfold countF
    rw [if_neg h]
    rfl
def withNow (d : deskT.D) (c : Int) (p : plainT.D) : deskT.D := setCore d c.toNat (p, (d.1 c.toNat).2)
def onF (d : deskT.D) (c : Int) : deskT.D × Rec := countF (withNow d c (nextF (d.1 c.toNat).1)) c
abbrev onS : Spec := turnS [] (fun _ _ => True) fun t _ => onF t.1 t.2.2.1
theorem c_goesOn : Ctr Try.prog 75 onS := by
  refine ctr_of tabOk (SpecsOk.cons c_Next (by kernel_rfl) (SpecsOk.cons c_counted (by kernel_rfl) (SpecsOk.nil _))) Try.func75 rfl _ (Nat.le_of_ble_eq_true rfl) (fun h => by cases h) ?_
  rintro nn ⟨⟨d, l, (c : Int), h, rs⟩, ⟨⟩⟩ ⟨⟨hc, hr⟩, _⟩ hb
  obtain ⟨rfl, rfl⟩ := Prod.mk.inj hr
  refine ⟨200, init_k fun K1 n1 => ?_⟩
  conv => whnf
  refine n1 _ ?_
  clear n1 K1
  repeat' (first | with_reducible refine seq_k fun K1 n1 => ?_ | with_reducible refine seq_nil ?_ | with_reducible refine drw_k fun K1 n1 => ?_ | with_reducible refine drw_nil ?_ ?_ | with_reducible refine run_seq ?_ | with_reducible refine run_skip ?_ | with_reducible refine run_regS ?_ | with_reducible refine run_regD (by kernel_rfl) ?_ ?_ | with_reducible refine inl_k (by with_unfolding_all rfl) (Nat.le_of_ble_eq_true rfl) fun K1 n1 => ?_ | with_reducible refine inlA_k (by with_unfolding_all rfl) (Nat.le_of_ble_eq_true rfl) fun K1 n1 => ?_ | with_reducible refine run_finA ?_ | with_reducible refine run_cond ?_ | with_reducible refine run_block ?_ | with_reducible refine run_endb ?_ | with_reducible refine run_exit fun K1 n1 => ?_ | with_reducible refine run_ret fun K1 n1 => ?_ | with_reducible refine run_fin ?_ | with_reducible refine run_inv ?_ | with_reducible refine go_rounds ?_ | ((with_reducible refine Go.mk ?_); (conv => whnf)) | refine Fork.yes ?_ | refine Fork.no ?_ | refine Fork.dec (fun _ => ?_) (fun _ => ?_) | refine Fork.ndec (fun _ => ?_) (fun _ => ?_) | refine Fork.mk (fun _ => ?_) (fun _ => ?_) | refine Way.yesG ?_ | refine Way.noG ?_ | refine Way.decG (fun _ => ?_) (fun _ => ?_) | refine Way.ndecG (fun _ => ?_) (fun _ => ?_) | refine Way.mkG (fun _ => ?_) (fun _ => ?_) | with_reducible refine Need.mkG ?_ ?_ | refine AppW.go0 ?_ ?_ | with_reducible refine NilW.goG (fun _ => ?_) ?_ | ((with_reducible refine n1 _ _ _ ?_); clear n1 K1) | ((with_reducible refine n1 _ ?_); clear n1 K1) | ((with_reducible refine n1 _ _ ?_); clear n1 K1) | ((with_reducible refine n1 _ _ _ _ ?_); clear n1 K1) | fail)
  all_goals try (first | exact trivial | omega | kernel_rfl | decide | exact And.intro (by omega) (by omega))
  all_goals try dsimp only [Int.toNat_natCast] at *
  all_goals try (first | exact trivial | omega | exact And.intro (by omega) (by omega))
  · exact ⟨⟨hc, rfl⟩, trivial⟩
  · exact Done.of rfl (Or.inr (Nat.le_refl _))
def stuckF (d : deskT.D) (l : progsT.D) (c : Int) : deskT.D × Rec :=
  if 0 < (d.1 c.toNat).2.2.1 then failD d l c 1003 else countF (withNow d c ((d.1 c.toNat).1.1, (d.1 c.toNat).1.2.1, true)) c
abbrev stuckS : Spec := turnS [] (fun _ _ => True) fun t _ => stuckF t.1 t.2.1 t.2.2.1
theorem c_isStuck : Ctr Try.prog 76 stuckS := by
  refine ctr_of tabOk (SpecsOk.cons c_fails (by kernel_rfl) (SpecsOk.cons c_counted (by kernel_rfl) (SpecsOk.nil _))) Try.func76 rfl _ (Nat.le_of_ble_eq_true rfl) (fun h => by cases h) ?_
  rintro nn ⟨⟨d, l, (c : Int), h, rs⟩, ⟨⟩⟩ ⟨⟨hc, hr⟩, _⟩ hb
  obtain ⟨rfl, rfl⟩ := Prod.mk.inj hr
  refine ⟨200, init_k fun K1 n1 => ?_⟩
  conv => whnf
  refine n1 _ ?_
  clear n1 K1
  repeat' (first | with_reducible refine seq_k fun K1 n1 => ?_ | with_reducible refine seq_nil ?_ | with_reducible refine drw_k fun K1 n1 => ?_ | with_reducible refine drw_nil ?_ ?_ | with_reducible refine run_seq ?_ | with_reducible refine run_skip ?_ | with_reducible refine run_regS ?_ | with_reducible refine run_regD (by kernel_rfl) ?_ ?_ | with_reducible refine inl_k (by with_unfolding_all rfl) (Nat.le_of_ble_eq_true rfl) fun K1 n1 => ?_ | with_reducible refine inlA_k (by with_unfolding_all rfl) (Nat.le_of_ble_eq_true rfl) fun K1 n1 => ?_ | with_reducible refine run_finA ?_ | with_reducible refine run_cond ?_ | with_reducible refine run_block ?_ | with_reducible refine run_endb ?_ | with_reducible refine run_exit fun K1 n1 => ?_ | with_reducible refine run_ret fun K1 n1 => ?_ | with_reducible refine run_fin ?_ | with_reducible refine run_inv ?_ | with_reducible refine go_rounds ?_ | ((with_reducible refine Go.mk ?_); (conv => whnf)) | refine Fork.yes ?_ | refine Fork.no ?_ | refine Fork.dec (fun _ => ?_) (fun _ => ?_) | refine Fork.ndec (fun _ => ?_) (fun _ => ?_) | refine Fork.mk (fun _ => ?_) (fun _ => ?_) | refine Way.yesG ?_ | refine Way.noG ?_ | refine Way.decG (fun _ => ?_) (fun _ => ?_) | refine Way.ndecG (fun _ => ?_) (fun _ => ?_) | refine Way.mkG (fun _ => ?_) (fun _ => ?_) | with_reducible refine Need.mkG ?_ ?_ | refine AppW.go0 ?_ ?_ | with_reducible refine NilW.goG (fun _ => ?_) ?_ | ((with_reducible refine n1 _ _ _ ?_); clear n1 K1) | ((with_reducible refine n1 _ ?_); clear n1 K1) | ((with_reducible refine n1 _ _ ?_); clear n1 K1) | ((with_reducible refine n1 _ _ _ _ ?_); clear n1 K1) | fail)
  all_goals try (first | exact trivial | omega | kernel_rfl | decide | exact And.intro (by omega) (by omega))
  all_goals try dsimp only [Int.toNat_natCast] at *
  all_goals try (first | exact trivial | omega | exact And.intro (by omega) (by omega))
  · exact ⟨⟨hc, rfl⟩, hc⟩
  · rename_i h
    exact turn_done (if_pos h).symm
  · exact ⟨⟨hc, rfl⟩, trivial⟩
  · rename_i h
    exact turn_done (if_neg h).symm
def beganC (x : coreT.D) : coreT.D := (x.1, x.2.1, wrap64 (x.2.2.1 + 1), (if x.2.2.1 = 0 then x.1 else x.2.2.2.1), x.2.2.2.2)
def beginF (d : deskT.D) (l : progsT.D) (c : Int) : deskT.D × Rec :=
  if (d.1 c.toNat).2.2.1 = 3 then failD d l c 1005 else onF (setCore d c.toNat (beganC (d.1 c.toNat))) c
abbrev beginS : Spec := turnS [] (fun _ _ => True) fun t _ => beginF t.1 t.2.1 t.2.2.1
theorem c_begins : Ctr Try.prog 61 beginS := by
  refine ctr_of tabOk (SpecsOk.cons c_fails (by kernel_rfl) (SpecsOk.cons c_goesOn (by kernel_rfl) (SpecsOk.nil _))) Try.func61 rfl _ (Nat.le_of_ble_eq_true rfl) (fun h => by cases h) ?_
  rintro nn ⟨⟨d, l, (c : Int), h, rs⟩, ⟨⟩⟩ ⟨⟨hc, hr⟩, _⟩ hb
  obtain ⟨rfl, rfl⟩ := Prod.mk.inj hr
  refine ⟨200, init_k fun K1 n1 => ?_⟩
  conv => whnf
  refine n1 _ ?_
  clear n1 K1
  repeat' (first | with_reducible refine seq_k fun K1 n1 => ?_ | with_reducible refine seq_nil ?_ | with_reducible refine drw_k fun K1 n1 => ?_ | with_reducible refine drw_nil ?_ ?_ | with_reducible refine run_seq ?_ | with_reducible refine run_skip ?_ | with_reducible refine run_regS ?_ | with_reducible refine run_regD (by kernel_rfl) ?_ ?_ | with_reducible refine inl_k (by with_unfolding_all rfl) (Nat.le_of_ble_eq_true rfl) fun K1 n1 => ?_ | with_reducible refine inlA_k (by with_unfolding_all rfl) (Nat.le_of_ble_eq_true rfl) fun K1 n1 => ?_ | with_reducible refine run_finA ?_ | with_reducible refine run_cond ?_ | with_reducible refine run_block ?_ | with_reducible refine run_endb ?_ | with_reducible refine run_exit fun K1 n1 => ?_ | with_reducible refine run_ret fun K1 n1 => ?_ | with_reducible refine run_fin ?_ | with_reducible refine run_inv ?_ | with_reducible refine go_rounds ?_ | ((with_reducible refine Go.mk ?_); (conv => whnf)) | refine Fork.yes ?_ | refine Fork.no ?_ | refine Fork.dec (fun _ => ?_) (fun _ => ?_) | refine Fork.ndec (fun _ => ?_) (fun _ => ?_) | refine Fork.mk (fun _ => ?_) (fun _ => ?_) | refine Way.yesG ?_ | refine Way.noG ?_ | refine Way.decG (fun _ => ?_) (fun _ => ?_) | refine Way.ndecG (fun _ => ?_) (fun _ => ?_) | refine Way.mkG (fun _ => ?_) (fun _ => ?_) | with_reducible refine Need.mkG ?_ ?_ | refine AppW.go0 ?_ ?_ | with_reducible refine NilW.goG (fun _ => ?_) ?_ | ((with_reducible refine n1 _ _ _ ?_); clear n1 K1) | ((with_reducible refine n1 _ ?_); clear n1 K1) | ((with_reducible refine n1 _ _ ?_); clear n1 K1) | ((with_reducible refine n1 _ _ _ _ ?_); clear n1 K1) | fail)
  all_goals try (first | exact trivial | omega | kernel_rfl | decide | exact And.intro (by omega) (by omega))
  all_goals try dsimp only [Int.toNat_natCast] at *
  all_goals try (first | exact trivial | omega | exact And.intro (by omega) (by omega))
  · exact ⟨⟨hc, rfl⟩, hc⟩
  · rename_i h
    exact turn_done (if_pos h).symm
  · exact ⟨⟨hc, rfl⟩, trivial⟩
  · rename_i h h2
    refine turn_done (t := (d, l, c, nilH, [])) ?_
    show _ = beginF d l c
    unfold beginF
    rw [if_neg h]
    unfold beganC
    rw [if_pos h2]
    simp only [updA_at, updA_twice]
    rfl
  · exact ⟨⟨hc, rfl⟩, trivial⟩
  · rename_i h h2
    refine turn_done (t := (d, l, c, nilH, [])) ?_
    show _ = beginF d l c
    unfold beginF
    rw [if_neg h]
    unfold beganC
    rw [if_neg h2]
    rfl
def giveF (d : deskT.D) (l : progsT.D) (c n : Int) : deskT.D × Rec :=
  if (d.1 c.toNat).2.2.1 = 0 then stuckF d l c else failD d l c (wrap64 (0 + (if 1000 < n then 1000 else n)))
abbrev giveS : Spec := turnS [.int] (fun _ _ => True) fun t a => giveF t.1 t.2.1 t.2.2.1 a.1
theorem c_givesUp : Ctr Try.prog 63 giveS := by
  refine ctr_of tabOk (SpecsOk.cons c_fails (by kernel_rfl) (SpecsOk.cons c_isStuck (by kernel_rfl) (SpecsOk.nil _))) Try.func63 rfl _ (Nat.le_of_ble_eq_true rfl) (fun h => by cases h) ?_
  rintro nn ⟨⟨d, l, (c : Int), h, rs⟩, (n : Int), ⟨⟩⟩ ⟨⟨hc, hr⟩, _⟩ hb
  obtain ⟨rfl, rfl⟩ := Prod.mk.inj hr
  refine ⟨200, init_k fun K1 n1 => ?_⟩
  conv => whnf
  refine n1 _ ?_
  clear n1 K1
  repeat' (first | with_reducible refine seq_k fun K1 n1 => ?_ | with_reducible refine seq_nil ?_ | with_reducible refine drw_k fun K1 n1 => ?_ | with_reducible refine drw_nil ?_ ?_ | with_reducible refine run_seq ?_ | with_reducible refine run_skip ?_ | with_reducible refine run_regS ?_ | with_reducible refine run_regD (by kernel_rfl) ?_ ?_ | with_reducible refine inl_k (by with_unfolding_all rfl) (Nat.le_of_ble_eq_true rfl) fun K1 n1 => ?_ | with_reducible refine inlA_k (by with_unfolding_all rfl) (Nat.le_of_ble_eq_true rfl) fun K1 n1 => ?_ | with_reducible refine run_finA ?_ | with_reducible refine run_cond ?_ | with_reducible refine run_block ?_ | with_reducible refine run_endb ?_ | with_reducible refine run_exit fun K1 n1 => ?_ | with_reducible refine run_ret fun K1 n1 => ?_ | with_reducible refine run_fin ?_ | with_reducible refine run_inv ?_ | with_reducible refine go_rounds ?_ | ((with_reducible refine Go.mk ?_); (conv => whnf)) | refine Fork.yes ?_ | refine Fork.no ?_ | refine Fork.dec (fun _ => ?_) (fun _ => ?_) | refine Fork.ndec (fun _ => ?_) (fun _ => ?_) | refine Fork.mk (fun _ => ?_) (fun _ => ?_) | refine Way.yesG ?_ | refine Way.noG ?_ | refine Way.decG (fun _ => ?_) (fun _ => ?_) | refine Way.ndecG (fun _ => ?_) (fun _ => ?_) | refine Way.mkG (fun _ => ?_) (fun _ => ?_) | with_reducible refine Need.mkG ?_ ?_ | refine AppW.go0 ?_ ?_ | with_reducible refine NilW.goG (fun _ => ?_) ?_ | ((with_reducible refine n1 _ _ _ ?_); clear n1 K1) | ((with_reducible refine n1 _ ?_); clear n1 K1) | ((with_reducible refine n1 _ _ ?_); clear n1 K1) | ((with_reducible refine n1 _ _ _ _ ?_); clear n1 K1) | fail)
  all_goals try (first | exact trivial | omega | kernel_rfl | decide | exact And.intro (by omega) (by omega))
  all_goals try dsimp only [Int.toNat_natCast] at *
  all_goals try (first | exact trivial | omega | exact And.intro (by omega) (by omega))
  · exact ⟨⟨hc, rfl⟩, trivial⟩
  · rename_i h
    exact turn_done (if_pos h).symm
  · exact ⟨⟨hc, rfl⟩, hc⟩
  · rename_i h
    exact turn_done (if_neg h).symm
def aloneT (d : deskT.D) (l : progsT.D) (c : Int) (i : instrT.D) : deskT.D × Rec :=
  if i.1 = 12 ∧ 0 < (d.1 c.toNat).2.2.1 then stuckF d l c else countF (withNow d c (aloneF (d.1 c.toNat).1 i).1) c
abbrev aloneTS : Spec := turnS [instrT] (fun _ _ => True) fun t a => aloneT t.1 t.2.1 t.2.2.1 a.1
theorem c_worksAlone : Ctr Try.prog 65 aloneTS := by
  refine ctr_of tabOk (SpecsOk.cons c_Alone (by kernel_rfl) (SpecsOk.cons c_counted (by kernel_rfl) (SpecsOk.cons c_isStuck (by kernel_rfl) (SpecsOk.nil _)))) Try.func65 rfl _ (Nat.le_of_ble_eq_true rfl) (fun h => by cases h) ?_
  rintro nn ⟨⟨d, l, (c : Int), h, rs⟩, i, ⟨⟩⟩ ⟨⟨hc, hr⟩, _⟩ hb
  obtain ⟨rfl, rfl⟩ := Prod.mk.inj hr
  refine ⟨200, init_k fun K1 n1 => ?_⟩
  conv => whnf
  refine n1 _ ?_
  clear n1 K1
  repeat' (first | with_reducible refine seq_k fun K1 n1 => ?_ | with_reducible refine seq_nil ?_ | with_reducible refine drw_k fun K1 n1 => ?_ | with_reducible refine drw_nil ?_ ?_ | with_reducible refine run_seq ?_ | with_reducible refine run_skip ?_ | with_reducible refine run_regS ?_ | with_reducible refine run_regD (by kernel_rfl) ?_ ?_ | with_reducible refine inl_k (by with_unfolding_all rfl) (Nat.le_of_ble_eq_true rfl) fun K1 n1 => ?_ | with_reducible refine inlA_k (by with_unfolding_all rfl) (Nat.le_of_ble_eq_true rfl) fun K1 n1 => ?_ | with_reducible refine run_finA ?_ | with_reducible refine run_cond ?_ | with_reducible refine run_block ?_ | with_reducible refine run_endb ?_ | with_reducible refine run_exit fun K1 n1 => ?_ | with_reducible refine run_ret fun K1 n1 => ?_ | with_reducible refine run_fin ?_ | with_reducible refine run_inv ?_ | with_reducible refine go_rounds ?_ | ((with_reducible refine Go.mk ?_); (conv => whnf)) | refine Fork.yes ?_ | refine Fork.no ?_ | refine Fork.dec (fun _ => ?_) (fun _ => ?_) | refine Fork.ndec (fun _ => ?_) (fun _ => ?_) | refine Fork.mk (fun _ => ?_) (fun _ => ?_) | refine Way.yesG ?_ | refine Way.noG ?_ | refine Way.decG (fun _ => ?_) (fun _ => ?_) | refine Way.ndecG (fun _ => ?_) (fun _ => ?_) | refine Way.mkG (fun _ => ?_) (fun _ => ?_) | with_reducible refine Need.mkG ?_ ?_ | refine AppW.go0 ?_ ?_ | with_reducible refine NilW.goG (fun _ => ?_) ?_ | ((with_reducible refine n1 _ _ _ ?_); clear n1 K1) | ((with_reducible refine n1 _ ?_); clear n1 K1) | ((with_reducible refine n1 _ _ ?_); clear n1 K1) | ((with_reducible refine n1 _ _ _ _ ?_); clear n1 K1) | fail)
  all_goals try (first | exact trivial | omega | kernel_rfl | decide | exact And.intro (by omega) (by omega))
  all_goals try dsimp only [Int.toNat_natCast] at *
  all_goals try (first | exact trivial | omega | exact And.intro (by omega) (by omega))
  · exact ⟨⟨hc, rfl⟩, trivial⟩
  · rename_i h h2
    exact turn_done (if_pos ⟨h, h2⟩).symm
  · exact ⟨⟨hc, rfl⟩, trivial⟩
  · rename_i h h2
    exact turn_done (if_neg (fun g => h2 g.2)).symm
  · exact ⟨⟨hc, rfl⟩, trivial⟩
  · rename_i h
    exact turn_done (if_neg (fun g => h g.1)).symm
end Go.Proofs.Ytjbbgpacijageab.M

/- Package desk: words that are touched inside of a transaction. -/
namespace Go.Proofs.Ytjbbgpacijageab.M
open Go.RowKit
set_option linter.unusedVariables false
set_option linter.unusedSimpArgs false

def lineOf (word : Int) : Int := wrap64 (word.tdiv 2)
def wsOf (d : deskT.D) (c : Int) : List writeT.D := (d.1 c.toNat).2.2.2.2.1.2
def roomF (d : deskT.D) (c : Int) (i : instrT.D) (word : Int) : Bool :=
  if 0 ≤ atW (wsOf d c) word then false else
  if i.1 ≠ 6 ∧ (findF d c (lineOf word)).2 = false ∧ ((d.1 c.toNat).2.1 (findF d c (lineOf word)).1.toNat).2.2.2 = true then true else
  decide (i.1 ≠ 5 ∧ ((wsOf d c).length : Int) = 4)
abbrev roomS : Spec := { args := [turnT, instrT, .int], res := [.bool], cr := false, m := fun _ => 0, fn := fun _ d => (roomF d.1.1 d.1.2.2.1 d.2.1 d.2.2.1, ()), pre := fun d => 0 ≤ d.1.2.2.1 ∧ d.1.2.2.1 < 2 }
theorem c_hasNoRoom : Ctr Try.prog 92 roomS := by
  refine ctr_of tabOk (SpecsOk.cons c_writeOf (by kernel_rfl) (SpecsOk.cons c_Find (by kernel_rfl) (SpecsOk.nil _))) Try.func92 rfl _ (Nat.le_of_ble_eq_true rfl) (fun _ _ => rfl) ?_
  rintro nn ⟨⟨d, l, (c : Int), h, rs⟩, i, (word : Int), ⟨⟩⟩ hc hb
  refine ⟨200, init_k fun K1 n1 => ?_⟩
  conv => whnf
  refine n1 _ ?_
  clear n1 K1
  repeat' (first | with_reducible refine seq_k fun K1 n1 => ?_ | with_reducible refine seq_nil ?_ | with_reducible refine drw_k fun K1 n1 => ?_ | with_reducible refine drw_nil ?_ ?_ | with_reducible refine run_seq ?_ | with_reducible refine run_skip ?_ | with_reducible refine run_regS ?_ | with_reducible refine run_regD (by kernel_rfl) ?_ ?_ | with_reducible refine inl_k (by with_unfolding_all rfl) (Nat.le_of_ble_eq_true rfl) fun K1 n1 => ?_ | with_reducible refine inlA_k (by with_unfolding_all rfl) (Nat.le_of_ble_eq_true rfl) fun K1 n1 => ?_ | with_reducible refine run_finA ?_ | with_reducible refine run_cond ?_ | with_reducible refine run_block ?_ | with_reducible refine run_endb ?_ | with_reducible refine run_exit fun K1 n1 => ?_ | with_reducible refine run_ret fun K1 n1 => ?_ | with_reducible refine run_fin ?_ | with_reducible refine run_inv ?_ | with_reducible refine go_rounds ?_ | ((with_reducible refine Go.mk ?_); (conv => whnf)) | refine Fork.yes ?_ | refine Fork.no ?_ | refine Fork.dec (fun _ => ?_) (fun _ => ?_) | refine Fork.ndec (fun _ => ?_) (fun _ => ?_) | refine Fork.mk (fun _ => ?_) (fun _ => ?_) | refine Way.yesG ?_ | refine Way.noG ?_ | refine Way.decG (fun _ => ?_) (fun _ => ?_) | refine Way.ndecG (fun _ => ?_) (fun _ => ?_) | refine Way.mkG (fun _ => ?_) (fun _ => ?_) | with_reducible refine Need.mkG ?_ ?_ | refine AppW.go0 ?_ ?_ | with_reducible refine NilW.goG (fun _ => ?_) ?_ | ((with_reducible refine n1 _ _ _ ?_); clear n1 K1) | ((with_reducible refine n1 _ ?_); clear n1 K1) | ((with_reducible refine n1 _ _ ?_); clear n1 K1) | ((with_reducible refine n1 _ _ _ _ ?_); clear n1 K1) | fail)
  all_goals try (first | exact trivial | omega | kernel_rfl | decide | exact And.intro (by omega) (by omega))
  all_goals try dsimp only [Int.toNat_natCast] at *
  all_goals try (first | exact trivial | omega | exact And.intro (by omega) (by omega))
  all_goals first
    | exact find_range d c _
    | (refine Done.of ?_ (Or.inl rfl)
       show (_, ()) = (roomF d c i word, ())
       unfold roomF wsOf lineOf
       simp_all; done)
def readC (x : coreT.D) (w : Nat) : coreT.D := (x.1, updA x.2.1 w ((x.2.1 w).1, (x.2.1 w).2.1, (x.2.1 w).2.2.1, true), x.2.2)
/-- A line that a transaction has read. -/
def readD (d : deskT.D) (c line : Int) : deskT.D := setCore (shareF d c line) c.toNat (readC ((shareF d c line).1 c.toNat) (findF (shareF d c line) c line).1.toNat)
def loadsF (d : deskT.D) (c reg word : Int) : deskT.D :=
  if 0 ≤ atW (wsOf d c) word then withNow d c (putF (d.1 c.toNat).1 reg (nthD writeT (wsOf d c) (atW (wsOf d c) word).toNat).2)
  else withNow (readD d c (lineOf word)) c (putF ((readD d c (lineOf word)).1 c.toNat).1 reg (valF (readD d c (lineOf word)) word))
abbrev loadsS : Spec := { args := [turnT, .int, .int], res := [turnT], cr := false, m := fun _ => 0, fn := fun _ d => ((loadsF d.1.1 d.1.2.2.1 d.2.1 d.2.2.1, d.1.2), ()), pre := fun d => 0 ≤ d.1.2.2.1 ∧ d.1.2.2.1 < 2 }
theorem c_loads : Ctr Try.prog 93 loadsS := by
  refine ctr_of tabOk (SpecsOk.cons c_writeOf (by kernel_rfl) (SpecsOk.cons c_Find (by kernel_rfl) (SpecsOk.cons c_Put (by kernel_rfl) (SpecsOk.cons c_Share (by kernel_rfl) (SpecsOk.cons c_Value (by kernel_rfl) (SpecsOk.nil _)))))) Try.func93 rfl _ (Nat.le_of_ble_eq_true rfl) (fun _ _ => rfl) ?_
  rintro nn ⟨⟨d, l, (c : Int), h, rs⟩, (reg : Int), (word : Int), ⟨⟩⟩ hc hb
  refine ⟨200, init_k fun K1 n1 => ?_⟩
  conv => whnf
  refine n1 _ ?_
  clear n1 K1
  repeat' (first | with_reducible refine seq_k fun K1 n1 => ?_ | with_reducible refine seq_nil ?_ | with_reducible refine drw_k fun K1 n1 => ?_ | with_reducible refine drw_nil ?_ ?_ | with_reducible refine run_seq ?_ | with_reducible refine run_skip ?_ | with_reducible refine run_regS ?_ | with_reducible refine run_regD (by kernel_rfl) ?_ ?_ | with_reducible refine inl_k (by with_unfolding_all rfl) (Nat.le_of_ble_eq_true rfl) fun K1 n1 => ?_ | with_reducible refine inlA_k (by with_unfolding_all rfl) (Nat.le_of_ble_eq_true rfl) fun K1 n1 => ?_ | with_reducible refine run_finA ?_ | with_reducible refine run_cond ?_ | with_reducible refine run_block ?_ | with_reducible refine run_endb ?_ | with_reducible refine run_exit fun K1 n1 => ?_ | with_reducible refine run_ret fun K1 n1 => ?_ | with_reducible refine run_fin ?_ | with_reducible refine run_inv ?_ | with_reducible refine go_rounds ?_ | ((with_reducible refine Go.mk ?_); (conv => whnf)) | refine Fork.yes ?_ | refine Fork.no ?_ | refine Fork.dec (fun _ => ?_) (fun _ => ?_) | refine Fork.ndec (fun _ => ?_) (fun _ => ?_) | refine Fork.mk (fun _ => ?_) (fun _ => ?_) | refine Way.yesG ?_ | refine Way.noG ?_ | refine Way.decG (fun _ => ?_) (fun _ => ?_) | refine Way.ndecG (fun _ => ?_) (fun _ => ?_) | refine Way.mkG (fun _ => ?_) (fun _ => ?_) | with_reducible refine Need.mkG ?_ ?_ | refine AppW.go0 ?_ ?_ | with_reducible refine NilW.goG (fun _ => ?_) ?_ | ((with_reducible refine n1 _ _ _ ?_); clear n1 K1) | ((with_reducible refine n1 _ ?_); clear n1 K1) | ((with_reducible refine n1 _ _ ?_); clear n1 K1) | ((with_reducible refine n1 _ _ _ _ ?_); clear n1 K1) | fail)
  all_goals try (first | exact trivial | omega | kernel_rfl | decide | exact And.intro (by omega) (by omega))
  all_goals try dsimp only [Int.toNat_natCast] at *
  all_goals try (first | exact trivial | omega | exact And.intro (by omega) (by omega))
  · rename_i h
    exact ⟨h, (atW_rng _ _).2⟩
  · rename_i h
    refine Done.of ?_ (Or.inr (Nat.le_refl _))
    show (_, ()) = ((loadsF d c reg word, l, c, _), ())
    unfold loadsF wsOf
    rw [if_pos h]
    rfl
  · exact find_range _ _ _
  · rename_i h
    refine Done.of ?_ (Or.inr (Nat.le_refl _))
    show (_, ()) = ((loadsF d c reg word, l, c, _), ())
    unfold loadsF wsOf
    rw [if_neg h]
    unfold readD withNow setCore readC lineOf
    simp only [updA_at, updA_twice]
/-- A word is touched inside of a transaction. -/
def putWs (nn : Nat) (d : deskT.D) (c : Int) (w : writeT.D) : deskT.D :=
  setCore d c.toNat ((d.1 c.toNat).1, (d.1 c.toNat).2.1, (d.1 c.toNat).2.2.1, (d.1 c.toNat).2.2.2.1, (.nm nn, heldL (wsOf d c) w), (d.1 c.toNat).2.2.2.2.2)
def seenF (d : deskT.D) (c : Int) (i : instrT.D) (word : Int) : deskT.D := if i.1 ≠ 6 then loadsF d c i.2.1 word else d
def keptF (nn : Nat) (d : deskT.D) (c : Int) (i : instrT.D) (word had : Int) : deskT.D := if i.1 ≠ 5 then putWs nn d c (word, had) else d
def inF (nn : Nat) (d : deskT.D) (l : progsT.D) (c : Int) (i : instrT.D) (word : Int) : deskT.D × Rec :=
  if roomF d c i word = true then failD d l c 1002 else onF (keptF nn (seenF d c i word) c i word (getF (d.1 c.toNat).1 i.2.1)) c
abbrev inS : Spec := { args := [turnT, instrT, .int], res := [turnT], cr := true, m := fun d => 2, fn := fun nn d => (outT nn (inF nn d.1.1 d.1.2.1 d.1.2.2.1 d.2.1 d.2.2.1) d.1.2.1 d.1.2.2.1, ()), pre := fun d => newT d.1 ∧ (d.1.1.1 d.1.2.2.1.toNat).2.2.1 ≠ 0 ∧ (wsOf d.1.1 d.1.2.2.1).length ≤ 4 }
theorem set_at (d : deskT.D) (c : Nat) (x : coreT.D) : (setCore d c x).1 c = x := updA_at _ _ _
theorem share_core (d : deskT.D) (c n : Int) (k : Nat) : ((shareF d c n).1 k).1 = (d.1 k).1 ∧ ((shareF d c n).1 k).2.2 = (d.1 k).2.2 := by
  have hl : ∀ (d : deskT.D) (c w : Nat) (l : lineT.D), ((setLine d c w l).1 k).1 = (d.1 k).1 ∧ ((setLine d c w l).1 k).2.2 = (d.1 k).2.2 := fun d c w l => by
    show (updA d.1 c _ k).1 = _ ∧ (updA d.1 c _ k).2.2 = _
    unfold updA
    by_cases h : k = c
    · rw [if_pos h, h]; exact ⟨rfl, rfl⟩
    · rw [if_neg h]; exact ⟨rfl, rfl⟩
  unfold shareF
  split
  · split
    · exact ⟨rfl, rfl⟩
    · unfold takeD dropD
      split
      · refine ⟨?_, ?_⟩
        · rw [(hl _ _ _ _).1, (hl _ _ _ _).1]; exact (hl _ _ _ _).1
        · rw [(hl _ _ _ _).2, (hl _ _ _ _).2]; exact (hl _ _ _ _).2
      · refine ⟨?_, ?_⟩
        · rw [(hl _ _ _ _).1]; exact (hl _ _ _ _).1
        · rw [(hl _ _ _ _).2]; exact (hl _ _ _ _).2
  · exact ⟨rfl, rfl⟩
theorem read_core (d : deskT.D) (c n : Int) : ((readD d c n).1 c.toNat).1 = (d.1 c.toNat).1 ∧ ((readD d c n).1 c.toNat).2.2 = (d.1 c.toNat).2.2 := by
  unfold readD
  rw [set_at]
  exact share_core d c n c.toNat
theorem loads_core (d : deskT.D) (c reg word : Int) : ((loadsF d c reg word).1 c.toNat).2.2 = (d.1 c.toNat).2.2 := by
  unfold loadsF withNow
  split
  · rw [set_at]
  · rw [set_at]; exact (read_core d c _).2
theorem seen_core (d : deskT.D) (c : Int) (i : instrT.D) (word : Int) : ((seenF d c i word).1 c.toNat).2.2 = (d.1 c.toNat).2.2 := by
  unfold seenF
  split
  · exact loads_core _ _ _ _
  · rfl
theorem on_deep {d : deskT.D} {c : Int} (h : (d.1 c.toNat).2.2.1 ≠ 0) : (onF d c).2 = [] := by
  unfold onF countF withNow
  rw [if_neg (by rw [set_at]; exact h)]
theorem kept_deep (nn : Nat) (d : deskT.D) (c : Int) (i : instrT.D) (word had : Int) : ((keptF nn d c i word had).1 c.toNat).2.2.1 = (d.1 c.toNat).2.2.1 := by
  unfold keptF putWs
  split
  · rw [set_at]
  · rfl
theorem in_done {nn m : Nat} {d e : deskT.D} {l : progsT.D} {c : Int} {i : instrT.D} {word : Int} {tk : List (Hd × Nat)} (hm : m ≤ nn + 2) (hd : (d.1 c.toNat).2.2.1 ≠ 0) (h0 : roomF d c i word = false) (he : e = keptF nn (seenF d c i word) c i word (getF (d.1 c.toNat).1 i.2.1)) :
    Done inS nn ((d, l, c, nilH, []), i, word, ()) (outT m (onF e c) l c, ()) ⟨m + 2 * (onF e c).2.length, tk⟩ := by
  have hi : inF nn d l c i word = onF e c := by
    unfold inF
    rw [h0, he]
    rfl
  have hr : (onF e c).2 = [] := on_deep (by rw [he, kept_deep]; rw [seen_core]; exact hd)
  refine Done.of ?_ (Or.inr ?_)
  · show (outT m (onF e c) l c, ()) = (outT nn (inF nn d l c i word) l c, ())
    rw [hi]
    unfold outT
    rw [hr]
    rfl
  · show m + 2 * (onF e c).2.length ≤ nn + 2
    rw [hr]
    exact hm
theorem c_touchesInside : Ctr Try.prog 81 inS := by
  refine ctr_of tabOk (SpecsOk.cons c_hasNoRoom (by kernel_rfl) (SpecsOk.cons c_fails (by kernel_rfl) (SpecsOk.cons c_Get (by kernel_rfl) (SpecsOk.cons c_loads (by kernel_rfl) (SpecsOk.cons c_held (by kernel_rfl) (SpecsOk.cons c_goesOn (by kernel_rfl) (SpecsOk.nil _))))))) Try.func81 rfl _ (Nat.le_of_ble_eq_true rfl) (fun h => by cases h) ?_
  rintro nn ⟨⟨d, l, (c : Int), h, rs⟩, i, (word : Int), ⟨⟩⟩ ⟨⟨hc, hr⟩, hdp, hws⟩ hb
  obtain ⟨rfl, rfl⟩ := Prod.mk.inj hr
  have hdp : (d.1 c.toNat).2.2.1 ≠ 0 := hdp
  have hws : (wsOf d c).length ≤ 4 := hws
  refine ⟨200, init_k fun K1 n1 => ?_⟩
  conv => whnf
  refine n1 _ ?_
  clear n1 K1
  repeat' (first | with_reducible refine seq_k fun K1 n1 => ?_ | with_reducible refine seq_nil ?_ | with_reducible refine drw_k fun K1 n1 => ?_ | with_reducible refine drw_nil ?_ ?_ | with_reducible refine run_seq ?_ | with_reducible refine run_skip ?_ | with_reducible refine run_regS ?_ | with_reducible refine run_regD (by kernel_rfl) ?_ ?_ | with_reducible refine inl_k (by with_unfolding_all rfl) (Nat.le_of_ble_eq_true rfl) fun K1 n1 => ?_ | with_reducible refine inlA_k (by with_unfolding_all rfl) (Nat.le_of_ble_eq_true rfl) fun K1 n1 => ?_ | with_reducible refine run_finA ?_ | with_reducible refine run_cond ?_ | with_reducible refine run_block ?_ | with_reducible refine run_endb ?_ | with_reducible refine run_exit fun K1 n1 => ?_ | with_reducible refine run_ret fun K1 n1 => ?_ | with_reducible refine run_fin ?_ | with_reducible refine run_inv ?_ | with_reducible refine go_rounds ?_ | ((with_reducible refine Go.mk ?_); (conv => whnf)) | refine Fork.yes ?_ | refine Fork.no ?_ | refine Fork.dec (fun _ => ?_) (fun _ => ?_) | refine Fork.ndec (fun _ => ?_) (fun _ => ?_) | refine Fork.mk (fun _ => ?_) (fun _ => ?_) | refine Way.yesG ?_ | refine Way.noG ?_ | refine Way.decG (fun _ => ?_) (fun _ => ?_) | refine Way.ndecG (fun _ => ?_) (fun _ => ?_) | refine Way.mkG (fun _ => ?_) (fun _ => ?_) | with_reducible refine Need.mkG ?_ ?_ | refine AppW.go0 ?_ ?_ | with_reducible refine NilW.goG (fun _ => ?_) ?_ | ((with_reducible refine n1 _ _ _ ?_); clear n1 K1) | ((with_reducible refine n1 _ ?_); clear n1 K1) | ((with_reducible refine n1 _ _ ?_); clear n1 K1) | ((with_reducible refine n1 _ _ _ _ ?_); clear n1 K1) | fail)
  all_goals try (first | exact trivial | omega | kernel_rfl | decide | exact And.intro (by omega) (by omega))
  all_goals try dsimp only [Int.toNat_natCast] at *
  all_goals try (first | exact trivial | omega | exact And.intro (by omega) (by omega))
  · exact ⟨⟨hc, rfl⟩, hc⟩
  · rename_i h
    refine Done.of ?_ (Or.inr (Nat.le_refl _))
    show _ = (outT nn (inF nn d l c i word) l c, ())
    unfold inF
    rw [if_pos h]
  · have h1 : ((loadsF d c i.2.1 word).1 c.toNat).2.2 = (d.1 c.toNat).2.2 := loads_core d c i.2.1 word
    rw [h1]
    exact Nat.le_trans hws (by decide)
  · exact ⟨⟨hc, rfl⟩, trivial⟩
  · rename_i h0 h6 h5
    refine in_done (m := nn + 1) (by omega) hdp h0 ?_
    unfold keptF seenF
    rw [if_pos h5, if_pos h6]
    rfl
  · exact ⟨⟨hc, rfl⟩, trivial⟩
  · rename_i h0 h6 h5
    refine in_done (m := nn) (by omega) hdp h0 ?_
    unfold keptF seenF
    rw [if_neg (fun g => g h5), if_pos h6]
  · exact Nat.le_trans hws (by decide)
  · exact ⟨⟨hc, rfl⟩, trivial⟩
  · rename_i h0 h6 h5
    refine in_done (m := nn + 1) (by omega) hdp h0 ?_
    unfold keptF seenF
    rw [if_pos h5, if_neg (fun g => g h6)]
    rfl
end Go.Proofs.Ytjbbgpacijageab.M
