/- The law PlainParts. -/
import Derived.Test.YtjbbgpacijageaaQ2
import Derived.Test.YtjbbgpacijageaaUC
namespace Go.Proofs.Ytjbbgpacijageaa.M
open Go.RowKit
set_option linter.unusedVariables false
set_option linter.unusedSimpArgs false

abbrev tabP : Tab := { tab with tks := [50] }
theorem tabPOk : TabOk Try.prog tabP := ⟨tabOk.ty, tabOk.eq, tabOk.mix, tabOk.ptr⟩
abbrev lawU (args : List Ty) (pre : DL args → Prop) : Spec := { args, res := [.bool], cr := false, m := fun _ => 0, fn := fun _ _ => (true, ()), pre }
abbrev pOneFn := List instrT.D → plainT.D → (Nat → Int) → plainT.D × (Nat → Int) × Int
abbrev pOneS (F : pOneFn) : Spec := pureS [.lst instrT, plainT, memT] [plainT, memT, .int] fun d => ((F d.1.2 d.2.1 d.2.2.1).1, (F d.1.2 d.2.1 d.2.2.1).2.1, (F d.1.2 d.2.1 d.2.2.1).2.2, ())
abbrev pAllFn := List instrT.D → plainT.D → (Nat → Int) → Int → plainT.D × (Nat → Int) × Int
abbrev pAllS (F : pAllFn) : Spec := pureS [.lst instrT, plainT, memT, .int] [plainT, memT, .int] fun d => ((F d.1.2 d.2.1 d.2.2.1 d.2.2.2.1).1, (F d.1.2 d.2.1 d.2.2.1 d.2.2.2.1).2.1, (F d.1.2 d.2.1 d.2.2.1 d.2.2.2.1).2.2, ())
abbrev pFailFn := List instrT.D → plainT.D → Int → plainT.D × Int
abbrev pFailS (F : pFailFn) : Spec := pureS [.lst instrT, plainT, .int] [plainT, .int] fun d => ((F d.1.2 d.2.1 d.2.2.1).1, (F d.1.2 d.2.1 d.2.2.1).2, ())
abbrev pRepFn := progsT.D → (Nat → Int) → List recordT.D → (Nat → plainT.D) × (Nat → Int) × Int
abbrev pRepS (F : pRepFn) : Spec := pureS [progsT, memT, .lst recordT] [coresT, memT, .int] fun d => ((F d.1 d.2.1 d.2.2.1.2).1, (F d.1 d.2.1 d.2.2.1.2).2.1, (F d.1 d.2.1 d.2.2.1.2).2.2, ())
theorem eqT_refl6 : ∀ (t : Ty), t.nolst = true → ∀ a : t.D, eqT t a a = true
  | .int, _, a => decide_eq_true rfl
  | .bool, _, a => decide_eq_true rfl
  | .one t, h, a => eqT_refl6 t h a
  | .pair s t, h, a => by
    simp only [Ty.nolst, Bool.and_eq_true] at h
    show (eqT s a.1 a.1 && eqT t a.2 a.2) = true
    rw [eqT_refl6 s h.1, eqT_refl6 t h.2]
    rfl
  | .arr n t, h, f => by
    show ((List.range n).all fun i => eqT t (f i) (f i)) = true
    rw [List.all_eq_true]
    exact fun i _ => eqT_refl6 t h (f i)
  | .lst t, h, a => by cases h
theorem goRep_app (l : progsT.D) : ∀ (a b : List recordT.D) (cs : Nat → plainT.D) (m : Nat → Int), goRep l (a ++ b) cs m = match goRep l a cs m with | .ok x => goRep l b x.1 x.2 | .error e => .error e
  | [], b, cs, m => rfl
  | r :: a, b, cs, m => by
    have e : ∀ rs, goRep l (r :: rs) cs m = if 0 ≤ r.2.1 ∧ r.2.1 < 2 then (if (againF (l r.2.1.toNat).2 (cs r.2.1.toNat) m r).2.2 = 0 then goRep l rs (updA cs r.2.1.toNat (againF (l r.2.1.toNat).2 (cs r.2.1.toNat) m r).1) (againF (l r.2.1.toNat).2 (cs r.2.1.toNat) m r).2.1 else .error (againF (l r.2.1.toNat).2 (cs r.2.1.toNat) m r).2.2) else .error 5 := fun rs => by rw [goRep]
    show goRep l (r :: (a ++ b)) cs m = _
    rw [e, e]
    by_cases h1 : 0 ≤ r.2.1 ∧ r.2.1 < 2
    · rw [if_pos h1, if_pos h1]
      by_cases h2 : (againF (l r.2.1.toNat).2 (cs r.2.1.toNat) m r).2.2 = 0
      · rw [if_pos h2, if_pos h2]
        exact goRep_app l a b _ _
      · rw [if_neg h2, if_neg h2]
    · rw [if_neg h1, if_neg h1]
theorem rep_bad {l : progsT.D} {m : Nat → Int} {a : List recordT.D} (h : ¬ (replayF l m a).2.2 = 0) (b : List recordT.D) : (replayF l m (a ++ b)).2.2 = (replayF l m a).2.2 ∧ (replayF l m a).2.1 = m ∧ (replayF l m (a ++ b)).2.1 = m := by
  unfold replayF at h ⊢
  split
  · rename_i hg
    rw [if_pos hg] at h
    rw [goRep_app]
    cases he : goRep l a coresT.zero m with
    | ok x => rw [he] at h; exact absurd rfl h
    | error e => exact ⟨rfl, rfl, rfl⟩
  · exact ⟨rfl, rfl, rfl⟩
theorem rep_no {l : progsT.D} {m : Nat → Int} {a : List recordT.D} (h : ¬ (replayF l m a).2.2 = 0) : (replayF l m a).2.1 = m := (rep_bad h []).2.1
theorem goRep_err {l : progsT.D} : ∀ (a : List recordT.D) (cs : Nat → plainT.D) (m : Nat → Int) (e : Int), goRep l a cs m = .error e → e ≠ 0
  | [], cs, m, e, h => by cases h
  | r :: a, cs, m, e, h => by
    unfold goRep at h
    split at h
    · split at h
      · exact goRep_err a _ _ e h
      · cases h; assumption
    · cases h; decide
theorem rep_ok {l : progsT.D} {m : Nat → Int} {a b : List recordT.D} (h : (replayF l m a).2.2 = 0) (h' : (replayF l m (a ++ b)).2.2 = 0) : goRep l b (replayF l m a).1 (replayF l m a).2.1 = .ok ((replayF l m (a ++ b)).1, (replayF l m (a ++ b)).2.1) := by
  unfold replayF at h h' ⊢
  by_cases hg : goodM m = true
  · rw [if_pos hg] at h h' ⊢
    rw [if_pos hg]
    rw [goRep_app] at h' ⊢
    cases he : goRep l a coresT.zero m with
    | error e => rw [he] at h; exact absurd h (goRep_err a _ _ e he)
    | ok x =>
      rw [he] at h'
      show goRep l b x.1 x.2 = _
      have h' : (match goRep l b x.1 x.2 with | .ok x => ((x.1, x.2, 0) : (Nat → plainT.D) × (Nat → Int) × Int) | .error e => (coresT.zero, m, e)).2.2 = 0 := h'
      show goRep l b x.1 x.2 = .ok ((match goRep l b x.1 x.2 with | .ok x => ((x.1, x.2, 0) : (Nat → plainT.D) × (Nat → Int) × Int) | .error e => (coresT.zero, m, e)).1, (match goRep l b x.1 x.2 with | .ok x => ((x.1, x.2, 0) : (Nat → plainT.D) × (Nat → Int) × Int) | .error e => (coresT.zero, m, e)).2.1)
      cases hb : goRep l b x.1 x.2 with
      | error e => rw [hb] at h'; exact absurd h' (goRep_err b _ _ e hb)
      | ok y => rfl
  · rw [if_neg hg] at h
    exact absurd h (show ¬ (1 : Int) = 0 by decide)
theorem goRep_step {l : progsT.D} {r : recordT.D} {rs : List recordT.D} {cs : Nat → plainT.D} {m : Nat → Int} {z : (Nat → plainT.D) × (Nat → Int)} (h : goRep l (r :: rs) cs m = .ok z) : (0 ≤ r.2.1 ∧ r.2.1 < 2) ∧ (againF (l r.2.1.toNat).2 (cs r.2.1.toNat) m r).2.2 = 0 ∧ goRep l rs (updA cs r.2.1.toNat (againF (l r.2.1.toNat).2 (cs r.2.1.toNat) m r).1) (againF (l r.2.1.toNat).2 (cs r.2.1.toNat) m r).2.1 = .ok z := by
  unfold goRep at h
  split at h
  · rename_i hc
    split at h
    · rename_i he
      exact ⟨hc, he, h⟩
    · cases h
  · cases h
/-- What is known of them. -/
structure Pp (O : pOneFn) (A : pAllFn) (B : pFailFn) (R : pRepFn) : Prop where
  bad : ∀ l m a b, ¬ (R l m a).2.2 = 0 → (R l m (a ++ b)).2.2 = (R l m a).2.2 ∧ (R l m a).2.1 = m ∧ (R l m (a ++ b)).2.1 = m
  ok : ∀ l m a b, (R l m a).2.2 = 0 → (R l m (a ++ b)).2.2 = 0 → goRep l b (R l m a).1 (R l m a).2.1 = .ok ((R l m (a ++ b)).1, (R l m (a ++ b)).2.1)
  step : ∀ (l : progsT.D) (r : recordT.D) rs cs m z, goRep l (r :: rs) cs m = .ok z → (0 ≤ r.2.1 ∧ r.2.1 < 2) ∧
    (r.1 = 1 → (O (l r.2.1.toNat).2 (cs r.2.1.toNat) m).2.2 = 0 ∧ goRep l rs (updA cs r.2.1.toNat (O (l r.2.1.toNat).2 (cs r.2.1.toNat) m).1) (O (l r.2.1.toNat).2 (cs r.2.1.toNat) m).2.1 = .ok z) ∧
    (¬ r.1 = 1 → r.1 = 2 → (A (l r.2.1.toNat).2 (cs r.2.1.toNat) m r.2.2).2.2 = 0 ∧ goRep l rs (updA cs r.2.1.toNat (A (l r.2.1.toNat).2 (cs r.2.1.toNat) m r.2.2).1) (A (l r.2.1.toNat).2 (cs r.2.1.toNat) m r.2.2).2.1 = .ok z) ∧
    (¬ r.1 = 1 → ¬ r.1 = 2 → (B (l r.2.1.toNat).2 (cs r.2.1.toNat) r.2.2).2 = 0 ∧ goRep l rs (updA cs r.2.1.toNat (B (l r.2.1.toNat).2 (cs r.2.1.toNat) r.2.2).1) m = .ok z)
theorem pp_ok : Pp oneF allF failedF replayF := by
  refine ⟨fun l m a b h => rep_bad h b, fun l m a b h h' => rep_ok h h', fun l r rs cs m z h => ?_⟩
  obtain ⟨hc, h1, h2⟩ := goRep_step h
  refine ⟨hc, fun e => ?_, fun e e2 => ?_, fun e e2 => ?_⟩
  · have ea : againF (l r.2.1.toNat).2 (cs r.2.1.toNat) m r = oneF (l r.2.1.toNat).2 (cs r.2.1.toNat) m := if_pos e
    rw [ea] at h1 h2
    exact ⟨h1, h2⟩
  · have ea : againF (l r.2.1.toNat).2 (cs r.2.1.toNat) m r = allF (l r.2.1.toNat).2 (cs r.2.1.toNat) m r.2.2 := by unfold againF; rw [if_neg e, if_pos e2]
    rw [ea] at h1 h2
    exact ⟨h1, h2⟩
  · by_cases e3 : r.1 = 3
    · have ea : againF (l r.2.1.toNat).2 (cs r.2.1.toNat) m r = ((failedF (l r.2.1.toNat).2 (cs r.2.1.toNat) r.2.2).1, m, (failedF (l r.2.1.toNat).2 (cs r.2.1.toNat) r.2.2).2) := by unfold againF; rw [if_neg e, if_neg e2, if_pos e3]
      rw [ea] at h1 h2
      exact ⟨h1, h2⟩
    · have ea : againF (l r.2.1.toNat).2 (cs r.2.1.toNat) m r = (cs r.2.1.toNat, m, 3) := by unfold againF; rw [if_neg e, if_neg e2, if_neg e3]
      rw [ea] at h1
      exact absurd h1 (show ¬ (3 : Int) = 0 by decide)
set_option maxHeartbeats 3200000 in
theorem c_PlainParts : Ctr Try.prog 12 (lawU [progsT, memT, .lst recordT, .lst recordT] fun d => d.2.2.1.2.length + d.2.2.2.1.2.length ≤ 1048576) := by
  obtain ⟨O, A, B, R, hP, cO, cA, cB, cR⟩ : ∃ (O : pOneFn) (A : pAllFn) (B : pFailFn) (R : pRepFn), Pp O A B R ∧ Ctr Try.prog 31 (pOneS O) ∧ Ctr Try.prog 36 (pAllS A) ∧ Ctr Try.prog 33 (pFailS B) ∧ Ctr Try.prog 38 (pRepS R) := ⟨oneF, allF, failedF, replayF, pp_ok, c_One, c_All, c_Failed, c_Replay⟩
  refine ctr_ofT [(nilH, 3)] ⟨[3], rfl⟩ tabPOk (SpecsOk.cons c_runsK (by kernel_rfl) (SpecsOk.cons cO (by kernel_rfl) (SpecsOk.cons cA (by kernel_rfl) (SpecsOk.cons cB (by kernel_rfl) (SpecsOk.cons cR (by kernel_rfl) (SpecsOk.nil _)))))) Try.func12 rfl _ (Nat.le_of_ble_eq_true rfl) (fun _ _ => rfl) ?_
  rintro nn ⟨l, m, ⟨ha, a⟩, ⟨hb, b⟩, ⟨⟩⟩ hpre hbd
  have hsz : a.length + b.length ≤ 1048576 := hpre
  have hbad : ¬ (R l m a).2.2 = 0 → (R l m ([] ++ a ++ b)).2.2 = (R l m a).2.2 ∧ (R l m a).2.1 = m ∧ (R l m ([] ++ a ++ b)).2.1 = m := hP.bad l m a b
  have hno : ¬ (R l m ([] ++ a ++ b)).2.2 = 0 → (R l m ([] ++ a ++ b)).2.1 = m := fun h => (hP.bad l m (a ++ b) [] h).2.1
  have hok : (R l m a).2.2 = 0 → (R l m ([] ++ a ++ b)).2.2 = 0 → goRep l b (R l m a).1 (R l m a).2.1 = .ok ((R l m ([] ++ a ++ b)).1, (R l m ([] ++ a ++ b)).2.1) := hP.ok l m a b
  have hmm : ∀ x, x = m → eqT (.arr 32 .int) x m = true := fun x e => by rw [e]; exact eqT_refl6 (.arr 32 .int) rfl m
  refine ⟨200, init_k fun K1 n1 => ?_⟩
  conv => whnf
  refine n1 _ ?_
  clear n1 K1
  repeat' (first | with_reducible refine seq_k fun K1 n1 => ?_ | with_reducible refine seq_nil ?_ | with_reducible refine drw_k fun K1 n1 => ?_ | with_reducible refine drw_nil ?_ ?_ | with_reducible refine dro_k fun K1 n1 => ?_ | with_reducible refine dro_nil ?_ ?_ | with_reducible refine bar_k fun K1 n1 => ?_ | with_reducible refine run_seq ?_ | with_reducible refine run_skip ?_ | with_reducible refine run_regS ?_ | with_reducible refine inl_k (by with_unfolding_all rfl) (Nat.le_of_ble_eq_true rfl) fun K1 n1 => ?_ | with_reducible refine inlA_k (by with_unfolding_all rfl) (Nat.le_of_ble_eq_true rfl) fun K1 n1 => ?_ | with_reducible refine run_finA ?_ | with_reducible refine run_cond ?_ | with_reducible refine run_block ?_ | with_reducible refine run_endb ?_ | with_reducible refine run_exit fun K1 n1 => ?_ | with_reducible refine run_ret fun K1 n1 => ?_ | with_reducible refine run_fin ?_ | with_reducible refine run_inv ?_ | with_reducible refine go_rounds ?_ | ((with_reducible refine Go.mk ?_); (conv => whnf)) | refine Fork.yes ?_ | refine Fork.no ?_ | refine Fork.dec (fun _ => ?_) (fun _ => ?_) | refine Fork.ndec (fun _ => ?_) (fun _ => ?_) | refine Fork.mk (fun _ => ?_) (fun _ => ?_) | refine Way.yesG ?_ | refine Way.noG ?_ | refine Way.decG (fun _ => ?_) (fun _ => ?_) | refine Way.ndecG (fun _ => ?_) (fun _ => ?_) | refine Way.mkG (fun _ => ?_) (fun _ => ?_) | with_reducible refine Need.mkG ?_ ?_ | refine AppW.go0 ?_ ?_ | refine AppW.go1 ?_ ?_ | with_reducible refine NilW.goG (fun _ => ?_) ?_ | ((with_reducible refine n1 _ _ _ ?_); clear n1 K1) | ((with_reducible refine n1 _ ?_); clear n1 K1) | ((with_reducible refine n1 _ _ ?_); clear n1 K1) | ((with_reducible refine n1 _ _ _ _ ?_); clear n1 K1) | fail)
  all_goals try (first | exact trivial | omega | kernel_rfl | decide | exact And.intro (by omega) (by omega))
  all_goals try dsimp only [Int.toNat_natCast] at *
  all_goals try (first | exact trivial | omega | exact And.intro (by omega) (by omega))
  refine run_regO (by kernel_rfl) ?_
  repeat' (first | with_reducible refine seq_k fun K1 n1 => ?_ | with_reducible refine seq_nil ?_ | with_reducible refine drw_k fun K1 n1 => ?_ | with_reducible refine drw_nil ?_ ?_ | with_reducible refine dro_k fun K1 n1 => ?_ | with_reducible refine dro_nil ?_ ?_ | with_reducible refine bar_k fun K1 n1 => ?_ | with_reducible refine run_seq ?_ | with_reducible refine run_skip ?_ | with_reducible refine run_regS ?_ | with_reducible refine run_regD (by with_unfolding_all rfl) ?_ ?_ | with_reducible refine inl_k (by with_unfolding_all rfl) (Nat.le_of_ble_eq_true rfl) fun K1 n1 => ?_ | with_reducible refine inlA_k (by with_unfolding_all rfl) (Nat.le_of_ble_eq_true rfl) fun K1 n1 => ?_ | with_reducible refine run_finA ?_ | with_reducible refine run_cond ?_ | with_reducible refine run_block ?_ | with_reducible refine run_endb ?_ | with_reducible refine run_exit fun K1 n1 => ?_ | with_reducible refine run_ret fun K1 n1 => ?_ | with_reducible refine run_fin ?_ | with_reducible refine run_inv ?_ | with_reducible refine go_rounds ?_ | ((with_reducible refine Go.mk ?_); (conv => whnf)) | refine Fork.yes ?_ | refine Fork.no ?_ | refine Fork.dec (fun _ => ?_) (fun _ => ?_) | refine Fork.ndec (fun _ => ?_) (fun _ => ?_) | refine Fork.mk (fun _ => ?_) (fun _ => ?_) | refine Way.yesG ?_ | refine Way.noG ?_ | refine Way.decG (fun _ => ?_) (fun _ => ?_) | refine Way.ndecG (fun _ => ?_) (fun _ => ?_) | refine Way.mkG (fun _ => ?_) (fun _ => ?_) | with_reducible refine Need.mkG ?_ ?_ | refine AppW.go0 ?_ ?_ | refine AppW.go1 ?_ ?_ | with_reducible refine NilW.goG (fun _ => ?_) ?_ | ((with_reducible refine n1 _ _ _ ?_); clear n1 K1) | ((with_reducible refine n1 _ ?_); clear n1 K1) | ((with_reducible refine n1 _ _ ?_); clear n1 K1) | ((with_reducible refine n1 _ _ _ _ ?_); clear n1 K1) | fail)
  all_goals try (first | exact trivial | omega | kernel_rfl | decide | exact And.intro (by omega) (by omega))
  all_goals try dsimp only [Int.toNat_natCast] at *
  all_goals try (first | exact trivial | omega | exact And.intro (by omega) (by omega))
  · exact ⟨by show 0 + a.length ≤ _; omega, by show (0 + a.length) * 24 ≤ _; omega⟩
  · exact ⟨by show a.length + b.length ≤ _; omega, by show (a.length + b.length) * 24 ≤ _; omega⟩
  · exact Done.of rfl (Or.inl rfl)
  · rename_i g0 g1 g2 g3
    rw [hmm _ (hbad g0).2.2] at g3
    cases g3
  · rename_i g0 g1 g2
    rw [hmm _ (hbad g0).2.1] at g2
    cases g2
  · rename_i g0 g1
    have e := hmm _ (hno g1)
    refine Done.of ?_ (Or.inl rfl)
    show (eqT (.arr 32 .int) (R l m ([] ++ a ++ b)).2.1 m, ()) = (true, ())
    rw [e]
  · rename_i g0 g1
    have hgo := hok g0 g1
    refine run_loop (loop_fam (ι := Nat × (Nat → plainT.D) × (Nat → Int)) (fun i => [(67, .a (.of (.leaf .int (i.1 : Int)))), (66, .a (.of (.leaf .int (b.length : Int)))), (65, .a (.of (.leaf (.lst recordT) (hb, b)))), (4, .a (.ptr 0 0 [] progsT)), (9, .a (.ptr 2 0 [] coresT)), (10, .a (.ptr 3 0 [] memT)), (12, .a (.ptr 4 0 [] coresT)), (13, .a (.ptr 5 0 [] memT))])
      (fun i => [.leaf progsT l, .leaf memT m, .leaf coresT i.2.1, .leaf memT i.2.2, .leaf coresT (R l m ([] ++ a ++ b)).1, .leaf memT (R l m ([] ++ a ++ b)).2.1]) (fun _ => ⟨nn + 1 + 1, [(.nm (nn + 1), 3)]⟩) (fun i => b.length - i.1)
      (fun i => i.1 ≤ b.length ∧ goRep l (b.drop i.1) i.2.1 i.2.2 = .ok ((R l m ([] ++ a ++ b)).1, (R l m ([] ++ a ++ b)).2.1)) ?_ ?_)
    · exact ⟨(0, (R l m a).1, (R l m a).2.1), ⟨Nat.zero_le _, hgo⟩, ⟨rfl, rfl, rfl, rfl, rfl, rfl, rfl, rfl, trivial⟩, rfl, 6, Nat.le_refl _, rfl, rfl⟩
    · rintro ⟨k, cs, mm⟩ ⟨hk, hg⟩
      have hk : k ≤ b.length := hk
      have hg : goRep l (b.drop k) cs mm = .ok ((R l m ([] ++ a ++ b)).1, (R l m ([] ++ a ++ b)).2.1) := hg
      have hst : k < b.length → _ := fun h => hP.step l (nthD recordT b k) (b.drop (k + 1)) cs mm _ (by rw [← drop_nth h]; exact hg)
      repeat' (first | with_reducible refine seq_k fun K1 n1 => ?_ | with_reducible refine seq_nil ?_ | with_reducible refine drw_k fun K1 n1 => ?_ | with_reducible refine drw_nil ?_ ?_ | with_reducible refine dro_k fun K1 n1 => ?_ | with_reducible refine dro_nil ?_ ?_ | with_reducible refine bar_k fun K1 n1 => ?_ | with_reducible refine run_seq ?_ | with_reducible refine run_skip ?_ | with_reducible refine run_regS ?_ | with_reducible refine run_regD (by with_unfolding_all rfl) ?_ ?_ | with_reducible refine inl_k (by with_unfolding_all rfl) (Nat.le_of_ble_eq_true rfl) fun K1 n1 => ?_ | with_reducible refine inlA_k (by with_unfolding_all rfl) (Nat.le_of_ble_eq_true rfl) fun K1 n1 => ?_ | with_reducible refine run_finA ?_ | with_reducible refine run_cond ?_ | with_reducible refine run_block ?_ | with_reducible refine run_endb ?_ | with_reducible refine run_exit fun K1 n1 => ?_ | with_reducible refine run_ret fun K1 n1 => ?_ | with_reducible refine run_fin ?_ | with_reducible refine run_inv ?_ | with_reducible refine go_rounds ?_ | ((with_reducible refine Go.mk ?_); (conv => whnf)) | refine Fork.yes ?_ | refine Fork.no ?_ | refine Fork.dec (fun _ => ?_) (fun _ => ?_) | refine Fork.ndec (fun _ => ?_) (fun _ => ?_) | refine Fork.mk (fun _ => ?_) (fun _ => ?_) | refine Way.yesG ?_ | refine Way.noG ?_ | refine Way.decG (fun _ => ?_) (fun _ => ?_) | refine Way.ndecG (fun _ => ?_) (fun _ => ?_) | refine Way.mkG (fun _ => ?_) (fun _ => ?_) | with_reducible refine Need.mkG ?_ ?_ | refine AppW.go0 ?_ ?_ | refine AppW.go1 ?_ ?_ | with_reducible refine NilW.goG (fun _ => ?_) ?_ | ((with_reducible refine n1 _ _ _ ?_); clear n1 K1) | ((with_reducible refine n1 _ ?_); clear n1 K1) | ((with_reducible refine n1 _ _ ?_); clear n1 K1) | ((with_reducible refine n1 _ _ _ _ ?_); clear n1 K1) | fail)
      all_goals try (first | exact trivial | omega | kernel_rfl | decide | exact And.intro (by omega) (by omega))
      all_goals try dsimp only [Int.toNat_natCast] at *
      all_goals try (first | exact trivial | omega | exact And.intro (by omega) (by omega))
      · rename_i q0 q1
        have := (hst (by omega)).1.1
        exact absurd q1 (Int.not_lt.2 this)
      · rename_i q0 q1 q2
        have := (hst (by omega)).1.2
        exact absurd q2 (Int.not_le.2 this)
      iterate 3
        · exact (show @LE.le Int _ 0 (nthD recordT b k).2.1 ∧ @LT.lt Int _ (nthD recordT b k).2.1 2 from ⟨by omega, by omega⟩)
      · rename_i q0 q1 q2 g e
        have hs := (hst (by omega)).2.1 g
        exact absurd hs.1 e
      · rename_i q0 q1 q2 g e
        have hs := (hst (by omega)).2.1 g
        refine ⟨(k + 1, updA cs (nthD recordT b k).2.1.toNat (O (l (nthD recordT b k).2.1.toNat).2 (cs (nthD recordT b k).2.1.toNat) mm).1, (O (l (nthD recordT b k).2.1.toNat).2 (cs (nthD recordT b k).2.1.toNat) mm).2.1), (show b.length - (k + 1) < b.length - k by omega), ⟨(show k + 1 ≤ b.length by omega), hs.2⟩, ⟨?_, rfl, rfl, rfl, rfl, rfl, rfl, rfl, trivial⟩, rfl, 6, Nat.le_of_ble_eq_true rfl, rfl, rfl⟩
        show some (SV.a (AV.of (V.leaf Ty.int (wrap64 ((k : Int) + 1))))) = some (SV.a (AV.of (V.leaf Ty.int ((k + 1 : Nat) : Int))))
        rw [← wrap_succ k (by omega)]
      iterate 3
        · exact (show @LE.le Int _ 0 (nthD recordT b k).2.1 ∧ @LT.lt Int _ (nthD recordT b k).2.1 2 from ⟨by omega, by omega⟩)
      · rename_i q0 q1 q2 g g2 e
        have hs := (hst (by omega)).2.2.1 g g2
        exact absurd hs.1 e
      · rename_i q0 q1 q2 g g2 e
        have hs := (hst (by omega)).2.2.1 g g2
        refine ⟨(k + 1, updA cs (nthD recordT b k).2.1.toNat (A (l (nthD recordT b k).2.1.toNat).2 (cs (nthD recordT b k).2.1.toNat) mm (nthD recordT b k).2.2).1, (A (l (nthD recordT b k).2.1.toNat).2 (cs (nthD recordT b k).2.1.toNat) mm (nthD recordT b k).2.2).2.1), (show b.length - (k + 1) < b.length - k by omega), ⟨(show k + 1 ≤ b.length by omega), hs.2⟩, ⟨?_, rfl, rfl, rfl, rfl, rfl, rfl, rfl, trivial⟩, rfl, 6, Nat.le_of_ble_eq_true rfl, rfl, rfl⟩
        show some (SV.a (AV.of (V.leaf Ty.int (wrap64 ((k : Int) + 1))))) = some (SV.a (AV.of (V.leaf Ty.int ((k + 1 : Nat) : Int))))
        rw [← wrap_succ k (by omega)]
      iterate 3
        · exact (show @LE.le Int _ 0 (nthD recordT b k).2.1 ∧ @LT.lt Int _ (nthD recordT b k).2.1 2 from ⟨by omega, by omega⟩)
      · rename_i q0 q1 q2 g g2 e
        have hs := (hst (by omega)).2.2.2 g g2
        exact absurd hs.1 e
      · rename_i q0 q1 q2 g g2 e
        have hs := (hst (by omega)).2.2.2 g g2
        refine ⟨(k + 1, updA cs (nthD recordT b k).2.1.toNat (B (l (nthD recordT b k).2.1.toNat).2 (cs (nthD recordT b k).2.1.toNat) (nthD recordT b k).2.2).1, mm), (show b.length - (k + 1) < b.length - k by omega), ⟨(show k + 1 ≤ b.length by omega), hs.2⟩, ⟨?_, rfl, rfl, rfl, rfl, rfl, rfl, rfl, trivial⟩, rfl, 6, Nat.le_of_ble_eq_true rfl, rfl, rfl⟩
        show some (SV.a (AV.of (V.leaf Ty.int (wrap64 ((k : Int) + 1))))) = some (SV.a (AV.of (V.leaf Ty.int ((k + 1 : Nat) : Int))))
        rw [← wrap_succ k (by omega)]
      all_goals
        have hend : goRep l [] cs mm = .ok ((R l m ([] ++ a ++ b)).1, (R l m ([] ++ a ++ b)).2.1) := by
          have h := hg
          rw [List.drop_of_length_le (by omega)] at h
          exact h
        injection hend with hend
        injection hend with h1 h2
      · refine Done.of ?_ (Or.inl rfl)
        have e : eqT (.arr 32 .int) mm (R l m ([] ++ a ++ b)).2.1 = true := by rw [← h2]; exact eqT_refl6 (.arr 32 .int) rfl mm
        show (_, ()) = (true, ())
        rw [e]
      · rename_i g
        have e : eqT (.arr 2 plainT) cs (R l m ([] ++ a ++ b)).1 = true := by rw [← h1]; exact eqT_refl6 (.arr 2 plainT) rfl cs
        rw [e] at g
        cases g
end Go.Proofs.Ytjbbgpacijageaa.M
