/- The document's own functions: records again. -/
import Derived.Test.YtjbbgpacijageaaE3
import Derived.Test.YtjbbgpacijageaaQ1
namespace Go.Proofs.Ytjbbgpacijageaa.M
open Go.RowKit
set_option linter.unusedVariables false
set_option linter.unusedSimpArgs false

abbrev oneFn := List instrT.D → plainT.D → (Nat → Int) → plainT.D × (Nat → Int) × Int
abbrev oneSf (F : oneFn) : Spec := pureS [.lst instrT, plainT, memT] [plainT, memT, .int] fun d => ((F d.1.2 d.2.1 d.2.2.1).1, (F d.1.2 d.2.1 d.2.2.1).2.1, (F d.1.2 d.2.1 d.2.2.1).2.2, ())
abbrev failFn := List instrT.D → plainT.D → Int → plainT.D × Int
abbrev failSf (F : failFn) : Spec := pureS [.lst instrT, plainT, .int] [plainT, .int] fun d => ((F d.1.2 d.2.1 d.2.2.1).1, (F d.1.2 d.2.1 d.2.2.1).2, ())
section
variable {l : progsT.D} {rs : List recordT.D} {k : Nat} {cs : Nat → plainT.D} {mm : Nat → Int} {x : plainT.D × (Nat → Int) × Int}
theorem rep_bad (hk : k < rs.length) (h : ¬ (0 ≤ (nthD recordT rs k).2.1 ∧ (nthD recordT rs k).2.1 < 2)) : goRep l (rs.drop k) cs mm = .error 5 := by
  rw [drop_nth hk]
  unfold goRep
  rw [if_neg h]
theorem rep_err (hk : k < rs.length) (h : 0 ≤ (nthD recordT rs k).2.1 ∧ (nthD recordT rs k).2.1 < 2) (ha : againF (l (nthD recordT rs k).2.1.toNat).2 (cs (nthD recordT rs k).2.1.toNat) mm (nthD recordT rs k) = x) (hx : ¬ x.2.2 = 0) : goRep l (rs.drop k) cs mm = .error x.2.2 := by
  rw [drop_nth hk]
  unfold goRep
  rw [if_pos h, ha, if_neg hx]
theorem rep_ok (hk : k < rs.length) (h : 0 ≤ (nthD recordT rs k).2.1 ∧ (nthD recordT rs k).2.1 < 2) (ha : againF (l (nthD recordT rs k).2.1.toNat).2 (cs (nthD recordT rs k).2.1.toNat) mm (nthD recordT rs k) = x) (hx : x.2.2 = 0) : goRep l (rs.drop k) cs mm = goRep l (rs.drop (k + 1)) (updA cs (nthD recordT rs k).2.1.toNat x.1) x.2.1 := by
  rw [drop_nth hk]
  conv => lhs; unfold goRep
  rw [if_pos h, ha, if_pos hx]
theorem two_of {n : Int} (h : n = 0 ∨ n = 1) : 0 ≤ n ∧ n < 2 := by omega
theorem two_no {n : Int} (h : ¬ n = 0) (g : ¬ n = 1) : ¬ (0 ≤ n ∧ n < 2) := by omega
end
set_option maxHeartbeats 3200000 in
theorem c_ReplayOf (c_AllOf : Ctr Try.prog 37 allS) : Ctr Try.prog 40 replayS := by
  obtain ⟨O, A, B, hO, hA, hB, cO, cA, cB⟩ : ∃ (O : oneFn) (A : allFn) (B : failFn), O = oneF ∧ A = allF ∧ B = failedF ∧ Ctr Try.prog 32 (oneSf O) ∧ Ctr Try.prog 37 (allSf A) ∧ Ctr Try.prog 34 (failSf B) := ⟨oneF, allF, failedF, rfl, rfl, rfl, c_OneOf, c_AllOf, c_FailedOf⟩
  refine ctr_of tabOk (SpecsOk.cons c_goodMemory (by kernel_rfl) (SpecsOk.cons cO (by kernel_rfl) (SpecsOk.cons cA (by kernel_rfl) (SpecsOk.cons cB (by kernel_rfl) (SpecsOk.nil _))))) Try.func40 rfl _ (Nat.le_of_ble_eq_true rfl) (fun _ _ => rfl) ?_
  rintro nn ⟨l, m, ⟨rh, rs⟩, ⟨⟩⟩ _ hb
  have rs_small : rs.length ≤ 9223372036854775807 := hb.2.2.1
  refine ⟨200, init_k fun K1 n1 => ?_⟩
  conv => whnf
  refine n1 _ ?_
  clear n1 K1
  repeat' (first | with_reducible refine seq_k fun K1 n1 => ?_ | with_reducible refine seq_nil ?_ | with_reducible refine drw_k fun K1 n1 => ?_ | with_reducible refine drw_nil ?_ ?_ | with_reducible refine run_seq ?_ | with_reducible refine run_skip ?_ | with_reducible refine run_regS ?_ | with_reducible refine run_regD (by kernel_rfl) ?_ ?_ | with_reducible refine inl_k (by with_unfolding_all rfl) (Nat.le_of_ble_eq_true rfl) fun K1 n1 => ?_ | with_reducible refine inlA_k (by with_unfolding_all rfl) (Nat.le_of_ble_eq_true rfl) fun K1 n1 => ?_ | with_reducible refine run_finA ?_ | with_reducible refine run_cond ?_ | with_reducible refine run_block ?_ | with_reducible refine run_endb ?_ | with_reducible refine run_exit fun K1 n1 => ?_ | with_reducible refine run_ret fun K1 n1 => ?_ | with_reducible refine run_fin ?_ | with_reducible refine run_inv ?_ | with_reducible refine go_rounds ?_ | ((with_reducible refine Go.mk ?_); (conv => whnf)) | refine Fork.yes ?_ | refine Fork.no ?_ | refine Fork.dec (fun _ => ?_) (fun _ => ?_) | refine Fork.ndec (fun _ => ?_) (fun _ => ?_) | refine Fork.mk (fun _ => ?_) (fun _ => ?_) | refine Way.yesG ?_ | refine Way.noG ?_ | refine Way.decG (fun _ => ?_) (fun _ => ?_) | refine Way.ndecG (fun _ => ?_) (fun _ => ?_) | refine Way.mkG (fun _ => ?_) (fun _ => ?_) | with_reducible refine Need.mkG ?_ ?_ | refine AppW.go0 ?_ ?_ | with_reducible refine NilW.goG (fun _ => ?_) ?_ | ((with_reducible refine n1 _ _ _ ?_); clear n1 K1) | ((with_reducible refine n1 _ ?_); clear n1 K1) | ((with_reducible refine n1 _ _ ?_); clear n1 K1) | ((with_reducible refine n1 _ _ _ _ ?_); clear n1 K1) | fail)
  all_goals try (first | exact trivial | omega | kernel_rfl | decide | exact And.intro (by omega) (by omega))
  all_goals try dsimp only [Int.toNat_natCast] at *
  all_goals try (first | exact trivial | omega | exact And.intro (by omega) (by omega))
  · rename_i h
    refine Done.of ?_ (Or.inl rfl)
    show (_, _, _, ()) = ((replayF l m rs).1, (replayF l m rs).2.1, (replayF l m rs).2.2, ())
    unfold replayF
    have h : (!goodM m) = true := h
    rw [if_neg (by rw [not_t' h]; decide)]
  · have hg : goodM m = true := not_f' ‹_›
    have hall : replayF l m rs = match goRep l rs coresT.zero m with | .ok x => (x.1, x.2, 0) | .error e => (coresT.zero, m, e) := by
      unfold replayF
      rw [if_pos hg]
      rfl
    refine run_loop (loop_fam (ι := Nat × (Nat → plainT.D) × (Nat → Int)) (fun i => [(26, .a (.of (.leaf .int (i.1 : Int)))), (25, .a (.of (.leaf .int (rs.length : Int)))), (24, .a (.of (.leaf (.lst recordT) (rh, rs)))), (11, .a (.ptr 6 0 [] memT)), (10, .a (.ptr 5 0 [] coresT)), (9, .a (.ptr 4 0 [] coresT)), (7, .a (.ptr 3 0 [] memT)), (6, .a (.ptr 2 0 [] coresT)), (4, .a (.ptr 1 0 [] memT)), (3, .a (.ptr 0 0 [] progsT))])
      (fun i => [.leaf progsT l, .leaf memT m, .leaf coresT coresT.zero, .leaf memT memT.zero, .leaf coresT coresT.zero, .leaf coresT i.2.1, .leaf memT i.2.2]) (fun _ => ⟨nn, []⟩) (fun i => rs.length - i.1) (fun i => i.1 ≤ rs.length ∧ goRep l rs coresT.zero m = goRep l (rs.drop i.1) i.2.1 i.2.2) ?_ ?_)
    · exact ⟨(0, coresT.zero, m), ⟨Nat.zero_le _, rfl⟩, ⟨rfl, rfl, rfl, rfl, rfl, rfl, rfl, rfl, rfl, rfl, trivial⟩, rfl, 7, Nat.le_refl _, rfl, rfl⟩
    · rintro ⟨k, cs, mm⟩ ⟨hk, hgo⟩
      have hk : k ≤ rs.length := hk
      have hgo : goRep l rs coresT.zero m = goRep l (rs.drop k) cs mm := hgo
      have a1 : (nthD recordT rs k).1 = 1 → againF (l (nthD recordT rs k).2.1.toNat).2 (cs (nthD recordT rs k).2.1.toNat) mm (nthD recordT rs k) = (O (l (nthD recordT rs k).2.1.toNat).2 (cs (nthD recordT rs k).2.1.toNat) mm) := fun h => by rw [hO]; exact if_pos h
      have a2 : ¬ (nthD recordT rs k).1 = 1 → (nthD recordT rs k).1 = 2 → againF (l (nthD recordT rs k).2.1.toNat).2 (cs (nthD recordT rs k).2.1.toNat) mm (nthD recordT rs k) = (A (l (nthD recordT rs k).2.1.toNat).2 (cs (nthD recordT rs k).2.1.toNat) mm (nthD recordT rs k).2.2) := fun h g => by rw [hA]; exact (if_neg h).trans (if_pos g)
      have a3 : ¬ (nthD recordT rs k).1 = 1 → ¬ (nthD recordT rs k).1 = 2 → (nthD recordT rs k).1 = 3 → againF (l (nthD recordT rs k).2.1.toNat).2 (cs (nthD recordT rs k).2.1.toNat) mm (nthD recordT rs k) = ((B (l (nthD recordT rs k).2.1.toNat).2 (cs (nthD recordT rs k).2.1.toNat) (nthD recordT rs k).2.2).1, mm, (B (l (nthD recordT rs k).2.1.toNat).2 (cs (nthD recordT rs k).2.1.toNat) (nthD recordT rs k).2.2).2) := fun h g e => by rw [hB]; exact (if_neg h).trans ((if_neg g).trans (if_pos e))
      have a4 : ¬ (nthD recordT rs k).1 = 1 → ¬ (nthD recordT rs k).1 = 2 → ¬ (nthD recordT rs k).1 = 3 → againF (l (nthD recordT rs k).2.1.toNat).2 (cs (nthD recordT rs k).2.1.toNat) mm (nthD recordT rs k) = ((cs (nthD recordT rs k).2.1.toNat), mm, 3) := fun h g e => (if_neg h).trans ((if_neg g).trans (if_neg e))
      have stop : ∀ e, goRep l rs coresT.zero m = .error e → ∀ ns, Done replayS nn (l, m, (rh, rs), ()) (coresT.zero, m, e, ()) ns := fun e h ns => by
        refine Done.of ?_ (Or.inl rfl)
        show (_, _, _, ()) = ((replayF l m rs).1, (replayF l m rs).2.1, (replayF l m rs).2.2, ())
        rw [hall, h]
      clear hO hA hB
      repeat' (first | with_reducible refine seq_k fun K1 n1 => ?_ | with_reducible refine seq_nil ?_ | with_reducible refine drw_k fun K1 n1 => ?_ | with_reducible refine drw_nil ?_ ?_ | with_reducible refine run_seq ?_ | with_reducible refine run_skip ?_ | with_reducible refine run_regS ?_ | with_reducible refine run_regD (by kernel_rfl) ?_ ?_ | with_reducible refine inl_k (by with_unfolding_all rfl) (Nat.le_of_ble_eq_true rfl) fun K1 n1 => ?_ | with_reducible refine inlA_k (by with_unfolding_all rfl) (Nat.le_of_ble_eq_true rfl) fun K1 n1 => ?_ | with_reducible refine run_finA ?_ | with_reducible refine run_cond ?_ | with_reducible refine run_block ?_ | with_reducible refine run_endb ?_ | with_reducible refine run_exit fun K1 n1 => ?_ | with_reducible refine run_ret fun K1 n1 => ?_ | with_reducible refine run_fin ?_ | with_reducible refine run_inv ?_ | with_reducible refine go_rounds ?_ | ((with_reducible refine Go.mk ?_); (conv => whnf)) | refine Fork.yes ?_ | refine Fork.no ?_ | refine Fork.dec (fun _ => ?_) (fun _ => ?_) | refine Fork.ndec (fun _ => ?_) (fun _ => ?_) | refine Fork.mk (fun _ => ?_) (fun _ => ?_) | refine Way.yesG ?_ | refine Way.noG ?_ | refine Way.decG (fun _ => ?_) (fun _ => ?_) | refine Way.ndecG (fun _ => ?_) (fun _ => ?_) | refine Way.mkG (fun _ => ?_) (fun _ => ?_) | with_reducible refine Need.mkG ?_ ?_ | refine AppW.go0 ?_ ?_ | with_reducible refine NilW.goG (fun _ => ?_) ?_ | ((with_reducible refine n1 _ _ _ ?_); clear n1 K1) | ((with_reducible refine n1 _ ?_); clear n1 K1) | ((with_reducible refine n1 _ _ ?_); clear n1 K1) | ((with_reducible refine n1 _ _ _ _ ?_); clear n1 K1) | fail)
      all_goals try (first | exact trivial | omega | kernel_rfl | decide | exact And.intro (by omega) (by omega))
      all_goals try dsimp only [Int.toNat_natCast] at *
      all_goals try (first | exact trivial | omega | exact And.intro (by omega) (by omega))
      all_goals first
        | exact two_of (Or.inl (by assumption))
        | exact two_of (Or.inr (by assumption))
        | exact stop _ (hgo.trans (rep_bad (by omega) (two_no (by assumption) (by assumption)))) _
        | skip
      all_goals first
        | (have hk2 : ¬ (k : Int) < (rs.length : Int) := by assumption
           refine Done.of ?_ (Or.inl rfl)
           show (_, _, _, ()) = ((replayF l m rs).1, (replayF l m rs).2.1, (replayF l m rs).2.2, ())
           rw [hall, hgo, show k = rs.length from by omega, List.drop_length]
           rfl)
        | skip
      all_goals have hr : 0 ≤ (nthD recordT rs k).2.1 ∧ (nthD recordT rs k).2.1 < 2 := by first | exact two_of (Or.inl (by assumption)) | exact two_of (Or.inr (by assumption))
      all_goals first
        | exact stop _ (hgo.trans (rep_err (by omega) hr (a1 (by assumption)) (by assumption))) _
        | exact stop _ (hgo.trans (rep_err (by omega) hr (a2 (by assumption) (by assumption)) (by assumption))) _
        | exact stop _ (hgo.trans (rep_err (by omega) hr (a3 (by assumption) (by assumption) (by assumption)) (by assumption))) _
        | exact stop _ (hgo.trans (rep_err (by omega) hr (a4 (by assumption) (by assumption) (by assumption)) (show ¬ (3 : Int) = 0 by decide))) _
        | exact ⟨(k + 1, updA cs (nthD recordT rs k).2.1.toNat (O (l (nthD recordT rs k).2.1.toNat).2 (cs (nthD recordT rs k).2.1.toNat) mm).1, (O (l (nthD recordT rs k).2.1.toNat).2 (cs (nthD recordT rs k).2.1.toNat) mm).2.1), (show rs.length - (k + 1) < rs.length - k by omega), ⟨(show k + 1 ≤ rs.length by omega), hgo.trans (rep_ok (by omega) hr (a1 (by assumption)) (by assumption))⟩, ⟨(by
            show some (SV.a (AV.of (V.leaf Ty.int (wrap64 (↑k + 1))))) = some (SV.a (AV.of (V.leaf Ty.int ((k + 1 : Nat) : Int))))
            rw [← wrap_succ k (by omega)]), rfl, rfl, rfl, rfl, rfl, rfl, rfl, rfl, rfl, trivial⟩, rfl, 7, Nat.le_of_ble_eq_true rfl, rfl, rfl⟩
        | exact ⟨(k + 1, updA cs (nthD recordT rs k).2.1.toNat (A (l (nthD recordT rs k).2.1.toNat).2 (cs (nthD recordT rs k).2.1.toNat) mm (nthD recordT rs k).2.2).1, (A (l (nthD recordT rs k).2.1.toNat).2 (cs (nthD recordT rs k).2.1.toNat) mm (nthD recordT rs k).2.2).2.1), (show rs.length - (k + 1) < rs.length - k by omega), ⟨(show k + 1 ≤ rs.length by omega), hgo.trans (rep_ok (by omega) hr (a2 (by assumption) (by assumption)) (by assumption))⟩, ⟨(by
            show some (SV.a (AV.of (V.leaf Ty.int (wrap64 (↑k + 1))))) = some (SV.a (AV.of (V.leaf Ty.int ((k + 1 : Nat) : Int))))
            rw [← wrap_succ k (by omega)]), rfl, rfl, rfl, rfl, rfl, rfl, rfl, rfl, rfl, trivial⟩, rfl, 7, Nat.le_of_ble_eq_true rfl, rfl, rfl⟩
        | exact ⟨(k + 1, updA cs (nthD recordT rs k).2.1.toNat (B (l (nthD recordT rs k).2.1.toNat).2 (cs (nthD recordT rs k).2.1.toNat) (nthD recordT rs k).2.2).1, mm), (show rs.length - (k + 1) < rs.length - k by omega), ⟨(show k + 1 ≤ rs.length by omega), hgo.trans (rep_ok (by omega) hr (a3 (by assumption) (by assumption) (by assumption)) (by assumption))⟩, ⟨(by
            show some (SV.a (AV.of (V.leaf Ty.int (wrap64 (↑k + 1))))) = some (SV.a (AV.of (V.leaf Ty.int ((k + 1 : Nat) : Int))))
            rw [← wrap_succ k (by omega)]), rfl, rfl, rfl, rfl, rfl, rfl, rfl, rfl, rfl, trivial⟩, rfl, 7, Nat.le_of_ble_eq_true rfl, rfl, rfl⟩
end Go.Proofs.Ytjbbgpacijageaa.M
