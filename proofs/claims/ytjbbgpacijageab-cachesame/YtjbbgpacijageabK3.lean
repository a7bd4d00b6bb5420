/- Package deskmateskeep: whatever lines come and go. -/
import Derived.Test.YtjbbgpacijageabK2
namespace Go.Proofs.Ytjbbgpacijageab.M
open Go.RowKit
set_option linter.unusedVariables false
set_option linter.unusedSimpArgs false

theorem eq32 {f g : Nat → Int} (h : ∀ k : Nat, k < 32 → f k = g k) : eqT (.arr 32 .int) f g = true := by
  unfold eqT
  rw [List.all_eq_true]
  intro k hk
  exact (eqI _ _).2 (h k (List.mem_range.1 hk))
theorem c_CacheSame : Ctr Try.prog 3 (lawS [deskT, .int, .int]) := by
  refine ctr_of tabOk (SpecsOk.cons c_keeps (by kernel_rfl) (SpecsOk.cons c_Good (by kernel_rfl) (SpecsOk.cons c_Share (by kernel_rfl) (SpecsOk.cons c_Own (by kernel_rfl) (SpecsOk.cons c_Drop (by kernel_rfl) (SpecsOk.cons c_Values (by kernel_rfl) (SpecsOk.nil _))))))) Try.func3 rfl _ (Nat.le_of_ble_eq_true rfl) (fun _ _ => rfl) ?_
  rintro nn ⟨d, (c : Int), (n : Int), ⟨⟩⟩ _ _
  refine ⟨200, init_k fun K1 n1 => ?_⟩
  conv => whnf
  refine n1 _ ?_
  clear n1 K1
  repeat' (first | with_reducible refine seq_k fun K1 n1 => ?_ | with_reducible refine seq_nil ?_ | with_reducible refine drw_k fun K1 n1 => ?_ | with_reducible refine drw_nil ?_ ?_ | with_reducible refine run_seq ?_ | with_reducible refine run_skip ?_ | with_reducible refine run_regS ?_ | with_reducible refine run_regD (by kernel_rfl) ?_ ?_ | with_reducible refine inl_k (by with_unfolding_all rfl) (Nat.le_of_ble_eq_true rfl) fun K1 n1 => ?_ | with_reducible refine inlA_k (by with_unfolding_all rfl) (Nat.le_of_ble_eq_true rfl) fun K1 n1 => ?_ | with_reducible refine run_finA ?_ | with_reducible refine run_cond ?_ | with_reducible refine run_block ?_ | with_reducible refine run_endb ?_ | with_reducible refine run_exit fun K1 n1 => ?_ | with_reducible refine run_ret fun K1 n1 => ?_ | with_reducible refine run_fin ?_ | with_reducible refine run_inv ?_ | with_reducible refine go_rounds ?_ | ((with_reducible refine Go.mk ?_); (conv => whnf)) | refine Fork.yes ?_ | refine Fork.no ?_ | refine Fork.dec (fun _ => ?_) (fun _ => ?_) | refine Fork.ndec (fun _ => ?_) (fun _ => ?_) | refine Fork.mk (fun _ => ?_) (fun _ => ?_) | refine Way.yesG ?_ | refine Way.noG ?_ | refine Way.decG (fun _ => ?_) (fun _ => ?_) | refine Way.ndecG (fun _ => ?_) (fun _ => ?_) | refine Way.mkG (fun _ => ?_) (fun _ => ?_) | with_reducible refine Need.mkG ?_ ?_ | refine AppW.go0 ?_ ?_ | with_reducible refine NilW.goG (fun _ => ?_) ?_ | ((with_reducible refine n1 _ _ _ ?_); clear n1 K1) | ((with_reducible refine n1 _ ?_); clear n1 K1) | ((with_reducible refine n1 _ _ ?_); clear n1 K1) | ((with_reducible refine n1 _ _ _ _ ?_); clear n1 K1) | fail)
  all_goals try (first | exact trivial | omega | kernel_rfl | decide | exact And.intro (by omega) (by omega))
  all_goals try dsimp only [Int.toNat_natCast] at *
  all_goals try (first | exact trivial | omega | exact And.intro (by omega) (by omega))
  · exact Done.of rfl (Or.inl rfl)
  · have hg : goodD d = true := not_f ‹_›
    have hall : ∀ x ∈ ownL deskT (updA (updA (updA (Ty.arr 3 deskT).zero 0 (dropF d c n)) 1 (shareF d c n)) 2 (ownF d c n)) 0 3, goodD x = true ∧ ∀ k : Nat, k < 32 → valF x (k : Int) = valF d (k : Int) := by
      intro x hx
      have : x = dropF d c n ∨ x = shareF d c n ∨ x = ownF d c n := by
        simp only [ownL, List.range_succ, List.range_zero, List.nil_append, List.map_append, List.map_cons, List.map_nil, List.mem_append, List.mem_singleton] at hx
        rcases hx with (hx | hx) | hx
        · exact Or.inl hx
        · exact Or.inr (Or.inl hx)
        · exact Or.inr (Or.inr hx)
      rcases this with rfl | rfl | rfl
      · exact dropF_ok hg c n
      · exact ⟨(shareF_ok hg c n).1, (shareF_ok hg c n).2.1⟩
      · exact ⟨(ownF_ok hg c n).1, (ownF_ok hg c n).2.1⟩
    have hlen : (ownL deskT (updA (updA (updA (Ty.arr 3 deskT).zero 0 (dropF d c n)) 1 (shareF d c n)) 2 (ownF d c n)) 0 3).length = 3 := by simp [ownL]
    generalize ownL deskT (updA (updA (updA (Ty.arr 3 deskT).zero 0 (dropF d c n)) 1 (shareF d c n)) 2 (ownF d c n)) 0 3 = xs at hall hlen ⊢
    have hnth : ∀ k, k < xs.length → nthD deskT xs k ∈ xs := fun k hk => by
      unfold nthD
      rw [List.getElem?_eq_getElem hk]
      exact List.getElem_mem hk
    refine run_loop (loop_fam (ι := Nat) (fun k => [(30, .a (.of (.leaf .int (k : Int)))), (29, .a (.of (.leaf .int (xs.length : Int)))), (28, .a (.of (.leaf (.lst deskT) (.nm nn, xs)))), (7, .a (.ptr 1 0 [] (.arr 32 .int)))]) (fun _ => [.leaf deskT d, .leaf (.arr 32 .int) fun q => valF d (q : Int)]) (fun _ => ⟨nn + 1, []⟩) (fun k => xs.length - k) (fun k => k ≤ xs.length) ?_ ?_)
    · exact ⟨0, Nat.zero_le _, ⟨rfl, rfl, rfl, rfl, trivial⟩, rfl, 2, Nat.le_refl _, rfl, rfl⟩
    · rintro k hk
      repeat' (first | with_reducible refine seq_k fun K1 n1 => ?_ | with_reducible refine seq_nil ?_ | with_reducible refine drw_k fun K1 n1 => ?_ | with_reducible refine drw_nil ?_ ?_ | with_reducible refine run_seq ?_ | with_reducible refine run_skip ?_ | with_reducible refine run_regS ?_ | with_reducible refine run_regD (by kernel_rfl) ?_ ?_ | with_reducible refine inl_k (by with_unfolding_all rfl) (Nat.le_of_ble_eq_true rfl) fun K1 n1 => ?_ | with_reducible refine inlA_k (by with_unfolding_all rfl) (Nat.le_of_ble_eq_true rfl) fun K1 n1 => ?_ | with_reducible refine run_finA ?_ | with_reducible refine run_cond ?_ | with_reducible refine run_block ?_ | with_reducible refine run_endb ?_ | with_reducible refine run_exit fun K1 n1 => ?_ | with_reducible refine run_ret fun K1 n1 => ?_ | with_reducible refine run_fin ?_ | with_reducible refine run_inv ?_ | with_reducible refine go_rounds ?_ | ((with_reducible refine Go.mk ?_); (conv => whnf)) | refine Fork.yes ?_ | refine Fork.no ?_ | refine Fork.dec (fun _ => ?_) (fun _ => ?_) | refine Fork.ndec (fun _ => ?_) (fun _ => ?_) | refine Fork.mk (fun _ => ?_) (fun _ => ?_) | refine Way.yesG ?_ | refine Way.noG ?_ | refine Way.decG (fun _ => ?_) (fun _ => ?_) | refine Way.ndecG (fun _ => ?_) (fun _ => ?_) | refine Way.mkG (fun _ => ?_) (fun _ => ?_) | with_reducible refine Need.mkG ?_ ?_ | refine AppW.go0 ?_ ?_ | with_reducible refine NilW.goG (fun _ => ?_) ?_ | ((with_reducible refine n1 _ _ _ ?_); clear n1 K1) | ((with_reducible refine n1 _ ?_); clear n1 K1) | ((with_reducible refine n1 _ _ ?_); clear n1 K1) | ((with_reducible refine n1 _ _ _ _ ?_); clear n1 K1) | fail)
      all_goals try (first | exact trivial | omega | kernel_rfl | decide | exact And.intro (by omega) (by omega))
      all_goals try dsimp only [Int.toNat_natCast] at *
      all_goals try (first | exact trivial | omega | exact And.intro (by omega) (by omega))
      · exfalso
        have h := (hall _ (hnth k (by omega))).1
        have h2 : (!goodD (nthD deskT xs k)) = true := by assumption
        rw [not_t h2] at h
        cases h
      · exfalso
        have h := (hall _ (hnth k (by omega))).2
        have e := eq32 (f := fun q => valF (nthD deskT xs k) (q : Int)) (g := fun q => valF d (q : Int)) h
        have h2 : (!eqT (.arr 32 .int) (fun q => valF (nthD deskT xs k) (q : Int)) fun q => valF d (q : Int)) = true := by assumption
        rw [e] at h2
        cases h2
      · refine ⟨k + 1, by omega, by show k + 1 ≤ xs.length; omega, ⟨?_, rfl, rfl, rfl, trivial⟩, rfl, 2, Nat.le_add_left _ _, rfl, rfl⟩
        rw [← wrap_succ k (by omega)]
        rfl
      · exact Done.of rfl (Or.inl rfl)
end Go.Proofs.Ytjbbgpacijageab.M
