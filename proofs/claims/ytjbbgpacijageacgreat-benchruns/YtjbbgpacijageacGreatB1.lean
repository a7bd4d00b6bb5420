/- Package bench: its lists, why a program is none, why a transaction failed. -/
import Derived.Test.YtjbbgpacijageacGreatX1
import Derived.Test.YtjbbgpacijageacGreatUC
import Derived.Test.YtjbbgpacijageacGreatO1
namespace Go.Proofs.YtjbbgpacijageacGreat.M
open Go.RowKit
set_option linter.unusedVariables false
set_option linter.unusedSimpArgs false

abbrev benchT : Ty := .pair progsT (.pair deskT (.pair (.lst recordT) .int))
abbrev cloneS (t : Ty) : Spec := { args := [.lst t], res := [.lst t], cr := true, m := fun _ => 1, fn := fun nn d => ((.nm nn, d.1.2), ()), pre := fun d => d.1.2.length ≤ 140737488355328 ∧ d.1.2.length * t.byt ≤ 140737488355328 }
theorem clone_done {t : Ty} (ht : t.nolst = true) {nn : Nat} {hd h : Hd} {xs l : List t.D} {ns : NS} (hl : l = xs) : DoneR (cloneS t) nn ((hd, xs), ()) ((h, l), ()) ns := by
  subst hl
  refine ⟨⟨fun _ => h, ⟨?_, trivial⟩⟩, ⟨Nat.lt_succ_self _, fun e _ => namD_nolst _ _ _ ht⟩, trivial⟩
  show (h, l) = (renH nn (fun _ => h) (.nm nn), l.map (renD nn (fun _ => h) t))
  have e1 : renH nn (fun _ => h) (.nm nn) = h := if_neg (Nat.lt_irrefl _)
  have e2 : l.map (renD nn (fun _ => h) t) = l := by
    conv => rhs; rw [← List.map_id l]
    exact List.map_congr_left fun e _ => renD_nolst _ _ t e ht
  rw [e1, e2]
theorem c_cloneI : Ctr Tryz.prog 37 (cloneS instrT) := by
  refine ctr_ofR [] ⟨[], rfl⟩ tabOk (SpecsOk.nil _) Tryz.func37 rfl _ (Nat.le_of_ble_eq_true rfl) (fun h => by cases h) ?_
  rintro nn ⟨⟨hd, xs⟩, ⟨⟩⟩ hpre hb
  refine ⟨200, init_k fun K1 n1 => ?_⟩
  conv => whnf
  refine n1 _ ?_
  clear n1 K1
  repeat' (first | (with_reducible first | refine seq_k fun K1 n1 => ?_ | refine seq_nil ?_ | refine run_seq ?_ | refine run_skip ?_ | refine run_regS ?_ | refine run_cond ?_ | refine run_ret fun K1 n1 => ?_ | refine run_fin ?_) | ((with_reducible refine Go.mk ?_); (conv => whnf)) | refine Fork.yes ?_ | refine Fork.no ?_ | (with_reducible first | refine Need.mkG ?_ ?_ | refine NilW.goG (fun _ => ?_) ?_) | ((with_reducible refine n1 _ _ _ ?_); clear n1 K1) | ((with_reducible refine n1 _ ?_); clear n1 K1) | fail)
  all_goals try (omega)
  all_goals try dsimp only [Int.toNat_natCast] at *
  · rename_i h
    exact clone_done rfl h.symm
  · exact clone_done rfl rfl
def refP (l : List instrT.D) : Int := if 40 < (l.length : Int) then 6 else if l.all goodI = true then 0 else 1
theorem all_no {p : instrT.D → Bool} {l : List instrT.D} {k : Nat} (hk : k < l.length) (h : p (nthD instrT l k) = false) : l.all p = false := by
  rw [nthD_eq hk] at h
  exact all_split hk h
theorem all_yes {p : instrT.D → Bool} {l : List instrT.D} (h : ∀ k, k < l.length → p (nthD instrT l k) = true) : l.all p = true := by
  rw [List.all_eq_true]
  intro w hw
  obtain ⟨k, hk⟩ := List.getElem?_of_mem hw
  have hlt := (List.getElem?_eq_some_iff.1 hk).1
  have h1 := h k hlt
  rw [nthD_eq hlt, (List.getElem?_eq_some_iff.1 hk).2] at h1
  exact h1
abbrev refPS : Spec := pureS [.lst instrT] [.int] fun d => (refP d.1.2, ())
theorem c_bRefused : Ctr Tryz.prog 36 refPS := by
  refine ctr_of tabOk (SpecsOk.mut (inl_ok tabOk (SpecsOk.mut (inl_ok tabOk (SpecsOk.mut (inl_ok tabOk (SpecsOk.cons c_codeGood (by kernel_rfl) (SpecsOk.nil _)) Tryz.func59 [.bool]) (by kernel_rfl) (SpecsOk.nil _)) Tryz.func82 [.int]) (by kernel_rfl) (SpecsOk.nil _)) Tryz.func58 [.bool]) (by kernel_rfl) (SpecsOk.nil _)) Tryz.func36 rfl _ (Nat.le_of_ble_eq_true rfl) (fun _ _ => rfl) ?_
  rintro nn ⟨⟨hd, xs⟩, ⟨⟩⟩ _ hb
  have hxs : xs.length ≤ 9223372036854775807 := hb.1
  refine ⟨200, init_k fun K1 n1 => ?_⟩
  conv => whnf
  refine n1 _ ?_
  clear n1 K1
  repeat' (first | (with_reducible first | refine seq_k fun K1 n1 => ?_ | refine seq_nil ?_ | refine run_seq ?_ | refine run_skip ?_ | refine run_regS ?_ | refine inl_k (by with_unfolding_all rfl) (Nat.le_of_ble_eq_true rfl) fun K1 n1 => ?_ | refine run_cond ?_ | refine run_block ?_ | refine run_ret fun K1 n1 => ?_ | refine run_fin ?_) | ((with_reducible refine Go.mk ?_); (conv => whnf)) | refine Fork.dec (fun _ => ?_) (fun _ => ?_) | ((with_reducible refine n1 _ _ _ ?_); clear n1 K1) | ((with_reducible refine n1 _ ?_); clear n1 K1) | ((with_reducible refine n1 _ _ ?_); clear n1 K1) | fail)
  all_goals try dsimp only [Int.toNat_natCast] at *
  · rename_i h
    refine Done.of ?_ (Or.inl rfl)
    show (_, ()) = (refP xs, ())
    unfold refP
    rw [if_pos h]
  · have h40 : ¬ (40 : Int) < (xs.length : Int) := by assumption
    refine run_loop (loop_fam (ι := Nat) (fun k => [(8, .a (.of (.leaf .int (k : Int)))), (7, .a (.of (.leaf .int (xs.length : Int)))), (6, .a (.of (.leaf (.lst instrT) (hd, xs)))), (1, .a (.clo 59 [])), (0, .a (.of (.leaf (.lst instrT) (hd, xs))))])
      (fun _ => []) (fun _ => ⟨nn, []⟩) (fun k => xs.length - k) (fun k => k ≤ xs.length ∧ ∀ j, j < k → goodI (nthD instrT xs j) = true) ?_ ?_)
    · exact ⟨0, ⟨Nat.zero_le _, fun j hj => by omega⟩, ⟨rfl, rfl, rfl, rfl, rfl, trivial⟩, rfl, 0, Nat.le_refl _, rfl, rfl⟩
    · rintro k ⟨hk, hno⟩
      have hF : refP xs = if xs.all goodI = true then 0 else 1 := if_neg h40
      repeat' (first | (with_reducible first | refine seq_k fun K1 n1 => ?_ | refine seq_nil ?_ | refine run_seq ?_ | refine run_skip ?_ | refine run_regS ?_ | refine inl_k (by with_unfolding_all rfl) (Nat.le_of_ble_eq_true rfl) fun K1 n1 => ?_ | refine run_cond ?_ | refine run_block ?_ | refine run_endb ?_ | refine run_exit fun K1 n1 => ?_ | refine run_ret fun K1 n1 => ?_ | refine run_fin ?_ | refine run_inv ?_) | ((with_reducible refine Go.mk ?_); (conv => whnf)) | refine Fork.yes ?_ | refine Fork.no ?_ | refine Fork.dec (fun _ => ?_) (fun _ => ?_) | refine Fork.mk (fun _ => ?_) (fun _ => ?_) | (with_reducible first | refine Need.mkG ?_ ?_) | ((with_reducible refine n1 _ _ _ ?_); clear n1 K1) | ((with_reducible refine n1 _ ?_); clear n1 K1) | ((with_reducible refine n1 _ _ ?_); clear n1 K1) | fail)
      all_goals try (first | exact trivial | exact And.intro (by omega) (by omega))
      all_goals try dsimp only [Int.toNat_natCast] at *
      · rename_i h1 h2
        refine Done.of ?_ (Or.inl rfl)
        show (_, ()) = (refP xs, ())
        rw [hF, if_neg (by rw [all_no (k := k) (by omega) (not_t' h2)]; decide)]
      · rename_i h1 h2
        refine ⟨k + 1, by omega, ⟨by omega, fun j hj => ?_⟩, ⟨?_, rfl, rfl, rfl, rfl, trivial⟩, rfl, 0, Nat.zero_le _, rfl, rfl⟩
        · by_cases hjk : j = k
          · subst hjk; exact not_f' h2
          · exact hno j (by omega)
        · rw [← wrap_succ k (by omega)]
          rfl
      · rename_i h1
        refine Done.of ?_ (Or.inl rfl)
        show (_, ()) = (refP xs, ())
        rw [hF, if_pos (all_yes fun j hj => hno j (by omega))]
def whyF : List recordT.D → Int
  | [] => 0
  | r :: rs => if r.1 = 3 then r.2.2 else whyF rs
abbrev whyS : Spec := pureS [.lst recordT] [.int] fun d => (whyF d.1.2, ())
theorem c_firstWhy : Ctr Tryz.prog 42 whyS := by
  refine ctr_of tabOk (SpecsOk.nil _) Tryz.func42 rfl _ (Nat.le_of_ble_eq_true rfl) (fun _ _ => rfl) ?_
  rintro nn ⟨⟨hd, xs⟩, ⟨⟩⟩ _ hb
  have hxs : xs.length ≤ 9223372036854775807 := hb.1
  refine ⟨200, init_k fun K1 n1 => ?_⟩
  conv => whnf
  refine n1 _ ?_
  clear n1 K1
  repeat' (first | (with_reducible first | refine seq_k fun K1 n1 => ?_ | refine seq_nil ?_ | refine run_seq ?_ | refine run_regS ?_ | refine run_block ?_) | ((with_reducible refine Go.mk ?_); (conv => whnf)) | ((with_reducible refine n1 _ _ _ ?_); clear n1 K1) | fail)
  all_goals try dsimp only [Int.toNat_natCast] at *
  refine run_loop (loop_fam (ι := Nat) (fun k => [(7, .a (.of (.leaf .int (k : Int)))), (6, .a (.of (.leaf .int (xs.length : Int)))), (5, .a (.of (.leaf (.lst recordT) (hd, xs))))])
    (fun _ => []) (fun _ => ⟨nn, []⟩) (fun k => xs.length - k) (fun k => k ≤ xs.length ∧ whyF xs = whyF (xs.drop k)) ?_ ?_)
  · exact ⟨0, ⟨Nat.zero_le _, rfl⟩, ⟨rfl, rfl, rfl, trivial⟩, rfl, 0, Nat.le_refl _, rfl, rfl⟩
  · rintro k ⟨hk, hy⟩
    have hstep : k < xs.length → whyF xs = if (nthD recordT xs k).1 = 3 then (nthD recordT xs k).2.2 else whyF (xs.drop (k + 1)) := fun h => by
      rw [hy, List.drop_eq_getElem_cons h, nthD_eq h]
      rfl
    repeat' (first | (with_reducible first | refine seq_k fun K1 n1 => ?_ | refine seq_nil ?_ | refine run_seq ?_ | refine run_skip ?_ | refine run_regS ?_ | refine run_cond ?_ | refine run_block ?_ | refine run_endb ?_ | refine run_exit fun K1 n1 => ?_ | refine run_ret fun K1 n1 => ?_ | refine run_fin ?_ | refine run_inv ?_) | ((with_reducible refine Go.mk ?_); (conv => whnf)) | refine Fork.dec (fun _ => ?_) (fun _ => ?_) | (with_reducible first | refine Need.mkG ?_ ?_) | ((with_reducible refine n1 _ _ _ ?_); clear n1 K1) | ((with_reducible refine n1 _ ?_); clear n1 K1) | fail)
    all_goals try (exact And.intro (by omega) (by omega))
    all_goals try dsimp only [Int.toNat_natCast] at *
    · rename_i h1 h2
      refine Done.of ?_ (Or.inl rfl)
      show (_, ()) = (whyF xs, ())
      rw [hstep (by omega), if_pos h2]
    · rename_i h1 h2
      refine ⟨k + 1, by omega, ⟨by omega, by rw [hstep (by omega), if_neg h2]⟩, ⟨?_, rfl, rfl, trivial⟩, rfl, 0, Nat.zero_le _, rfl, rfl⟩
      rw [← wrap_succ k (by omega)]
      rfl
    · rename_i h1
      refine Done.of ?_ (Or.inl rfl)
      show (_, ()) = (whyF xs, ())
      rw [hy, List.drop_of_length_le (by omega)]
      rfl
end Go.Proofs.YtjbbgpacijageacGreat.M
