/- Package cache: what goes together; values. -/
import Derived.Test.YtjbbgpacijageaaC3
namespace Go.Proofs.Ytjbbgpacijageaa.M
open Go.RowKit
set_option linter.unusedVariables false
set_option linter.unusedSimpArgs false

def agreesF (l b : lineT.D) (m : Nat → Int) : Bool :=
  if l.1 = 1 then eqT (.arr 2 .int) l.2.2.1 (memL m l.2.1) else
  if l.1 = 2 then eqT (.arr 2 .int) l.2.2.1 (memL m l.2.1) && !hasL b l.2.1 else
  if l.1 = 3 then !hasL b l.2.1 else true
abbrev agreesS : Spec := { args := [lineT, lineT, .arr 32 .int], res := [.bool], cr := false, m := fun _ => 0, fn := fun _ d => (agreesF d.1 d.2.1 d.2.2.1, ()), pre := fun d => (d.1.1 = 1 ∨ d.1.1 = 2) → @LE.le Int _ 0 d.1.2.1 ∧ @LT.lt Int _ d.1.2.1 16 }
theorem c_agrees : Ctr Try.prog 83 agreesS := by
  refine ctr_of tabOk (SpecsOk.cons c_remembered (by kernel_rfl) (SpecsOk.cons c_has (by kernel_rfl) (SpecsOk.nil _))) Try.func83 rfl _ (Nat.le_of_ble_eq_true rfl) (fun _ _ => rfl) ?_
  rintro nn ⟨l, b, m, ⟨⟩⟩ hpre _
  have hpre : (l.1 = 1 ∨ l.1 = 2) → @LE.le Int _ 0 l.2.1 ∧ @LT.lt Int _ l.2.1 16 := hpre
  refine ⟨200, init_k fun K1 n1 => ?_⟩
  conv => whnf
  refine n1 _ ?_
  clear n1 K1
  repeat' (first | with_reducible refine seq_k fun K1 n1 => ?_ | with_reducible refine seq_nil ?_ | with_reducible refine drw_k fun K1 n1 => ?_ | with_reducible refine drw_nil ?_ ?_ | with_reducible refine run_seq ?_ | with_reducible refine run_skip ?_ | with_reducible refine run_regS ?_ | with_reducible refine run_regD (by kernel_rfl) ?_ ?_ | with_reducible refine inl_k (by with_unfolding_all rfl) (Nat.le_of_ble_eq_true rfl) fun K1 n1 => ?_ | with_reducible refine run_cond ?_ | with_reducible refine run_block ?_ | with_reducible refine run_endb ?_ | with_reducible refine run_exit fun K1 n1 => ?_ | with_reducible refine run_ret fun K1 n1 => ?_ | with_reducible refine run_fin ?_ | with_reducible refine run_inv ?_ | with_reducible refine go_rounds ?_ | ((with_reducible refine Go.mk ?_); (conv => whnf)) | refine Fork.yes ?_ | refine Fork.no ?_ | refine Fork.dec (fun _ => ?_) (fun _ => ?_) | refine Fork.ndec (fun _ => ?_) (fun _ => ?_) | refine Fork.mk (fun _ => ?_) (fun _ => ?_) | refine Way.yesG ?_ | refine Way.noG ?_ | refine Way.decG (fun _ => ?_) (fun _ => ?_) | refine Way.ndecG (fun _ => ?_) (fun _ => ?_) | refine Way.mkG (fun _ => ?_) (fun _ => ?_) | with_reducible refine Need.mkG ?_ ?_ | ((with_reducible refine n1 _ _ _ ?_); clear n1 K1) | ((with_reducible refine n1 _ ?_); clear n1 K1) | ((with_reducible refine n1 _ _ ?_); clear n1 K1) | ((with_reducible refine n1 _ _ _ _ ?_); clear n1 K1) | fail)
  all_goals try (first | exact trivial | omega | kernel_rfl | decide | exact And.intro (by omega) (by omega))
  all_goals try dsimp only [Int.toNat_natCast] at *
  all_goals try (first | exact trivial | omega | exact And.intro (by omega) (by omega))
  all_goals first
    | (exact hpre (Or.inl ‹_›))
    | (exact hpre (Or.inr ‹_›))
    | (refine Done.of ?_ (Or.inl rfl)
       show (_, ()) = (agreesF l b m, ())
       unfold agreesF
       simp [*])

theorem find_range (d : deskT.D) (c n : Int) : @LE.le Int _ 0 (findF d c n).1 ∧ @LT.lt Int _ (findF d c n).1 4 := by
  unfold findF
  split
  · rename_i h
    exact tmod4 h.2.1
  · exact ⟨by decide, by decide⟩
theorem tmod2 {n : Int} (h : 0 ≤ n) : 0 ≤ n.tmod 2 ∧ n.tmod 2 < 2 := by
  rw [Int.tmod_eq_emod_of_nonneg h]
  omega

def valF (d : deskT.D) (word : Int) : Int :=
  if 0 ≤ word ∧ word < 32 then
    if (findF d 0 (word.tdiv 2)).2 = true ∧ ((d.1 0).2.1 (findF d 0 (word.tdiv 2)).1.toNat).1 = 3 then ((d.1 0).2.1 (findF d 0 (word.tdiv 2)).1.toNat).2.2.1 (word.tmod 2).toNat else
    if (findF d 1 (word.tdiv 2)).2 = true ∧ ((d.1 1).2.1 (findF d 1 (word.tdiv 2)).1.toNat).1 = 3 then ((d.1 1).2.1 (findF d 1 (word.tdiv 2)).1.toNat).2.2.1 (word.tmod 2).toNat else d.2 word.toNat
  else 0
abbrev valueS : Spec := pureS [deskT, .int] [.int] fun d => (valF d.1 d.2.1, ())
theorem c_Value : Ctr Try.prog 53 valueS := by
  refine ctr_of tabOk (SpecsOk.cons c_isPlace (by kernel_rfl) (SpecsOk.cons c_Find (by kernel_rfl) (SpecsOk.nil _))) Try.func53 rfl _ (Nat.le_of_ble_eq_true rfl) (fun _ _ => rfl) ?_
  rintro nn ⟨d, (word : Int), ⟨⟩⟩ _ _
  refine ⟨200, init_k fun K1 n1 => ?_⟩
  conv => whnf
  refine n1 _ ?_
  clear n1 K1
  repeat' (first | with_reducible refine seq_k fun K1 n1 => ?_ | with_reducible refine seq_nil ?_ | with_reducible refine drw_k fun K1 n1 => ?_ | with_reducible refine drw_nil ?_ ?_ | with_reducible refine run_seq ?_ | with_reducible refine run_skip ?_ | with_reducible refine run_regS ?_ | with_reducible refine run_regD (by kernel_rfl) ?_ ?_ | with_reducible refine inl_k (by with_unfolding_all rfl) (Nat.le_of_ble_eq_true rfl) fun K1 n1 => ?_ | with_reducible refine run_cond ?_ | with_reducible refine run_block ?_ | with_reducible refine run_endb ?_ | with_reducible refine run_exit fun K1 n1 => ?_ | with_reducible refine run_ret fun K1 n1 => ?_ | with_reducible refine run_fin ?_ | with_reducible refine run_inv ?_ | with_reducible refine go_rounds ?_ | ((with_reducible refine Go.mk ?_); (conv => whnf)) | refine Fork.yes ?_ | refine Fork.no ?_ | refine Fork.dec (fun _ => ?_) (fun _ => ?_) | refine Fork.ndec (fun _ => ?_) (fun _ => ?_) | refine Fork.mk (fun _ => ?_) (fun _ => ?_) | refine Way.yesG ?_ | refine Way.noG ?_ | refine Way.decG (fun _ => ?_) (fun _ => ?_) | refine Way.ndecG (fun _ => ?_) (fun _ => ?_) | refine Way.mkG (fun _ => ?_) (fun _ => ?_) | with_reducible refine Need.mkG ?_ ?_ | ((with_reducible refine n1 _ _ _ ?_); clear n1 K1) | ((with_reducible refine n1 _ ?_); clear n1 K1) | ((with_reducible refine n1 _ _ ?_); clear n1 K1) | ((with_reducible refine n1 _ _ _ _ ?_); clear n1 K1) | fail)
  all_goals try (first | exact trivial | omega | kernel_rfl | decide | exact And.intro (by omega) (by omega))
  all_goals try dsimp only [Int.toNat_natCast] at *
  all_goals try (first | exact trivial | omega | exact And.intro (by omega) (by omega))
  · refine Done.of ?_ (Or.inl rfl)
    show (_, ()) = (valF d word, ())
    simp [valF, *]
  · have hz : 0 ≤ word ∧ word < 32 := ‹_›
    have hw : wrap64 (word.tdiv 2) = word.tdiv 2 := wrap_id (by rw [Int.tdiv_eq_ediv_of_nonneg hz.1]; omega)
    have h01 : wrap64 (0 + 1) = 1 := rfl
    refine unroll 3 (rounds_succ ?_)
    repeat' (first | with_reducible refine seq_k fun K1 n1 => ?_ | with_reducible refine seq_nil ?_ | with_reducible refine drw_k fun K1 n1 => ?_ | with_reducible refine drw_nil ?_ ?_ | with_reducible refine run_seq ?_ | with_reducible refine run_skip ?_ | with_reducible refine run_regS ?_ | with_reducible refine run_regD (by kernel_rfl) ?_ ?_ | with_reducible refine inl_k (by with_unfolding_all rfl) (Nat.le_of_ble_eq_true rfl) fun K1 n1 => ?_ | with_reducible refine run_cond ?_ | with_reducible refine run_block ?_ | with_reducible refine run_endb ?_ | with_reducible refine run_exit fun K1 n1 => ?_ | with_reducible refine run_ret fun K1 n1 => ?_ | with_reducible refine run_fin ?_ | with_reducible refine run_inv ?_ | with_reducible refine go_rounds ?_ | ((with_reducible refine Go.mk ?_); (conv => whnf)) | refine Fork.yes ?_ | refine Fork.no ?_ | refine Fork.dec (fun _ => ?_) (fun _ => ?_) | refine Fork.ndec (fun _ => ?_) (fun _ => ?_) | refine Fork.mk (fun _ => ?_) (fun _ => ?_) | refine Way.yesG ?_ | refine Way.noG ?_ | refine Way.decG (fun _ => ?_) (fun _ => ?_) | refine Way.ndecG (fun _ => ?_) (fun _ => ?_) | refine Way.mkG (fun _ => ?_) (fun _ => ?_) | with_reducible refine Need.mkG ?_ ?_ | ((with_reducible refine n1 _ _ _ ?_); clear n1 K1) | ((with_reducible refine n1 _ ?_); clear n1 K1) | ((with_reducible refine n1 _ _ ?_); clear n1 K1) | ((with_reducible refine n1 _ _ _ _ ?_); clear n1 K1) | fail)
    all_goals try (first | exact trivial | omega | kernel_rfl | decide | exact And.intro (by omega) (by omega))
    all_goals try dsimp only [Int.toNat_natCast] at *
    all_goals try (first | exact trivial | omega | exact And.intro (by omega) (by omega))
    all_goals first
      | exact find_range _ _ _
      | exact tmod2 hz.1
      | (refine Done.of ?_ (Or.inl rfl)
         show (_, ()) = (valF d word, ())
         simp only [hw, h01] at *
         simp_all [valF])
end Go.Proofs.Ytjbbgpacijageaa.M
