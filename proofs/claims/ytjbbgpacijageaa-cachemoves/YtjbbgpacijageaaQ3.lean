/- The laws of stage 3, against the document's own answer: what is told. -/
import Derived.Test.YtjbbgpacijageaaR11
import Derived.Test.YtjbbgpacijageaaO1
namespace Go.Proofs.Ytjbbgpacijageaa.M
open Go.RowKit
set_option linter.unusedVariables false
set_option linter.unusedSimpArgs false

theorem zero_goodL : goodD deskT.zero = true := by kernel_rfl
theorem c_keepsL : Ctr Try.prog 48 (lawS []) := by
  refine ctr_of tabOk (SpecsOk.cons c_Own (by kernel_rfl) (SpecsOk.cons c_Write (by kernel_rfl) (SpecsOk.cons c_Value (by kernel_rfl) (SpecsOk.nil _)))) Try.func48 rfl _ (Nat.le_of_ble_eq_true rfl) (fun _ _ => rfl) ?_
  rintro nn ⟨⟩ _ _
  refine ⟨200, init_k fun K1 n1 => ?_⟩
  conv => whnf
  refine n1 _ ?_
  clear n1 K1
  repeat' (first | with_reducible refine seq_k fun K1 n1 => ?_ | with_reducible refine seq_nil ?_ | with_reducible refine drw_k fun K1 n1 => ?_ | with_reducible refine drw_nil ?_ ?_ | with_reducible refine run_seq ?_ | with_reducible refine run_skip ?_ | with_reducible refine run_regS ?_ | with_reducible refine run_regD (by kernel_rfl) ?_ ?_ | with_reducible refine inl_k (by with_unfolding_all rfl) (Nat.le_of_ble_eq_true rfl) fun K1 n1 => ?_ | with_reducible refine inlA_k (by with_unfolding_all rfl) (Nat.le_of_ble_eq_true rfl) fun K1 n1 => ?_ | with_reducible refine run_finA ?_ | with_reducible refine run_cond ?_ | with_reducible refine run_block ?_ | with_reducible refine run_endb ?_ | with_reducible refine run_exit fun K1 n1 => ?_ | with_reducible refine run_ret fun K1 n1 => ?_ | with_reducible refine run_fin ?_ | with_reducible refine run_inv ?_ | with_reducible refine go_rounds ?_ | ((with_reducible refine Go.mk ?_); (conv => whnf)) | refine Fork.yes ?_ | refine Fork.no ?_ | refine Fork.dec (fun _ => ?_) (fun _ => ?_) | refine Fork.ndec (fun _ => ?_) (fun _ => ?_) | refine Fork.mk (fun _ => ?_) (fun _ => ?_) | refine Way.yesG ?_ | refine Way.noG ?_ | refine Way.decG (fun _ => ?_) (fun _ => ?_) | refine Way.ndecG (fun _ => ?_) (fun _ => ?_) | refine Way.mkG (fun _ => ?_) (fun _ => ?_) | with_reducible refine Need.mkG ?_ ?_ | refine AppW.go0 ?_ ?_ | with_reducible refine NilW.goG (fun _ => ?_) ?_ | ((with_reducible refine n1 _ _ _ ?_); clear n1 K1) | ((with_reducible refine n1 _ ?_); clear n1 K1) | ((with_reducible refine n1 _ _ ?_); clear n1 K1) | ((with_reducible refine n1 _ _ _ _ ?_); clear n1 K1) | fail)
  all_goals try (first | exact trivial | omega | kernel_rfl | decide | exact And.intro (by omega) (by omega))
  all_goals try dsimp only [Int.toNat_natCast] at *
  all_goals try (first | exact trivial | omega | exact And.intro (by omega) (by omega))
  refine Done.of ?_ (Or.inl rfl)
  show (_, ()) = (true, ())
  obtain ⟨o1, o2, o3⟩ := ownF_ok zero_goodL 1 3
  obtain ⟨o4, o5, o6⟩ := o3 (by decide) (by decide)
  obtain ⟨w1, w2⟩ := writeF_ok o1 1 (word := 6) (by decide) (v := 9) (by decide) (by decide) o4 o5
  have := w2 6 (by decide)
  rw [if_pos rfl] at this
  exact congrArg (fun b => (b, ())) (decide_eq_true this)
theorem copy_line (nn : Nat) (d : deskT.D) (c : Nat) (hc : c < 2) : ((copyF nn d).1 c).2.1 = (d.1 c).2.1 := by
  have : c = 0 ∨ c = 1 := by omega
  rcases this with rfl | rfl <;> rfl
theorem copy_good (nn : Nat) (d : deskT.D) : goodD (copyF nn d) = goodD d := by
  have h : ∀ c < 2, ∀ w, okAt (copyF nn d) c w = okAt d c w := fun c hc w => by
    unfold okAt
    rw [copy_line nn d c hc, copy_line nn d (1 - c) (by omega)]
    rfl
  unfold goodD
  simp only [List.range_succ, List.range_zero, List.nil_append, List.all_append, List.all_cons, List.all_nil, Bool.and_true]
  simp only [h 0 (by decide), h 1 (by decide)]
  rfl
theorem copy_find (nn : Nat) (d : deskT.D) (c n : Int) : findF (copyF nn d) c n = findF d c n := by
  unfold findF
  split
  · rename_i h
    rw [copy_line nn d c.toNat (by omega)]
  · rfl
theorem copy_val (nn : Nat) (d : deskT.D) (word : Int) : valF (copyF nn d) word = valF d word := by
  unfold valF
  rw [copy_find, copy_find, copy_line nn d 0 (by decide), copy_line nn d 1 (by decide)]
  rfl
theorem c_CacheTells : Ctr Try.prog 13 (lawZ [deskT, .int, .int, .int]) := by
  refine ctr_of tabOk (SpecsOk.cons c_keepsL (by kernel_rfl) (SpecsOk.cons c_CopyDesk (by kernel_rfl) (SpecsOk.cons c_GoodLine (by kernel_rfl) (SpecsOk.cons c_IsLine (by kernel_rfl) (SpecsOk.cons c_Good (by kernel_rfl) (SpecsOk.cons c_GoodCaches (by kernel_rfl) (SpecsOk.cons c_Find (by kernel_rfl) (SpecsOk.cons c_FindLine (by kernel_rfl) (SpecsOk.cons c_Values (by kernel_rfl) (SpecsOk.cons c_ValueOf (by kernel_rfl) (SpecsOk.cons c_Value (by kernel_rfl) (SpecsOk.nil _)))))))))))) Try.func13 rfl _ (Nat.le_of_ble_eq_true rfl) (fun _ _ => rfl) ?_
  rintro nn ⟨d, (c : Int), (n : Int), (word : Int), ⟨⟩⟩ hpre _
  refine ⟨200, init_k fun K1 n1 => ?_⟩
  conv => whnf
  refine n1 _ ?_
  clear n1 K1
  repeat' (first | with_reducible refine seq_k fun K1 n1 => ?_ | with_reducible refine seq_nil ?_ | with_reducible refine drw_k fun K1 n1 => ?_ | with_reducible refine drw_nil ?_ ?_ | with_reducible refine run_seq ?_ | with_reducible refine run_skip ?_ | with_reducible refine run_regS ?_ | with_reducible refine run_regD (by kernel_rfl) ?_ ?_ | with_reducible refine inl_k (by with_unfolding_all rfl) (Nat.le_of_ble_eq_true rfl) fun K1 n1 => ?_ | with_reducible refine inlA_k (by with_unfolding_all rfl) (Nat.le_of_ble_eq_true rfl) fun K1 n1 => ?_ | with_reducible refine run_finA ?_ | with_reducible refine run_cond ?_ | with_reducible refine run_block ?_ | with_reducible refine run_endb ?_ | with_reducible refine run_exit fun K1 n1 => ?_ | with_reducible refine run_ret fun K1 n1 => ?_ | with_reducible refine run_fin ?_ | with_reducible refine run_inv ?_ | with_reducible refine go_rounds ?_ | ((with_reducible refine Go.mk ?_); (conv => whnf)) | refine Fork.yes ?_ | refine Fork.no ?_ | refine Fork.dec (fun _ => ?_) (fun _ => ?_) | refine Fork.ndec (fun _ => ?_) (fun _ => ?_) | refine Fork.mk (fun _ => ?_) (fun _ => ?_) | refine Way.yesG ?_ | refine Way.noG ?_ | refine Way.decG (fun _ => ?_) (fun _ => ?_) | refine Way.ndecG (fun _ => ?_) (fun _ => ?_) | refine Way.mkG (fun _ => ?_) (fun _ => ?_) | with_reducible refine Need.mkG ?_ ?_ | refine AppW.go0 ?_ ?_ | with_reducible refine NilW.goG (fun _ => ?_) ?_ | ((with_reducible refine n1 _ _ _ ?_); clear n1 K1) | ((with_reducible refine n1 _ ?_); clear n1 K1) | ((with_reducible refine n1 _ _ ?_); clear n1 K1) | ((with_reducible refine n1 _ _ _ _ ?_); clear n1 K1) | fail)
  all_goals try (first | exact trivial | omega | kernel_rfl | decide | exact And.intro (by omega) (by omega))
  all_goals try dsimp only [Int.toNat_natCast] at *
  all_goals try (first | exact trivial | omega | exact And.intro (by omega) (by omega))
  · exact hpre.1
  · refine run_loop (loop_fam (ι := Nat) (fun k => [(24, .a (.of (.leaf .int (k : Int)))), (23, .a (.of (.leaf (.arr 2 coreT) d.1))), (9, .a (.ptr 1 0 [] deskT)), (4, .a (.ptr 0 0 [] deskT)), (1, .a (.of (.leaf .int c))), (2, .a (.of (.leaf .int n))), (3, .a (.of (.leaf .int word)))]) (fun _ => [.leaf deskT d, .leaf deskT (copyF nn d)]) (fun _ => ⟨nn + 2, []⟩) (fun k => 2 - k) (fun k => k ≤ 2) ?_ ?_)
    · exact ⟨0, Nat.zero_le _, ⟨rfl, rfl, rfl, rfl, rfl, rfl, rfl, trivial⟩, rfl, 2, Nat.le_refl _, rfl, rfl⟩
    · rintro k hk
      repeat' (first | with_reducible refine seq_k fun K1 n1 => ?_ | with_reducible refine seq_nil ?_ | with_reducible refine drw_k fun K1 n1 => ?_ | with_reducible refine drw_nil ?_ ?_ | with_reducible refine run_seq ?_ | with_reducible refine run_skip ?_ | with_reducible refine run_regS ?_ | with_reducible refine run_regD (by kernel_rfl) ?_ ?_ | with_reducible refine inl_k (by with_unfolding_all rfl) (Nat.le_of_ble_eq_true rfl) fun K1 n1 => ?_ | with_reducible refine inlA_k (by with_unfolding_all rfl) (Nat.le_of_ble_eq_true rfl) fun K1 n1 => ?_ | with_reducible refine run_finA ?_ | with_reducible refine run_cond ?_ | with_reducible refine run_block ?_ | with_reducible refine run_endb ?_ | with_reducible refine run_exit fun K1 n1 => ?_ | with_reducible refine run_ret fun K1 n1 => ?_ | with_reducible refine run_fin ?_ | with_reducible refine run_inv ?_ | with_reducible refine go_rounds ?_ | ((with_reducible refine Go.mk ?_); (conv => whnf)) | refine Fork.yes ?_ | refine Fork.no ?_ | refine Fork.dec (fun _ => ?_) (fun _ => ?_) | refine Fork.ndec (fun _ => ?_) (fun _ => ?_) | refine Fork.mk (fun _ => ?_) (fun _ => ?_) | refine Way.yesG ?_ | refine Way.noG ?_ | refine Way.decG (fun _ => ?_) (fun _ => ?_) | refine Way.ndecG (fun _ => ?_) (fun _ => ?_) | refine Way.mkG (fun _ => ?_) (fun _ => ?_) | with_reducible refine Need.mkG ?_ ?_ | refine AppW.go0 ?_ ?_ | with_reducible refine NilW.goG (fun _ => ?_) ?_ | ((with_reducible refine n1 _ _ _ ?_); clear n1 K1) | ((with_reducible refine n1 _ ?_); clear n1 K1) | ((with_reducible refine n1 _ _ ?_); clear n1 K1) | ((with_reducible refine n1 _ _ _ _ ?_); clear n1 K1) | fail)
      all_goals try (first | exact trivial | omega | kernel_rfl | decide | exact And.intro (by omega) (by omega))
      all_goals try dsimp only [Int.toNat_natCast] at *
      all_goals try (first | exact trivial | omega | exact And.intro (by omega) (by omega))
      · refine run_loop (loop_fam (ι := Nat) (fun j => [(29, .a (.of (.leaf .int (j : Int)))), (28, .a (.of (.leaf (.arr 4 lineT) (d.1 k).2.1))), (24, .a (.of (.leaf .int (k : Int)))), (23, .a (.of (.leaf (.arr 2 coreT) d.1))), (9, .a (.ptr 1 0 [] deskT)), (4, .a (.ptr 0 0 [] deskT)), (1, .a (.of (.leaf .int c))), (2, .a (.of (.leaf .int n))), (3, .a (.of (.leaf .int word)))]) (fun _ => [.leaf deskT d, .leaf deskT (copyF nn d)]) (fun _ => ⟨nn + 2, []⟩) (fun j => 4 - j) (fun j => j ≤ 4) ?_ ?_)
        · exact ⟨0, Nat.zero_le _, ⟨rfl, rfl, rfl, rfl, rfl, rfl, rfl, rfl, rfl, trivial⟩, rfl, 2, Nat.le_add_left _ _, rfl, rfl⟩
        · rintro j hj
          repeat' (first | with_reducible refine seq_k fun K1 n1 => ?_ | with_reducible refine seq_nil ?_ | with_reducible refine drw_k fun K1 n1 => ?_ | with_reducible refine drw_nil ?_ ?_ | with_reducible refine run_seq ?_ | with_reducible refine run_skip ?_ | with_reducible refine run_regS ?_ | with_reducible refine run_regD (by kernel_rfl) ?_ ?_ | with_reducible refine inl_k (by with_unfolding_all rfl) (Nat.le_of_ble_eq_true rfl) fun K1 n1 => ?_ | with_reducible refine inlA_k (by with_unfolding_all rfl) (Nat.le_of_ble_eq_true rfl) fun K1 n1 => ?_ | with_reducible refine run_finA ?_ | with_reducible refine run_cond ?_ | with_reducible refine run_block ?_ | with_reducible refine run_endb ?_ | with_reducible refine run_exit fun K1 n1 => ?_ | with_reducible refine run_ret fun K1 n1 => ?_ | with_reducible refine run_fin ?_ | with_reducible refine run_inv ?_ | with_reducible refine go_rounds ?_ | ((with_reducible refine Go.mk ?_); (conv => whnf)) | refine Fork.yes ?_ | refine Fork.no ?_ | refine Fork.dec (fun _ => ?_) (fun _ => ?_) | refine Fork.ndec (fun _ => ?_) (fun _ => ?_) | refine Fork.mk (fun _ => ?_) (fun _ => ?_) | refine Way.yesG ?_ | refine Way.noG ?_ | refine Way.decG (fun _ => ?_) (fun _ => ?_) | refine Way.ndecG (fun _ => ?_) (fun _ => ?_) | refine Way.mkG (fun _ => ?_) (fun _ => ?_) | with_reducible refine Need.mkG ?_ ?_ | refine AppW.go0 ?_ ?_ | with_reducible refine NilW.goG (fun _ => ?_) ?_ | ((with_reducible refine n1 _ _ _ ?_); clear n1 K1) | ((with_reducible refine n1 _ ?_); clear n1 K1) | ((with_reducible refine n1 _ _ ?_); clear n1 K1) | ((with_reducible refine n1 _ _ _ _ ?_); clear n1 K1) | fail)
          all_goals try (first | exact trivial | omega | kernel_rfl | decide | exact And.intro (by omega) (by omega))
          all_goals try dsimp only [Int.toNat_natCast] at *
          all_goals try (first | exact trivial | omega | exact And.intro (by omega) (by omega))
          · exfalso
            rename_i h
            exact h rfl
          · refine ⟨j + 1, by omega, by show j + 1 ≤ 4; omega, ⟨?_, rfl, rfl, rfl, rfl, rfl, rfl, rfl, rfl, trivial⟩, rfl, 2, Nat.le_add_left _ _, rfl, rfl⟩
            rw [← wrap_succ j (by omega)]
            rfl
          · refine ⟨k + 1, by omega, by show k + 1 ≤ 2; omega, ⟨?_, rfl, rfl, rfl, rfl, rfl, rfl, trivial⟩, rfl, 2, Nat.le_refl _, rfl, rfl⟩
            rw [← wrap_succ k (by omega)]
            rfl
      · exfalso
        rename_i h
        exact h (copy_good nn d)
      · exact Done.of rfl (Or.inl rfl)
      · refine run_loop (loop_fam (ι := Nat) (fun j => [(70, .a (.of (.leaf .int (j : Int)))), (18, .a (.ptr 2 0 [] (.arr 32 .int))), (17, .a (.of (.leaf .bool (findF d c n).2))), (16, .a (.of (.leaf .int (findF d c n).1))), (15, .a (.of (.leaf .bool (findF (copyF nn d) c n).2))), (14, .a (.of (.leaf .int (findF (copyF nn d) c n).1))), (9, .a (.ptr 1 0 [] deskT)), (4, .a (.ptr 0 0 [] deskT)), (3, .a (.of (.leaf .int word)))]) (fun _ => [.leaf deskT d, .leaf deskT (copyF nn d), .leaf (.arr 32 .int) fun q => valF (copyF nn d) (q : Int)]) (fun _ => ⟨nn + 2, []⟩) (fun j => 32 - j) (fun j => j ≤ 32) ?_ ?_)
        · exact ⟨0, Nat.zero_le _, ⟨rfl, rfl, rfl, rfl, rfl, rfl, rfl, rfl, rfl, trivial⟩, rfl, 3, Nat.le_refl _, rfl, rfl⟩
        · rintro j hj
          repeat' (first | with_reducible refine seq_k fun K1 n1 => ?_ | with_reducible refine seq_nil ?_ | with_reducible refine drw_k fun K1 n1 => ?_ | with_reducible refine drw_nil ?_ ?_ | with_reducible refine run_seq ?_ | with_reducible refine run_skip ?_ | with_reducible refine run_regS ?_ | with_reducible refine run_regD (by kernel_rfl) ?_ ?_ | with_reducible refine inl_k (by with_unfolding_all rfl) (Nat.le_of_ble_eq_true rfl) fun K1 n1 => ?_ | with_reducible refine inlA_k (by with_unfolding_all rfl) (Nat.le_of_ble_eq_true rfl) fun K1 n1 => ?_ | with_reducible refine run_finA ?_ | with_reducible refine run_cond ?_ | with_reducible refine run_block ?_ | with_reducible refine run_endb ?_ | with_reducible refine run_exit fun K1 n1 => ?_ | with_reducible refine run_ret fun K1 n1 => ?_ | with_reducible refine run_fin ?_ | with_reducible refine run_inv ?_ | with_reducible refine go_rounds ?_ | ((with_reducible refine Go.mk ?_); (conv => whnf)) | refine Fork.yes ?_ | refine Fork.no ?_ | refine Fork.dec (fun _ => ?_) (fun _ => ?_) | refine Fork.ndec (fun _ => ?_) (fun _ => ?_) | refine Fork.mk (fun _ => ?_) (fun _ => ?_) | refine Way.yesG ?_ | refine Way.noG ?_ | refine Way.decG (fun _ => ?_) (fun _ => ?_) | refine Way.ndecG (fun _ => ?_) (fun _ => ?_) | refine Way.mkG (fun _ => ?_) (fun _ => ?_) | with_reducible refine Need.mkG ?_ ?_ | refine AppW.go0 ?_ ?_ | with_reducible refine NilW.goG (fun _ => ?_) ?_ | ((with_reducible refine n1 _ _ _ ?_); clear n1 K1) | ((with_reducible refine n1 _ ?_); clear n1 K1) | ((with_reducible refine n1 _ _ ?_); clear n1 K1) | ((with_reducible refine n1 _ _ _ _ ?_); clear n1 K1) | fail)
          all_goals try (first | exact trivial | omega | kernel_rfl | decide | exact And.intro (by omega) (by omega))
          all_goals try dsimp only [Int.toNat_natCast] at *
          all_goals try (first | exact trivial | omega | exact And.intro (by omega) (by omega))
          · exfalso
            rename_i h
            exact h (copy_val nn d _)
          · refine ⟨j + 1, by omega, by show j + 1 ≤ 32; omega, ⟨?_, rfl, rfl, rfl, rfl, rfl, rfl, rfl, rfl, trivial⟩, rfl, 3, Nat.le_refl _, rfl, rfl⟩
            rw [← wrap_succ j (by omega)]
            rfl
          · rw [decide_eq_true (copy_val nn d word)]
            exact Done.of rfl (Or.inl rfl)
          · exfalso
            rename_i h
            exact h (congrArg Prod.snd (copy_find nn d c n))
          · exfalso
            rename_i h
            exact h (congrArg Prod.fst (copy_find nn d c n))
end Go.Proofs.Ytjbbgpacijageaa.M
