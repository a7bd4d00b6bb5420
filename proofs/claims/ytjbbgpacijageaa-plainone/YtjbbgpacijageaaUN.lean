/- Several texts in one. -/
import Derived.Test.YtjbbgpacijageaaUF
/- Package plain: one instruction. -/
namespace Go.Proofs.Ytjbbgpacijageaa.M
open Go.RowKit
set_option linter.unusedVariables false
set_option linter.unusedSimpArgs false

abbrev memT : Ty := .arr 32 .int
abbrev stT : Ty := .pair plainT (.one memT)
def goodM (m : Nat → Int) : Bool := (ownL .int m 0 32).all isW
theorem ownL_snoc (m : Nat → Int) (k : Nat) : (ownL .int m 0 (k + 1)).all isW = ((ownL .int m 0 k).all isW && isW (m k)) := by
  unfold ownL
  rw [List.range_succ, List.map_append, List.all_append]
  simp
theorem goodM_no {m : Nat → Int} {k : Nat} (hk : k < 32) (h : isW (m k) = false) : goodM m = false := by
  unfold goodM
  rw [List.all_eq_false]
  refine ⟨m k, ?_, by rw [h]; decide⟩
  simp only [ownL, List.mem_map, List.mem_range]
  exact ⟨k, hk, by rw [Nat.zero_add]⟩
abbrev goodMS : Spec := pureS [memT] [.bool] fun d => (goodM d.1, ())
theorem c_plainGood : Ctr Try.prog 42 goodMS := by
  refine ctr_of tabOk (SpecsOk.cons c_codeIsWord (by kernel_rfl) (SpecsOk.nil _)) Try.func42 rfl _ (Nat.le_of_ble_eq_true rfl) (fun _ _ => rfl) ?_
  rintro nn ⟨m, ⟨⟩⟩ _ _
  refine ⟨200, init_k fun K1 n1 => ?_⟩
  conv => whnf
  refine n1 _ ?_
  clear n1 K1
  repeat' (first | with_reducible refine seq_k fun K1 n1 => ?_ | with_reducible refine seq_nil ?_ | with_reducible refine drw_k fun K1 n1 => ?_ | with_reducible refine drw_nil ?_ ?_ | with_reducible refine run_seq ?_ | with_reducible refine run_skip ?_ | with_reducible refine run_regS ?_ | with_reducible refine run_regD (by kernel_rfl) ?_ ?_ | with_reducible refine inl_k (by with_unfolding_all rfl) (Nat.le_of_ble_eq_true rfl) fun K1 n1 => ?_ | with_reducible refine inlA_k (by with_unfolding_all rfl) (Nat.le_of_ble_eq_true rfl) fun K1 n1 => ?_ | with_reducible refine run_finA ?_ | with_reducible refine run_cond ?_ | with_reducible refine run_block ?_ | with_reducible refine run_endb ?_ | with_reducible refine run_exit fun K1 n1 => ?_ | with_reducible refine run_ret fun K1 n1 => ?_ | with_reducible refine run_fin ?_ | with_reducible refine run_inv ?_ | with_reducible refine go_rounds ?_ | ((with_reducible refine Go.mk ?_); (conv => whnf)) | refine Fork.yes ?_ | refine Fork.no ?_ | refine Fork.dec (fun _ => ?_) (fun _ => ?_) | refine Fork.ndec (fun _ => ?_) (fun _ => ?_) | refine Fork.mk (fun _ => ?_) (fun _ => ?_) | refine Way.yesG ?_ | refine Way.noG ?_ | refine Way.decG (fun _ => ?_) (fun _ => ?_) | refine Way.ndecG (fun _ => ?_) (fun _ => ?_) | refine Way.mkG (fun _ => ?_) (fun _ => ?_) | with_reducible refine Need.mkG ?_ ?_ | refine AppW.go0 ?_ ?_ | with_reducible refine NilW.goG (fun _ => ?_) ?_ | ((with_reducible refine n1 _ _ _ ?_); clear n1 K1) | ((with_reducible refine n1 _ ?_); clear n1 K1) | ((with_reducible refine n1 _ _ ?_); clear n1 K1) | ((with_reducible refine n1 _ _ _ _ ?_); clear n1 K1) | fail)
  all_goals try (first | exact trivial | omega | kernel_rfl | decide | exact And.intro (by omega) (by omega))
  all_goals try dsimp only [Int.toNat_natCast] at *
  all_goals try (first | exact trivial | omega | exact And.intro (by omega) (by omega))
  refine run_loop (loop_fam (ι := Nat) (fun k => [(6, .a (.of (.leaf .int (k : Int)))), (5, .a (.of (.leaf memT m)))]) (fun _ => []) (fun _ => ⟨nn, []⟩) (fun k => 32 - k) (fun k => k ≤ 32 ∧ (ownL .int m 0 k).all isW = true) ?_ ?_)
  · exact ⟨0, ⟨Nat.zero_le _, rfl⟩, ⟨rfl, rfl, trivial⟩, rfl, 0, Nat.zero_le _, rfl, rfl⟩
  · rintro k ⟨hk, hok⟩
    repeat' (first | with_reducible refine seq_k fun K1 n1 => ?_ | with_reducible refine seq_nil ?_ | with_reducible refine drw_k fun K1 n1 => ?_ | with_reducible refine drw_nil ?_ ?_ | with_reducible refine run_seq ?_ | with_reducible refine run_skip ?_ | with_reducible refine run_regS ?_ | with_reducible refine run_regD (by kernel_rfl) ?_ ?_ | with_reducible refine inl_k (by with_unfolding_all rfl) (Nat.le_of_ble_eq_true rfl) fun K1 n1 => ?_ | with_reducible refine inlA_k (by with_unfolding_all rfl) (Nat.le_of_ble_eq_true rfl) fun K1 n1 => ?_ | with_reducible refine run_finA ?_ | with_reducible refine run_cond ?_ | with_reducible refine run_block ?_ | with_reducible refine run_endb ?_ | with_reducible refine run_exit fun K1 n1 => ?_ | with_reducible refine run_ret fun K1 n1 => ?_ | with_reducible refine run_fin ?_ | with_reducible refine run_inv ?_ | with_reducible refine go_rounds ?_ | ((with_reducible refine Go.mk ?_); (conv => whnf)) | refine Fork.yes ?_ | refine Fork.no ?_ | refine Fork.dec (fun _ => ?_) (fun _ => ?_) | refine Fork.ndec (fun _ => ?_) (fun _ => ?_) | refine Fork.mk (fun _ => ?_) (fun _ => ?_) | refine Way.yesG ?_ | refine Way.noG ?_ | refine Way.decG (fun _ => ?_) (fun _ => ?_) | refine Way.ndecG (fun _ => ?_) (fun _ => ?_) | refine Way.mkG (fun _ => ?_) (fun _ => ?_) | with_reducible refine Need.mkG ?_ ?_ | refine AppW.go0 ?_ ?_ | with_reducible refine NilW.goG (fun _ => ?_) ?_ | ((with_reducible refine n1 _ _ _ ?_); clear n1 K1) | ((with_reducible refine n1 _ ?_); clear n1 K1) | ((with_reducible refine n1 _ _ ?_); clear n1 K1) | ((with_reducible refine n1 _ _ _ _ ?_); clear n1 K1) | fail)
    all_goals try (first | exact trivial | omega | kernel_rfl | decide | exact And.intro (by omega) (by omega))
    all_goals try dsimp only [Int.toNat_natCast] at *
    all_goals try (first | exact trivial | omega | exact And.intro (by omega) (by omega))
    · rename_i h1 h2
      refine Done.of ?_ (Or.inl rfl)
      show (_, ()) = (goodM m, ())
      rw [goodM_no (k := k) (by omega) (show isW (m k) = false from decide_eq_false h2)]
    · rename_i h1 h2
      refine ⟨k + 1, by omega, ⟨by omega, ?_⟩, ⟨?_, rfl, trivial⟩, rfl, 0, Nat.zero_le _, rfl, rfl⟩
      · rw [ownL_snoc, hok, show isW (m k) = true from decide_eq_true h2]
        rfl
      · rw [← wrap_succ k (by omega)]
        rfl
    · rename_i h1
      obtain rfl : k = 32 := by omega
      refine Done.of ?_ (Or.inl rfl)
      show (_, ()) = (goodM m, ())
      unfold goodM
      rw [hok]
def readyF (p : plainT.D) : Int := if goodP p = true then (if p.2.2 = true then 4 else 0) else 1
abbrev readyS : Spec := pureS [plainT] [.int] fun d => (readyF d.1, ())
theorem c_ready : Ctr Try.prog 77 readyS := by
  refine ctr_of tabOk (SpecsOk.cons c_GoodPlain (by kernel_rfl) (SpecsOk.nil _)) Try.func77 rfl _ (Nat.le_of_ble_eq_true rfl) (fun _ _ => rfl) ?_
  rintro nn ⟨⟨g, (a : Int), (off : Bool)⟩, ⟨⟩⟩ _ _
  refine ⟨200, init_k fun K1 n1 => ?_⟩
  conv => whnf
  refine n1 _ ?_
  clear n1 K1
  repeat' (first | with_reducible refine seq_k fun K1 n1 => ?_ | with_reducible refine seq_nil ?_ | with_reducible refine drw_k fun K1 n1 => ?_ | with_reducible refine drw_nil ?_ ?_ | with_reducible refine run_seq ?_ | with_reducible refine run_skip ?_ | with_reducible refine run_regS ?_ | with_reducible refine run_regD (by kernel_rfl) ?_ ?_ | with_reducible refine inl_k (by with_unfolding_all rfl) (Nat.le_of_ble_eq_true rfl) fun K1 n1 => ?_ | with_reducible refine inlA_k (by with_unfolding_all rfl) (Nat.le_of_ble_eq_true rfl) fun K1 n1 => ?_ | with_reducible refine run_finA ?_ | with_reducible refine run_cond ?_ | with_reducible refine run_block ?_ | with_reducible refine run_endb ?_ | with_reducible refine run_exit fun K1 n1 => ?_ | with_reducible refine run_ret fun K1 n1 => ?_ | with_reducible refine run_fin ?_ | with_reducible refine run_inv ?_ | with_reducible refine go_rounds ?_ | ((with_reducible refine Go.mk ?_); (conv => whnf)) | refine Fork.yes ?_ | refine Fork.no ?_ | refine Fork.dec (fun _ => ?_) (fun _ => ?_) | refine Fork.ndec (fun _ => ?_) (fun _ => ?_) | refine Fork.mk (fun _ => ?_) (fun _ => ?_) | refine Way.yesG ?_ | refine Way.noG ?_ | refine Way.decG (fun _ => ?_) (fun _ => ?_) | refine Way.ndecG (fun _ => ?_) (fun _ => ?_) | refine Way.mkG (fun _ => ?_) (fun _ => ?_) | with_reducible refine Need.mkG ?_ ?_ | refine AppW.go0 ?_ ?_ | with_reducible refine NilW.goG (fun _ => ?_) ?_ | ((with_reducible refine n1 _ _ _ ?_); clear n1 K1) | ((with_reducible refine n1 _ ?_); clear n1 K1) | ((with_reducible refine n1 _ _ ?_); clear n1 K1) | ((with_reducible refine n1 _ _ _ _ ?_); clear n1 K1) | fail)
  all_goals try (first | exact trivial | omega | kernel_rfl | decide | exact And.intro (by omega) (by omega))
  all_goals try dsimp only [Int.toNat_natCast] at *
  all_goals try (first | exact trivial | omega | exact And.intro (by omega) (by omega))
  all_goals refine Done.of ?_ (Or.inl rfl)
  all_goals (show (_, ()) = (readyF (g, a, off), ()); unfold readyF)
  all_goals simp_all
def readyAtF (p : plainT.D) (m : Nat → Int) : Int := if goodM m = true then readyF p else 1
abbrev readyAtS : Spec := pureS [plainT, memT] [.int] fun d => (readyAtF d.1 d.2.1, ())
theorem c_readyAt : Ctr Try.prog 73 readyAtS := by
  refine ctr_of tabOk (SpecsOk.cons c_plainGood (by kernel_rfl) (SpecsOk.cons c_ready (by kernel_rfl) (SpecsOk.nil _))) Try.func73 rfl _ (Nat.le_of_ble_eq_true rfl) (fun _ _ => rfl) ?_
  rintro nn ⟨p, m, ⟨⟩⟩ _ _
  refine ⟨200, init_k fun K1 n1 => ?_⟩
  conv => whnf
  refine n1 _ ?_
  clear n1 K1
  repeat' (first | with_reducible refine seq_k fun K1 n1 => ?_ | with_reducible refine seq_nil ?_ | with_reducible refine drw_k fun K1 n1 => ?_ | with_reducible refine drw_nil ?_ ?_ | with_reducible refine run_seq ?_ | with_reducible refine run_skip ?_ | with_reducible refine run_regS ?_ | with_reducible refine run_regD (by kernel_rfl) ?_ ?_ | with_reducible refine inl_k (by with_unfolding_all rfl) (Nat.le_of_ble_eq_true rfl) fun K1 n1 => ?_ | with_reducible refine inlA_k (by with_unfolding_all rfl) (Nat.le_of_ble_eq_true rfl) fun K1 n1 => ?_ | with_reducible refine run_finA ?_ | with_reducible refine run_cond ?_ | with_reducible refine run_block ?_ | with_reducible refine run_endb ?_ | with_reducible refine run_exit fun K1 n1 => ?_ | with_reducible refine run_ret fun K1 n1 => ?_ | with_reducible refine run_fin ?_ | with_reducible refine run_inv ?_ | with_reducible refine go_rounds ?_ | ((with_reducible refine Go.mk ?_); (conv => whnf)) | refine Fork.yes ?_ | refine Fork.no ?_ | refine Fork.dec (fun _ => ?_) (fun _ => ?_) | refine Fork.ndec (fun _ => ?_) (fun _ => ?_) | refine Fork.mk (fun _ => ?_) (fun _ => ?_) | refine Way.yesG ?_ | refine Way.noG ?_ | refine Way.decG (fun _ => ?_) (fun _ => ?_) | refine Way.ndecG (fun _ => ?_) (fun _ => ?_) | refine Way.mkG (fun _ => ?_) (fun _ => ?_) | with_reducible refine Need.mkG ?_ ?_ | refine AppW.go0 ?_ ?_ | with_reducible refine NilW.goG (fun _ => ?_) ?_ | ((with_reducible refine n1 _ _ _ ?_); clear n1 K1) | ((with_reducible refine n1 _ ?_); clear n1 K1) | ((with_reducible refine n1 _ _ ?_); clear n1 K1) | ((with_reducible refine n1 _ _ _ _ ?_); clear n1 K1) | fail)
  all_goals try (first | exact trivial | omega | kernel_rfl | decide | exact And.intro (by omega) (by omega))
  all_goals try dsimp only [Int.toNat_natCast] at *
  all_goals try (first | exact trivial | omega | exact And.intro (by omega) (by omega))
  all_goals refine Done.of ?_ (Or.inl rfl)
  all_goals (show (_, ()) = (readyAtF p m, ()); unfold readyAtF)
  all_goals simp_all
def touchF (s : stT.D) (i : instrT.D) : stT.D × Bool :=
  if wordF s.1 i < 32 then ((nextF (if i.1 ≠ 6 then putF s.1 i.2.1 (s.2 (wordF s.1 i).toNat) else s.1), if i.1 ≠ 5 then updA s.2 (wordF s.1 i).toNat (getF s.1 i.2.1) else s.2), true) else (s, false)
abbrev touchS : Spec := pureS [stT, instrT] [stT, .bool] fun d => ((touchF d.1 d.2.1).1, (touchF d.1 d.2.1).2, ())
theorem word_rng {p : plainT.D} {i : instrT.D} (h : wordF p i < 32) : @LE.le Int _ 0 (wordF p i) ∧ @LT.lt Int _ (wordF p i) 32 := ⟨(wd_rng _).1, h⟩
theorem c_touched : Ctr Try.prog 93 touchS := by
  refine ctr_of tabOk (SpecsOk.cons c_Word (by kernel_rfl) (SpecsOk.cons c_Get (by kernel_rfl) (SpecsOk.cons c_Put (by kernel_rfl) (SpecsOk.cons c_Next (by kernel_rfl) (SpecsOk.nil _))))) Try.func93 rfl _ (Nat.le_of_ble_eq_true rfl) (fun _ _ => rfl) ?_
  rintro nn ⟨⟨p, m⟩, i, ⟨⟩⟩ _ _
  refine ⟨200, init_k fun K1 n1 => ?_⟩
  conv => whnf
  refine n1 _ ?_
  clear n1 K1
  repeat' (first | with_reducible refine seq_k fun K1 n1 => ?_ | with_reducible refine seq_nil ?_ | with_reducible refine drw_k fun K1 n1 => ?_ | with_reducible refine drw_nil ?_ ?_ | with_reducible refine run_seq ?_ | with_reducible refine run_skip ?_ | with_reducible refine run_regS ?_ | with_reducible refine run_regD (by kernel_rfl) ?_ ?_ | with_reducible refine inl_k (by with_unfolding_all rfl) (Nat.le_of_ble_eq_true rfl) fun K1 n1 => ?_ | with_reducible refine inlA_k (by with_unfolding_all rfl) (Nat.le_of_ble_eq_true rfl) fun K1 n1 => ?_ | with_reducible refine run_finA ?_ | with_reducible refine run_cond ?_ | with_reducible refine run_block ?_ | with_reducible refine run_endb ?_ | with_reducible refine run_exit fun K1 n1 => ?_ | with_reducible refine run_ret fun K1 n1 => ?_ | with_reducible refine run_fin ?_ | with_reducible refine run_inv ?_ | with_reducible refine go_rounds ?_ | ((with_reducible refine Go.mk ?_); (conv => whnf)) | refine Fork.yes ?_ | refine Fork.no ?_ | refine Fork.dec (fun _ => ?_) (fun _ => ?_) | refine Fork.ndec (fun _ => ?_) (fun _ => ?_) | refine Fork.mk (fun _ => ?_) (fun _ => ?_) | refine Way.yesG ?_ | refine Way.noG ?_ | refine Way.decG (fun _ => ?_) (fun _ => ?_) | refine Way.ndecG (fun _ => ?_) (fun _ => ?_) | refine Way.mkG (fun _ => ?_) (fun _ => ?_) | with_reducible refine Need.mkG ?_ ?_ | refine AppW.go0 ?_ ?_ | with_reducible refine NilW.goG (fun _ => ?_) ?_ | ((with_reducible refine n1 _ _ _ ?_); clear n1 K1) | ((with_reducible refine n1 _ ?_); clear n1 K1) | ((with_reducible refine n1 _ _ ?_); clear n1 K1) | ((with_reducible refine n1 _ _ _ _ ?_); clear n1 K1) | fail)
  all_goals try (first | exact trivial | omega | kernel_rfl | decide | exact And.intro (by omega) (by omega))
  all_goals try dsimp only [Int.toNat_natCast] at *
  all_goals try (first | exact trivial | omega | exact And.intro (by omega) (by omega))
  all_goals first
    | exact word_rng ‹_›
    | (refine Done.of ?_ (Or.inl rfl)
       show (_, _, ()) = ((touchF (p, m) i).1, (touchF (p, m) i).2, ())
       unfold touchF
       first
         | (rw [if_neg ‹_›]; done)
         | simp_all)
def doneF (s : stT.D) (i : instrT.D) : stT.D × Bool :=
  if i.1 = 5 ∨ i.1 = 6 ∨ i.1 = 7 then touchF s i else (((aloneF s.1 i).1, s.2), decide ((aloneF s.1 i).2 = 0))
abbrev doneS : Spec := pureS [stT, instrT] [stT, .bool] fun d => ((doneF d.1 d.2.1).1, (doneF d.1 d.2.1).2, ())
theorem c_done : Ctr Try.prog 74 doneS := by
  refine ctr_of tabOk (SpecsOk.cons c_touched (by kernel_rfl) (SpecsOk.cons c_Alone (by kernel_rfl) (SpecsOk.nil _))) Try.func74 rfl _ (Nat.le_of_ble_eq_true rfl) (fun _ _ => rfl) ?_
  rintro nn ⟨⟨p, m⟩, i, ⟨⟩⟩ _ _
  refine ⟨200, init_k fun K1 n1 => ?_⟩
  conv => whnf
  refine n1 _ ?_
  clear n1 K1
  repeat' (first | with_reducible refine seq_k fun K1 n1 => ?_ | with_reducible refine seq_nil ?_ | with_reducible refine drw_k fun K1 n1 => ?_ | with_reducible refine drw_nil ?_ ?_ | with_reducible refine run_seq ?_ | with_reducible refine run_skip ?_ | with_reducible refine run_regS ?_ | with_reducible refine run_regD (by kernel_rfl) ?_ ?_ | with_reducible refine inl_k (by with_unfolding_all rfl) (Nat.le_of_ble_eq_true rfl) fun K1 n1 => ?_ | with_reducible refine inlA_k (by with_unfolding_all rfl) (Nat.le_of_ble_eq_true rfl) fun K1 n1 => ?_ | with_reducible refine run_finA ?_ | with_reducible refine run_cond ?_ | with_reducible refine run_block ?_ | with_reducible refine run_endb ?_ | with_reducible refine run_exit fun K1 n1 => ?_ | with_reducible refine run_ret fun K1 n1 => ?_ | with_reducible refine run_fin ?_ | with_reducible refine run_inv ?_ | with_reducible refine go_rounds ?_ | ((with_reducible refine Go.mk ?_); (conv => whnf)) | refine Fork.yes ?_ | refine Fork.no ?_ | refine Fork.dec (fun _ => ?_) (fun _ => ?_) | refine Fork.ndec (fun _ => ?_) (fun _ => ?_) | refine Fork.mk (fun _ => ?_) (fun _ => ?_) | refine Way.yesG ?_ | refine Way.noG ?_ | refine Way.decG (fun _ => ?_) (fun _ => ?_) | refine Way.ndecG (fun _ => ?_) (fun _ => ?_) | refine Way.mkG (fun _ => ?_) (fun _ => ?_) | with_reducible refine Need.mkG ?_ ?_ | refine AppW.go0 ?_ ?_ | with_reducible refine NilW.goG (fun _ => ?_) ?_ | ((with_reducible refine n1 _ _ _ ?_); clear n1 K1) | ((with_reducible refine n1 _ ?_); clear n1 K1) | ((with_reducible refine n1 _ _ ?_); clear n1 K1) | ((with_reducible refine n1 _ _ _ _ ?_); clear n1 K1) | fail)
  all_goals try (first | exact trivial | omega | kernel_rfl | decide | exact And.intro (by omega) (by omega))
  all_goals try dsimp only [Int.toNat_natCast] at *
  all_goals try (first | exact trivial | omega | exact And.intro (by omega) (by omega))
  all_goals
    refine Done.of ?_ (Or.inl rfl)
    show (_, _, ()) = ((doneF (p, m) i).1, (doneF (p, m) i).2, ())
    unfold doneF
    simp_all
def oneF (l : List instrT.D) (p : plainT.D) (m : Nat → Int) : plainT.D × (Nat → Int) × Int :=
  if readyAtF p m = 0 then
    if (fetchF l p).1 = 9 then (p, m, 3) else
    if (doneF (p, m) (fetchF l p)).2 = true then ((doneF (p, m) (fetchF l p)).1.1, (doneF (p, m) (fetchF l p)).1.2, 0) else ((p.1, p.2.1, true), m, 0)
  else (p, m, readyAtF p m)
abbrev oneS : Spec := pureS [.lst instrT, plainT, memT] [plainT, memT, .int] fun d => ((oneF d.1.2 d.2.1 d.2.2.1).1, (oneF d.1.2 d.2.1 d.2.2.1).2.1, (oneF d.1.2 d.2.1 d.2.2.1).2.2, ())
theorem c_One : Ctr Try.prog 31 oneS := by
  refine ctr_of tabOk (SpecsOk.cons c_readyAt (by kernel_rfl) (SpecsOk.cons c_Fetch (by kernel_rfl) (SpecsOk.cons c_done (by kernel_rfl) (SpecsOk.nil _)))) Try.func31 rfl _ (Nat.le_of_ble_eq_true rfl) (fun _ _ => rfl) ?_
  rintro nn ⟨⟨hd, xs⟩, ⟨g, (a : Int), (off : Bool)⟩, m, ⟨⟩⟩ _ _
  refine ⟨200, init_k fun K1 n1 => ?_⟩
  conv => whnf
  refine n1 _ ?_
  clear n1 K1
  repeat' (first | with_reducible refine seq_k fun K1 n1 => ?_ | with_reducible refine seq_nil ?_ | with_reducible refine drw_k fun K1 n1 => ?_ | with_reducible refine drw_nil ?_ ?_ | with_reducible refine run_seq ?_ | with_reducible refine run_skip ?_ | with_reducible refine run_regS ?_ | with_reducible refine run_regD (by kernel_rfl) ?_ ?_ | with_reducible refine inl_k (by with_unfolding_all rfl) (Nat.le_of_ble_eq_true rfl) fun K1 n1 => ?_ | with_reducible refine inlA_k (by with_unfolding_all rfl) (Nat.le_of_ble_eq_true rfl) fun K1 n1 => ?_ | with_reducible refine run_finA ?_ | with_reducible refine run_cond ?_ | with_reducible refine run_block ?_ | with_reducible refine run_endb ?_ | with_reducible refine run_exit fun K1 n1 => ?_ | with_reducible refine run_ret fun K1 n1 => ?_ | with_reducible refine run_fin ?_ | with_reducible refine run_inv ?_ | with_reducible refine go_rounds ?_ | ((with_reducible refine Go.mk ?_); (conv => whnf)) | refine Fork.yes ?_ | refine Fork.no ?_ | refine Fork.dec (fun _ => ?_) (fun _ => ?_) | refine Fork.ndec (fun _ => ?_) (fun _ => ?_) | refine Fork.mk (fun _ => ?_) (fun _ => ?_) | refine Way.yesG ?_ | refine Way.noG ?_ | refine Way.decG (fun _ => ?_) (fun _ => ?_) | refine Way.ndecG (fun _ => ?_) (fun _ => ?_) | refine Way.mkG (fun _ => ?_) (fun _ => ?_) | with_reducible refine Need.mkG ?_ ?_ | refine AppW.go0 ?_ ?_ | with_reducible refine NilW.goG (fun _ => ?_) ?_ | ((with_reducible refine n1 _ _ _ ?_); clear n1 K1) | ((with_reducible refine n1 _ ?_); clear n1 K1) | ((with_reducible refine n1 _ _ ?_); clear n1 K1) | ((with_reducible refine n1 _ _ _ _ ?_); clear n1 K1) | fail)
  all_goals try (first | exact trivial | omega | kernel_rfl | decide | exact And.intro (by omega) (by omega))
  all_goals try dsimp only [Int.toNat_natCast] at *
  all_goals try (first | exact trivial | omega | exact And.intro (by omega) (by omega))
  all_goals
    refine Done.of ?_ (Or.inl rfl)
    show (_, _, _, ()) = ((oneF xs (g, a, off) m).1, (oneF xs (g, a, off) m).2.1, (oneF xs (g, a, off) m).2.2, ())
    unfold oneF
    simp_all
end Go.Proofs.Ytjbbgpacijageaa.M

/- Package plain: transactions, records. -/
namespace Go.Proofs.Ytjbbgpacijageaa.M
open Go.RowKit
set_option linter.unusedVariables false
set_option linter.unusedSimpArgs false

def insideF (s : stT.D) (i : instrT.D) (deep : Int) : stT.D × Int × Bool :=
  if i.1 = 9 then ((nextF s.1, s.2), wrap64 (deep + 1), decide (deep < 3)) else
  if i.1 = 10 then ((nextF s.1, s.2), wrap64 (deep - 1), true) else
  if i.1 = 11 ∨ i.1 = 12 then (s, deep, false) else ((doneF s i).1, deep, (doneF s i).2)
abbrev insideS : Spec := pureS [stT, instrT, .int] [stT, .int, .bool] fun d => ((insideF d.1 d.2.1 d.2.2.1).1, (insideF d.1 d.2.1 d.2.2.1).2.1, (insideF d.1 d.2.1 d.2.2.1).2.2, ())
theorem c_inside : Ctr Try.prog 78 insideS := by
  refine ctr_of tabOk (SpecsOk.cons c_Next (by kernel_rfl) (SpecsOk.cons c_done (by kernel_rfl) (SpecsOk.nil _))) Try.func78 rfl _ (Nat.le_of_ble_eq_true rfl) (fun _ _ => rfl) ?_
  rintro nn ⟨⟨p, m⟩, i, (deep : Int), ⟨⟩⟩ _ _
  refine ⟨200, init_k fun K1 n1 => ?_⟩
  conv => whnf
  refine n1 _ ?_
  clear n1 K1
  repeat' (first | with_reducible refine seq_k fun K1 n1 => ?_ | with_reducible refine seq_nil ?_ | with_reducible refine drw_k fun K1 n1 => ?_ | with_reducible refine drw_nil ?_ ?_ | with_reducible refine run_seq ?_ | with_reducible refine run_skip ?_ | with_reducible refine run_regS ?_ | with_reducible refine run_regD (by kernel_rfl) ?_ ?_ | with_reducible refine inl_k (by with_unfolding_all rfl) (Nat.le_of_ble_eq_true rfl) fun K1 n1 => ?_ | with_reducible refine inlA_k (by with_unfolding_all rfl) (Nat.le_of_ble_eq_true rfl) fun K1 n1 => ?_ | with_reducible refine run_finA ?_ | with_reducible refine run_cond ?_ | with_reducible refine run_block ?_ | with_reducible refine run_endb ?_ | with_reducible refine run_exit fun K1 n1 => ?_ | with_reducible refine run_ret fun K1 n1 => ?_ | with_reducible refine run_fin ?_ | with_reducible refine run_inv ?_ | with_reducible refine go_rounds ?_ | ((with_reducible refine Go.mk ?_); (conv => whnf)) | refine Fork.yes ?_ | refine Fork.no ?_ | refine Fork.dec (fun _ => ?_) (fun _ => ?_) | refine Fork.ndec (fun _ => ?_) (fun _ => ?_) | refine Fork.mk (fun _ => ?_) (fun _ => ?_) | refine Way.yesG ?_ | refine Way.noG ?_ | refine Way.decG (fun _ => ?_) (fun _ => ?_) | refine Way.ndecG (fun _ => ?_) (fun _ => ?_) | refine Way.mkG (fun _ => ?_) (fun _ => ?_) | with_reducible refine Need.mkG ?_ ?_ | refine AppW.go0 ?_ ?_ | with_reducible refine NilW.goG (fun _ => ?_) ?_ | ((with_reducible refine n1 _ _ _ ?_); clear n1 K1) | ((with_reducible refine n1 _ ?_); clear n1 K1) | ((with_reducible refine n1 _ _ ?_); clear n1 K1) | ((with_reducible refine n1 _ _ _ _ ?_); clear n1 K1) | fail)
  all_goals try (first | exact trivial | omega | kernel_rfl | decide | exact And.intro (by omega) (by omega))
  all_goals try dsimp only [Int.toNat_natCast] at *
  all_goals try (first | exact trivial | omega | exact And.intro (by omega) (by omega))
  all_goals
    refine Done.of ?_ (Or.inl rfl)
    show (_, _, _, ()) = ((insideF (p, m) i deep).1, (insideF (p, m) i deep).2.1, (insideF (p, m) i deep).2.2, ())
    unfold insideF
    simp_all
def failedF (l : List instrT.D) (p : plainT.D) (why : Int) : plainT.D × Int :=
  if readyF p = 0 then
    if 0 ≤ why ∧ why ≤ 4294967295 then
      if (fetchF l p).1 = 9 then (((putF p (fetchF l p).2.1 why).1, (fetchF l p).2.2.2.2, (putF p (fetchF l p).2.1 why).2.2), 0) else (p, 3)
    else (p, 2)
  else (p, readyF p)
abbrev failedS : Spec := pureS [.lst instrT, plainT, .int] [plainT, .int] fun d => ((failedF d.1.2 d.2.1 d.2.2.1).1, (failedF d.1.2 d.2.1 d.2.2.1).2, ())
theorem c_Failed : Ctr Try.prog 33 failedS := by
  refine ctr_of tabOk (SpecsOk.cons c_ready (by kernel_rfl) (SpecsOk.cons c_codeIsWord (by kernel_rfl) (SpecsOk.cons c_Fetch (by kernel_rfl) (SpecsOk.cons c_Put (by kernel_rfl) (SpecsOk.nil _))))) Try.func33 rfl _ (Nat.le_of_ble_eq_true rfl) (fun _ _ => rfl) ?_
  rintro nn ⟨⟨hd, xs⟩, p, (why : Int), ⟨⟩⟩ _ _
  refine ⟨200, init_k fun K1 n1 => ?_⟩
  conv => whnf
  refine n1 _ ?_
  clear n1 K1
  repeat' (first | with_reducible refine seq_k fun K1 n1 => ?_ | with_reducible refine seq_nil ?_ | with_reducible refine drw_k fun K1 n1 => ?_ | with_reducible refine drw_nil ?_ ?_ | with_reducible refine run_seq ?_ | with_reducible refine run_skip ?_ | with_reducible refine run_regS ?_ | with_reducible refine run_regD (by kernel_rfl) ?_ ?_ | with_reducible refine inl_k (by with_unfolding_all rfl) (Nat.le_of_ble_eq_true rfl) fun K1 n1 => ?_ | with_reducible refine inlA_k (by with_unfolding_all rfl) (Nat.le_of_ble_eq_true rfl) fun K1 n1 => ?_ | with_reducible refine run_finA ?_ | with_reducible refine run_cond ?_ | with_reducible refine run_block ?_ | with_reducible refine run_endb ?_ | with_reducible refine run_exit fun K1 n1 => ?_ | with_reducible refine run_ret fun K1 n1 => ?_ | with_reducible refine run_fin ?_ | with_reducible refine run_inv ?_ | with_reducible refine go_rounds ?_ | ((with_reducible refine Go.mk ?_); (conv => whnf)) | refine Fork.yes ?_ | refine Fork.no ?_ | refine Fork.dec (fun _ => ?_) (fun _ => ?_) | refine Fork.ndec (fun _ => ?_) (fun _ => ?_) | refine Fork.mk (fun _ => ?_) (fun _ => ?_) | refine Way.yesG ?_ | refine Way.noG ?_ | refine Way.decG (fun _ => ?_) (fun _ => ?_) | refine Way.ndecG (fun _ => ?_) (fun _ => ?_) | refine Way.mkG (fun _ => ?_) (fun _ => ?_) | with_reducible refine Need.mkG ?_ ?_ | refine AppW.go0 ?_ ?_ | with_reducible refine NilW.goG (fun _ => ?_) ?_ | ((with_reducible refine n1 _ _ _ ?_); clear n1 K1) | ((with_reducible refine n1 _ ?_); clear n1 K1) | ((with_reducible refine n1 _ _ ?_); clear n1 K1) | ((with_reducible refine n1 _ _ _ _ ?_); clear n1 K1) | fail)
  all_goals try (first | exact trivial | omega | kernel_rfl | decide | exact And.intro (by omega) (by omega))
  all_goals try dsimp only [Int.toNat_natCast] at *
  all_goals try (first | exact trivial | omega | exact And.intro (by omega) (by omega))
  all_goals
    refine Done.of ?_ (Or.inl rfl)
    show (_, _, ()) = ((failedF xs p why).1, (failedF xs p why).2, ())
    unfold failedF
    first
      | (rw [if_pos ‹_›, if_neg ‹_›]; done)
      | simp_all
/-- So many instructions more. -/
def goAll (l : List instrT.D) : Nat → stT.D → Int → Option stT.D
  | 0, s, _ => some s
  | n + 1, s, deep =>
    if (insideF s (fetchF l s.1) deep).2.2 = true ∧ (decide (0 < (insideF s (fetchF l s.1) deep).2.1) = decide (n ≠ 0)) then goAll l n (insideF s (fetchF l s.1) deep).1 (insideF s (fetchF l s.1) deep).2.1 else none
def allF (l : List instrT.D) (p : plainT.D) (m : Nat → Int) (count : Int) : plainT.D × (Nat → Int) × Int :=
  if readyAtF p m = 0 then
    if 2 ≤ count ∧ count ≤ 400 then
      match goAll l count.toNat (p, m) 0 with
      | some s => (s.1, s.2, 0)
      | none => (p, m, 3)
    else (p, m, 2)
  else (p, m, readyAtF p m)
abbrev allS : Spec := pureS [.lst instrT, plainT, memT, .int] [plainT, memT, .int] fun d => ((allF d.1.2 d.2.1 d.2.2.1 d.2.2.2.1).1, (allF d.1.2 d.2.1 d.2.2.1 d.2.2.2.1).2.1, (allF d.1.2 d.2.1 d.2.2.1 d.2.2.2.1).2.2, ())
theorem goAll_no {l : List instrT.D} {n : Nat} {s : stT.D} {deep : Int} (hn : 1 ≤ n) (h : (insideF s (fetchF l s.1) deep).2.2 = false ∨ decide (0 < (insideF s (fetchF l s.1) deep).2.1) = decide (n - 1 = 0)) : goAll l n s deep = none := by
  obtain ⟨k, rfl⟩ : ∃ k, n = k + 1 := ⟨n - 1, by omega⟩
  unfold goAll
  rw [if_neg]
  rintro ⟨h1, h2⟩
  rcases h with h | h
  · rw [h1] at h; cases h
  · rw [h2, show k + 1 - 1 = k from by omega, decide_eq_decide] at h
    omega
theorem goAll_yes {l : List instrT.D} {n : Nat} {s : stT.D} {deep : Int} (hn : 1 ≤ n) (h1 : (insideF s (fetchF l s.1) deep).2.2 = true) (h2 : ¬ decide (0 < (insideF s (fetchF l s.1) deep).2.1) = decide (n - 1 = 0)) : goAll l n s deep = goAll l (n - 1) (insideF s (fetchF l s.1) deep).1 (insideF s (fetchF l s.1) deep).2.1 := by
  obtain ⟨k, rfl⟩ : ∃ k, n = k + 1 := ⟨n - 1, by omega⟩
  rw [show k + 1 - 1 = k from by omega] at h2 ⊢
  have h3 : decide (0 < (insideF s (fetchF l s.1) deep).2.1) = decide (k ≠ 0) := by
    rw [decide_eq_decide] at h2 ⊢
    omega
  conv => lhs; unfold goAll
  rw [if_pos ⟨h1, h3⟩]
theorem last_eq {k n : Nat} (h : k < n) (hn : n ≤ 400) : decide ((k : Int) = wrap64 ((n : Int) - 1)) = decide (n - k - 1 = 0) := by
  rw [wrap_id (by omega), decide_eq_decide]
  omega
theorem c_All : Ctr Try.prog 36 allS := by
  refine ctr_of tabOk (SpecsOk.cons c_readyAt (by kernel_rfl) (SpecsOk.cons c_Fetch (by kernel_rfl) (SpecsOk.cons c_inside (by kernel_rfl) (SpecsOk.nil _)))) Try.func36 rfl _ (Nat.le_of_ble_eq_true rfl) (fun _ _ => rfl) ?_
  rintro nn ⟨⟨hd, xs⟩, p, m, (count : Int), ⟨⟩⟩ _ _
  refine ⟨200, init_k fun K1 n1 => ?_⟩
  conv => whnf
  refine n1 _ ?_
  clear n1 K1
  repeat' (first | with_reducible refine seq_k fun K1 n1 => ?_ | with_reducible refine seq_nil ?_ | with_reducible refine drw_k fun K1 n1 => ?_ | with_reducible refine drw_nil ?_ ?_ | with_reducible refine run_seq ?_ | with_reducible refine run_skip ?_ | with_reducible refine run_regS ?_ | with_reducible refine run_regD (by kernel_rfl) ?_ ?_ | with_reducible refine inl_k (by with_unfolding_all rfl) (Nat.le_of_ble_eq_true rfl) fun K1 n1 => ?_ | with_reducible refine inlA_k (by with_unfolding_all rfl) (Nat.le_of_ble_eq_true rfl) fun K1 n1 => ?_ | with_reducible refine run_finA ?_ | with_reducible refine run_cond ?_ | with_reducible refine run_block ?_ | with_reducible refine run_endb ?_ | with_reducible refine run_exit fun K1 n1 => ?_ | with_reducible refine run_ret fun K1 n1 => ?_ | with_reducible refine run_fin ?_ | with_reducible refine run_inv ?_ | with_reducible refine go_rounds ?_ | ((with_reducible refine Go.mk ?_); (conv => whnf)) | refine Fork.yes ?_ | refine Fork.no ?_ | refine Fork.dec (fun _ => ?_) (fun _ => ?_) | refine Fork.ndec (fun _ => ?_) (fun _ => ?_) | refine Fork.mk (fun _ => ?_) (fun _ => ?_) | refine Way.yesG ?_ | refine Way.noG ?_ | refine Way.decG (fun _ => ?_) (fun _ => ?_) | refine Way.ndecG (fun _ => ?_) (fun _ => ?_) | refine Way.mkG (fun _ => ?_) (fun _ => ?_) | with_reducible refine Need.mkG ?_ ?_ | refine AppW.go0 ?_ ?_ | with_reducible refine NilW.goG (fun _ => ?_) ?_ | ((with_reducible refine n1 _ _ _ ?_); clear n1 K1) | ((with_reducible refine n1 _ ?_); clear n1 K1) | ((with_reducible refine n1 _ _ ?_); clear n1 K1) | ((with_reducible refine n1 _ _ _ _ ?_); clear n1 K1) | fail)
  all_goals try (first | exact trivial | omega | kernel_rfl | decide | exact And.intro (by omega) (by omega))
  all_goals try dsimp only [Int.toNat_natCast] at *
  all_goals try (first | exact trivial | omega | exact And.intro (by omega) (by omega))
  · refine Done.of ?_ (Or.inl rfl)
    show (_, _, _, ()) = ((allF xs p m count).1, (allF xs p m count).2.1, (allF xs p m count).2.2, ())
    unfold allF
    rw [if_neg ‹_›]
  · refine Done.of ?_ (Or.inl rfl)
    show (_, _, _, ()) = ((allF xs p m count).1, (allF xs p m count).2.1, (allF xs p m count).2.2, ())
    unfold allF
    rw [if_pos ‹_›, if_neg (by omega)]
  · refine Done.of ?_ (Or.inl rfl)
    show (_, _, _, ()) = ((allF xs p m count).1, (allF xs p m count).2.1, (allF xs p m count).2.2, ())
    unfold allF
    rw [if_pos ‹_›, if_neg (by omega)]
  · obtain ⟨n, rfl⟩ : ∃ n : Nat, count = (n : Int) := ⟨count.toNat, by omega⟩
    have hr : readyAtF p m = 0 := by assumption
    have hn : 2 ≤ n ∧ n ≤ 400 := by omega
    have hall : allF xs p m (n : Int) = match goAll xs n (p, m) 0 with | some s => (s.1, s.2, 0) | none => (p, m, 3) := by
      unfold allF
      rw [if_pos hr, if_pos (by omega), Int.toNat_natCast]
    refine run_loop (loop_fam (ι := Nat × stT.D × Int) (fun i => [(38, .a (.of (.leaf .int (i.1 : Int)))), (37, .a (.of (.leaf .int (n : Int)))), (13, .a (.of (.leaf .int i.2.2))), (12, .a (.ptr 4 0 [] stT)), (9, .a (.ptr 3 0 [] memT)), (8, .a (.ptr 2 0 [] plainT)), (6, .a (.ptr 1 0 [] memT)), (5, .a (.ptr 0 0 [] plainT)), (0, .a (.of (.leaf (.lst instrT) (hd, xs)))), (3, .a (.of (.leaf .int (n : Int))))])
      (fun i => [.leaf plainT p, .leaf memT m, .leaf plainT plainT.zero, .leaf memT memT.zero, .leaf stT i.2.1]) (fun _ => ⟨nn, []⟩) (fun i => n - i.1) (fun i => i.1 ≤ n ∧ goAll xs n (p, m) 0 = goAll xs (n - i.1) i.2.1 i.2.2) ?_ ?_)
    · exact ⟨(0, (p, m), 0), ⟨Nat.zero_le _, rfl⟩, ⟨rfl, rfl, rfl, rfl, rfl, rfl, rfl, rfl, rfl, rfl, trivial⟩, rfl, 5, Nat.le_refl _, rfl, rfl⟩
    · rintro ⟨k, s, (deep : Int)⟩ ⟨hk, hgo⟩
      have hk : k ≤ n := hk
      have hgo : goAll xs n (p, m) 0 = goAll xs (n - k) s deep := hgo
      repeat' (first | with_reducible refine seq_k fun K1 n1 => ?_ | with_reducible refine seq_nil ?_ | with_reducible refine drw_k fun K1 n1 => ?_ | with_reducible refine drw_nil ?_ ?_ | with_reducible refine run_seq ?_ | with_reducible refine run_skip ?_ | with_reducible refine run_regS ?_ | with_reducible refine run_regD (by kernel_rfl) ?_ ?_ | with_reducible refine inl_k (by with_unfolding_all rfl) (Nat.le_of_ble_eq_true rfl) fun K1 n1 => ?_ | with_reducible refine inlA_k (by with_unfolding_all rfl) (Nat.le_of_ble_eq_true rfl) fun K1 n1 => ?_ | with_reducible refine run_finA ?_ | with_reducible refine run_cond ?_ | with_reducible refine run_block ?_ | with_reducible refine run_endb ?_ | with_reducible refine run_exit fun K1 n1 => ?_ | with_reducible refine run_ret fun K1 n1 => ?_ | with_reducible refine run_fin ?_ | with_reducible refine run_inv ?_ | with_reducible refine go_rounds ?_ | ((with_reducible refine Go.mk ?_); (conv => whnf)) | refine Fork.yes ?_ | refine Fork.no ?_ | refine Fork.dec (fun _ => ?_) (fun _ => ?_) | refine Fork.ndec (fun _ => ?_) (fun _ => ?_) | refine Fork.mk (fun _ => ?_) (fun _ => ?_) | refine Way.yesG ?_ | refine Way.noG ?_ | refine Way.decG (fun _ => ?_) (fun _ => ?_) | refine Way.ndecG (fun _ => ?_) (fun _ => ?_) | refine Way.mkG (fun _ => ?_) (fun _ => ?_) | with_reducible refine Need.mkG ?_ ?_ | refine AppW.go0 ?_ ?_ | with_reducible refine NilW.goG (fun _ => ?_) ?_ | ((with_reducible refine n1 _ _ _ ?_); clear n1 K1) | ((with_reducible refine n1 _ ?_); clear n1 K1) | ((with_reducible refine n1 _ _ ?_); clear n1 K1) | ((with_reducible refine n1 _ _ _ _ ?_); clear n1 K1) | fail)
      all_goals try (first | exact trivial | omega | kernel_rfl | decide | exact And.intro (by omega) (by omega))
      all_goals try dsimp only [Int.toNat_natCast] at *
      all_goals try (first | exact trivial | omega | exact And.intro (by omega) (by omega))
      · rename_i h1 h2
        refine Done.of ?_ (Or.inl rfl)
        show (_, _, _, ()) = ((allF xs p m n).1, (allF xs p m n).2.1, (allF xs p m n).2.2, ())
        rw [hall, hgo, goAll_no (by omega) (Or.inl (not_t' h2))]
      · rename_i h1 h2 h3
        refine Done.of ?_ (Or.inl rfl)
        show (_, _, _, ()) = ((allF xs p m n).1, (allF xs p m n).2.1, (allF xs p m n).2.2, ())
        rw [last_eq (by omega) hn.2] at h3
        rw [hall, hgo, goAll_no (by omega) (Or.inr h3)]
      · rename_i h1 h2 h3
        rw [last_eq (by omega) hn.2] at h3
        refine ⟨(k + 1, (insideF s (fetchF xs s.1) deep).1, (insideF s (fetchF xs s.1) deep).2.1), by show n - (k + 1) < n - k; omega, ⟨by show k + 1 ≤ n; omega, ?_⟩, ⟨?_, rfl, rfl, rfl, rfl, rfl, rfl, rfl, rfl, rfl, trivial⟩, rfl, 5, Nat.le_refl _, rfl, rfl⟩
        · show goAll xs n (p, m) 0 = goAll xs (n - (k + 1)) _ _
          rw [hgo, goAll_yes (by omega) (not_f' h2) h3, show n - k - 1 = n - (k + 1) from by omega]
        · show some (SV.a (AV.of (V.leaf Ty.int (wrap64 (↑k + 1))))) = some (SV.a (AV.of (V.leaf Ty.int ((k + 1 : Nat) : Int))))
          rw [← wrap_succ k (by omega)]
      · rename_i h1
        obtain rfl : k = n := by omega
        refine Done.of ?_ (Or.inl rfl)
        show (_, _, _, ()) = ((allF xs p m k).1, (allF xs p m k).2.1, (allF xs p m k).2.2, ())
        rw [hall, hgo, Nat.sub_self]
        rfl
def againF (l : List instrT.D) (p : plainT.D) (m : Nat → Int) (r : recordT.D) : plainT.D × (Nat → Int) × Int :=
  if r.1 = 1 then oneF l p m else if r.1 = 2 then allF l p m r.2.2 else if r.1 = 3 then ((failedF l p r.2.2).1, m, (failedF l p r.2.2).2) else (p, m, 3)
abbrev againS : Spec := pureS [.lst instrT, plainT, memT, recordT] [plainT, memT, .int] fun d => ((againF d.1.2 d.2.1 d.2.2.1 d.2.2.2.1).1, (againF d.1.2 d.2.1 d.2.2.1 d.2.2.2.1).2.1, (againF d.1.2 d.2.1 d.2.2.1 d.2.2.2.1).2.2, ())
theorem c_again : Ctr Try.prog 80 againS := by
  refine ctr_of tabOk (SpecsOk.cons c_One (by kernel_rfl) (SpecsOk.cons c_All (by kernel_rfl) (SpecsOk.cons c_Failed (by kernel_rfl) (SpecsOk.nil _)))) Try.func80 rfl _ (Nat.le_of_ble_eq_true rfl) (fun _ _ => rfl) ?_
  rintro nn ⟨⟨hd, xs⟩, p, m, r, ⟨⟩⟩ _ _
  refine ⟨200, init_k fun K1 n1 => ?_⟩
  conv => whnf
  refine n1 _ ?_
  clear n1 K1
  repeat' (first | with_reducible refine seq_k fun K1 n1 => ?_ | with_reducible refine seq_nil ?_ | with_reducible refine drw_k fun K1 n1 => ?_ | with_reducible refine drw_nil ?_ ?_ | with_reducible refine run_seq ?_ | with_reducible refine run_skip ?_ | with_reducible refine run_regS ?_ | with_reducible refine run_regD (by kernel_rfl) ?_ ?_ | with_reducible refine inl_k (by with_unfolding_all rfl) (Nat.le_of_ble_eq_true rfl) fun K1 n1 => ?_ | with_reducible refine inlA_k (by with_unfolding_all rfl) (Nat.le_of_ble_eq_true rfl) fun K1 n1 => ?_ | with_reducible refine run_finA ?_ | with_reducible refine run_cond ?_ | with_reducible refine run_block ?_ | with_reducible refine run_endb ?_ | with_reducible refine run_exit fun K1 n1 => ?_ | with_reducible refine run_ret fun K1 n1 => ?_ | with_reducible refine run_fin ?_ | with_reducible refine run_inv ?_ | with_reducible refine go_rounds ?_ | ((with_reducible refine Go.mk ?_); (conv => whnf)) | refine Fork.yes ?_ | refine Fork.no ?_ | refine Fork.dec (fun _ => ?_) (fun _ => ?_) | refine Fork.ndec (fun _ => ?_) (fun _ => ?_) | refine Fork.mk (fun _ => ?_) (fun _ => ?_) | refine Way.yesG ?_ | refine Way.noG ?_ | refine Way.decG (fun _ => ?_) (fun _ => ?_) | refine Way.ndecG (fun _ => ?_) (fun _ => ?_) | refine Way.mkG (fun _ => ?_) (fun _ => ?_) | with_reducible refine Need.mkG ?_ ?_ | refine AppW.go0 ?_ ?_ | with_reducible refine NilW.goG (fun _ => ?_) ?_ | ((with_reducible refine n1 _ _ _ ?_); clear n1 K1) | ((with_reducible refine n1 _ ?_); clear n1 K1) | ((with_reducible refine n1 _ _ ?_); clear n1 K1) | ((with_reducible refine n1 _ _ _ _ ?_); clear n1 K1) | fail)
  all_goals try (first | exact trivial | omega | kernel_rfl | decide | exact And.intro (by omega) (by omega))
  all_goals try dsimp only [Int.toNat_natCast] at *
  all_goals try (first | exact trivial | omega | exact And.intro (by omega) (by omega))
  all_goals
    refine Done.of ?_ (Or.inl rfl)
    show (_, _, _, ()) = ((againF xs p m r).1, (againF xs p m r).2.1, (againF xs p m r).2.2, ())
    unfold againF
    simp_all
abbrev coresT : Ty := .arr 2 plainT
def goRep (l : progsT.D) : List recordT.D → (Nat → plainT.D) → (Nat → Int) → Except Int ((Nat → plainT.D) × (Nat → Int))
  | [], cs, m => .ok (cs, m)
  | r :: rs, cs, m =>
    if 0 ≤ r.2.1 ∧ r.2.1 < 2 then
      if (againF (l r.2.1.toNat).2 (cs r.2.1.toNat) m r).2.2 = 0 then goRep l rs (updA cs r.2.1.toNat (againF (l r.2.1.toNat).2 (cs r.2.1.toNat) m r).1) (againF (l r.2.1.toNat).2 (cs r.2.1.toNat) m r).2.1
      else .error (againF (l r.2.1.toNat).2 (cs r.2.1.toNat) m r).2.2
    else .error 5
def replayF (l : progsT.D) (m : Nat → Int) (rs : List recordT.D) : (Nat → plainT.D) × (Nat → Int) × Int :=
  if goodM m = true then
    match goRep l rs coresT.zero m with
    | .ok x => (x.1, x.2, 0)
    | .error e => (coresT.zero, m, e)
  else (coresT.zero, m, 1)
abbrev replayS : Spec := pureS [progsT, memT, .lst recordT] [coresT, memT, .int] fun d => ((replayF d.1 d.2.1 d.2.2.1.2).1, (replayF d.1 d.2.1 d.2.2.1.2).2.1, (replayF d.1 d.2.1 d.2.2.1.2).2.2, ())
theorem drop_nth {rs : List recordT.D} {k : Nat} (h : k < rs.length) : rs.drop k = nthD recordT rs k :: rs.drop (k + 1) := by
  rw [List.drop_eq_getElem_cons h]
  unfold nthD
  rw [List.getElem?_eq_getElem h]
  rfl
theorem c_Replay : Ctr Try.prog 38 replayS := by
  refine ctr_of tabOk (SpecsOk.cons c_plainGood (by kernel_rfl) (SpecsOk.cons c_again (by kernel_rfl) (SpecsOk.nil _))) Try.func38 rfl _ (Nat.le_of_ble_eq_true rfl) (fun _ _ => rfl) ?_
  rintro nn ⟨l, m, ⟨rh, rs⟩, ⟨⟩⟩ _ hb
  have rs_small : rs.length ≤ 9223372036854775807 := hb.2.2.1
  refine ⟨200, init_k fun K1 n1 => ?_⟩
  conv => whnf
  refine n1 _ ?_
  clear n1 K1
  repeat' (first | with_reducible refine seq_k fun K1 n1 => ?_ | with_reducible refine seq_nil ?_ | with_reducible refine drw_k fun K1 n1 => ?_ | with_reducible refine drw_nil ?_ ?_ | with_reducible refine run_seq ?_ | with_reducible refine run_skip ?_ | with_reducible refine run_regS ?_ | with_reducible refine run_regD (by kernel_rfl) ?_ ?_ | with_reducible refine inl_k (by with_unfolding_all rfl) (Nat.le_of_ble_eq_true rfl) fun K1 n1 => ?_ | with_reducible refine inlA_k (by with_unfolding_all rfl) (Nat.le_of_ble_eq_true rfl) fun K1 n1 => ?_ | with_reducible refine run_finA ?_ | with_reducible refine run_cond ?_ | with_reducible refine run_block ?_ | with_reducible refine run_endb ?_ | with_reducible refine run_exit fun K1 n1 => ?_ | with_reducible refine run_ret fun K1 n1 => ?_ | with_reducible refine run_fin ?_ | with_reducible refine run_inv ?_ | with_reducible refine go_rounds ?_ | ((with_reducible refine Go.mk ?_); (conv => whnf)) | refine Fork.yes ?_ | refine Fork.no ?_ | refine Fork.dec (fun _ => ?_) (fun _ => ?_) | refine Fork.ndec (fun _ => ?_) (fun _ => ?_) | refine Fork.mk (fun _ => ?_) (fun _ => ?_) | refine Way.yesG ?_ | refine Way.noG ?_ | refine Way.decG (fun _ => ?_) (fun _ => ?_) | refine Way.ndecG (fun _ => ?_) (fun _ => ?_) | refine Way.mkG (fun _ => ?_) (fun _ => ?_) | with_reducible refine Need.mkG ?_ ?_ | refine AppW.go0 ?_ ?_ | with_reducible refine NilW.goG (fun _ => ?_) ?_ | ((with_reducible refine n1 _ _ _ ?_); clear n1 K1) | ((with_reducible refine n1 _ ?_); clear n1 K1) | ((with_reducible refine n1 _ _ ?_); clear n1 K1) | ((with_reducible refine n1 _ _ _ _ ?_); clear n1 K1) | fail)
  all_goals try (first | exact trivial | omega | kernel_rfl | decide | exact And.intro (by omega) (by omega))
  all_goals try dsimp only [Int.toNat_natCast] at *
  all_goals try (first | exact trivial | omega | exact And.intro (by omega) (by omega))
  · refine Done.of ?_ (Or.inl rfl)
    show (_, _, _, ()) = ((replayF l m rs).1, (replayF l m rs).2.1, (replayF l m rs).2.2, ())
    unfold replayF
    rename_i h
    rw [if_neg (by rw [not_t' h]; decide)]
  · have hg : goodM m = true := not_f' ‹_›
    have hall : replayF l m rs = match goRep l rs coresT.zero m with | .ok x => (x.1, x.2, 0) | .error e => (coresT.zero, m, e) := by
      unfold replayF
      rw [if_pos hg]
    refine run_loop (loop_fam (ι := Nat × (Nat → plainT.D) × (Nat → Int)) (fun i => [(24, .a (.of (.leaf .int (i.1 : Int)))), (23, .a (.of (.leaf .int (rs.length : Int)))), (22, .a (.of (.leaf (.lst recordT) (rh, rs)))), (10, .a (.ptr 5 0 [] memT)), (9, .a (.ptr 4 0 [] coresT)), (7, .a (.ptr 3 0 [] memT)), (6, .a (.ptr 2 0 [] coresT)), (4, .a (.ptr 1 0 [] memT)), (3, .a (.ptr 0 0 [] progsT))])
      (fun i => [.leaf progsT l, .leaf memT m, .leaf coresT coresT.zero, .leaf memT memT.zero, .leaf coresT i.2.1, .leaf memT i.2.2]) (fun _ => ⟨nn, []⟩) (fun i => rs.length - i.1) (fun i => i.1 ≤ rs.length ∧ goRep l rs coresT.zero m = goRep l (rs.drop i.1) i.2.1 i.2.2) ?_ ?_)
    · exact ⟨(0, coresT.zero, m), ⟨Nat.zero_le _, rfl⟩, ⟨rfl, rfl, rfl, rfl, rfl, rfl, rfl, rfl, rfl, trivial⟩, rfl, 6, Nat.le_refl _, rfl, rfl⟩
    · rintro ⟨k, cs, mm⟩ ⟨hk, hgo⟩
      have hk : k ≤ rs.length := hk
      have hgo : goRep l rs coresT.zero m = goRep l (rs.drop k) cs mm := hgo
      repeat' (first | with_reducible refine seq_k fun K1 n1 => ?_ | with_reducible refine seq_nil ?_ | with_reducible refine drw_k fun K1 n1 => ?_ | with_reducible refine drw_nil ?_ ?_ | with_reducible refine run_seq ?_ | with_reducible refine run_skip ?_ | with_reducible refine run_regS ?_ | with_reducible refine run_regD (by kernel_rfl) ?_ ?_ | with_reducible refine inl_k (by with_unfolding_all rfl) (Nat.le_of_ble_eq_true rfl) fun K1 n1 => ?_ | with_reducible refine inlA_k (by with_unfolding_all rfl) (Nat.le_of_ble_eq_true rfl) fun K1 n1 => ?_ | with_reducible refine run_finA ?_ | with_reducible refine run_cond ?_ | with_reducible refine run_block ?_ | with_reducible refine run_endb ?_ | with_reducible refine run_exit fun K1 n1 => ?_ | with_reducible refine run_ret fun K1 n1 => ?_ | with_reducible refine run_fin ?_ | with_reducible refine run_inv ?_ | with_reducible refine go_rounds ?_ | ((with_reducible refine Go.mk ?_); (conv => whnf)) | refine Fork.yes ?_ | refine Fork.no ?_ | refine Fork.dec (fun _ => ?_) (fun _ => ?_) | refine Fork.ndec (fun _ => ?_) (fun _ => ?_) | refine Fork.mk (fun _ => ?_) (fun _ => ?_) | refine Way.yesG ?_ | refine Way.noG ?_ | refine Way.decG (fun _ => ?_) (fun _ => ?_) | refine Way.ndecG (fun _ => ?_) (fun _ => ?_) | refine Way.mkG (fun _ => ?_) (fun _ => ?_) | with_reducible refine Need.mkG ?_ ?_ | refine AppW.go0 ?_ ?_ | with_reducible refine NilW.goG (fun _ => ?_) ?_ | ((with_reducible refine n1 _ _ _ ?_); clear n1 K1) | ((with_reducible refine n1 _ ?_); clear n1 K1) | ((with_reducible refine n1 _ _ ?_); clear n1 K1) | ((with_reducible refine n1 _ _ _ _ ?_); clear n1 K1) | fail)
      all_goals try (first | exact trivial | omega | kernel_rfl | decide | exact And.intro (by omega) (by omega))
      all_goals try dsimp only [Int.toNat_natCast] at *
      all_goals try (first | exact trivial | omega | exact And.intro (by omega) (by omega))
      · rename_i h1 h2
        refine Done.of ?_ (Or.inl rfl)
        show (_, _, _, ()) = ((replayF l m rs).1, (replayF l m rs).2.1, (replayF l m rs).2.2, ())
        rw [hall, hgo, drop_nth (by omega)]
        unfold goRep
        rw [if_neg (fun g => absurd h2 (Int.not_lt.2 g.1))]
      · rename_i h1 h2 h3
        refine Done.of ?_ (Or.inl rfl)
        show (_, _, _, ()) = ((replayF l m rs).1, (replayF l m rs).2.1, (replayF l m rs).2.2, ())
        rw [hall, hgo, drop_nth (by omega)]
        unfold goRep
        rw [if_neg (fun g => absurd h3 (Int.not_le.2 g.2))]
      · exact ⟨Int.not_lt.1 ‹_›, Int.not_le.1 ‹_›⟩
      · exact ⟨Int.not_lt.1 ‹_›, Int.not_le.1 ‹_›⟩
      · exact ⟨Int.not_lt.1 ‹_›, Int.not_le.1 ‹_›⟩
      · rename_i h1 h2 h3 h4
        refine Done.of ?_ (Or.inl rfl)
        show (_, _, _, ()) = ((replayF l m rs).1, (replayF l m rs).2.1, (replayF l m rs).2.2, ())
        rw [hall, hgo, drop_nth (by omega)]
        unfold goRep
        rw [if_pos ⟨Int.not_lt.1 h2, Int.not_le.1 h3⟩, if_neg h4]
      · rename_i h1 h2 h3 h4
        refine ⟨(k + 1, updA cs (nthD recordT rs k).2.1.toNat (againF (l (nthD recordT rs k).2.1.toNat).2 (cs (nthD recordT rs k).2.1.toNat) mm (nthD recordT rs k)).1, (againF (l (nthD recordT rs k).2.1.toNat).2 (cs (nthD recordT rs k).2.1.toNat) mm (nthD recordT rs k)).2.1), by show rs.length - (k + 1) < rs.length - k; omega, ⟨by show k + 1 ≤ rs.length; omega, ?_⟩, ⟨?_, rfl, rfl, rfl, rfl, rfl, rfl, rfl, rfl, trivial⟩, rfl, 6, Nat.le_add_left _ _, rfl, rfl⟩
        · show goRep l rs coresT.zero m = _
          rw [hgo, drop_nth (by omega)]
          conv => lhs; unfold goRep
          rw [if_pos ⟨Int.not_lt.1 h2, Int.not_le.1 h3⟩, if_pos h4]
        · show some (SV.a (AV.of (V.leaf Ty.int (wrap64 (↑k + 1))))) = some (SV.a (AV.of (V.leaf Ty.int ((k + 1 : Nat) : Int))))
          rw [← wrap_succ k (by have := rs_small; omega)]
      · rename_i h1
        obtain rfl : k = rs.length := by omega
        refine Done.of ?_ (Or.inl rfl)
        show (_, _, _, ()) = ((replayF l m rs).1, (replayF l m rs).2.1, (replayF l m rs).2.2, ())
        rw [hall, hgo, List.drop_length]
        rfl
end Go.Proofs.Ytjbbgpacijageaa.M

/- Cores and memories stay good. -/
namespace Go.Proofs.Ytjbbgpacijageaa.M
open Go.RowKit
set_option linter.unusedVariables false
set_option linter.unusedSimpArgs false

theorem goodM_iff (m : Nat → Int) : goodM m = true ↔ ∀ k, k < 32 → isW (m k) = true := by
  unfold goodM
  rw [List.all_eq_true]
  constructor
  · intro h k hk
    exact h (m k) (by simp only [ownL, List.mem_map, List.mem_range]; exact ⟨k, hk, by rw [Nat.zero_add]⟩)
  · intro h z hz
    simp only [ownL, List.mem_map, List.mem_range] at hz
    obtain ⟨k, hk, rfl⟩ := hz
    rw [Nat.zero_add]
    exact h k hk
theorem good_touch {s : stT.D} {i : instrT.D} (h : goodP s.1 = true) (hm : goodM s.2 = true) (ho : s.1.2.2 = false) : goodP (touchF s i).1.1 = true ∧ goodM (touchF s i).1.2 = true ∧ (touchF s i).1.1.2.2 = false := by
  unfold touchF
  split
  · refine ⟨good_next ?_, ?_, ?_⟩
    · split
      · exact good_put h _ _
      · exact h
    · show goodM (if i.1 ≠ 5 then updA s.2 (wordF s.1 i).toNat (getF s.1 i.2.1) else s.2) = true
      split
      · rw [goodM_iff] at hm ⊢
        intro k hk
        unfold updA
        split
        · exact isW_get h _
        · exact hm k hk
      · exact hm
    · show (nextF (if i.1 ≠ 6 then putF s.1 i.2.1 (s.2 (wordF s.1 i).toNat) else s.1)).2.2 = false
      split
      · show (putF _ _ _).2.2 = false
        rw [off_put]; exact ho
      · exact ho
  · exact ⟨h, hm, ho⟩
theorem good_done {s : stT.D} {i : instrT.D} (h : goodP s.1 = true) (hm : goodM s.2 = true) (hi : goodI i = true) (h12 : i.1 ≠ 12) (ho : s.1.2.2 = false) : goodP (doneF s i).1.1 = true ∧ goodM (doneF s i).1.2 = true ∧ (doneF s i).1.1.2.2 = false := by
  unfold doneF
  split
  · exact good_touch h hm ho
  · exact ⟨(good_alone h hi h12 ho).1, hm, (good_alone h hi h12 ho).2⟩
theorem good_inside {s : stT.D} {i : instrT.D} {deep : Int} (h : goodP s.1 = true) (hm : goodM s.2 = true) (hi : goodI i = true) (ho : s.1.2.2 = false) : goodP (insideF s i deep).1.1 = true ∧ goodM (insideF s i deep).1.2 = true ∧ (insideF s i deep).1.1.2.2 = false := by
  unfold insideF
  split
  · exact ⟨good_next h, hm, ho⟩
  · split
    · exact ⟨good_next h, hm, ho⟩
    · split
      · exact ⟨h, hm, ho⟩
      · rename_i h12
        exact good_done h hm hi (fun g => h12 (Or.inr g)) ho
end Go.Proofs.Ytjbbgpacijageaa.M
