/- Several texts in one. -/
import Derived.Test.YtjbbgpacijageabUD
import Derived.Test.YtjbbgpacijageabUF
/- Package desk: what is looked for among writes. -/
namespace Go.Proofs.Ytjbbgpacijageab.M
open Go.RowKit
set_option linter.unusedVariables false
set_option linter.unusedSimpArgs false

abbrev turnT : Ty := .pair deskT (.pair progsT (.pair .int (.lst recordT)))
theorem c_dIsCore : Ctr Try.prog 53 (isBS 2) := by
  refine ctr_of tabOk (SpecsOk.nil _) Try.func53 rfl _ (Nat.le_of_ble_eq_true rfl) (fun _ _ => rfl) ?_
  rintro nn ⟨(n : Int), ⟨⟩⟩ _ _
  refine ⟨200, init_k fun K1 n1 => ?_⟩
  conv => whnf
  refine n1 _ ?_
  clear n1 K1
  repeat' (first | with_reducible refine seq_k fun K1 n1 => ?_ | with_reducible refine seq_nil ?_ | with_reducible refine drw_k fun K1 n1 => ?_ | with_reducible refine drw_nil ?_ ?_ | with_reducible refine run_seq ?_ | with_reducible refine run_skip ?_ | with_reducible refine run_regS ?_ | with_reducible refine run_regD (by kernel_rfl) ?_ ?_ | with_reducible refine inl_k (by with_unfolding_all rfl) (Nat.le_of_ble_eq_true rfl) fun K1 n1 => ?_ | with_reducible refine inlA_k (by with_unfolding_all rfl) (Nat.le_of_ble_eq_true rfl) fun K1 n1 => ?_ | with_reducible refine run_finA ?_ | with_reducible refine run_cond ?_ | with_reducible refine run_block ?_ | with_reducible refine run_endb ?_ | with_reducible refine run_exit fun K1 n1 => ?_ | with_reducible refine run_ret fun K1 n1 => ?_ | with_reducible refine run_fin ?_ | with_reducible refine run_inv ?_ | with_reducible refine go_rounds ?_ | ((with_reducible refine Go.mk ?_); (conv => whnf)) | refine Fork.yes ?_ | refine Fork.no ?_ | refine Fork.dec (fun _ => ?_) (fun _ => ?_) | refine Fork.ndec (fun _ => ?_) (fun _ => ?_) | refine Fork.mk (fun _ => ?_) (fun _ => ?_) | refine Way.yesG ?_ | refine Way.noG ?_ | refine Way.decG (fun _ => ?_) (fun _ => ?_) | refine Way.ndecG (fun _ => ?_) (fun _ => ?_) | refine Way.mkG (fun _ => ?_) (fun _ => ?_) | with_reducible refine Need.mkG ?_ ?_ | refine AppW.go0 ?_ ?_ | with_reducible refine NilW.goG (fun _ => ?_) ?_ | ((with_reducible refine n1 _ _ _ ?_); clear n1 K1) | ((with_reducible refine n1 _ ?_); clear n1 K1) | ((with_reducible refine n1 _ _ ?_); clear n1 K1) | ((with_reducible refine n1 _ _ _ _ ?_); clear n1 K1) | fail)
  all_goals try (first | exact trivial | omega | kernel_rfl | decide | exact And.intro (by omega) (by omega))
  all_goals try dsimp only [Int.toNat_natCast] at *
  all_goals try (first | exact trivial | omega | exact And.intro (by omega) (by omega))
  all_goals refine Done.of ?_ (Or.inl rfl)
  all_goals simp [isB, *]
theorem c_dIsPlace : Ctr Try.prog 87 (isBS 32) := by
  refine ctr_of tabOk (SpecsOk.nil _) Try.func87 rfl _ (Nat.le_of_ble_eq_true rfl) (fun _ _ => rfl) ?_
  rintro nn ⟨(n : Int), ⟨⟩⟩ _ _
  refine ⟨200, init_k fun K1 n1 => ?_⟩
  conv => whnf
  refine n1 _ ?_
  clear n1 K1
  repeat' (first | with_reducible refine seq_k fun K1 n1 => ?_ | with_reducible refine seq_nil ?_ | with_reducible refine drw_k fun K1 n1 => ?_ | with_reducible refine drw_nil ?_ ?_ | with_reducible refine run_seq ?_ | with_reducible refine run_skip ?_ | with_reducible refine run_regS ?_ | with_reducible refine run_regD (by kernel_rfl) ?_ ?_ | with_reducible refine inl_k (by with_unfolding_all rfl) (Nat.le_of_ble_eq_true rfl) fun K1 n1 => ?_ | with_reducible refine inlA_k (by with_unfolding_all rfl) (Nat.le_of_ble_eq_true rfl) fun K1 n1 => ?_ | with_reducible refine run_finA ?_ | with_reducible refine run_cond ?_ | with_reducible refine run_block ?_ | with_reducible refine run_endb ?_ | with_reducible refine run_exit fun K1 n1 => ?_ | with_reducible refine run_ret fun K1 n1 => ?_ | with_reducible refine run_fin ?_ | with_reducible refine run_inv ?_ | with_reducible refine go_rounds ?_ | ((with_reducible refine Go.mk ?_); (conv => whnf)) | refine Fork.yes ?_ | refine Fork.no ?_ | refine Fork.dec (fun _ => ?_) (fun _ => ?_) | refine Fork.ndec (fun _ => ?_) (fun _ => ?_) | refine Fork.mk (fun _ => ?_) (fun _ => ?_) | refine Way.yesG ?_ | refine Way.noG ?_ | refine Way.decG (fun _ => ?_) (fun _ => ?_) | refine Way.ndecG (fun _ => ?_) (fun _ => ?_) | refine Way.mkG (fun _ => ?_) (fun _ => ?_) | with_reducible refine Need.mkG ?_ ?_ | refine AppW.go0 ?_ ?_ | with_reducible refine NilW.goG (fun _ => ?_) ?_ | ((with_reducible refine n1 _ _ _ ?_); clear n1 K1) | ((with_reducible refine n1 _ ?_); clear n1 K1) | ((with_reducible refine n1 _ _ ?_); clear n1 K1) | ((with_reducible refine n1 _ _ _ _ ?_); clear n1 K1) | fail)
  all_goals try (first | exact trivial | omega | kernel_rfl | decide | exact And.intro (by omega) (by omega))
  all_goals try dsimp only [Int.toNat_natCast] at *
  all_goals try (first | exact trivial | omega | exact And.intro (by omega) (by omega))
  all_goals refine Done.of ?_ (Or.inl rfl)
  all_goals simp [isB, *]
theorem c_dOther : Ctr Try.prog 90 otherS := by
  refine ctr_of tabOk (SpecsOk.nil _) Try.func90 rfl _ (Nat.le_of_ble_eq_true rfl) (fun _ _ => rfl) ?_
  rintro nn ⟨(n : Int), ⟨⟩⟩ _ _
  refine ⟨200, init_k fun K1 n1 => ?_⟩
  conv => whnf
  refine n1 _ ?_
  clear n1 K1
  repeat' (first | with_reducible refine seq_k fun K1 n1 => ?_ | with_reducible refine seq_nil ?_ | with_reducible refine drw_k fun K1 n1 => ?_ | with_reducible refine drw_nil ?_ ?_ | with_reducible refine run_seq ?_ | with_reducible refine run_skip ?_ | with_reducible refine run_regS ?_ | with_reducible refine run_regD (by kernel_rfl) ?_ ?_ | with_reducible refine inl_k (by with_unfolding_all rfl) (Nat.le_of_ble_eq_true rfl) fun K1 n1 => ?_ | with_reducible refine inlA_k (by with_unfolding_all rfl) (Nat.le_of_ble_eq_true rfl) fun K1 n1 => ?_ | with_reducible refine run_finA ?_ | with_reducible refine run_cond ?_ | with_reducible refine run_block ?_ | with_reducible refine run_endb ?_ | with_reducible refine run_exit fun K1 n1 => ?_ | with_reducible refine run_ret fun K1 n1 => ?_ | with_reducible refine run_fin ?_ | with_reducible refine run_inv ?_ | with_reducible refine go_rounds ?_ | ((with_reducible refine Go.mk ?_); (conv => whnf)) | refine Fork.yes ?_ | refine Fork.no ?_ | refine Fork.dec (fun _ => ?_) (fun _ => ?_) | refine Fork.ndec (fun _ => ?_) (fun _ => ?_) | refine Fork.mk (fun _ => ?_) (fun _ => ?_) | refine Way.yesG ?_ | refine Way.noG ?_ | refine Way.decG (fun _ => ?_) (fun _ => ?_) | refine Way.ndecG (fun _ => ?_) (fun _ => ?_) | refine Way.mkG (fun _ => ?_) (fun _ => ?_) | with_reducible refine Need.mkG ?_ ?_ | refine AppW.go0 ?_ ?_ | with_reducible refine NilW.goG (fun _ => ?_) ?_ | ((with_reducible refine n1 _ _ _ ?_); clear n1 K1) | ((with_reducible refine n1 _ ?_); clear n1 K1) | ((with_reducible refine n1 _ _ ?_); clear n1 K1) | ((with_reducible refine n1 _ _ _ _ ?_); clear n1 K1) | fail)
  all_goals try (first | exact trivial | omega | kernel_rfl | decide | exact And.intro (by omega) (by omega))
  all_goals try dsimp only [Int.toNat_natCast] at *
  all_goals try (first | exact trivial | omega | exact And.intro (by omega) (by omega))
  exact Done.of rfl (Or.inl rfl)

/-- Where the write of a word stands; -1: nowhere. -/
def atW (l : List writeT.D) (word : Int) : Int :=
  match l.findIdx? (fun w => decide ((w.1 : Int) = word)) with
  | some k => (k : Int)
  | none => -1
theorem atW_none {l : List writeT.D} {word : Int} (h : ∀ k, k < l.length → (nthD writeT l k).1 ≠ word) : atW l word = -1 := by
  unfold atW
  have : l.findIdx? (fun w => decide ((w.1 : Int) = word)) = none := by
    rw [List.findIdx?_eq_none_iff]
    intro w hw
    obtain ⟨k, hk⟩ := List.getElem?_of_mem hw
    have hlt := (List.getElem?_eq_some_iff.1 hk).1
    have h1 := h k hlt
    rw [nthD_eq hlt, (List.getElem?_eq_some_iff.1 hk).2] at h1
    simpa using h1
  rw [this]
theorem atW_some {l : List writeT.D} {word : Int} {k : Nat} (hk : k < l.length) (h : (nthD writeT l k).1 = word) (hno : ∀ j, j < k → (nthD writeT l j).1 ≠ word) : atW l word = (k : Int) := by
  unfold atW
  have : l.findIdx? (fun w => decide ((w.1 : Int) = word)) = some k := by
    rw [List.findIdx?_eq_some_iff_getElem]
    refine ⟨hk, ?_, fun j hj => ?_⟩
    · rw [nthD_eq hk] at h
      simpa using h
    · have h1 := hno j hj
      rw [nthD_eq (by omega)] at h1
      simpa using h1
  rw [this]
abbrev atWS : Spec := pureS [.lst writeT, .int] [.int] fun d => (atW d.1.2 d.2.1, ())
theorem c_writeOf : Ctr Try.prog 88 atWS := by
  refine ctr_of tabOk (SpecsOk.mut (inl_ok tabOk (SpecsOk.mut (inl_ok tabOk (SpecsOk.nil _) Try.func98 [.bool]) (by kernel_rfl) (SpecsOk.nil _)) Try.func74 [.int]) (by kernel_rfl) (SpecsOk.nil _)) Try.func88 rfl _ (Nat.le_of_ble_eq_true rfl) (fun _ _ => rfl) ?_
  rintro nn ⟨⟨hd, xs⟩, (word : Int), ⟨⟩⟩ _ hb
  have hxs : xs.length ≤ 9223372036854775807 := hb.1
  refine ⟨200, init_k fun K1 n1 => ?_⟩
  conv => whnf
  refine n1 _ ?_
  clear n1 K1
  repeat' (first | with_reducible refine seq_k fun K1 n1 => ?_ | with_reducible refine seq_nil ?_ | with_reducible refine drw_k fun K1 n1 => ?_ | with_reducible refine drw_nil ?_ ?_ | with_reducible refine run_seq ?_ | with_reducible refine run_skip ?_ | with_reducible refine run_regS ?_ | with_reducible refine run_regD (by kernel_rfl) ?_ ?_ | with_reducible refine inl_k (by with_unfolding_all rfl) (Nat.le_of_ble_eq_true rfl) fun K1 n1 => ?_ | with_reducible refine inlA_k (by with_unfolding_all rfl) (Nat.le_of_ble_eq_true rfl) fun K1 n1 => ?_ | with_reducible refine run_finA ?_ | with_reducible refine run_cond ?_ | with_reducible refine run_block ?_ | with_reducible refine run_endb ?_ | with_reducible refine run_exit fun K1 n1 => ?_ | with_reducible refine run_ret fun K1 n1 => ?_ | with_reducible refine run_fin ?_ | with_reducible refine run_inv ?_ | with_reducible refine go_rounds ?_ | ((with_reducible refine Go.mk ?_); (conv => whnf)) | refine Fork.yes ?_ | refine Fork.no ?_ | refine Fork.dec (fun _ => ?_) (fun _ => ?_) | refine Fork.ndec (fun _ => ?_) (fun _ => ?_) | refine Fork.mk (fun _ => ?_) (fun _ => ?_) | refine Way.yesG ?_ | refine Way.noG ?_ | refine Way.decG (fun _ => ?_) (fun _ => ?_) | refine Way.ndecG (fun _ => ?_) (fun _ => ?_) | refine Way.mkG (fun _ => ?_) (fun _ => ?_) | with_reducible refine Need.mkG ?_ ?_ | refine AppW.go0 ?_ ?_ | with_reducible refine NilW.goG (fun _ => ?_) ?_ | ((with_reducible refine n1 _ _ _ ?_); clear n1 K1) | ((with_reducible refine n1 _ ?_); clear n1 K1) | ((with_reducible refine n1 _ _ ?_); clear n1 K1) | ((with_reducible refine n1 _ _ _ _ ?_); clear n1 K1) | fail)
  all_goals try (first | exact trivial | omega | kernel_rfl | decide | exact And.intro (by omega) (by omega))
  all_goals try dsimp only [Int.toNat_natCast] at *
  all_goals try (first | exact trivial | omega | exact And.intro (by omega) (by omega))
  refine run_loop (loop_fam (ι := Nat) (fun k => [(8, .a (.of (.leaf .int (k : Int)))), (7, .a (.of (.leaf .int (xs.length : Int)))), (6, .a (.of (.leaf (.lst writeT) (hd, xs)))), (1, .a (.clo 98 [(0, 0, [], .int)])), (0, .a (.of (.leaf (.lst writeT) (hd, xs))))])
    (fun _ => [.leaf .int word]) (fun _ => ⟨nn, []⟩) (fun k => xs.length - k) (fun k => k ≤ xs.length ∧ ∀ j, j < k → (nthD writeT xs j).1 ≠ word) ?_ ?_)
  · exact ⟨0, ⟨Nat.zero_le _, fun j hj => by omega⟩, ⟨rfl, rfl, rfl, rfl, rfl, trivial⟩, rfl, 1, Nat.le_refl _, rfl, rfl⟩
  · rintro k ⟨hk, hno⟩
    repeat' (first | with_reducible refine seq_k fun K1 n1 => ?_ | with_reducible refine seq_nil ?_ | with_reducible refine drw_k fun K1 n1 => ?_ | with_reducible refine drw_nil ?_ ?_ | with_reducible refine run_seq ?_ | with_reducible refine run_skip ?_ | with_reducible refine run_regS ?_ | with_reducible refine run_regD (by kernel_rfl) ?_ ?_ | with_reducible refine inl_k (by with_unfolding_all rfl) (Nat.le_of_ble_eq_true rfl) fun K1 n1 => ?_ | with_reducible refine inlA_k (by with_unfolding_all rfl) (Nat.le_of_ble_eq_true rfl) fun K1 n1 => ?_ | with_reducible refine run_finA ?_ | with_reducible refine run_cond ?_ | with_reducible refine run_block ?_ | with_reducible refine run_endb ?_ | with_reducible refine run_exit fun K1 n1 => ?_ | with_reducible refine run_ret fun K1 n1 => ?_ | with_reducible refine run_fin ?_ | with_reducible refine run_inv ?_ | with_reducible refine go_rounds ?_ | ((with_reducible refine Go.mk ?_); (conv => whnf)) | refine Fork.yes ?_ | refine Fork.no ?_ | refine Fork.dec (fun _ => ?_) (fun _ => ?_) | refine Fork.ndec (fun _ => ?_) (fun _ => ?_) | refine Fork.mk (fun _ => ?_) (fun _ => ?_) | refine Way.yesG ?_ | refine Way.noG ?_ | refine Way.decG (fun _ => ?_) (fun _ => ?_) | refine Way.ndecG (fun _ => ?_) (fun _ => ?_) | refine Way.mkG (fun _ => ?_) (fun _ => ?_) | with_reducible refine Need.mkG ?_ ?_ | refine AppW.go0 ?_ ?_ | with_reducible refine NilW.goG (fun _ => ?_) ?_ | ((with_reducible refine n1 _ _ _ ?_); clear n1 K1) | ((with_reducible refine n1 _ ?_); clear n1 K1) | ((with_reducible refine n1 _ _ ?_); clear n1 K1) | ((with_reducible refine n1 _ _ _ _ ?_); clear n1 K1) | fail)
    all_goals try (first | exact trivial | omega | kernel_rfl | decide | exact And.intro (by omega) (by omega))
    all_goals try dsimp only [Int.toNat_natCast] at *
    all_goals try (first | exact trivial | omega | exact And.intro (by omega) (by omega))
    · rename_i h1 h2
      refine Done.of ?_ (Or.inl rfl)
      show ((k : Int), ()) = (atW xs word, ())
      rw [atW_some (by omega) h2 hno]
    · rename_i h1 h2
      refine ⟨k + 1, by omega, ⟨by omega, fun j hj => ?_⟩, ⟨?_, rfl, rfl, rfl, rfl, trivial⟩, rfl, 1, Nat.le_of_ble_eq_true rfl, rfl, rfl⟩
      · by_cases hjk : j = k
        · subst hjk; exact h2
        · exact hno j (by omega)
      · rw [← wrap_succ k (by omega)]
        rfl
    · rename_i h1
      refine Done.of ?_ (Or.inl rfl)
      show ((-1 : Int), ()) = (atW xs word, ())
      rw [atW_none (fun j hj => hno j (by omega))]
theorem atW_rng (l : List writeT.D) (word : Int) : -1 ≤ atW l word ∧ atW l word < (l.length : Int) := by
  unfold atW
  split
  · rename_i k hk
    have := (List.findIdx?_eq_some_iff_getElem.1 hk).1
    omega
  · omega
/-- No more than four, each to a word that there is, of a number that is a word, each word once. -/
def okW (l : List writeT.D) (n : Nat) : Bool := isB 32 (nthD writeT l n).1 && (isW (nthD writeT l n).2 && decide (atW (l.take n) (nthD writeT l n).1 < 0))
def goodWs (l : List writeT.D) : Bool := decide (l.length ≤ 4) && (List.range l.length).all (okW l)
theorem take_drop0 (xs : List writeT.D) (k : Nat) : List.take (k - Int.toNat 0) (List.drop (Int.toNat 0) xs) = xs.take k := by simp
theorem goodWs_no {l : List writeT.D} {k : Nat} (hk : k < l.length) (h : okW l k = false) : goodWs l = false := by
  unfold goodWs
  cases ha : (List.range l.length).all (okW l) with
  | false => simp
  | true =>
    have := List.all_eq_true.1 ha k (List.mem_range.2 hk)
    rw [h] at this
    cases this
abbrev goodWsS : Spec := pureS [.lst writeT] [.bool] fun d => (goodWs d.1.2, ())
theorem c_goodWrites : Ctr Try.prog 69 goodWsS := by
  refine ctr_of tabOk (SpecsOk.cons c_dIsPlace (by kernel_rfl) (SpecsOk.cons c_codeIsWord (by kernel_rfl) (SpecsOk.cons c_writeOf (by kernel_rfl) (SpecsOk.nil _)))) Try.func69 rfl _ (Nat.le_of_ble_eq_true rfl) (fun _ _ => rfl) ?_
  rintro nn ⟨⟨hd, xs⟩, ⟨⟩⟩ _ hb
  have hxs : xs.length ≤ 9223372036854775807 := hb.1
  refine ⟨200, init_k fun K1 n1 => ?_⟩
  conv => whnf
  refine n1 _ ?_
  clear n1 K1
  repeat' (first | with_reducible refine seq_k fun K1 n1 => ?_ | with_reducible refine seq_nil ?_ | with_reducible refine drw_k fun K1 n1 => ?_ | with_reducible refine drw_nil ?_ ?_ | with_reducible refine run_seq ?_ | with_reducible refine run_skip ?_ | with_reducible refine run_regS ?_ | with_reducible refine run_regD (by kernel_rfl) ?_ ?_ | with_reducible refine inl_k (by with_unfolding_all rfl) (Nat.le_of_ble_eq_true rfl) fun K1 n1 => ?_ | with_reducible refine inlA_k (by with_unfolding_all rfl) (Nat.le_of_ble_eq_true rfl) fun K1 n1 => ?_ | with_reducible refine run_finA ?_ | with_reducible refine run_cond ?_ | with_reducible refine run_block ?_ | with_reducible refine run_endb ?_ | with_reducible refine run_exit fun K1 n1 => ?_ | with_reducible refine run_ret fun K1 n1 => ?_ | with_reducible refine run_fin ?_ | with_reducible refine run_inv ?_ | with_reducible refine go_rounds ?_ | ((with_reducible refine Go.mk ?_); (conv => whnf)) | refine Fork.yes ?_ | refine Fork.no ?_ | refine Fork.dec (fun _ => ?_) (fun _ => ?_) | refine Fork.ndec (fun _ => ?_) (fun _ => ?_) | refine Fork.mk (fun _ => ?_) (fun _ => ?_) | refine Way.yesG ?_ | refine Way.noG ?_ | refine Way.decG (fun _ => ?_) (fun _ => ?_) | refine Way.ndecG (fun _ => ?_) (fun _ => ?_) | refine Way.mkG (fun _ => ?_) (fun _ => ?_) | with_reducible refine Need.mkG ?_ ?_ | refine AppW.go0 ?_ ?_ | with_reducible refine NilW.goG (fun _ => ?_) ?_ | ((with_reducible refine n1 _ _ _ ?_); clear n1 K1) | ((with_reducible refine n1 _ ?_); clear n1 K1) | ((with_reducible refine n1 _ _ ?_); clear n1 K1) | ((with_reducible refine n1 _ _ _ _ ?_); clear n1 K1) | fail)
  all_goals try (first | exact trivial | omega | kernel_rfl | decide | exact And.intro (by omega) (by omega))
  all_goals try dsimp only [Int.toNat_natCast] at *
  all_goals try (first | exact trivial | omega | exact And.intro (by omega) (by omega))
  · rename_i h
    refine Done.of ?_ (Or.inl rfl)
    show (false, ()) = (goodWs xs, ())
    unfold goodWs
    rw [decide_eq_false (by omega)]
    rfl
  · rename_i h4
    have hl4 : xs.length ≤ 4 := by omega
    refine run_loop (loop_fam (ι := Nat) (fun k => [(10, .a (.of (.leaf .int (k : Int)))), (9, .a (.of (.leaf .int (xs.length : Int)))), (8, .a (.of (.leaf (.lst writeT) (hd, xs)))), (0, .a (.of (.leaf (.lst writeT) (hd, xs))))])
      (fun _ => []) (fun k => ⟨nn + k, []⟩) (fun k => xs.length - k) (fun k => k ≤ xs.length ∧ ∀ j, j < k → okW xs j = true) ?_ ?_)
    · exact ⟨0, ⟨Nat.zero_le _, fun j hj => by omega⟩, ⟨rfl, rfl, rfl, rfl, trivial⟩, rfl, 0, Nat.le_refl _, rfl, rfl⟩
    · rintro k ⟨hk, hall⟩
      repeat' (first | with_reducible refine seq_k fun K1 n1 => ?_ | with_reducible refine seq_nil ?_ | with_reducible refine drw_k fun K1 n1 => ?_ | with_reducible refine drw_nil ?_ ?_ | with_reducible refine run_seq ?_ | with_reducible refine run_skip ?_ | with_reducible refine run_regS ?_ | with_reducible refine run_regD (by kernel_rfl) ?_ ?_ | with_reducible refine inl_k (by with_unfolding_all rfl) (Nat.le_of_ble_eq_true rfl) fun K1 n1 => ?_ | with_reducible refine inlA_k (by with_unfolding_all rfl) (Nat.le_of_ble_eq_true rfl) fun K1 n1 => ?_ | with_reducible refine run_finA ?_ | with_reducible refine run_cond ?_ | with_reducible refine run_block ?_ | with_reducible refine run_endb ?_ | with_reducible refine run_exit fun K1 n1 => ?_ | with_reducible refine run_ret fun K1 n1 => ?_ | with_reducible refine run_fin ?_ | with_reducible refine run_inv ?_ | with_reducible refine go_rounds ?_ | ((with_reducible refine Go.mk ?_); (conv => whnf)) | refine Fork.yes ?_ | refine Fork.no ?_ | refine Fork.dec (fun _ => ?_) (fun _ => ?_) | refine Fork.ndec (fun _ => ?_) (fun _ => ?_) | refine Fork.mk (fun _ => ?_) (fun _ => ?_) | refine Way.yesG ?_ | refine Way.noG ?_ | refine Way.decG (fun _ => ?_) (fun _ => ?_) | refine Way.ndecG (fun _ => ?_) (fun _ => ?_) | refine Way.mkG (fun _ => ?_) (fun _ => ?_) | with_reducible refine Need.mkG ?_ ?_ | refine AppW.go0 ?_ ?_ | with_reducible refine NilW.goG (fun _ => ?_) ?_ | ((with_reducible refine n1 _ _ _ ?_); clear n1 K1) | ((with_reducible refine n1 _ ?_); clear n1 K1) | ((with_reducible refine n1 _ _ ?_); clear n1 K1) | ((with_reducible refine n1 _ _ _ _ ?_); clear n1 K1) | fail)
      all_goals try (first | exact trivial | omega | kernel_rfl | decide | exact And.intro (by omega) (by omega))
      all_goals try dsimp only [Int.toNat_natCast] at *
      all_goals try (first | exact trivial | omega | exact And.intro (by omega) (by omega))
      · rename_i h1 h2
        refine Done.of ?_ (Or.inl rfl)
        show (false, ()) = (goodWs xs, ())
        rw [goodWs_no (k := k) (by omega) (by unfold okW isB; rw [decide_eq_false h2]; rfl)]
      · rename_i h1 h2 h3
        refine Done.of ?_ (Or.inl rfl)
        show (false, ()) = (goodWs xs, ())
        rw [goodWs_no (k := k) (by omega) (by unfold okW isW; rw [decide_eq_false h3]; simp)]
      · rename_i h1 h2 h3 h4
        refine Done.of ?_ (Or.inl rfl)
        show (false, ()) = (goodWs xs, ())
        rw [goodWs_no (k := k) (by omega) (by unfold okW; rw [decide_eq_false (by rw [take_drop0] at h4; omega)]; simp)]
      · rename_i h1 h2 h3 h4
        refine ⟨k + 1, by omega, ⟨by omega, fun j hj => ?_⟩, ⟨?_, rfl, rfl, rfl, trivial⟩, rfl, 0, Nat.zero_le _, rfl, rfl⟩
        · by_cases hjk : j = k
          · subst hjk
            rw [take_drop0] at h4
            unfold okW isB isW
            rw [decide_eq_true h2, decide_eq_true h3, decide_eq_true (by omega)]
            rfl
          · exact hall j (by omega)
        · rw [← wrap_succ k (by omega)]
          rfl
      · rename_i h1
        refine Done.of ?_ (Or.inl rfl)
        show (true, ()) = (goodWs xs, ())
        unfold goodWs
        rw [decide_eq_true hl4, List.all_eq_true.2 (fun j hj => hall j (by have := List.mem_range.1 hj; omega))]
        rfl
def anyRead (c : coreT.D) : Bool := (List.range 4).any fun w => (c.2.1 w).2.2.2
def freeF (c : coreT.D) : Bool := eqT plainT c.2.2.2.1 plainT.zero && (decide (c.2.2.2.2.1.2.length = 0) && (decide (c.2.2.2.2.2 = 0) && !anyRead c))
abbrev freeS : Spec := pureS [coreT] [.bool] fun d => (freeF d.1, ())
theorem c_isFree : Ctr Try.prog 68 freeS := by
  refine ctr_of tabOk (SpecsOk.mut (inl_ok tabOk (SpecsOk.mut (inl_ok tabOk (SpecsOk.mut (inl_ok tabOk (SpecsOk.nil _) Try.func85 [.bool]) (by kernel_rfl) (SpecsOk.nil _)) Try.func97 [.int]) (by kernel_rfl) (SpecsOk.nil _)) Try.func86 [.bool]) (by kernel_rfl) (SpecsOk.nil _)) Try.func68 rfl _ (Nat.le_of_ble_eq_true rfl) (fun _ _ => rfl) ?_
  rintro nn ⟨c, ⟨⟩⟩ _ hb
  refine ⟨200, init_k fun K1 n1 => ?_⟩
  conv => whnf
  refine n1 _ ?_
  clear n1 K1
  repeat' (first | with_reducible refine seq_k fun K1 n1 => ?_ | with_reducible refine seq_nil ?_ | with_reducible refine drw_k fun K1 n1 => ?_ | with_reducible refine drw_nil ?_ ?_ | with_reducible refine run_seq ?_ | with_reducible refine run_skip ?_ | with_reducible refine run_regS ?_ | with_reducible refine run_regD (by kernel_rfl) ?_ ?_ | with_reducible refine inl_k (by with_unfolding_all rfl) (Nat.le_of_ble_eq_true rfl) fun K1 n1 => ?_ | with_reducible refine inlA_k (by with_unfolding_all rfl) (Nat.le_of_ble_eq_true rfl) fun K1 n1 => ?_ | with_reducible refine run_finA ?_ | with_reducible refine run_cond ?_ | with_reducible refine run_block ?_ | with_reducible refine run_endb ?_ | with_reducible refine run_exit fun K1 n1 => ?_ | with_reducible refine run_ret fun K1 n1 => ?_ | with_reducible refine run_fin ?_ | with_reducible refine run_inv ?_ | with_reducible refine go_rounds ?_ | ((with_reducible refine Go.mk ?_); (conv => whnf)) | refine Fork.yes ?_ | refine Fork.no ?_ | refine Fork.dec (fun _ => ?_) (fun _ => ?_) | refine Fork.ndec (fun _ => ?_) (fun _ => ?_) | refine Fork.mk (fun _ => ?_) (fun _ => ?_) | refine Way.yesG ?_ | refine Way.noG ?_ | refine Way.decG (fun _ => ?_) (fun _ => ?_) | refine Way.ndecG (fun _ => ?_) (fun _ => ?_) | refine Way.mkG (fun _ => ?_) (fun _ => ?_) | with_reducible refine Need.mkG ?_ ?_ | refine AppW.go0 ?_ ?_ | with_reducible refine NilW.goG (fun _ => ?_) ?_ | ((with_reducible refine n1 _ _ _ ?_); clear n1 K1) | ((with_reducible refine n1 _ ?_); clear n1 K1) | ((with_reducible refine n1 _ _ ?_); clear n1 K1) | ((with_reducible refine n1 _ _ _ _ ?_); clear n1 K1) | fail)
  all_goals try (first | exact trivial | omega | kernel_rfl | decide | exact And.intro (by omega) (by omega))
  all_goals try dsimp only [Int.toNat_natCast] at *
  all_goals try (first | exact trivial | omega | exact And.intro (by omega) (by omega))
  · refine run_loop (loop_fam (ι := Nat) (fun k => [(8, .a (.of (.leaf .int (k : Int)))), (7, .a (.of (.leaf .int (4 : Int)))), (6, .a (.slc 0 10 (fldP 6 1) 4 lineT 0 4 4)), (1, .a (.clo 85 [])), (0, .a (.slc 0 10 (fldP 6 1) 4 lineT 0 4 4))])
      (fun _ => [.leaf coreT c]) (fun _ => ⟨nn, []⟩) (fun k => 4 - k) (fun k => k ≤ 4 ∧ ∀ j, j < k → (c.2.1 j).2.2.2 = false) ?_ ?_)
    · exact ⟨0, ⟨Nat.zero_le _, fun j hj => by omega⟩, ⟨rfl, rfl, rfl, rfl, rfl, trivial⟩, rfl, 1, Nat.le_refl _, rfl, rfl⟩
    · rintro k ⟨hk, hall⟩
      have hfree : freeF c = !anyRead c := by
        unfold freeF
        simp_all
      repeat' (first | with_reducible refine seq_k fun K1 n1 => ?_ | with_reducible refine seq_nil ?_ | with_reducible refine drw_k fun K1 n1 => ?_ | with_reducible refine drw_nil ?_ ?_ | with_reducible refine run_seq ?_ | with_reducible refine run_skip ?_ | with_reducible refine run_regS ?_ | with_reducible refine run_regD (by kernel_rfl) ?_ ?_ | with_reducible refine inl_k (by with_unfolding_all rfl) (Nat.le_of_ble_eq_true rfl) fun K1 n1 => ?_ | with_reducible refine inlA_k (by with_unfolding_all rfl) (Nat.le_of_ble_eq_true rfl) fun K1 n1 => ?_ | with_reducible refine run_finA ?_ | with_reducible refine run_cond ?_ | with_reducible refine run_block ?_ | with_reducible refine run_endb ?_ | with_reducible refine run_exit fun K1 n1 => ?_ | with_reducible refine run_ret fun K1 n1 => ?_ | with_reducible refine run_fin ?_ | with_reducible refine run_inv ?_ | with_reducible refine go_rounds ?_ | ((with_reducible refine Go.mk ?_); (conv => whnf)) | refine Fork.yes ?_ | refine Fork.no ?_ | refine Fork.dec (fun _ => ?_) (fun _ => ?_) | refine Fork.ndec (fun _ => ?_) (fun _ => ?_) | refine Fork.mk (fun _ => ?_) (fun _ => ?_) | refine Way.yesG ?_ | refine Way.noG ?_ | refine Way.decG (fun _ => ?_) (fun _ => ?_) | refine Way.ndecG (fun _ => ?_) (fun _ => ?_) | refine Way.mkG (fun _ => ?_) (fun _ => ?_) | with_reducible refine Need.mkG ?_ ?_ | refine AppW.go0 ?_ ?_ | with_reducible refine NilW.goG (fun _ => ?_) ?_ | ((with_reducible refine n1 _ _ _ ?_); clear n1 K1) | ((with_reducible refine n1 _ ?_); clear n1 K1) | ((with_reducible refine n1 _ _ ?_); clear n1 K1) | ((with_reducible refine n1 _ _ _ _ ?_); clear n1 K1) | fail)
      all_goals try (first | exact trivial | omega | kernel_rfl | decide | exact And.intro (by omega) (by omega))
      all_goals try dsimp only [Int.toNat_natCast] at *
      all_goals try (first | exact trivial | omega | exact And.intro (by omega) (by omega))
      · rename_i h1 h2
        refine Done.of ?_ (Or.inl rfl)
        show (!decide (0 ≤ (k : Int)), ()) = (freeF c, ())
        rw [Nat.zero_add] at h2
        rw [hfree, decide_eq_true (by omega), show anyRead c = true from List.any_eq_true.2 ⟨k, List.mem_range.2 (by omega), h2⟩]
      · rename_i h1 h2
        refine ⟨k + 1, by omega, ⟨by omega, fun j hj => ?_⟩, ⟨?_, rfl, rfl, rfl, rfl, trivial⟩, rfl, 1, Nat.le_of_ble_eq_true rfl, rfl, rfl⟩
        · by_cases hjk : j = k
          · subst hjk; rw [Nat.zero_add] at h2; exact h2
          · exact hall j (by omega)
        · rw [← wrap_succ k (by omega)]
          rfl
      · rename_i h1
        refine Done.of ?_ (Or.inl rfl)
        show (!decide ((0 : Int) ≤ -1), ()) = (freeF c, ())
        rw [hfree, decide_eq_false (by omega), show anyRead c = false from ?_]
        rw [← Bool.not_eq_true]
        intro ha
        obtain ⟨j, hj, hr⟩ := List.any_eq_true.1 ha
        rw [hall j (by have := List.mem_range.1 hj; omega)] at hr
        cases hr
  all_goals
    refine Done.of ?_ (Or.inl rfl)
    show (false, ()) = (freeF c, ())
    unfold freeF
    simp_all
/-- A core is one. -/
def goodC (c : coreT.D) : Bool :=
  goodP c.1 && (decide (0 ≤ c.2.2.1 ∧ c.2.2.1 ≤ 3) && (if c.2.2.1 = 0 then freeF c else
    goodP c.2.2.2.1 && (!c.2.2.2.1.2.2 && (!c.1.2.2 && (decide (1 ≤ c.2.2.2.2.2 ∧ c.2.2.2.2.2 < 400) && goodWs c.2.2.2.2.1.2)))))
abbrev goodCS : Spec := pureS [coreT] [.bool] fun d => (goodC d.1, ())
theorem c_goodCore : Ctr Try.prog 50 goodCS := by
  refine ctr_of tabOk (SpecsOk.cons c_GoodPlain (by kernel_rfl) (SpecsOk.cons c_isFree (by kernel_rfl) (SpecsOk.cons c_goodWrites (by kernel_rfl) (SpecsOk.nil _)))) Try.func50 rfl _ (Nat.le_of_ble_eq_true rfl) (fun _ _ => rfl) ?_
  rintro nn ⟨c, ⟨⟩⟩ _ hb
  refine ⟨200, init_k fun K1 n1 => ?_⟩
  conv => whnf
  refine n1 _ ?_
  clear n1 K1
  repeat' (first | with_reducible refine seq_k fun K1 n1 => ?_ | with_reducible refine seq_nil ?_ | with_reducible refine drw_k fun K1 n1 => ?_ | with_reducible refine drw_nil ?_ ?_ | with_reducible refine run_seq ?_ | with_reducible refine run_skip ?_ | with_reducible refine run_regS ?_ | with_reducible refine run_regD (by kernel_rfl) ?_ ?_ | with_reducible refine inl_k (by with_unfolding_all rfl) (Nat.le_of_ble_eq_true rfl) fun K1 n1 => ?_ | with_reducible refine inlA_k (by with_unfolding_all rfl) (Nat.le_of_ble_eq_true rfl) fun K1 n1 => ?_ | with_reducible refine run_finA ?_ | with_reducible refine run_cond ?_ | with_reducible refine run_block ?_ | with_reducible refine run_endb ?_ | with_reducible refine run_exit fun K1 n1 => ?_ | with_reducible refine run_ret fun K1 n1 => ?_ | with_reducible refine run_fin ?_ | with_reducible refine run_inv ?_ | with_reducible refine go_rounds ?_ | ((with_reducible refine Go.mk ?_); (conv => whnf)) | refine Fork.yes ?_ | refine Fork.no ?_ | refine Fork.dec (fun _ => ?_) (fun _ => ?_) | refine Fork.ndec (fun _ => ?_) (fun _ => ?_) | refine Fork.mk (fun _ => ?_) (fun _ => ?_) | refine Way.yesG ?_ | refine Way.noG ?_ | refine Way.decG (fun _ => ?_) (fun _ => ?_) | refine Way.ndecG (fun _ => ?_) (fun _ => ?_) | refine Way.mkG (fun _ => ?_) (fun _ => ?_) | with_reducible refine Need.mkG ?_ ?_ | refine AppW.go0 ?_ ?_ | with_reducible refine NilW.goG (fun _ => ?_) ?_ | ((with_reducible refine n1 _ _ _ ?_); clear n1 K1) | ((with_reducible refine n1 _ ?_); clear n1 K1) | ((with_reducible refine n1 _ _ ?_); clear n1 K1) | ((with_reducible refine n1 _ _ _ _ ?_); clear n1 K1) | fail)
  all_goals try (first | exact trivial | omega | kernel_rfl | decide | exact And.intro (by omega) (by omega))
  all_goals try dsimp only [Int.toNat_natCast] at *
  all_goals try (first | exact trivial | omega | exact And.intro (by omega) (by omega))
  all_goals
    refine Done.of ?_ (Or.inl rfl)
    show (_, ()) = (goodC c, ())
    unfold goodC
    simp_all
  · rename_i h; exact fun h1 => absurd h1 (Int.not_le.2 h)
  · rename_i h; exact fun h1 => absurd h1 (Int.not_le.2 h)
  · rename_i h; exact fun h1 => absurd h1 (Int.not_lt.2 h)
  · rename_i h; exact fun h1 => absurd h1 (Int.not_le.2 h)
/-- A desk is one. -/
def goodK (d : deskT.D) : Bool := goodC (d.1 0) && (goodC (d.1 1) && goodD d)
abbrev goodKS : Spec := pureS [deskT] [.bool] fun d => (goodK d.1, ())
theorem c_dGood : Ctr Try.prog 24 goodKS := by
  refine ctr_of tabOk (SpecsOk.cons c_goodCore (by kernel_rfl) (SpecsOk.cons c_Good (by kernel_rfl) (SpecsOk.nil _))) Try.func24 rfl _ (Nat.le_of_ble_eq_true rfl) (fun _ _ => rfl) ?_
  rintro nn ⟨d, ⟨⟩⟩ _ hb
  refine ⟨200, init_k fun K1 n1 => ?_⟩
  conv => whnf
  refine n1 _ ?_
  clear n1 K1
  repeat' (first | with_reducible refine seq_k fun K1 n1 => ?_ | with_reducible refine seq_nil ?_ | with_reducible refine drw_k fun K1 n1 => ?_ | with_reducible refine drw_nil ?_ ?_ | with_reducible refine run_seq ?_ | with_reducible refine run_skip ?_ | with_reducible refine run_regS ?_ | with_reducible refine run_regD (by kernel_rfl) ?_ ?_ | with_reducible refine inl_k (by with_unfolding_all rfl) (Nat.le_of_ble_eq_true rfl) fun K1 n1 => ?_ | with_reducible refine inlA_k (by with_unfolding_all rfl) (Nat.le_of_ble_eq_true rfl) fun K1 n1 => ?_ | with_reducible refine run_finA ?_ | with_reducible refine run_cond ?_ | with_reducible refine run_block ?_ | with_reducible refine run_endb ?_ | with_reducible refine run_exit fun K1 n1 => ?_ | with_reducible refine run_ret fun K1 n1 => ?_ | with_reducible refine run_fin ?_ | with_reducible refine run_inv ?_ | with_reducible refine go_rounds ?_ | ((with_reducible refine Go.mk ?_); (conv => whnf)) | refine Fork.yes ?_ | refine Fork.no ?_ | refine Fork.dec (fun _ => ?_) (fun _ => ?_) | refine Fork.ndec (fun _ => ?_) (fun _ => ?_) | refine Fork.mk (fun _ => ?_) (fun _ => ?_) | refine Way.yesG ?_ | refine Way.noG ?_ | refine Way.decG (fun _ => ?_) (fun _ => ?_) | refine Way.ndecG (fun _ => ?_) (fun _ => ?_) | refine Way.mkG (fun _ => ?_) (fun _ => ?_) | with_reducible refine Need.mkG ?_ ?_ | refine AppW.go0 ?_ ?_ | with_reducible refine NilW.goG (fun _ => ?_) ?_ | ((with_reducible refine n1 _ _ _ ?_); clear n1 K1) | ((with_reducible refine n1 _ ?_); clear n1 K1) | ((with_reducible refine n1 _ _ ?_); clear n1 K1) | ((with_reducible refine n1 _ _ _ _ ?_); clear n1 K1) | fail)
  all_goals try (first | exact trivial | omega | kernel_rfl | decide | exact And.intro (by omega) (by omega))
  all_goals try dsimp only [Int.toNat_natCast] at *
  all_goals try (first | exact trivial | omega | exact And.intro (by omega) (by omega))
  refine run_loop (loop_fam (ι := Nat) (fun k => [(7, .a (.of (.leaf .int (k : Int)))), (6, .a (.of (.leaf (.arr 2 coreT) d.1))), (1, .a (.ptr 0 0 [] deskT))])
    (fun _ => [.leaf deskT d]) (fun _ => ⟨nn, []⟩) (fun k => 2 - k) (fun k => k ≤ 2 ∧ ∀ j, j < k → goodC (d.1 j) = true) ?_ ?_)
  · exact ⟨0, ⟨Nat.zero_le _, fun j hj => by omega⟩, ⟨rfl, rfl, rfl, trivial⟩, rfl, 1, Nat.le_refl _, rfl, rfl⟩
  · rintro k ⟨hk, hall⟩
    repeat' (first | with_reducible refine seq_k fun K1 n1 => ?_ | with_reducible refine seq_nil ?_ | with_reducible refine drw_k fun K1 n1 => ?_ | with_reducible refine drw_nil ?_ ?_ | with_reducible refine run_seq ?_ | with_reducible refine run_skip ?_ | with_reducible refine run_regS ?_ | with_reducible refine run_regD (by kernel_rfl) ?_ ?_ | with_reducible refine inl_k (by with_unfolding_all rfl) (Nat.le_of_ble_eq_true rfl) fun K1 n1 => ?_ | with_reducible refine inlA_k (by with_unfolding_all rfl) (Nat.le_of_ble_eq_true rfl) fun K1 n1 => ?_ | with_reducible refine run_finA ?_ | with_reducible refine run_cond ?_ | with_reducible refine run_block ?_ | with_reducible refine run_endb ?_ | with_reducible refine run_exit fun K1 n1 => ?_ | with_reducible refine run_ret fun K1 n1 => ?_ | with_reducible refine run_fin ?_ | with_reducible refine run_inv ?_ | with_reducible refine go_rounds ?_ | ((with_reducible refine Go.mk ?_); (conv => whnf)) | refine Fork.yes ?_ | refine Fork.no ?_ | refine Fork.dec (fun _ => ?_) (fun _ => ?_) | refine Fork.ndec (fun _ => ?_) (fun _ => ?_) | refine Fork.mk (fun _ => ?_) (fun _ => ?_) | refine Way.yesG ?_ | refine Way.noG ?_ | refine Way.decG (fun _ => ?_) (fun _ => ?_) | refine Way.ndecG (fun _ => ?_) (fun _ => ?_) | refine Way.mkG (fun _ => ?_) (fun _ => ?_) | with_reducible refine Need.mkG ?_ ?_ | refine AppW.go0 ?_ ?_ | with_reducible refine NilW.goG (fun _ => ?_) ?_ | ((with_reducible refine n1 _ _ _ ?_); clear n1 K1) | ((with_reducible refine n1 _ ?_); clear n1 K1) | ((with_reducible refine n1 _ _ ?_); clear n1 K1) | ((with_reducible refine n1 _ _ _ _ ?_); clear n1 K1) | fail)
    all_goals try (first | exact trivial | omega | kernel_rfl | decide | exact And.intro (by omega) (by omega))
    all_goals try dsimp only [Int.toNat_natCast] at *
    all_goals try (first | exact trivial | omega | exact And.intro (by omega) (by omega))
    · rename_i h1 h2
      refine Done.of ?_ (Or.inl rfl)
      show (false, ()) = (goodK d, ())
      have h2 : goodC (d.1 k) = false := not_t h2
      have hk2 : k = 0 ∨ k = 1 := by omega
      unfold goodK
      rcases hk2 with rfl | rfl
      · rw [h2]; rfl
      · rw [h2]; simp
    · rename_i h1 h2
      refine ⟨k + 1, by omega, ⟨by omega, fun j hj => ?_⟩, ⟨?_, rfl, rfl, trivial⟩, rfl, 1, Nat.le_of_ble_eq_true rfl, rfl, rfl⟩
      · by_cases hjk : j = k
        · subst hjk; exact not_f h2
        · exact hall j (by omega)
      · rw [← wrap_succ k (by omega)]
        rfl
    · rename_i h1
      refine Done.of ?_ (Or.inl rfl)
      show (goodD d, ()) = (goodK d, ())
      unfold goodK
      rw [hall 0 (by omega), hall 1 (by omega)]
      rfl
end Go.Proofs.Ytjbbgpacijageab.M

/- Package desk: who holds what; a transaction that fails. -/
namespace Go.Proofs.Ytjbbgpacijageab.M
open Go.RowKit
set_option linter.unusedVariables false
set_option linter.unusedSimpArgs false

def wrL (line : Int) (w : writeT.D) : Bool := decide (wrap64 (w.1.tdiv 2) = line)
def holdsF (d : deskT.D) (c line : Int) : Bool :=
  if (0 ≤ c ∧ c < 2) ∧ (d.1 c.toNat).2.2.1 ≠ 0 then
    ((findF d c line).2 && ((d.1 c.toNat).2.1 (findF d c line).1.toNat).2.2.2) || (d.1 c.toNat).2.2.2.2.1.2.any (wrL line)
  else false
theorem any_yes {p : writeT.D → Bool} {l : List writeT.D} {k : Nat} (hk : k < l.length) (h : p (nthD writeT l k) = true) : l.any p = true := by
  rw [nthD_eq hk] at h
  exact List.any_eq_true.2 ⟨l[k], List.getElem_mem hk, h⟩
theorem any_no {p : writeT.D → Bool} {l : List writeT.D} (h : ∀ k, k < l.length → p (nthD writeT l k) = false) : l.any p = false := by
  rw [← Bool.not_eq_true]
  intro ha
  obtain ⟨w, hw, hp⟩ := List.any_eq_true.1 ha
  obtain ⟨k, hk⟩ := List.getElem?_of_mem hw
  have hlt := (List.getElem?_eq_some_iff.1 hk).1
  have h1 := h k hlt
  rw [nthD_eq hlt, (List.getElem?_eq_some_iff.1 hk).2, hp] at h1
  cases h1
abbrev holdsS : Spec := pureS [deskT, .int, .int] [.bool] fun d => (holdsF d.1 d.2.1 d.2.2.1, ())
theorem c_Holds : Ctr Try.prog 29 holdsS := by
  refine ctr_of tabOk (SpecsOk.cons c_dIsCore (by kernel_rfl) (SpecsOk.cons c_Find (by kernel_rfl) (SpecsOk.mut (inl_ok tabOk (SpecsOk.mut (inl_ok tabOk (SpecsOk.mut (inl_ok tabOk (SpecsOk.nil _) Try.func55 [.bool]) (by kernel_rfl) (SpecsOk.nil _)) Try.func74 [.int]) (by kernel_rfl) (SpecsOk.nil _)) Try.func54 [.bool]) (by kernel_rfl) (SpecsOk.nil _)))) Try.func29 rfl _ (Nat.le_of_ble_eq_true rfl) (fun _ _ => rfl) ?_
  rintro nn ⟨d, (c : Int), (line : Int), ⟨⟩⟩ _ hb
  refine ⟨200, init_k fun K1 n1 => ?_⟩
  conv => whnf
  refine n1 _ ?_
  clear n1 K1
  repeat' (first | with_reducible refine seq_k fun K1 n1 => ?_ | with_reducible refine seq_nil ?_ | with_reducible refine drw_k fun K1 n1 => ?_ | with_reducible refine drw_nil ?_ ?_ | with_reducible refine run_seq ?_ | with_reducible refine run_skip ?_ | with_reducible refine run_regS ?_ | with_reducible refine run_regD (by kernel_rfl) ?_ ?_ | with_reducible refine inl_k (by with_unfolding_all rfl) (Nat.le_of_ble_eq_true rfl) fun K1 n1 => ?_ | with_reducible refine inlA_k (by with_unfolding_all rfl) (Nat.le_of_ble_eq_true rfl) fun K1 n1 => ?_ | with_reducible refine run_finA ?_ | with_reducible refine run_cond ?_ | with_reducible refine run_block ?_ | with_reducible refine run_endb ?_ | with_reducible refine run_exit fun K1 n1 => ?_ | with_reducible refine run_ret fun K1 n1 => ?_ | with_reducible refine run_fin ?_ | with_reducible refine run_inv ?_ | with_reducible refine go_rounds ?_ | ((with_reducible refine Go.mk ?_); (conv => whnf)) | refine Fork.yes ?_ | refine Fork.no ?_ | refine Fork.dec (fun _ => ?_) (fun _ => ?_) | refine Fork.ndec (fun _ => ?_) (fun _ => ?_) | refine Fork.mk (fun _ => ?_) (fun _ => ?_) | refine Way.yesG ?_ | refine Way.noG ?_ | refine Way.decG (fun _ => ?_) (fun _ => ?_) | refine Way.ndecG (fun _ => ?_) (fun _ => ?_) | refine Way.mkG (fun _ => ?_) (fun _ => ?_) | with_reducible refine Need.mkG ?_ ?_ | refine AppW.go0 ?_ ?_ | with_reducible refine NilW.goG (fun _ => ?_) ?_ | ((with_reducible refine n1 _ _ _ ?_); clear n1 K1) | ((with_reducible refine n1 _ ?_); clear n1 K1) | ((with_reducible refine n1 _ _ ?_); clear n1 K1) | ((with_reducible refine n1 _ _ _ _ ?_); clear n1 K1) | fail)
  all_goals try (first | exact trivial | omega | kernel_rfl | decide | exact And.intro (by omega) (by omega))
  all_goals try dsimp only [Int.toNat_natCast] at *
  all_goals try (first | exact trivial | omega | exact And.intro (by omega) (by omega))
  · rename_i h
    refine Done.of ?_ (Or.inl rfl)
    show (false, ()) = (holdsF d c line, ())
    unfold holdsF
    rw [if_neg (fun g => h g.1)]
  · rename_i h1 h
    refine Done.of ?_ (Or.inl rfl)
    show (false, ()) = (holdsF d c line, ())
    unfold holdsF
    rw [if_neg (fun g => g.2 h)]
  · exact find_range d c line
  · rename_i h1 h2 h3 h4
    refine Done.of ?_ (Or.inl rfl)
    show (true, ()) = (holdsF d c line, ())
    unfold holdsF
    rw [if_pos ⟨h1, h2⟩, h3, h4]
    rfl
  · refine run_loop (loop_fam (ι := Nat) (fun k => [(8, .a (.of (.leaf .int (k : Int)))), (7, .a (.of (.leaf .int ((d.1 c.toNat).2.2.2.2.1.2.length : Int)))), (6, .a (.of (.leaf (.lst writeT) (d.1 c.toNat).2.2.2.2.1))), (1, .a (.clo 55 [(1, 0, [], .int)])), (0, .a (.of (.leaf (.lst writeT) (d.1 c.toNat).2.2.2.2.1)))])
      (fun _ => [.leaf deskT d, .leaf .int line]) (fun _ => ⟨nn, []⟩) (fun k => (d.1 c.toNat).2.2.2.2.1.2.length - k) (fun k => k ≤ (d.1 c.toNat).2.2.2.2.1.2.length ∧ ∀ j, j < k → wrL line (nthD writeT (d.1 c.toNat).2.2.2.2.1.2 j) = false) ?_ ?_)
    · exact ⟨0, ⟨Nat.zero_le _, fun j hj => by omega⟩, ⟨rfl, rfl, rfl, rfl, rfl, trivial⟩, rfl, 2, Nat.le_refl _, rfl, rfl⟩
    · rintro k ⟨hk, hno⟩
      have hc : 0 ≤ c ∧ c < 2 := by assumption
      have hdp : ¬ (d.1 c.toNat).2.2.1 = 0 := by assumption
      have hws : (d.1 c.toNat).2.2.2.2.1.2.length ≤ 9223372036854775807 := (hb.1.1 c.toNat (by omega)).2.2.2.2.1
      have hF : holdsF d c line = (d.1 c.toNat).2.2.2.2.1.2.any (wrL line) := by
        unfold holdsF
        rw [if_pos ⟨hc, hdp⟩]
        simp_all
      repeat' (first | with_reducible refine seq_k fun K1 n1 => ?_ | with_reducible refine seq_nil ?_ | with_reducible refine drw_k fun K1 n1 => ?_ | with_reducible refine drw_nil ?_ ?_ | with_reducible refine run_seq ?_ | with_reducible refine run_skip ?_ | with_reducible refine run_regS ?_ | with_reducible refine run_regD (by kernel_rfl) ?_ ?_ | with_reducible refine inl_k (by with_unfolding_all rfl) (Nat.le_of_ble_eq_true rfl) fun K1 n1 => ?_ | with_reducible refine inlA_k (by with_unfolding_all rfl) (Nat.le_of_ble_eq_true rfl) fun K1 n1 => ?_ | with_reducible refine run_finA ?_ | with_reducible refine run_cond ?_ | with_reducible refine run_block ?_ | with_reducible refine run_endb ?_ | with_reducible refine run_exit fun K1 n1 => ?_ | with_reducible refine run_ret fun K1 n1 => ?_ | with_reducible refine run_fin ?_ | with_reducible refine run_inv ?_ | with_reducible refine go_rounds ?_ | ((with_reducible refine Go.mk ?_); (conv => whnf)) | refine Fork.yes ?_ | refine Fork.no ?_ | refine Fork.dec (fun _ => ?_) (fun _ => ?_) | refine Fork.ndec (fun _ => ?_) (fun _ => ?_) | refine Fork.mk (fun _ => ?_) (fun _ => ?_) | refine Way.yesG ?_ | refine Way.noG ?_ | refine Way.decG (fun _ => ?_) (fun _ => ?_) | refine Way.ndecG (fun _ => ?_) (fun _ => ?_) | refine Way.mkG (fun _ => ?_) (fun _ => ?_) | with_reducible refine Need.mkG ?_ ?_ | refine AppW.go0 ?_ ?_ | with_reducible refine NilW.goG (fun _ => ?_) ?_ | ((with_reducible refine n1 _ _ _ ?_); clear n1 K1) | ((with_reducible refine n1 _ ?_); clear n1 K1) | ((with_reducible refine n1 _ _ ?_); clear n1 K1) | ((with_reducible refine n1 _ _ _ _ ?_); clear n1 K1) | fail)
      all_goals try (first | exact trivial | omega | kernel_rfl | decide | exact And.intro (by omega) (by omega))
      all_goals try dsimp only [Int.toNat_natCast] at *
      all_goals try (first | exact trivial | omega | exact And.intro (by omega) (by omega))
      · rename_i h1 h2
        refine Done.of ?_ (Or.inl rfl)
        show (decide (0 ≤ (k : Int)), ()) = (holdsF d c line, ())
        rw [hF, decide_eq_true (by omega), any_yes (k := k) (by omega) (decide_eq_true h2)]
      · rename_i h1 h2
        refine ⟨k + 1, by omega, ⟨by omega, fun j hj => ?_⟩, ⟨?_, rfl, rfl, rfl, rfl, trivial⟩, rfl, 2, Nat.le_of_ble_eq_true rfl, rfl, rfl⟩
        · by_cases hjk : j = k
          · subst hjk; exact decide_eq_false h2
          · exact hno j (by omega)
        · rw [← wrap_succ k (by omega)]
          rfl
      · rename_i h1
        refine Done.of ?_ (Or.inl rfl)
        show (decide ((0 : Int) ≤ -1), ()) = (holdsF d c line, ())
        rw [hF, decide_eq_false (by omega), any_no (fun j hj => hno j (by omega))]
  · refine run_loop (loop_fam (ι := Nat) (fun k => [(8, .a (.of (.leaf .int (k : Int)))), (7, .a (.of (.leaf .int ((d.1 c.toNat).2.2.2.2.1.2.length : Int)))), (6, .a (.of (.leaf (.lst writeT) (d.1 c.toNat).2.2.2.2.1))), (1, .a (.clo 55 [(1, 0, [], .int)])), (0, .a (.of (.leaf (.lst writeT) (d.1 c.toNat).2.2.2.2.1)))])
      (fun _ => [.leaf deskT d, .leaf .int line]) (fun _ => ⟨nn, []⟩) (fun k => (d.1 c.toNat).2.2.2.2.1.2.length - k) (fun k => k ≤ (d.1 c.toNat).2.2.2.2.1.2.length ∧ ∀ j, j < k → wrL line (nthD writeT (d.1 c.toNat).2.2.2.2.1.2 j) = false) ?_ ?_)
    · exact ⟨0, ⟨Nat.zero_le _, fun j hj => by omega⟩, ⟨rfl, rfl, rfl, rfl, rfl, trivial⟩, rfl, 2, Nat.le_refl _, rfl, rfl⟩
    · rintro k ⟨hk, hno⟩
      have hc : 0 ≤ c ∧ c < 2 := by assumption
      have hdp : ¬ (d.1 c.toNat).2.2.1 = 0 := by assumption
      have hws : (d.1 c.toNat).2.2.2.2.1.2.length ≤ 9223372036854775807 := (hb.1.1 c.toNat (by omega)).2.2.2.2.1
      have hF : holdsF d c line = (d.1 c.toNat).2.2.2.2.1.2.any (wrL line) := by
        unfold holdsF
        rw [if_pos ⟨hc, hdp⟩]
        simp_all
      repeat' (first | with_reducible refine seq_k fun K1 n1 => ?_ | with_reducible refine seq_nil ?_ | with_reducible refine drw_k fun K1 n1 => ?_ | with_reducible refine drw_nil ?_ ?_ | with_reducible refine run_seq ?_ | with_reducible refine run_skip ?_ | with_reducible refine run_regS ?_ | with_reducible refine run_regD (by kernel_rfl) ?_ ?_ | with_reducible refine inl_k (by with_unfolding_all rfl) (Nat.le_of_ble_eq_true rfl) fun K1 n1 => ?_ | with_reducible refine inlA_k (by with_unfolding_all rfl) (Nat.le_of_ble_eq_true rfl) fun K1 n1 => ?_ | with_reducible refine run_finA ?_ | with_reducible refine run_cond ?_ | with_reducible refine run_block ?_ | with_reducible refine run_endb ?_ | with_reducible refine run_exit fun K1 n1 => ?_ | with_reducible refine run_ret fun K1 n1 => ?_ | with_reducible refine run_fin ?_ | with_reducible refine run_inv ?_ | with_reducible refine go_rounds ?_ | ((with_reducible refine Go.mk ?_); (conv => whnf)) | refine Fork.yes ?_ | refine Fork.no ?_ | refine Fork.dec (fun _ => ?_) (fun _ => ?_) | refine Fork.ndec (fun _ => ?_) (fun _ => ?_) | refine Fork.mk (fun _ => ?_) (fun _ => ?_) | refine Way.yesG ?_ | refine Way.noG ?_ | refine Way.decG (fun _ => ?_) (fun _ => ?_) | refine Way.ndecG (fun _ => ?_) (fun _ => ?_) | refine Way.mkG (fun _ => ?_) (fun _ => ?_) | with_reducible refine Need.mkG ?_ ?_ | refine AppW.go0 ?_ ?_ | with_reducible refine NilW.goG (fun _ => ?_) ?_ | ((with_reducible refine n1 _ _ _ ?_); clear n1 K1) | ((with_reducible refine n1 _ ?_); clear n1 K1) | ((with_reducible refine n1 _ _ ?_); clear n1 K1) | ((with_reducible refine n1 _ _ _ _ ?_); clear n1 K1) | fail)
      all_goals try (first | exact trivial | omega | kernel_rfl | decide | exact And.intro (by omega) (by omega))
      all_goals try dsimp only [Int.toNat_natCast] at *
      all_goals try (first | exact trivial | omega | exact And.intro (by omega) (by omega))
      · rename_i h1 h2
        refine Done.of ?_ (Or.inl rfl)
        show (decide (0 ≤ (k : Int)), ()) = (holdsF d c line, ())
        rw [hF, decide_eq_true (by omega), any_yes (k := k) (by omega) (decide_eq_true h2)]
      · rename_i h1 h2
        refine ⟨k + 1, by omega, ⟨by omega, fun j hj => ?_⟩, ⟨?_, rfl, rfl, rfl, rfl, trivial⟩, rfl, 2, Nat.le_of_ble_eq_true rfl, rfl, rfl⟩
        · by_cases hjk : j = k
          · subst hjk; exact decide_eq_false h2
          · exact hno j (by omega)
        · rw [← wrap_succ k (by omega)]
          rfl
      · rename_i h1
        refine Done.of ?_ (Or.inl rfl)
        show (decide ((0 : Int) ≤ -1), ()) = (holdsF d c line, ())
        rw [hF, decide_eq_false (by omega), any_no (fun j hj => hno j (by omega))]
def refF (d : deskT.D) (c : Int) : Int := if goodK d = true then (if 0 ≤ c ∧ c < 2 then 0 else 5) else 1
abbrev refS : Spec := pureS [deskT, .int] [.int] fun d => (refF d.1 d.2.1, ())
theorem c_refused : Ctr Try.prog 46 refS := by
  refine ctr_of tabOk (SpecsOk.cons c_dGood (by kernel_rfl) (SpecsOk.cons c_dIsCore (by kernel_rfl) (SpecsOk.nil _))) Try.func46 rfl _ (Nat.le_of_ble_eq_true rfl) (fun _ _ => rfl) ?_
  rintro nn ⟨d, (c : Int), ⟨⟩⟩ _ hb
  refine ⟨200, init_k fun K1 n1 => ?_⟩
  conv => whnf
  refine n1 _ ?_
  clear n1 K1
  repeat' (first | with_reducible refine seq_k fun K1 n1 => ?_ | with_reducible refine seq_nil ?_ | with_reducible refine drw_k fun K1 n1 => ?_ | with_reducible refine drw_nil ?_ ?_ | with_reducible refine run_seq ?_ | with_reducible refine run_skip ?_ | with_reducible refine run_regS ?_ | with_reducible refine run_regD (by kernel_rfl) ?_ ?_ | with_reducible refine inl_k (by with_unfolding_all rfl) (Nat.le_of_ble_eq_true rfl) fun K1 n1 => ?_ | with_reducible refine inlA_k (by with_unfolding_all rfl) (Nat.le_of_ble_eq_true rfl) fun K1 n1 => ?_ | with_reducible refine run_finA ?_ | with_reducible refine run_cond ?_ | with_reducible refine run_block ?_ | with_reducible refine run_endb ?_ | with_reducible refine run_exit fun K1 n1 => ?_ | with_reducible refine run_ret fun K1 n1 => ?_ | with_reducible refine run_fin ?_ | with_reducible refine run_inv ?_ | with_reducible refine go_rounds ?_ | ((with_reducible refine Go.mk ?_); (conv => whnf)) | refine Fork.yes ?_ | refine Fork.no ?_ | refine Fork.dec (fun _ => ?_) (fun _ => ?_) | refine Fork.ndec (fun _ => ?_) (fun _ => ?_) | refine Fork.mk (fun _ => ?_) (fun _ => ?_) | refine Way.yesG ?_ | refine Way.noG ?_ | refine Way.decG (fun _ => ?_) (fun _ => ?_) | refine Way.ndecG (fun _ => ?_) (fun _ => ?_) | refine Way.mkG (fun _ => ?_) (fun _ => ?_) | with_reducible refine Need.mkG ?_ ?_ | refine AppW.go0 ?_ ?_ | with_reducible refine NilW.goG (fun _ => ?_) ?_ | ((with_reducible refine n1 _ _ _ ?_); clear n1 K1) | ((with_reducible refine n1 _ ?_); clear n1 K1) | ((with_reducible refine n1 _ _ ?_); clear n1 K1) | ((with_reducible refine n1 _ _ _ _ ?_); clear n1 K1) | fail)
  all_goals try (first | exact trivial | omega | kernel_rfl | decide | exact And.intro (by omega) (by omega))
  all_goals try dsimp only [Int.toNat_natCast] at *
  all_goals try (first | exact trivial | omega | exact And.intro (by omega) (by omega))
  all_goals
    refine Done.of ?_ (Or.inl rfl)
    show (_, ()) = (refF d c, ())
    unfold refF
    simp_all
/-- A core without a transaction. -/
def noRead (f : Nat → lineT.D) : Nat → lineT.D := fun w => if w < 4 then ((f w).1, (f w).2.1, (f w).2.2.1, false) else f w
def freedF (c : coreT.D) : coreT.D := (c.1, noRead c.2.1, 0, plainT.zero, (nilH, []), 0)
abbrev freedS : Spec := pureS [coreT] [coreT] fun d => (freedF d.1, ())
theorem c_freed : Ctr Try.prog 71 freedS := by
  refine ctr_of tabOk (SpecsOk.nil _) Try.func71 rfl _ (Nat.le_of_ble_eq_true rfl) (fun _ _ => rfl) ?_
  rintro nn ⟨c, ⟨⟩⟩ _ hb
  refine ⟨200, init_k fun K1 n1 => ?_⟩
  conv => whnf
  refine n1 _ ?_
  clear n1 K1
  repeat' (first | with_reducible refine seq_k fun K1 n1 => ?_ | with_reducible refine seq_nil ?_ | with_reducible refine drw_k fun K1 n1 => ?_ | with_reducible refine drw_nil ?_ ?_ | with_reducible refine run_seq ?_ | with_reducible refine run_skip ?_ | with_reducible refine run_regS ?_ | with_reducible refine run_regD (by kernel_rfl) ?_ ?_ | with_reducible refine inl_k (by with_unfolding_all rfl) (Nat.le_of_ble_eq_true rfl) fun K1 n1 => ?_ | with_reducible refine inlA_k (by with_unfolding_all rfl) (Nat.le_of_ble_eq_true rfl) fun K1 n1 => ?_ | with_reducible refine run_finA ?_ | with_reducible refine run_cond ?_ | with_reducible refine run_block ?_ | with_reducible refine run_endb ?_ | with_reducible refine run_exit fun K1 n1 => ?_ | with_reducible refine run_ret fun K1 n1 => ?_ | with_reducible refine run_fin ?_ | with_reducible refine run_inv ?_ | with_reducible refine go_rounds ?_ | ((with_reducible refine Go.mk ?_); (conv => whnf)) | refine Fork.yes ?_ | refine Fork.no ?_ | refine Fork.dec (fun _ => ?_) (fun _ => ?_) | refine Fork.ndec (fun _ => ?_) (fun _ => ?_) | refine Fork.mk (fun _ => ?_) (fun _ => ?_) | refine Way.yesG ?_ | refine Way.noG ?_ | refine Way.decG (fun _ => ?_) (fun _ => ?_) | refine Way.ndecG (fun _ => ?_) (fun _ => ?_) | refine Way.mkG (fun _ => ?_) (fun _ => ?_) | with_reducible refine Need.mkG ?_ ?_ | refine AppW.go0 ?_ ?_ | with_reducible refine NilW.goG (fun _ => ?_) ?_ | ((with_reducible refine n1 _ _ _ ?_); clear n1 K1) | ((with_reducible refine n1 _ ?_); clear n1 K1) | ((with_reducible refine n1 _ _ ?_); clear n1 K1) | ((with_reducible refine n1 _ _ _ _ ?_); clear n1 K1) | fail)
  all_goals try (first | exact trivial | omega | kernel_rfl | decide | exact And.intro (by omega) (by omega))
  all_goals try dsimp only [Int.toNat_natCast] at *
  all_goals try (first | exact trivial | omega | exact And.intro (by omega) (by omega))
  refine run_loop (loop_fam (ι := Nat × (Nat → lineT.D)) (fun i => [(9, .a (.of (.leaf .int (i.1 : Int)))), (2, .a (.ptr 1 0 [] coreT)), (1, .a (.ptr 0 0 [] coreT))])
    (fun i => [.leaf coreT (c.1, i.2, 0, plainT.zero, (nilH, []), 0), .leaf coreT coreT.zero]) (fun _ => ⟨nn, []⟩) (fun i => 4 - i.1) (fun i => i.1 ≤ 4 ∧ i.2 = fun w => if w < i.1 then ((c.2.1 w).1, (c.2.1 w).2.1, (c.2.1 w).2.2.1, false) else c.2.1 w) ?_ ?_)
  · exact ⟨(0, c.2.1), ⟨Nat.zero_le _, by funext w; rw [if_neg (by omega)]⟩, ⟨rfl, rfl, rfl, trivial⟩, rfl, 2, Nat.le_refl _, rfl, rfl⟩
  · rintro ⟨k, f⟩ ⟨hk, hf⟩
    have hk : k ≤ 4 := hk
    have hf : f = fun w => if w < k then ((c.2.1 w).1, (c.2.1 w).2.1, (c.2.1 w).2.2.1, false) else c.2.1 w := hf
    repeat' (first | with_reducible refine seq_k fun K1 n1 => ?_ | with_reducible refine seq_nil ?_ | with_reducible refine drw_k fun K1 n1 => ?_ | with_reducible refine drw_nil ?_ ?_ | with_reducible refine run_seq ?_ | with_reducible refine run_skip ?_ | with_reducible refine run_regS ?_ | with_reducible refine run_regD (by kernel_rfl) ?_ ?_ | with_reducible refine inl_k (by with_unfolding_all rfl) (Nat.le_of_ble_eq_true rfl) fun K1 n1 => ?_ | with_reducible refine inlA_k (by with_unfolding_all rfl) (Nat.le_of_ble_eq_true rfl) fun K1 n1 => ?_ | with_reducible refine run_finA ?_ | with_reducible refine run_cond ?_ | with_reducible refine run_block ?_ | with_reducible refine run_endb ?_ | with_reducible refine run_exit fun K1 n1 => ?_ | with_reducible refine run_ret fun K1 n1 => ?_ | with_reducible refine run_fin ?_ | with_reducible refine run_inv ?_ | with_reducible refine go_rounds ?_ | ((with_reducible refine Go.mk ?_); (conv => whnf)) | refine Fork.yes ?_ | refine Fork.no ?_ | refine Fork.dec (fun _ => ?_) (fun _ => ?_) | refine Fork.ndec (fun _ => ?_) (fun _ => ?_) | refine Fork.mk (fun _ => ?_) (fun _ => ?_) | refine Way.yesG ?_ | refine Way.noG ?_ | refine Way.decG (fun _ => ?_) (fun _ => ?_) | refine Way.ndecG (fun _ => ?_) (fun _ => ?_) | refine Way.mkG (fun _ => ?_) (fun _ => ?_) | with_reducible refine Need.mkG ?_ ?_ | refine AppW.go0 ?_ ?_ | with_reducible refine NilW.goG (fun _ => ?_) ?_ | ((with_reducible refine n1 _ _ _ ?_); clear n1 K1) | ((with_reducible refine n1 _ ?_); clear n1 K1) | ((with_reducible refine n1 _ _ ?_); clear n1 K1) | ((with_reducible refine n1 _ _ _ _ ?_); clear n1 K1) | fail)
    all_goals try (first | exact trivial | omega | kernel_rfl | decide | exact And.intro (by omega) (by omega))
    all_goals try dsimp only [Int.toNat_natCast] at *
    all_goals try (first | exact trivial | omega | exact And.intro (by omega) (by omega))
    · rename_i h1
      have hfk : f k = c.2.1 k := by rw [hf]; exact if_neg (Nat.lt_irrefl _)
      refine ⟨(k + 1, updA f k ((f k).1, (f k).2.1, (f k).2.2.1, false)), (by show 4 - (k + 1) < 4 - k; omega), ⟨(by show k + 1 ≤ 4; omega), ?_⟩, ⟨?_, rfl, rfl, trivial⟩, rfl, 2, Nat.le_of_ble_eq_true rfl, rfl, rfl⟩
      · funext w
        show updA f k _ w = if w < k + 1 then _ else _
        unfold updA
        by_cases hw : w = k
        · subst hw
          rw [if_pos rfl, if_pos (by omega), hfk]
        · rw [if_neg hw, hf]
          show (if w < k then _ else _) = _
          by_cases h2 : w < k
          · rw [if_pos h2, if_pos (by omega)]
          · rw [if_neg h2, if_neg (by omega)]
      · rw [← wrap_succ k (by omega)]
        rfl
    · rename_i h1
      obtain rfl : k = 4 := by omega
      refine Done.of ?_ (Or.inr (Nat.le_refl _))
      show ((c.1, f, 0, plainT.zero, (nilH, []), 0), ()) = (freedF c, ())
      unfold freedF noRead
      rw [hf]
def failC (c : coreT.D) (l : List instrT.D) (why : Int) : coreT.D :=
  freedF (((putF c.2.2.2.1 (fetchF l c.2.2.2.1).2.1 why).1, (fetchF l c.2.2.2.1).2.2.2.2, (putF c.2.2.2.1 (fetchF l c.2.2.2.1).2.1 why).2.2), c.2)
abbrev failCS : Spec := pureS [coreT, .lst instrT, .int] [coreT] fun d => (failC d.1 d.2.1.2 d.2.2.1, ())
theorem c_failed : Ctr Try.prog 51 failCS := by
  refine ctr_of tabOk (SpecsOk.cons c_Fetch (by kernel_rfl) (SpecsOk.cons c_Put (by kernel_rfl) (SpecsOk.cons c_freed (by kernel_rfl) (SpecsOk.nil _)))) Try.func51 rfl _ (Nat.le_of_ble_eq_true rfl) (fun _ _ => rfl) ?_
  rintro nn ⟨c, ⟨hl, l⟩, (why : Int), ⟨⟩⟩ _ hb
  refine ⟨200, init_k fun K1 n1 => ?_⟩
  conv => whnf
  refine n1 _ ?_
  clear n1 K1
  repeat' (first | with_reducible refine seq_k fun K1 n1 => ?_ | with_reducible refine seq_nil ?_ | with_reducible refine drw_k fun K1 n1 => ?_ | with_reducible refine drw_nil ?_ ?_ | with_reducible refine run_seq ?_ | with_reducible refine run_skip ?_ | with_reducible refine run_regS ?_ | with_reducible refine run_regD (by kernel_rfl) ?_ ?_ | with_reducible refine inl_k (by with_unfolding_all rfl) (Nat.le_of_ble_eq_true rfl) fun K1 n1 => ?_ | with_reducible refine inlA_k (by with_unfolding_all rfl) (Nat.le_of_ble_eq_true rfl) fun K1 n1 => ?_ | with_reducible refine run_finA ?_ | with_reducible refine run_cond ?_ | with_reducible refine run_block ?_ | with_reducible refine run_endb ?_ | with_reducible refine run_exit fun K1 n1 => ?_ | with_reducible refine run_ret fun K1 n1 => ?_ | with_reducible refine run_fin ?_ | with_reducible refine run_inv ?_ | with_reducible refine go_rounds ?_ | ((with_reducible refine Go.mk ?_); (conv => whnf)) | refine Fork.yes ?_ | refine Fork.no ?_ | refine Fork.dec (fun _ => ?_) (fun _ => ?_) | refine Fork.ndec (fun _ => ?_) (fun _ => ?_) | refine Fork.mk (fun _ => ?_) (fun _ => ?_) | refine Way.yesG ?_ | refine Way.noG ?_ | refine Way.decG (fun _ => ?_) (fun _ => ?_) | refine Way.ndecG (fun _ => ?_) (fun _ => ?_) | refine Way.mkG (fun _ => ?_) (fun _ => ?_) | with_reducible refine Need.mkG ?_ ?_ | refine AppW.go0 ?_ ?_ | with_reducible refine NilW.goG (fun _ => ?_) ?_ | ((with_reducible refine n1 _ _ _ ?_); clear n1 K1) | ((with_reducible refine n1 _ ?_); clear n1 K1) | ((with_reducible refine n1 _ _ ?_); clear n1 K1) | ((with_reducible refine n1 _ _ _ _ ?_); clear n1 K1) | fail)
  all_goals try (first | exact trivial | omega | kernel_rfl | decide | exact And.intro (by omega) (by omega))
  all_goals try dsimp only [Int.toNat_natCast] at *
  all_goals try (first | exact trivial | omega | exact And.intro (by omega) (by omega))
  exact Done.of rfl (Or.inr (Nat.le_refl _))
def setCore (d : deskT.D) (c : Nat) (x : coreT.D) : deskT.D := (updA d.1 c x, d.2)
def abortF (d : deskT.D) (l : List instrT.D) (c why : Int) : deskT.D × Int :=
  if refF d c = 0 then (if (d.1 c.toNat).2.2.1 = 0 then (d, 5) else (setCore d c.toNat (failC (d.1 c.toNat) l why), 0)) else (d, refF d c)
abbrev abortS : Spec := pureS [deskT, .lst instrT, .int, .int] [deskT, .int] fun d => ((abortF d.1 d.2.1.2 d.2.2.1 d.2.2.2.1).1, (abortF d.1 d.2.1.2 d.2.2.1 d.2.2.2.1).2, ())
theorem ref_ok {d : deskT.D} {c : Int} (h : refF d c = 0) : goodK d = true ∧ 0 ≤ c ∧ c < 2 := by
  unfold refF at h
  split at h
  · split at h
    · exact ⟨by assumption, by assumption⟩
    · cases h
  · cases h
theorem c_Abort : Ctr Try.prog 27 abortS := by
  refine ctr_of tabOk (SpecsOk.cons c_refused (by kernel_rfl) (SpecsOk.cons c_failed (by kernel_rfl) (SpecsOk.nil _))) Try.func27 rfl _ (Nat.le_of_ble_eq_true rfl) (fun _ _ => rfl) ?_
  rintro nn ⟨d, ⟨hl, l⟩, (c : Int), (why : Int), ⟨⟩⟩ _ hb
  refine ⟨200, init_k fun K1 n1 => ?_⟩
  conv => whnf
  refine n1 _ ?_
  clear n1 K1
  repeat' (first | with_reducible refine seq_k fun K1 n1 => ?_ | with_reducible refine seq_nil ?_ | with_reducible refine drw_k fun K1 n1 => ?_ | with_reducible refine drw_nil ?_ ?_ | with_reducible refine run_seq ?_ | with_reducible refine run_skip ?_ | with_reducible refine run_regS ?_ | with_reducible refine run_regD (by kernel_rfl) ?_ ?_ | with_reducible refine inl_k (by with_unfolding_all rfl) (Nat.le_of_ble_eq_true rfl) fun K1 n1 => ?_ | with_reducible refine inlA_k (by with_unfolding_all rfl) (Nat.le_of_ble_eq_true rfl) fun K1 n1 => ?_ | with_reducible refine run_finA ?_ | with_reducible refine run_cond ?_ | with_reducible refine run_block ?_ | with_reducible refine run_endb ?_ | with_reducible refine run_exit fun K1 n1 => ?_ | with_reducible refine run_ret fun K1 n1 => ?_ | with_reducible refine run_fin ?_ | with_reducible refine run_inv ?_ | with_reducible refine go_rounds ?_ | ((with_reducible refine Go.mk ?_); (conv => whnf)) | refine Fork.yes ?_ | refine Fork.no ?_ | refine Fork.dec (fun _ => ?_) (fun _ => ?_) | refine Fork.ndec (fun _ => ?_) (fun _ => ?_) | refine Fork.mk (fun _ => ?_) (fun _ => ?_) | refine Way.yesG ?_ | refine Way.noG ?_ | refine Way.decG (fun _ => ?_) (fun _ => ?_) | refine Way.ndecG (fun _ => ?_) (fun _ => ?_) | refine Way.mkG (fun _ => ?_) (fun _ => ?_) | with_reducible refine Need.mkG ?_ ?_ | refine AppW.go0 ?_ ?_ | with_reducible refine NilW.goG (fun _ => ?_) ?_ | ((with_reducible refine n1 _ _ _ ?_); clear n1 K1) | ((with_reducible refine n1 _ ?_); clear n1 K1) | ((with_reducible refine n1 _ _ ?_); clear n1 K1) | ((with_reducible refine n1 _ _ _ _ ?_); clear n1 K1) | fail)
  all_goals try (first | exact trivial | omega | kernel_rfl | decide | exact And.intro (by omega) (by omega))
  all_goals try dsimp only [Int.toNat_natCast] at *
  all_goals try (first | exact trivial | omega | exact And.intro (by omega) (by omega))
  · rename_i h
    refine Done.of ?_ (Or.inr (Nat.le_refl _))
    show (_, _, ()) = ((abortF d l c why).1, (abortF d l c why).2, ())
    unfold abortF
    rw [if_neg h]
  · rename_i h
    exact (ref_ok h).2
  · rename_i h h2
    refine Done.of ?_ (Or.inr (Nat.le_refl _))
    show (_, _, ()) = ((abortF d l c why).1, (abortF d l c why).2, ())
    unfold abortF
    rw [if_pos h, if_pos h2]
  · rename_i h h2
    refine Done.of ?_ (Or.inr (Nat.le_refl _))
    show (_, _, ()) = ((abortF d l c why).1, (abortF d l c why).2, ())
    unfold abortF
    rw [if_pos h, if_neg h2]
    rfl
end Go.Proofs.Ytjbbgpacijageab.M

/- Package desk: writes that are held back. -/
namespace Go.Proofs.Ytjbbgpacijageab.M
open Go.RowKit
set_option linter.unusedVariables false
set_option linter.unusedSimpArgs false

def heldL (l : List writeT.D) (w : writeT.D) : List writeT.D := if atW l w.1 < 0 then l ++ [w] else l.set (atW l w.1).toNat w
abbrev heldS : Spec := { args := [.lst writeT, writeT], res := [.lst writeT], cr := true, m := fun _ => 1, fn := fun nn d => ((.nm nn, heldL d.1.2 d.2.1), ()), pre := fun d => d.1.2.length ≤ 1000 }
theorem held_done {nn : Nat} {hd h : Hd} {xs l : List writeT.D} {w : writeT.D} {ns : NS} (hl : l = heldL xs w) : DoneR heldS nn ((hd, xs), w, ()) ((h, l), ()) ns := by
  refine ⟨⟨fun _ => h, ⟨?_, trivial⟩⟩, ⟨Nat.lt_succ_self _, fun e _ => namD_nolst _ _ _ rfl⟩, trivial⟩
  show (h, l) = (renH nn (fun _ => h) (.nm nn), (heldL xs w).map (renD nn (fun _ => h) writeT))
  have e1 : renH nn (fun _ => h) (.nm nn) = h := if_neg (Nat.lt_irrefl _)
  have e2 : (heldL xs w).map (renD nn (fun _ => h) writeT) = heldL xs w := by
    conv => rhs; rw [← List.map_id (heldL xs w)]
    exact List.map_congr_left fun e _ => renD_nolst _ _ writeT e rfl
  rw [e1, e2, hl]
abbrev tabW : Tab := { tab with tks := [29], top := true }
theorem tabWOk : TabOk Try.prog tabW := ⟨tabOk.ty, tabOk.eq, tabOk.mix, tabOk.ptr⟩
theorem c_held : Ctr Try.prog 94 heldS := by
  refine ctr_ofR [(nilH, 2)] ⟨[2], rfl⟩ tabWOk (SpecsOk.cons c_writeOf (by kernel_rfl) (SpecsOk.mut (inl_ok tabWOk (SpecsOk.nil _) Try.func59 [.lst writeT]) (by kernel_rfl) (SpecsOk.nil _))) Try.func94 rfl _ (Nat.le_of_ble_eq_true rfl) (fun h => by cases h) ?_
  rintro nn ⟨⟨hd, xs⟩, w, ⟨⟩⟩ (hpre : xs.length ≤ 1000) hb
  refine ⟨200, init_k fun K1 n1 => ?_⟩
  conv => whnf
  refine n1 _ ?_
  clear n1 K1
  repeat' (first | with_reducible refine seq_k fun K1 n1 => ?_ | with_reducible refine seq_nil ?_ | with_reducible refine drw_k fun K1 n1 => ?_ | with_reducible refine drw_nil ?_ ?_ | with_reducible refine run_seq ?_ | with_reducible refine run_skip ?_ | with_reducible refine run_regS ?_ | with_reducible refine run_regD (by kernel_rfl) ?_ ?_ | with_reducible refine inl_k (by with_unfolding_all rfl) (Nat.le_of_ble_eq_true rfl) fun K1 n1 => ?_ | with_reducible refine inlA_k (by with_unfolding_all rfl) (Nat.le_of_ble_eq_true rfl) fun K1 n1 => ?_ | with_reducible refine run_finA ?_ | with_reducible refine run_cond ?_ | with_reducible refine run_block ?_ | with_reducible refine run_endb ?_ | with_reducible refine run_exit fun K1 n1 => ?_ | with_reducible refine run_ret fun K1 n1 => ?_ | with_reducible refine run_fin ?_ | with_reducible refine run_inv ?_ | with_reducible refine go_rounds ?_ | ((with_reducible refine Go.mk ?_); (conv => whnf)) | refine Fork.yes ?_ | refine Fork.no ?_ | refine Fork.dec (fun _ => ?_) (fun _ => ?_) | refine Fork.ndec (fun _ => ?_) (fun _ => ?_) | refine Fork.mk (fun _ => ?_) (fun _ => ?_) | refine Way.yesG ?_ | refine Way.noG ?_ | refine Way.decG (fun _ => ?_) (fun _ => ?_) | refine Way.ndecG (fun _ => ?_) (fun _ => ?_) | refine Way.mkG (fun _ => ?_) (fun _ => ?_) | with_reducible refine Need.mkG ?_ ?_ | refine AppW.go0 ?_ ?_ | with_reducible refine NilW.goG (fun _ => ?_) ?_ | ((with_reducible refine n1 _ _ _ ?_); clear n1 K1) | ((with_reducible refine n1 _ ?_); clear n1 K1) | ((with_reducible refine n1 _ _ ?_); clear n1 K1) | ((with_reducible refine n1 _ _ _ _ ?_); clear n1 K1) | fail)
  all_goals try (first | exact trivial | omega | kernel_rfl | decide | exact And.intro (by omega) (by omega))
  all_goals try dsimp only [Int.toNat_natCast] at *
  all_goals try (first | exact trivial | omega | exact And.intro (by omega) (by omega))
  · exact ⟨(by show 1 ≤ 140737488355328; decide), (by show 1 * 16 ≤ 140737488355328; decide)⟩
  · rename_i h
    subst h
    refine held_done ?_
    rfl
  · rw [List.length_nil, Nat.zero_add]
    exact ⟨by omega, (by show xs.length * 16 ≤ _; omega)⟩
  · rw [List.nil_append]
    exact ⟨by show xs.length + 1 ≤ _; omega, by show (xs.length + 1) * 16 ≤ _; omega⟩
  · rename_i h
    rw [List.nil_append] at h ⊢
    refine held_done ?_
    unfold heldL
    rw [if_pos h]
    rfl
  · rename_i h
    rw [List.nil_append] at h ⊢
    have := atW_rng xs w.1
    exact ⟨Int.not_lt.1 h, this.2⟩
  · rename_i h
    refine ⟨rfl, 0, [(0, .a (.of (.leaf (.lst writeT) (.nm (nn + 2), ([] ++ xs).set (atW ([] ++ xs) w.1).toNat w))))], _, rfl, keptBs_nol _ rfl, ⟨Or.inr ⟨_, _, rfl, rfl, rfl, Or.inr ⟨rfl, rfl, rfl⟩⟩, trivial⟩, ?_⟩
    refine n1 _ _ _ ?_
    clear n1 K1
    repeat' (first | with_reducible refine seq_k fun K1 n1 => ?_ | with_reducible refine seq_nil ?_ | with_reducible refine drw_k fun K1 n1 => ?_ | with_reducible refine drw_nil ?_ ?_ | with_reducible refine run_seq ?_ | with_reducible refine run_skip ?_ | with_reducible refine run_regS ?_ | with_reducible refine run_regD (by kernel_rfl) ?_ ?_ | with_reducible refine inl_k (by with_unfolding_all rfl) (Nat.le_of_ble_eq_true rfl) fun K1 n1 => ?_ | with_reducible refine inlA_k (by with_unfolding_all rfl) (Nat.le_of_ble_eq_true rfl) fun K1 n1 => ?_ | with_reducible refine run_finA ?_ | with_reducible refine run_cond ?_ | with_reducible refine run_block ?_ | with_reducible refine run_endb ?_ | with_reducible refine run_exit fun K1 n1 => ?_ | with_reducible refine run_ret fun K1 n1 => ?_ | with_reducible refine run_fin ?_ | with_reducible refine run_inv ?_ | with_reducible refine go_rounds ?_ | ((with_reducible refine Go.mk ?_); (conv => whnf)) | refine Fork.yes ?_ | refine Fork.no ?_ | refine Fork.dec (fun _ => ?_) (fun _ => ?_) | refine Fork.ndec (fun _ => ?_) (fun _ => ?_) | refine Fork.mk (fun _ => ?_) (fun _ => ?_) | refine Way.yesG ?_ | refine Way.noG ?_ | refine Way.decG (fun _ => ?_) (fun _ => ?_) | refine Way.ndecG (fun _ => ?_) (fun _ => ?_) | refine Way.mkG (fun _ => ?_) (fun _ => ?_) | with_reducible refine Need.mkG ?_ ?_ | refine AppW.go0 ?_ ?_ | with_reducible refine NilW.goG (fun _ => ?_) ?_ | ((with_reducible refine n1 _ _ _ ?_); clear n1 K1) | ((with_reducible refine n1 _ ?_); clear n1 K1) | ((with_reducible refine n1 _ _ ?_); clear n1 K1) | ((with_reducible refine n1 _ _ _ _ ?_); clear n1 K1) | fail)
    all_goals try (first | exact trivial | omega | kernel_rfl | decide | exact And.intro (by omega) (by omega))
    all_goals try dsimp only [Int.toNat_natCast] at *
    all_goals try (first | exact trivial | omega | exact And.intro (by omega) (by omega))
    rw [List.nil_append] at h ⊢
    refine held_done ?_
    unfold heldL
    rw [if_neg h]
end Go.Proofs.Ytjbbgpacijageab.M
