/- The document's own functions on caches. -/
import Derived.Test.YtjbbgpacijageaaUD
namespace Go.Proofs.Ytjbbgpacijageaa.M
open Go.RowKit
set_option linter.unusedVariables false
set_option linter.unusedSimpArgs false

theorem c_rIsWord : Ctr Try.prog 68 (pureS [.int] [.bool] fun d => (isW d.1, ())) := by
  refine ctr_of tabOk (SpecsOk.nil _) Try.func68 rfl _ (Nat.le_of_ble_eq_true rfl) (fun _ _ => rfl) ?_
  rintro nn ⟨(n : Int), ⟨⟩⟩ _ _
  refine ⟨200, init_k fun K1 n1 => ?_⟩
  conv => whnf
  refine n1 _ ?_
  clear n1 K1
  repeat' (first | with_reducible refine seq_k fun K1 n1 => ?_ | with_reducible refine seq_nil ?_ | with_reducible refine drw_k fun K1 n1 => ?_ | with_reducible refine drw_nil ?_ ?_ | with_reducible refine run_seq ?_ | with_reducible refine run_skip ?_ | with_reducible refine run_regS ?_ | with_reducible refine run_regD (by kernel_rfl) ?_ ?_ | with_reducible refine inl_k (by with_unfolding_all rfl) (Nat.le_of_ble_eq_true rfl) fun K1 n1 => ?_ | with_reducible refine inlA_k (by with_unfolding_all rfl) (Nat.le_of_ble_eq_true rfl) fun K1 n1 => ?_ | with_reducible refine run_finA ?_ | with_reducible refine run_cond ?_ | with_reducible refine run_block ?_ | with_reducible refine run_endb ?_ | with_reducible refine run_exit fun K1 n1 => ?_ | with_reducible refine run_ret fun K1 n1 => ?_ | with_reducible refine run_fin ?_ | with_reducible refine run_inv ?_ | with_reducible refine go_rounds ?_ | ((with_reducible refine Go.mk ?_); (conv => whnf)) | refine Fork.yes ?_ | refine Fork.no ?_ | refine Fork.dec (fun _ => ?_) (fun _ => ?_) | refine Fork.ndec (fun _ => ?_) (fun _ => ?_) | refine Fork.mk (fun _ => ?_) (fun _ => ?_) | refine Way.yesG ?_ | refine Way.noG ?_ | refine Way.decG (fun _ => ?_) (fun _ => ?_) | refine Way.ndecG (fun _ => ?_) (fun _ => ?_) | refine Way.mkG (fun _ => ?_) (fun _ => ?_) | with_reducible refine Need.mkG ?_ ?_ | refine AppW.go0 ?_ ?_ | with_reducible refine NilW.goG (fun _ => ?_) ?_ | ((with_reducible refine n1 _ _ _ ?_); clear n1 K1) | ((with_reducible refine n1 _ ?_); clear n1 K1) | ((with_reducible refine n1 _ _ ?_); clear n1 K1) | ((with_reducible refine n1 _ _ _ _ ?_); clear n1 K1) | fail)
  all_goals try (first | exact trivial | omega | kernel_rfl | decide | exact And.intro (by omega) (by omega))
  all_goals try dsimp only [Int.toNat_natCast] at *
  all_goals try (first | exact trivial | omega | exact And.intro (by omega) (by omega))
  · rename_i h
    refine Done.of ?_ (Or.inl rfl)
    show (decide (n < 4294967296), ()) = (isW n, ())
    have : isW n = decide (n < 4294967296) := by
      unfold isW
      rw [decide_eq_decide]
      omega
    rw [this]
  · rename_i h
    refine Done.of ?_ (Or.inl rfl)
    show (false, ()) = (isW n, ())
    have : isW n = false := by
      unfold isW
      rw [decide_eq_false_iff_not]
      omega
    rw [this]

theorem goodLn_eq (l : lineT.D) (way : Int) : goodLn l way = if @Eq Int l.1 0 then eqT lineT l lineT.zero else (decide (@LT.lt Int _ 0 l.1) && (decide (@LT.lt Int _ l.1 4) && (decide (@LE.le Int _ 0 l.2.1) && (decide (@LT.lt Int _ l.2.1 16) && (decide (Int.tmod l.2.1 4 = way) && (isW (l.2.2.1 0) && isW (l.2.2.1 1))))))) := by
  obtain ⟨(s : Int), (n : Int), dt, u⟩ := l
  show (bif decide (s = 0) then _ else decide (1 ≤ s ∧ s ≤ 3 ∧ (0 ≤ n ∧ n < 16) ∧ n.tmod 4 = way) && [dt 0, dt 1].all isW) = if s = 0 then _ else (decide (0 < s) && (decide (s < 4) && (decide (0 ≤ n) && (decide (n < 16) && (decide (n.tmod 4 = way) && (isW (dt 0) && isW (dt 1)))))))
  have : decide (1 ≤ s ∧ s ≤ 3 ∧ (0 ≤ n ∧ n < 16) ∧ n.tmod 4 = way) = (decide (0 < s) && (decide (s < 4) && (decide (0 ≤ n) && (decide (n < 16) && decide (n.tmod 4 = way))))) := by
    simp only [← Bool.decide_and]
    rw [decide_eq_decide]
    constructor
    · rintro ⟨a, b, ⟨c, d⟩, e⟩
      exact ⟨by omega, by omega, c, d, e⟩
    · rintro ⟨a, b, c, d, e⟩
      exact ⟨by omega, by omega, ⟨c, d⟩, e⟩
  rw [this]
  by_cases h : s = 0
  · rw [if_pos h, decide_eq_true h]
    rfl
  · rw [if_neg h, decide_eq_false h]
    simp only [List.all_cons, List.all_nil, Bool.and_true, Bool.and_assoc, cond_false]

theorem c_IsLine : Ctr Try.prog 45 goodLineS := by
  refine ctr_of tabOk (SpecsOk.cons c_rIsWord (by kernel_rfl) (SpecsOk.nil _)) Try.func45 rfl _ (Nat.le_of_ble_eq_true rfl) (fun _ _ => rfl) ?_
  rintro nn ⟨l, (way : Int), ⟨⟩⟩ _ _
  refine ⟨200, init_k fun K1 n1 => ?_⟩
  conv => whnf
  refine n1 _ ?_
  clear n1 K1
  repeat' (first | with_reducible refine seq_k fun K1 n1 => ?_ | with_reducible refine seq_nil ?_ | with_reducible refine drw_k fun K1 n1 => ?_ | with_reducible refine drw_nil ?_ ?_ | with_reducible refine run_seq ?_ | with_reducible refine run_skip ?_ | with_reducible refine run_regS ?_ | with_reducible refine run_regD (by kernel_rfl) ?_ ?_ | with_reducible refine inl_k (by with_unfolding_all rfl) (Nat.le_of_ble_eq_true rfl) fun K1 n1 => ?_ | with_reducible refine inlA_k (by with_unfolding_all rfl) (Nat.le_of_ble_eq_true rfl) fun K1 n1 => ?_ | with_reducible refine run_finA ?_ | with_reducible refine run_cond ?_ | with_reducible refine run_block ?_ | with_reducible refine run_endb ?_ | with_reducible refine run_exit fun K1 n1 => ?_ | with_reducible refine run_ret fun K1 n1 => ?_ | with_reducible refine run_fin ?_ | with_reducible refine run_inv ?_ | with_reducible refine go_rounds ?_ | ((with_reducible refine Go.mk ?_); (conv => whnf)) | refine Fork.yes ?_ | refine Fork.no ?_ | refine Fork.dec (fun _ => ?_) (fun _ => ?_) | refine Fork.ndec (fun _ => ?_) (fun _ => ?_) | refine Fork.mk (fun _ => ?_) (fun _ => ?_) | refine Way.yesG ?_ | refine Way.noG ?_ | refine Way.decG (fun _ => ?_) (fun _ => ?_) | refine Way.ndecG (fun _ => ?_) (fun _ => ?_) | refine Way.mkG (fun _ => ?_) (fun _ => ?_) | with_reducible refine Need.mkG ?_ ?_ | refine AppW.go0 ?_ ?_ | with_reducible refine NilW.goG (fun _ => ?_) ?_ | ((with_reducible refine n1 _ _ _ ?_); clear n1 K1) | ((with_reducible refine n1 _ ?_); clear n1 K1) | ((with_reducible refine n1 _ _ ?_); clear n1 K1) | ((with_reducible refine n1 _ _ _ _ ?_); clear n1 K1) | fail)
  all_goals try (first | exact trivial | omega | kernel_rfl | decide | exact And.intro (by omega) (by omega))
  all_goals try dsimp only [Int.toNat_natCast] at *
  all_goals try (first | exact trivial | omega | exact And.intro (by omega) (by omega))
  all_goals refine Done.of ?_ (Or.inl rfl)
  all_goals (show (_, ()) = (goodLn l way, ()); rw [goodLn_eq])
  all_goals try simp only [show Int.toNat 0 = 0 from rfl, show Int.toNat 1 = 1 from rfl] at *
  all_goals simp [isW, *]

theorem c_FindLine : Ctr Try.prog 50 findS := by
  refine ctr_of tabOk (SpecsOk.nil _) Try.func50 rfl _ (Nat.le_of_ble_eq_true rfl) (fun _ _ => rfl) ?_
  rintro nn ⟨d, (c : Int), (n : Int), ⟨⟩⟩ _ _
  refine ⟨200, init_k fun K1 n1 => ?_⟩
  conv => whnf
  refine n1 _ ?_
  clear n1 K1
  repeat' (first | with_reducible refine seq_k fun K1 n1 => ?_ | with_reducible refine seq_nil ?_ | with_reducible refine drw_k fun K1 n1 => ?_ | with_reducible refine drw_nil ?_ ?_ | with_reducible refine run_seq ?_ | with_reducible refine run_skip ?_ | with_reducible refine run_regS ?_ | with_reducible refine run_regD (by kernel_rfl) ?_ ?_ | with_reducible refine inl_k (by with_unfolding_all rfl) (Nat.le_of_ble_eq_true rfl) fun K1 n1 => ?_ | with_reducible refine inlA_k (by with_unfolding_all rfl) (Nat.le_of_ble_eq_true rfl) fun K1 n1 => ?_ | with_reducible refine run_finA ?_ | with_reducible refine run_cond ?_ | with_reducible refine run_block ?_ | with_reducible refine run_endb ?_ | with_reducible refine run_exit fun K1 n1 => ?_ | with_reducible refine run_ret fun K1 n1 => ?_ | with_reducible refine run_fin ?_ | with_reducible refine run_inv ?_ | with_reducible refine go_rounds ?_ | ((with_reducible refine Go.mk ?_); (conv => whnf)) | refine Fork.yes ?_ | refine Fork.no ?_ | refine Fork.dec (fun _ => ?_) (fun _ => ?_) | refine Fork.ndec (fun _ => ?_) (fun _ => ?_) | refine Fork.mk (fun _ => ?_) (fun _ => ?_) | refine Way.yesG ?_ | refine Way.noG ?_ | refine Way.decG (fun _ => ?_) (fun _ => ?_) | refine Way.ndecG (fun _ => ?_) (fun _ => ?_) | refine Way.mkG (fun _ => ?_) (fun _ => ?_) | with_reducible refine Need.mkG ?_ ?_ | refine AppW.go0 ?_ ?_ | with_reducible refine NilW.goG (fun _ => ?_) ?_ | ((with_reducible refine n1 _ _ _ ?_); clear n1 K1) | ((with_reducible refine n1 _ ?_); clear n1 K1) | ((with_reducible refine n1 _ _ ?_); clear n1 K1) | ((with_reducible refine n1 _ _ _ _ ?_); clear n1 K1) | fail)
  all_goals try (first | exact trivial | omega | kernel_rfl | decide | exact And.intro (by omega) (by omega))
  all_goals try dsimp only [Int.toNat_natCast] at *
  all_goals try (first | exact trivial | omega | exact And.intro (by omega) (by omega))
  all_goals first
    | (refine ⟨?_, ?_⟩ <;> first | (show @LE.le Int _ 0 c; omega) | (show @LT.lt Int _ c 2; omega))
    | (with_reducible refine Done.of ?_ ?_
       · show (0, false, ()) = ((findF d c n).1, (findF d c n).2, ())
         rw [show findF d c n = (0, false) from if_neg (by omega)]
       · exact Or.inl rfl)
    | skip
  all_goals
    have hn : 0 ≤ n ∧ n < 16 := by omega
    have hc : 0 ≤ c ∧ c < 2 := by omega
    have hm : findF d c n = (n.tmod 4, hasL ((d.1 c.toNat).2.1 (n.tmod 4).toNat) n) := if_pos ⟨hc, hn⟩
    have ht := tmod4 hn.1
    refine run_loop (loop_fam (ι := Nat) (fun k => [(29, .a (.of (.leaf .int (k : Int)))), (28, .a (.of (.leaf (.arr 4 lineT) (d.1 c.toNat).2.1))), (2, .a (.of (.leaf .int n)))]) (fun _ => []) (fun _ => ⟨nn, []⟩) (fun k => 4 - k) (fun k => k ≤ 4 ∧ (((n.tmod 4).toNat < k) → hasL ((d.1 c.toNat).2.1 (n.tmod 4).toNat) n = false)) ?_ ?_)
    · exact ⟨0, ⟨Nat.zero_le _, fun h => absurd h (Nat.not_lt_zero _)⟩, ⟨rfl, rfl, rfl, trivial⟩, rfl, 0, Nat.zero_le _, rfl, rfl⟩
    · rintro k ⟨hk, hok⟩
      repeat' (first | with_reducible refine seq_k fun K1 n1 => ?_ | with_reducible refine seq_nil ?_ | with_reducible refine drw_k fun K1 n1 => ?_ | with_reducible refine drw_nil ?_ ?_ | with_reducible refine run_seq ?_ | with_reducible refine run_skip ?_ | with_reducible refine run_regS ?_ | with_reducible refine run_regD (by kernel_rfl) ?_ ?_ | with_reducible refine inl_k (by with_unfolding_all rfl) (Nat.le_of_ble_eq_true rfl) fun K1 n1 => ?_ | with_reducible refine inlA_k (by with_unfolding_all rfl) (Nat.le_of_ble_eq_true rfl) fun K1 n1 => ?_ | with_reducible refine run_finA ?_ | with_reducible refine run_cond ?_ | with_reducible refine run_block ?_ | with_reducible refine run_endb ?_ | with_reducible refine run_exit fun K1 n1 => ?_ | with_reducible refine run_ret fun K1 n1 => ?_ | with_reducible refine run_fin ?_ | with_reducible refine run_inv ?_ | with_reducible refine go_rounds ?_ | ((with_reducible refine Go.mk ?_); (conv => whnf)) | refine Fork.yes ?_ | refine Fork.no ?_ | refine Fork.dec (fun _ => ?_) (fun _ => ?_) | refine Fork.ndec (fun _ => ?_) (fun _ => ?_) | refine Fork.mk (fun _ => ?_) (fun _ => ?_) | refine Way.yesG ?_ | refine Way.noG ?_ | refine Way.decG (fun _ => ?_) (fun _ => ?_) | refine Way.ndecG (fun _ => ?_) (fun _ => ?_) | refine Way.mkG (fun _ => ?_) (fun _ => ?_) | with_reducible refine Need.mkG ?_ ?_ | refine AppW.go0 ?_ ?_ | with_reducible refine NilW.goG (fun _ => ?_) ?_ | ((with_reducible refine n1 _ _ _ ?_); clear n1 K1) | ((with_reducible refine n1 _ ?_); clear n1 K1) | ((with_reducible refine n1 _ _ ?_); clear n1 K1) | ((with_reducible refine n1 _ _ _ _ ?_); clear n1 K1) | fail)
      all_goals try (first | exact trivial | omega | kernel_rfl | decide | exact And.intro (by omega) (by omega))
      all_goals try dsimp only [Int.toNat_natCast] at *
      all_goals try (first | exact trivial | omega | exact And.intro (by omega) (by omega))
      · rename_i h1 h2 h3 h4
        refine Done.of ?_ (Or.inl rfl)
        show ((k : Int), true, ()) = ((findF d c n).1, (findF d c n).2, ())
        have e : (n.tmod 4).toNat = k := by omega
        rw [hm, e, ← h4, show hasL ((d.1 c.toNat).2.1 k) n = true from decide_eq_true ⟨h2, h3⟩]
      · refine ⟨k + 1, by omega, ⟨by omega, fun h => ?_⟩, ⟨?_, rfl, rfl, trivial⟩, rfl, 0, Nat.zero_le _, rfl, rfl⟩
        · rcases Nat.lt_or_ge (n.tmod 4).toNat k with g | g
          · exact hok g
          · have e : (n.tmod 4).toNat = k := by omega
            rw [e]
            first
              | (exfalso; omega)
              | exact decide_eq_false fun hh => hh.1 (by assumption)
              | exact decide_eq_false fun hh => absurd hh.2 (by assumption)
        · rw [← wrap_succ k (by omega)]
          rfl
      · refine ⟨k + 1, by omega, ⟨by omega, fun h => ?_⟩, ⟨?_, rfl, rfl, trivial⟩, rfl, 0, Nat.zero_le _, rfl, rfl⟩
        · rcases Nat.lt_or_ge (n.tmod 4).toNat k with g | g
          · exact hok g
          · have e : (n.tmod 4).toNat = k := by omega
            rw [e]
            first
              | (exfalso; omega)
              | exact decide_eq_false fun hh => hh.1 (by assumption)
              | exact decide_eq_false fun hh => absurd hh.2 (by assumption)
        · rw [← wrap_succ k (by omega)]
          rfl
      · refine ⟨k + 1, by omega, ⟨by omega, fun h => ?_⟩, ⟨?_, rfl, rfl, trivial⟩, rfl, 0, Nat.zero_le _, rfl, rfl⟩
        · rcases Nat.lt_or_ge (n.tmod 4).toNat k with g | g
          · exact hok g
          · have e : (n.tmod 4).toNat = k := by omega
            rw [e]
            first
              | (exfalso; omega)
              | exact decide_eq_false fun hh => hh.1 (by assumption)
              | exact decide_eq_false fun hh => absurd hh.2 (by assumption)
        · rw [← wrap_succ k (by omega)]
          rfl
      · rename_i h1
        refine Done.of ?_ (Or.inl rfl)
        show (n.tmod 4, false, ()) = ((findF d c n).1, (findF d c n).2, ())
        rw [hm, hok (by omega)]
end Go.Proofs.Ytjbbgpacijageaa.M
