/- The document's own functions on caches: values. -/
import Derived.Test.YtjbbgpacijageaaR1
namespace Go.Proofs.Ytjbbgpacijageaa.M
open Go.RowKit
set_option linter.unusedVariables false
set_option linter.unusedSimpArgs false

def pvF (d : deskT.D) (word : Int) (c : Nat) (v : Int) : Int :=
  if ((d.1 c).2.1 ((word.tdiv 2).tmod 4).toNat).1 = 3 ∧ ((d.1 c).2.1 ((word.tdiv 2).tmod 4).toNat).2.1 = word.tdiv 2 then ((d.1 c).2.1 ((word.tdiv 2).tmod 4).toNat).2.2.1 (word.tmod 2).toNat else v

theorem valF_eq {d : deskT.D} {word : Int} (h : 0 ≤ word ∧ word < 32) : valF d word = pvF d word 0 (pvF d word 1 (d.2 word.toNat)) := by
  have hq : 0 ≤ word.tdiv 2 ∧ word.tdiv 2 < 16 := by rw [Int.tdiv_eq_ediv_of_nonneg h.1]; omega
  have key : ∀ c : Nat, c < 2 → ((findF d (c : Int) (word.tdiv 2)).2 = true ∧ ((d.1 c).2.1 (findF d (c : Int) (word.tdiv 2)).1.toNat).1 = 3) = (((d.1 c).2.1 ((word.tdiv 2).tmod 4).toNat).1 = 3 ∧ ((d.1 c).2.1 ((word.tdiv 2).tmod 4).toNat).2.1 = word.tdiv 2) := by
    intro c hc
    rw [show findF d (c : Int) (word.tdiv 2) = _ from if_pos ⟨⟨by omega, by omega⟩, hq⟩]
    apply propext
    show (decide _ = true ∧ _) ↔ _
    rw [decide_eq_true_iff]
    constructor
    · rintro ⟨⟨a, b⟩, c⟩
      exact ⟨c, b⟩
    · rintro ⟨a, b⟩
      refine ⟨⟨?_, b⟩, a⟩
      intro e
      have e : _ = (0 : Int) := e
      have a : _ = (3 : Int) := a
      have := e.symm.trans a
      exact absurd this (by decide)
  have f0 : (findF d 0 (word.tdiv 2)).1 = (word.tdiv 2).tmod 4 := by rw [show findF d 0 (word.tdiv 2) = _ from if_pos ⟨⟨by omega, by omega⟩, hq⟩]
  have f1 : (findF d 1 (word.tdiv 2)).1 = (word.tdiv 2).tmod 4 := by rw [show findF d 1 (word.tdiv 2) = _ from if_pos ⟨⟨by omega, by omega⟩, hq⟩]
  have k0 := key 0 (by omega)
  have k1 := key 1 (by omega)
  unfold valF pvF
  rw [if_pos h]
  have g0 : ((findF d 0 (word.tdiv 2)).2 = true ∧ ((d.1 0).2.1 (findF d 0 (word.tdiv 2)).1.toNat).1 = 3) = _ := k0
  have g1 : ((findF d 1 (word.tdiv 2)).2 = true ∧ ((d.1 1).2.1 (findF d 1 (word.tdiv 2)).1.toNat).1 = 3) = _ := k1
  simp only [g0, g1]
  rw [f0, f1]

theorem c_ValueOf : Ctr Try.prog 52 valueS := by
  refine ctr_of tabOk (SpecsOk.nil _) Try.func52 rfl _ (Nat.le_of_ble_eq_true rfl) (fun _ _ => rfl) ?_
  rintro nn ⟨d, (word : Int), ⟨⟩⟩ _ _
  refine ⟨200, init_k fun K1 n1 => ?_⟩
  conv => whnf
  refine n1 _ ?_
  clear n1 K1
  repeat' (first | with_reducible refine seq_k fun K1 n1 => ?_ | with_reducible refine seq_nil ?_ | with_reducible refine drw_k fun K1 n1 => ?_ | with_reducible refine drw_nil ?_ ?_ | with_reducible refine run_seq ?_ | with_reducible refine run_skip ?_ | with_reducible refine run_regS ?_ | with_reducible refine run_regD (by kernel_rfl) ?_ ?_ | with_reducible refine inl_k (by with_unfolding_all rfl) (Nat.le_of_ble_eq_true rfl) fun K1 n1 => ?_ | with_reducible refine inlA_k (by with_unfolding_all rfl) (Nat.le_of_ble_eq_true rfl) fun K1 n1 => ?_ | with_reducible refine run_finA ?_ | with_reducible refine run_cond ?_ | with_reducible refine run_block ?_ | with_reducible refine run_endb ?_ | with_reducible refine run_exit fun K1 n1 => ?_ | with_reducible refine run_ret fun K1 n1 => ?_ | with_reducible refine run_fin ?_ | with_reducible refine run_inv ?_ | with_reducible refine go_rounds ?_ | ((with_reducible refine Go.mk ?_); (conv => whnf)) | refine Fork.yes ?_ | refine Fork.no ?_ | refine Fork.dec (fun _ => ?_) (fun _ => ?_) | refine Fork.ndec (fun _ => ?_) (fun _ => ?_) | refine Fork.mk (fun _ => ?_) (fun _ => ?_) | refine Way.yesG ?_ | refine Way.noG ?_ | refine Way.decG (fun _ => ?_) (fun _ => ?_) | refine Way.ndecG (fun _ => ?_) (fun _ => ?_) | refine Way.mkG (fun _ => ?_) (fun _ => ?_) | with_reducible refine Need.mkG ?_ ?_ | refine AppW.go0 ?_ ?_ | with_reducible refine NilW.goG (fun _ => ?_) ?_ | ((with_reducible refine n1 _ _ _ ?_); clear n1 K1) | ((with_reducible refine n1 _ ?_); clear n1 K1) | ((with_reducible refine n1 _ _ ?_); clear n1 K1) | ((with_reducible refine n1 _ _ _ _ ?_); clear n1 K1) | fail)
  all_goals try (first | exact trivial | omega | kernel_rfl | decide | exact And.intro (by omega) (by omega))
  all_goals try dsimp only [Int.toNat_natCast] at *
  all_goals try (first | exact trivial | omega | exact And.intro (by omega) (by omega))
  all_goals first
    | (with_reducible refine Done.of ?_ ?_
       · show (0, ()) = (valF d word, ())
         rw [show valF d word = 0 from if_neg (by omega)]
       · exact Or.inl rfl)
    | (show @LE.le Int _ 0 word ∧ @LT.lt Int _ word 32; omega)
    | skip
  have hz : 0 ≤ word ∧ word < 32 := by omega
  have hq : 0 ≤ word.tdiv 2 ∧ word.tdiv 2 < 16 := by rw [Int.tdiv_eq_ediv_of_nonneg hz.1]; omega
  have hw : wrap64 (word.tdiv 2) = word.tdiv 2 := wrap_id (by omega)
  have ht := tmod4 hq.1
  have hr := tmod2 hz.1
  refine run_loop (loop_fam (ι := Int × Int) (fun i => [(6, .a (.of (.leaf .int i.1))), (5, .a (.of (.leaf .int i.2))), (2, .a (.ptr 0 0 [] deskT)), (1, .a (.of (.leaf .int word)))]) (fun _ => [.leaf deskT d]) (fun _ => ⟨nn, []⟩) (fun i => (i.1 + 1).toNat) (fun i => (i.1 = 1 ∧ i.2 = d.2 word.toNat) ∨ (i.1 = 0 ∧ i.2 = pvF d word 1 (d.2 word.toNat)) ∨ (i.1 = -1 ∧ i.2 = valF d word)) ?_ ?_)
  · exact ⟨(1, d.2 word.toNat), Or.inl ⟨rfl, rfl⟩, ⟨rfl, rfl, rfl, rfl, trivial⟩, rfl, 1, Nat.le_refl _, rfl, rfl⟩
  · rintro ⟨c, v⟩ hi
    repeat' (first | with_reducible refine seq_k fun K1 n1 => ?_ | with_reducible refine seq_nil ?_ | with_reducible refine drw_k fun K1 n1 => ?_ | with_reducible refine drw_nil ?_ ?_ | with_reducible refine run_seq ?_ | with_reducible refine run_skip ?_ | with_reducible refine run_regS ?_ | with_reducible refine run_regD (by kernel_rfl) ?_ ?_ | with_reducible refine inl_k (by with_unfolding_all rfl) (Nat.le_of_ble_eq_true rfl) fun K1 n1 => ?_ | with_reducible refine inlA_k (by with_unfolding_all rfl) (Nat.le_of_ble_eq_true rfl) fun K1 n1 => ?_ | with_reducible refine run_finA ?_ | with_reducible refine run_cond ?_ | with_reducible refine run_block ?_ | with_reducible refine run_endb ?_ | with_reducible refine run_exit fun K1 n1 => ?_ | with_reducible refine run_ret fun K1 n1 => ?_ | with_reducible refine run_fin ?_ | with_reducible refine run_inv ?_ | with_reducible refine go_rounds ?_ | ((with_reducible refine Go.mk ?_); (conv => whnf)) | refine Fork.yes ?_ | refine Fork.no ?_ | refine Fork.dec (fun _ => ?_) (fun _ => ?_) | refine Fork.ndec (fun _ => ?_) (fun _ => ?_) | refine Fork.mk (fun _ => ?_) (fun _ => ?_) | refine Way.yesG ?_ | refine Way.noG ?_ | refine Way.decG (fun _ => ?_) (fun _ => ?_) | refine Way.ndecG (fun _ => ?_) (fun _ => ?_) | refine Way.mkG (fun _ => ?_) (fun _ => ?_) | with_reducible refine Need.mkG ?_ ?_ | refine AppW.go0 ?_ ?_ | with_reducible refine NilW.goG (fun _ => ?_) ?_ | ((with_reducible refine n1 _ _ _ ?_); clear n1 K1) | ((with_reducible refine n1 _ ?_); clear n1 K1) | ((with_reducible refine n1 _ _ ?_); clear n1 K1) | ((with_reducible refine n1 _ _ _ _ ?_); clear n1 K1) | fail)
    all_goals try (first | exact trivial | omega | kernel_rfl | decide | exact And.intro (by omega) (by omega))
    all_goals try dsimp only [Int.toNat_natCast] at *
    all_goals try (first | exact trivial | omega | exact And.intro (by omega) (by omega))
    · rename_i h1
      exact (show @LE.le Int _ 0 c ∧ @LT.lt Int _ c 2 from ⟨h1, by omega⟩)
    · rename_i h1
      have h1 : 0 ≤ c := h1
      refine run_loop (loop_fam (ι := Nat × Int) (fun i => [(28, .a (.of (.leaf .int (i.1 : Int)))), (27, .a (.of (.leaf (.arr 4 lineT) (d.1 c.toNat).2.1))), (6, .a (.of (.leaf .int c))), (5, .a (.of (.leaf .int i.2))), (2, .a (.ptr 0 0 [] deskT)), (1, .a (.of (.leaf .int word)))]) (fun _ => [.leaf deskT d]) (fun _ => ⟨nn, []⟩) (fun i => 4 - i.1) (fun i => i.1 ≤ 4 ∧ i.2 = if ((word.tdiv 2).tmod 4).toNat < i.1 then pvF d word c.toNat v else v) ?_ ?_)
      · exact ⟨(0, v), ⟨Nat.zero_le _, rfl⟩, ⟨rfl, rfl, rfl, rfl, rfl, rfl, trivial⟩, rfl, 1, Nat.le_refl _, rfl, rfl⟩
      · rintro ⟨k, u⟩ ⟨hk, hu⟩
        repeat' (first | with_reducible refine seq_k fun K1 n1 => ?_ | with_reducible refine seq_nil ?_ | with_reducible refine drw_k fun K1 n1 => ?_ | with_reducible refine drw_nil ?_ ?_ | with_reducible refine run_seq ?_ | with_reducible refine run_skip ?_ | with_reducible refine run_regS ?_ | with_reducible refine run_regD (by kernel_rfl) ?_ ?_ | with_reducible refine inl_k (by with_unfolding_all rfl) (Nat.le_of_ble_eq_true rfl) fun K1 n1 => ?_ | with_reducible refine inlA_k (by with_unfolding_all rfl) (Nat.le_of_ble_eq_true rfl) fun K1 n1 => ?_ | with_reducible refine run_finA ?_ | with_reducible refine run_cond ?_ | with_reducible refine run_block ?_ | with_reducible refine run_endb ?_ | with_reducible refine run_exit fun K1 n1 => ?_ | with_reducible refine run_ret fun K1 n1 => ?_ | with_reducible refine run_fin ?_ | with_reducible refine run_inv ?_ | with_reducible refine go_rounds ?_ | ((with_reducible refine Go.mk ?_); (conv => whnf)) | refine Fork.yes ?_ | refine Fork.no ?_ | refine Fork.dec (fun _ => ?_) (fun _ => ?_) | refine Fork.ndec (fun _ => ?_) (fun _ => ?_) | refine Fork.mk (fun _ => ?_) (fun _ => ?_) | refine Way.yesG ?_ | refine Way.noG ?_ | refine Way.decG (fun _ => ?_) (fun _ => ?_) | refine Way.ndecG (fun _ => ?_) (fun _ => ?_) | refine Way.mkG (fun _ => ?_) (fun _ => ?_) | with_reducible refine Need.mkG ?_ ?_ | refine AppW.go0 ?_ ?_ | with_reducible refine NilW.goG (fun _ => ?_) ?_ | ((with_reducible refine n1 _ _ _ ?_); clear n1 K1) | ((with_reducible refine n1 _ ?_); clear n1 K1) | ((with_reducible refine n1 _ _ ?_); clear n1 K1) | ((with_reducible refine n1 _ _ _ _ ?_); clear n1 K1) | fail)
        all_goals try (first | exact trivial | omega | kernel_rfl | decide | exact And.intro (by omega) (by omega))
        all_goals try dsimp only [Int.toNat_natCast] at *
        all_goals try (first | exact trivial | omega | exact And.intro (by omega) (by omega))
        · rename_i h2 h3 h4 h5
          rw [hw] at h4 h5
          refine ⟨(k + 1, ((d.1 c.toNat).2.1 k).2.2.1 (word.tmod 2).toNat), by show 4 - (k + 1) < 4 - k; omega, ⟨by show k + 1 ≤ 4; omega, ?_⟩, ⟨?_, rfl, rfl, rfl, rfl, rfl, trivial⟩, rfl, 1, Nat.le_add_left _ _, rfl, rfl⟩
          · show _ = if ((word.tdiv 2).tmod 4).toNat < k + 1 then pvF d word c.toNat v else v
            have e : ((word.tdiv 2).tmod 4).toNat = k := by omega
            rw [if_pos (by omega)]
            unfold pvF
            rw [e, if_pos ⟨h3, h4⟩]
          · show some (SV.a (AV.of (V.leaf Ty.int (wrap64 (↑k + 1))))) = some (SV.a (AV.of (V.leaf Ty.int ((k + 1 : Nat) : Int))))
            rw [← wrap_succ k (by omega)]
        · refine ⟨(k + 1, u), by show 4 - (k + 1) < 4 - k; omega, ⟨by show k + 1 ≤ 4; omega, ?_⟩, ⟨?_, rfl, rfl, rfl, rfl, rfl, trivial⟩, rfl, 1, Nat.le_add_left _ _, rfl, rfl⟩
          · show u = if ((word.tdiv 2).tmod 4).toNat < k + 1 then pvF d word c.toNat v else v
            rcases Nat.lt_trichotomy ((word.tdiv 2).tmod 4).toNat k with g | g | g
            · rw [hu, if_pos g, if_pos (by omega)]
            · rw [hu, if_neg (by omega), if_pos (by omega)]
              unfold pvF
              rw [g]
              rw [hw] at *
              first
                | (exfalso; omega)
                | exact (if_neg fun hh => absurd hh.1 (by assumption)).symm
                | exact (if_neg fun hh => absurd hh.2 (by assumption)).symm
            · rw [hu, if_neg (by omega), if_neg (by omega)]
          · show some (SV.a (AV.of (V.leaf Ty.int (wrap64 (↑k + 1))))) = some (SV.a (AV.of (V.leaf Ty.int ((k + 1 : Nat) : Int))))
            rw [← wrap_succ k (by omega)]
        · refine ⟨(k + 1, u), by show 4 - (k + 1) < 4 - k; omega, ⟨by show k + 1 ≤ 4; omega, ?_⟩, ⟨?_, rfl, rfl, rfl, rfl, rfl, trivial⟩, rfl, 1, Nat.le_add_left _ _, rfl, rfl⟩
          · show u = if ((word.tdiv 2).tmod 4).toNat < k + 1 then pvF d word c.toNat v else v
            rcases Nat.lt_trichotomy ((word.tdiv 2).tmod 4).toNat k with g | g | g
            · rw [hu, if_pos g, if_pos (by omega)]
            · rw [hu, if_neg (by omega), if_pos (by omega)]
              unfold pvF
              rw [g]
              rw [hw] at *
              first
                | (exfalso; omega)
                | exact (if_neg fun hh => absurd hh.1 (by assumption)).symm
                | exact (if_neg fun hh => absurd hh.2 (by assumption)).symm
            · rw [hu, if_neg (by omega), if_neg (by omega)]
          · show some (SV.a (AV.of (V.leaf Ty.int (wrap64 (↑k + 1))))) = some (SV.a (AV.of (V.leaf Ty.int ((k + 1 : Nat) : Int))))
            rw [← wrap_succ k (by omega)]
        · refine ⟨(k + 1, u), by show 4 - (k + 1) < 4 - k; omega, ⟨by show k + 1 ≤ 4; omega, ?_⟩, ⟨?_, rfl, rfl, rfl, rfl, rfl, trivial⟩, rfl, 1, Nat.le_add_left _ _, rfl, rfl⟩
          · show u = if ((word.tdiv 2).tmod 4).toNat < k + 1 then pvF d word c.toNat v else v
            rcases Nat.lt_trichotomy ((word.tdiv 2).tmod 4).toNat k with g | g | g
            · rw [hu, if_pos g, if_pos (by omega)]
            · rw [hu, if_neg (by omega), if_pos (by omega)]
              unfold pvF
              rw [g]
              rw [hw] at *
              first
                | (exfalso; omega)
                | exact (if_neg fun hh => absurd hh.1 (by assumption)).symm
                | exact (if_neg fun hh => absurd hh.2 (by assumption)).symm
            · rw [hu, if_neg (by omega), if_neg (by omega)]
          · show some (SV.a (AV.of (V.leaf Ty.int (wrap64 (↑k + 1))))) = some (SV.a (AV.of (V.leaf Ty.int ((k + 1 : Nat) : Int))))
            rw [← wrap_succ k (by omega)]
        · rename_i h2
          have hu : u = pvF d word c.toNat v := by rw [hu, if_pos (by omega)]
          refine ⟨(c - 1, u), by show (c - 1 + 1).toNat < (c + 1).toNat; omega, ?_, ⟨?_, rfl, rfl, rfl, trivial⟩, rfl, 1, Nat.le_refl _, rfl, rfl⟩
          · show (c - 1 = 1 ∧ u = d.2 word.toNat) ∨ (c - 1 = 0 ∧ u = pvF d word 1 (d.2 word.toNat)) ∨ (c - 1 = -1 ∧ u = valF d word)
            rcases hi with ⟨e, g⟩ | ⟨e, g⟩ | ⟨e, _⟩
            · subst e
              exact Or.inr (Or.inl ⟨rfl, by rw [hu, g]; rfl⟩)
            · subst e
              exact Or.inr (Or.inr ⟨rfl, by rw [hu, g, valF_eq hz]; rfl⟩)
            · omega
          · show some (SV.a (AV.of (V.leaf Ty.int (wrap64 (c - 1))))) = some (SV.a (AV.of (V.leaf Ty.int (c - 1))))
            rw [wrap_id (by omega)]
    · rename_i h1
      have h1 : ¬ 0 ≤ c := h1
      refine Done.of ?_ (Or.inl rfl)
      show (v, ()) = (valF d word, ())
      rcases hi with ⟨e, _⟩ | ⟨e, _⟩ | ⟨_, e⟩
      · omega
      · omega
      · rw [e]
end Go.Proofs.Ytjbbgpacijageaa.M
