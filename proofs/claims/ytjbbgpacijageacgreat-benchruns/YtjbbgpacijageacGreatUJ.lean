/- Several texts in one. -/
import Derived.Test.YtjbbgpacijageacGreatUD
/- The document's own functions on caches. -/
namespace Go.Proofs.YtjbbgpacijageacGreat.M
open Go.RowKit
set_option linter.unusedVariables false
set_option linter.unusedSimpArgs false

theorem c_rIsWord : Ctr Tryz.prog 63 (pureS [.int] [.bool] fun d => (isW d.1, ())) := by
  refine ctr_of tabOk (SpecsOk.nil _) Tryz.func63 rfl _ (Nat.le_of_ble_eq_true rfl) (fun _ _ => rfl) ?_
  rintro nn ⟨(n : Int), ⟨⟩⟩ _ _
  refine ⟨200, init_k fun K1 n1 => ?_⟩
  conv => whnf
  refine n1 _ ?_
  clear n1 K1
  repeat' (first | (with_reducible first | refine seq_k fun K1 n1 => ?_ | refine seq_nil ?_ | refine run_seq ?_ | refine run_regS ?_ | refine run_ret fun K1 n1 => ?_ | refine run_fin ?_) | ((with_reducible refine Go.mk ?_); (conv => whnf)) | refine Way.yesG ?_ | refine Way.noG ?_ | refine Way.decG (fun _ => ?_) (fun _ => ?_) | ((with_reducible refine n1 _ _ _ ?_); clear n1 K1) | ((with_reducible refine n1 _ ?_); clear n1 K1) | fail)
  all_goals try dsimp only [Int.toNat_natCast] at *
  · rename_i h
    refine Done.of ?_ (Or.inl rfl)
    show (decide (n < 4294967296), ()) = (isW n, ())
    have : isW n = decide (n < 4294967296) := by
      unfold isW
      rw [decide_eq_decide]
      omega
    rw [this]
  · rename_i h
    refine Done.of ?_ (Or.inl rfl)
    show (false, ()) = (isW n, ())
    have : isW n = false := by
      unfold isW
      rw [decide_eq_false_iff_not]
      omega
    rw [this]

theorem goodLn_eq (l : lineT.D) (way : Int) : goodLn l way = if @Eq Int l.1 0 then eqT lineT l lineT.zero else (decide (@LT.lt Int _ 0 l.1) && (decide (@LT.lt Int _ l.1 4) && (decide (@LE.le Int _ 0 l.2.1) && (decide (@LT.lt Int _ l.2.1 16) && (decide (Int.tmod l.2.1 4 = way) && (isW (l.2.2.1 0) && isW (l.2.2.1 1))))))) := by
  obtain ⟨(s : Int), (n : Int), dt, u⟩ := l
  show (bif decide (s = 0) then _ else decide (1 ≤ s ∧ s ≤ 3 ∧ (0 ≤ n ∧ n < 16) ∧ n.tmod 4 = way) && [dt 0, dt 1].all isW) = if s = 0 then _ else (decide (0 < s) && (decide (s < 4) && (decide (0 ≤ n) && (decide (n < 16) && (decide (n.tmod 4 = way) && (isW (dt 0) && isW (dt 1)))))))
  have : decide (1 ≤ s ∧ s ≤ 3 ∧ (0 ≤ n ∧ n < 16) ∧ n.tmod 4 = way) = (decide (0 < s) && (decide (s < 4) && (decide (0 ≤ n) && (decide (n < 16) && decide (n.tmod 4 = way))))) := by
    simp only [← Bool.decide_and]
    rw [decide_eq_decide]
    constructor
    · rintro ⟨a, b, ⟨c, d⟩, e⟩
      exact ⟨by omega, by omega, c, d, e⟩
    · rintro ⟨a, b, c, d, e⟩
      exact ⟨by omega, by omega, ⟨c, d⟩, e⟩
  rw [this]
  by_cases h : s = 0
  · rw [if_pos h, decide_eq_true h]
    rfl
  · rw [if_neg h, decide_eq_false h]
    simp only [List.all_cons, List.all_nil, Bool.and_true, Bool.and_assoc, cond_false]

theorem c_IsLine : Ctr Tryz.prog 121 goodLineS := by
  refine ctr_of tabOk (SpecsOk.cons c_rIsWord (by kernel_rfl) (SpecsOk.nil _)) Tryz.func121 rfl _ (Nat.le_of_ble_eq_true rfl) (fun _ _ => rfl) ?_
  rintro nn ⟨l, (way : Int), ⟨⟩⟩ _ _
  refine ⟨200, init_k fun K1 n1 => ?_⟩
  conv => whnf
  refine n1 _ ?_
  clear n1 K1
  repeat' (first | (with_reducible first | refine seq_k fun K1 n1 => ?_ | refine seq_nil ?_ | refine run_seq ?_ | refine run_skip ?_ | refine run_regS ?_ | refine run_cond ?_ | refine run_ret fun K1 n1 => ?_ | refine run_fin ?_) | ((with_reducible refine Go.mk ?_); (conv => whnf)) | refine Fork.dec (fun _ => ?_) (fun _ => ?_) | refine Way.yesG ?_ | refine Way.noG ?_ | refine Way.decG (fun _ => ?_) (fun _ => ?_) | (with_reducible first | refine Need.mkG ?_ ?_) | ((with_reducible refine n1 _ _ _ ?_); clear n1 K1) | ((with_reducible refine n1 _ ?_); clear n1 K1) | fail)
  all_goals try (first | exact trivial | omega | decide)
  all_goals try dsimp only [Int.toNat_natCast] at *
  all_goals refine Done.of ?_ (Or.inl rfl)
  all_goals (show (_, ()) = (goodLn l way, ()); rw [goodLn_eq])
  all_goals try simp only [show Int.toNat 0 = 0 from rfl, show Int.toNat 1 = 1 from rfl] at *
  all_goals simp [isW, *]

theorem c_FindLine : Ctr Tryz.prog 139 findS := by
  refine ctr_of tabOk (SpecsOk.nil _) Tryz.func139 rfl _ (Nat.le_of_ble_eq_true rfl) (fun _ _ => rfl) ?_
  rintro nn ⟨d, (c : Int), (n : Int), ⟨⟩⟩ _ _
  refine ⟨200, init_k fun K1 n1 => ?_⟩
  conv => whnf
  refine n1 _ ?_
  clear n1 K1
  repeat' (first | (with_reducible first | refine seq_k fun K1 n1 => ?_ | refine seq_nil ?_ | refine run_seq ?_ | refine run_skip ?_ | refine run_regS ?_ | refine run_cond ?_ | refine run_block ?_ | refine run_ret fun K1 n1 => ?_ | refine run_fin ?_) | ((with_reducible refine Go.mk ?_); (conv => whnf)) | refine Fork.yes ?_ | refine Fork.dec (fun _ => ?_) (fun _ => ?_) | refine Way.yesG ?_ | refine Way.noG ?_ | refine Way.decG (fun _ => ?_) (fun _ => ?_) | refine Way.ndecG (fun _ => ?_) (fun _ => ?_) | (with_reducible first | refine Need.mkG ?_ ?_) | ((with_reducible refine n1 _ _ _ ?_); clear n1 K1) | ((with_reducible refine n1 _ ?_); clear n1 K1) | fail)
  all_goals try dsimp only [Int.toNat_natCast] at *
  all_goals first
    | (refine ⟨?_, ?_⟩ <;> first | (show @LE.le Int _ 0 c; omega) | (show @LT.lt Int _ c 2; omega))
    | (with_reducible refine Done.of ?_ ?_
       · show (0, false, ()) = ((findF d c n).1, (findF d c n).2, ())
         rw [show findF d c n = (0, false) from if_neg (by omega)]
       · exact Or.inl rfl)
    | skip
  all_goals
    have hn : 0 ≤ n ∧ n < 16 := by omega
    have hc : 0 ≤ c ∧ c < 2 := by omega
    have hm : findF d c n = (n.tmod 4, hasL ((d.1 c.toNat).2.1 (n.tmod 4).toNat) n) := if_pos ⟨hc, hn⟩
    have ht := tmod4 hn.1
    refine run_loop (loop_fam (ι := Nat) (fun k => [(29, .a (.of (.leaf .int (k : Int)))), (28, .a (.of (.leaf (.arr 4 lineT) (d.1 c.toNat).2.1))), (2, .a (.of (.leaf .int n)))]) (fun _ => []) (fun _ => ⟨nn, []⟩) (fun k => 4 - k) (fun k => k ≤ 4 ∧ (((n.tmod 4).toNat < k) → hasL ((d.1 c.toNat).2.1 (n.tmod 4).toNat) n = false)) ?_ ?_)
    · exact ⟨0, ⟨Nat.zero_le _, fun h => absurd h (Nat.not_lt_zero _)⟩, ⟨rfl, rfl, rfl, trivial⟩, rfl, 0, Nat.zero_le _, rfl, rfl⟩
    · rintro k ⟨hk, hok⟩
      repeat' (first | (with_reducible first | refine seq_k fun K1 n1 => ?_ | refine seq_nil ?_ | refine run_seq ?_ | refine run_skip ?_ | refine run_regS ?_ | refine run_cond ?_ | refine run_block ?_ | refine run_endb ?_ | refine run_exit fun K1 n1 => ?_ | refine run_ret fun K1 n1 => ?_ | refine run_fin ?_ | refine run_inv ?_) | ((with_reducible refine Go.mk ?_); (conv => whnf)) | refine Fork.no ?_ | refine Fork.dec (fun _ => ?_) (fun _ => ?_) | refine Way.yesG ?_ | refine Way.noG ?_ | refine Way.decG (fun _ => ?_) (fun _ => ?_) | refine Way.ndecG (fun _ => ?_) (fun _ => ?_) | (with_reducible first | refine Need.mkG ?_ ?_) | ((with_reducible refine n1 _ _ _ ?_); clear n1 K1) | ((with_reducible refine n1 _ ?_); clear n1 K1) | fail)
      all_goals try (first | omega | exact And.intro (by omega) (by omega))
      all_goals try dsimp only [Int.toNat_natCast] at *
      · rename_i h1 h2 h3 h4
        refine Done.of ?_ (Or.inl rfl)
        show ((k : Int), true, ()) = ((findF d c n).1, (findF d c n).2, ())
        have e : (n.tmod 4).toNat = k := by omega
        rw [hm, e, ← h4, show hasL ((d.1 c.toNat).2.1 k) n = true from decide_eq_true ⟨h2, h3⟩]
      · refine ⟨k + 1, by omega, ⟨by omega, fun h => ?_⟩, ⟨?_, rfl, rfl, trivial⟩, rfl, 0, Nat.zero_le _, rfl, rfl⟩
        · rcases Nat.lt_or_ge (n.tmod 4).toNat k with g | g
          · exact hok g
          · have e : (n.tmod 4).toNat = k := by omega
            rw [e]
            first
              | (exfalso; omega)
              | exact decide_eq_false fun hh => hh.1 (by assumption)
              | exact decide_eq_false fun hh => absurd hh.2 (by assumption)
        · rw [← wrap_succ k (by omega)]
          rfl
      · refine ⟨k + 1, by omega, ⟨by omega, fun h => ?_⟩, ⟨?_, rfl, rfl, trivial⟩, rfl, 0, Nat.zero_le _, rfl, rfl⟩
        · rcases Nat.lt_or_ge (n.tmod 4).toNat k with g | g
          · exact hok g
          · have e : (n.tmod 4).toNat = k := by omega
            rw [e]
            first
              | (exfalso; omega)
              | exact decide_eq_false fun hh => hh.1 (by assumption)
              | exact decide_eq_false fun hh => absurd hh.2 (by assumption)
        · rw [← wrap_succ k (by omega)]
          rfl
      · refine ⟨k + 1, by omega, ⟨by omega, fun h => ?_⟩, ⟨?_, rfl, rfl, trivial⟩, rfl, 0, Nat.zero_le _, rfl, rfl⟩
        · rcases Nat.lt_or_ge (n.tmod 4).toNat k with g | g
          · exact hok g
          · have e : (n.tmod 4).toNat = k := by omega
            rw [e]
            first
              | (exfalso; omega)
              | exact decide_eq_false fun hh => hh.1 (by assumption)
              | exact decide_eq_false fun hh => absurd hh.2 (by assumption)
        · rw [← wrap_succ k (by omega)]
          rfl
      · rename_i h1
        refine Done.of ?_ (Or.inl rfl)
        show (n.tmod 4, false, ()) = ((findF d c n).1, (findF d c n).2, ())
        rw [hm, hok (by omega)]
end Go.Proofs.YtjbbgpacijageacGreat.M

/- The document's own functions on caches: values. -/
namespace Go.Proofs.YtjbbgpacijageacGreat.M
open Go.RowKit
set_option linter.unusedVariables false
set_option linter.unusedSimpArgs false

def pvF (d : deskT.D) (word : Int) (c : Nat) (v : Int) : Int :=
  if ((d.1 c).2.1 ((word.tdiv 2).tmod 4).toNat).1 = 3 ∧ ((d.1 c).2.1 ((word.tdiv 2).tmod 4).toNat).2.1 = word.tdiv 2 then ((d.1 c).2.1 ((word.tdiv 2).tmod 4).toNat).2.2.1 (word.tmod 2).toNat else v

theorem valF_eq {d : deskT.D} {word : Int} (h : 0 ≤ word ∧ word < 32) : valF d word = pvF d word 0 (pvF d word 1 (d.2 word.toNat)) := by
  have hq : 0 ≤ word.tdiv 2 ∧ word.tdiv 2 < 16 := by rw [Int.tdiv_eq_ediv_of_nonneg h.1]; omega
  have key : ∀ c : Nat, c < 2 → ((findF d (c : Int) (word.tdiv 2)).2 = true ∧ ((d.1 c).2.1 (findF d (c : Int) (word.tdiv 2)).1.toNat).1 = 3) = (((d.1 c).2.1 ((word.tdiv 2).tmod 4).toNat).1 = 3 ∧ ((d.1 c).2.1 ((word.tdiv 2).tmod 4).toNat).2.1 = word.tdiv 2) := by
    intro c hc
    rw [show findF d (c : Int) (word.tdiv 2) = _ from if_pos ⟨⟨by omega, by omega⟩, hq⟩]
    apply propext
    show (decide _ = true ∧ _) ↔ _
    rw [decide_eq_true_iff]
    constructor
    · rintro ⟨⟨a, b⟩, c⟩
      exact ⟨c, b⟩
    · rintro ⟨a, b⟩
      refine ⟨⟨?_, b⟩, a⟩
      intro e
      have e : _ = (0 : Int) := e
      have a : _ = (3 : Int) := a
      have := e.symm.trans a
      exact absurd this (by decide)
  have f0 : (findF d 0 (word.tdiv 2)).1 = (word.tdiv 2).tmod 4 := by rw [show findF d 0 (word.tdiv 2) = _ from if_pos ⟨⟨by omega, by omega⟩, hq⟩]
  have f1 : (findF d 1 (word.tdiv 2)).1 = (word.tdiv 2).tmod 4 := by rw [show findF d 1 (word.tdiv 2) = _ from if_pos ⟨⟨by omega, by omega⟩, hq⟩]
  have k0 := key 0 (by omega)
  have k1 := key 1 (by omega)
  unfold valF pvF
  rw [if_pos h]
  have g0 : ((findF d 0 (word.tdiv 2)).2 = true ∧ ((d.1 0).2.1 (findF d 0 (word.tdiv 2)).1.toNat).1 = 3) = _ := k0
  have g1 : ((findF d 1 (word.tdiv 2)).2 = true ∧ ((d.1 1).2.1 (findF d 1 (word.tdiv 2)).1.toNat).1 = 3) = _ := k1
  simp only [g0, g1]
  rw [f0, f1]

theorem c_ValueOf : Ctr Tryz.prog 126 valueS := by
  refine ctr_of tabOk (SpecsOk.nil _) Tryz.func126 rfl _ (Nat.le_of_ble_eq_true rfl) (fun _ _ => rfl) ?_
  rintro nn ⟨d, (word : Int), ⟨⟩⟩ _ _
  refine ⟨200, init_k fun K1 n1 => ?_⟩
  conv => whnf
  refine n1 _ ?_
  clear n1 K1
  repeat' (first | (with_reducible first | refine seq_k fun K1 n1 => ?_ | refine seq_nil ?_ | refine run_seq ?_ | refine run_skip ?_ | refine run_regS ?_ | refine run_cond ?_ | refine run_block ?_ | refine run_ret fun K1 n1 => ?_ | refine run_fin ?_) | ((with_reducible refine Go.mk ?_); (conv => whnf)) | refine Fork.yes ?_ | refine Fork.dec (fun _ => ?_) (fun _ => ?_) | refine Way.yesG ?_ | refine Way.noG ?_ | refine Way.decG (fun _ => ?_) (fun _ => ?_) | (with_reducible first | refine Need.mkG ?_ ?_) | ((with_reducible refine n1 _ _ _ ?_); clear n1 K1) | ((with_reducible refine n1 _ ?_); clear n1 K1) | fail)
  all_goals try dsimp only [Int.toNat_natCast] at *
  all_goals first
    | (with_reducible refine Done.of ?_ ?_
       · show (0, ()) = (valF d word, ())
         rw [show valF d word = 0 from if_neg (by omega)]
       · exact Or.inl rfl)
    | (show @LE.le Int _ 0 word ∧ @LT.lt Int _ word 32; omega)
    | skip
  have hz : 0 ≤ word ∧ word < 32 := by omega
  have hq : 0 ≤ word.tdiv 2 ∧ word.tdiv 2 < 16 := by rw [Int.tdiv_eq_ediv_of_nonneg hz.1]; omega
  have hw : wrap64 (word.tdiv 2) = word.tdiv 2 := wrap_id (by omega)
  have ht := tmod4 hq.1
  have hr := tmod2 hz.1
  refine run_loop (loop_fam (ι := Int × Int) (fun i => [(6, .a (.of (.leaf .int i.1))), (5, .a (.of (.leaf .int i.2))), (2, .a (.ptr 0 0 [] deskT)), (1, .a (.of (.leaf .int word)))]) (fun _ => [.leaf deskT d]) (fun _ => ⟨nn, []⟩) (fun i => (i.1 + 1).toNat) (fun i => (i.1 = 1 ∧ i.2 = d.2 word.toNat) ∨ (i.1 = 0 ∧ i.2 = pvF d word 1 (d.2 word.toNat)) ∨ (i.1 = -1 ∧ i.2 = valF d word)) ?_ ?_)
  · exact ⟨(1, d.2 word.toNat), Or.inl ⟨rfl, rfl⟩, ⟨rfl, rfl, rfl, rfl, trivial⟩, rfl, 1, Nat.le_refl _, rfl, rfl⟩
  · rintro ⟨c, v⟩ hi
    repeat' (first | (with_reducible first | refine seq_k fun K1 n1 => ?_ | refine seq_nil ?_ | refine run_seq ?_ | refine run_skip ?_ | refine run_regS ?_ | refine run_cond ?_ | refine run_block ?_ | refine run_exit fun K1 n1 => ?_ | refine run_ret fun K1 n1 => ?_ | refine run_fin ?_) | ((with_reducible refine Go.mk ?_); (conv => whnf)) | refine Fork.dec (fun _ => ?_) (fun _ => ?_) | (with_reducible first | refine Need.mkG ?_ ?_) | ((with_reducible refine n1 _ _ _ ?_); clear n1 K1) | ((with_reducible refine n1 _ ?_); clear n1 K1) | fail)
    all_goals try dsimp only [Int.toNat_natCast] at *
    · rename_i h1
      exact (show @LE.le Int _ 0 c ∧ @LT.lt Int _ c 2 from ⟨h1, by omega⟩)
    · rename_i h1
      have h1 : 0 ≤ c := h1
      refine run_loop (loop_fam (ι := Nat × Int) (fun i => [(28, .a (.of (.leaf .int (i.1 : Int)))), (27, .a (.of (.leaf (.arr 4 lineT) (d.1 c.toNat).2.1))), (6, .a (.of (.leaf .int c))), (5, .a (.of (.leaf .int i.2))), (2, .a (.ptr 0 0 [] deskT)), (1, .a (.of (.leaf .int word)))]) (fun _ => [.leaf deskT d]) (fun _ => ⟨nn, []⟩) (fun i => 4 - i.1) (fun i => i.1 ≤ 4 ∧ i.2 = if ((word.tdiv 2).tmod 4).toNat < i.1 then pvF d word c.toNat v else v) ?_ ?_)
      · exact ⟨(0, v), ⟨Nat.zero_le _, rfl⟩, ⟨rfl, rfl, rfl, rfl, rfl, rfl, trivial⟩, rfl, 1, Nat.le_refl _, rfl, rfl⟩
      · rintro ⟨k, u⟩ ⟨hk, hu⟩
        repeat' (first | (with_reducible first | refine seq_k fun K1 n1 => ?_ | refine seq_nil ?_ | refine run_seq ?_ | refine run_skip ?_ | refine run_regS ?_ | refine run_cond ?_ | refine run_block ?_ | refine run_endb ?_ | refine run_exit fun K1 n1 => ?_ | refine run_inv ?_) | ((with_reducible refine Go.mk ?_); (conv => whnf)) | refine Fork.no ?_ | refine Fork.dec (fun _ => ?_) (fun _ => ?_) | refine Way.yesG ?_ | refine Way.noG ?_ | refine Way.decG (fun _ => ?_) (fun _ => ?_) | (with_reducible first | refine Need.mkG ?_ ?_) | ((with_reducible refine n1 _ _ _ ?_); clear n1 K1) | ((with_reducible refine n1 _ ?_); clear n1 K1) | fail)
        all_goals try (first | omega | exact And.intro (by omega) (by omega))
        all_goals try dsimp only [Int.toNat_natCast] at *
        · rename_i h2 h3 h4 h5
          rw [hw] at h4 h5
          refine ⟨(k + 1, ((d.1 c.toNat).2.1 k).2.2.1 (word.tmod 2).toNat), by show 4 - (k + 1) < 4 - k; omega, ⟨by show k + 1 ≤ 4; omega, ?_⟩, ⟨?_, rfl, rfl, rfl, rfl, rfl, trivial⟩, rfl, 1, Nat.le_add_left _ _, rfl, rfl⟩
          · show _ = if ((word.tdiv 2).tmod 4).toNat < k + 1 then pvF d word c.toNat v else v
            have e : ((word.tdiv 2).tmod 4).toNat = k := by omega
            rw [if_pos (by omega)]
            unfold pvF
            rw [e, if_pos ⟨h3, h4⟩]
          · show some (SV.a (AV.of (V.leaf Ty.int (wrap64 (↑k + 1))))) = some (SV.a (AV.of (V.leaf Ty.int ((k + 1 : Nat) : Int))))
            rw [← wrap_succ k (by omega)]
        · refine ⟨(k + 1, u), by show 4 - (k + 1) < 4 - k; omega, ⟨by show k + 1 ≤ 4; omega, ?_⟩, ⟨?_, rfl, rfl, rfl, rfl, rfl, trivial⟩, rfl, 1, Nat.le_add_left _ _, rfl, rfl⟩
          · show u = if ((word.tdiv 2).tmod 4).toNat < k + 1 then pvF d word c.toNat v else v
            rcases Nat.lt_trichotomy ((word.tdiv 2).tmod 4).toNat k with g | g | g
            · rw [hu, if_pos g, if_pos (by omega)]
            · rw [hu, if_neg (by omega), if_pos (by omega)]
              unfold pvF
              rw [g]
              rw [hw] at *
              first
                | (exfalso; omega)
                | exact (if_neg fun hh => absurd hh.1 (by assumption)).symm
                | exact (if_neg fun hh => absurd hh.2 (by assumption)).symm
            · rw [hu, if_neg (by omega), if_neg (by omega)]
          · show some (SV.a (AV.of (V.leaf Ty.int (wrap64 (↑k + 1))))) = some (SV.a (AV.of (V.leaf Ty.int ((k + 1 : Nat) : Int))))
            rw [← wrap_succ k (by omega)]
        · refine ⟨(k + 1, u), by show 4 - (k + 1) < 4 - k; omega, ⟨by show k + 1 ≤ 4; omega, ?_⟩, ⟨?_, rfl, rfl, rfl, rfl, rfl, trivial⟩, rfl, 1, Nat.le_add_left _ _, rfl, rfl⟩
          · show u = if ((word.tdiv 2).tmod 4).toNat < k + 1 then pvF d word c.toNat v else v
            rcases Nat.lt_trichotomy ((word.tdiv 2).tmod 4).toNat k with g | g | g
            · rw [hu, if_pos g, if_pos (by omega)]
            · rw [hu, if_neg (by omega), if_pos (by omega)]
              unfold pvF
              rw [g]
              rw [hw] at *
              first
                | (exfalso; omega)
                | exact (if_neg fun hh => absurd hh.1 (by assumption)).symm
                | exact (if_neg fun hh => absurd hh.2 (by assumption)).symm
            · rw [hu, if_neg (by omega), if_neg (by omega)]
          · show some (SV.a (AV.of (V.leaf Ty.int (wrap64 (↑k + 1))))) = some (SV.a (AV.of (V.leaf Ty.int ((k + 1 : Nat) : Int))))
            rw [← wrap_succ k (by omega)]
        · refine ⟨(k + 1, u), by show 4 - (k + 1) < 4 - k; omega, ⟨by show k + 1 ≤ 4; omega, ?_⟩, ⟨?_, rfl, rfl, rfl, rfl, rfl, trivial⟩, rfl, 1, Nat.le_add_left _ _, rfl, rfl⟩
          · show u = if ((word.tdiv 2).tmod 4).toNat < k + 1 then pvF d word c.toNat v else v
            rcases Nat.lt_trichotomy ((word.tdiv 2).tmod 4).toNat k with g | g | g
            · rw [hu, if_pos g, if_pos (by omega)]
            · rw [hu, if_neg (by omega), if_pos (by omega)]
              unfold pvF
              rw [g]
              rw [hw] at *
              first
                | (exfalso; omega)
                | exact (if_neg fun hh => absurd hh.1 (by assumption)).symm
                | exact (if_neg fun hh => absurd hh.2 (by assumption)).symm
            · rw [hu, if_neg (by omega), if_neg (by omega)]
          · show some (SV.a (AV.of (V.leaf Ty.int (wrap64 (↑k + 1))))) = some (SV.a (AV.of (V.leaf Ty.int ((k + 1 : Nat) : Int))))
            rw [← wrap_succ k (by omega)]
        · rename_i h2
          have hu : u = pvF d word c.toNat v := by rw [hu, if_pos (by omega)]
          refine ⟨(c - 1, u), by show (c - 1 + 1).toNat < (c + 1).toNat; omega, ?_, ⟨?_, rfl, rfl, rfl, trivial⟩, rfl, 1, Nat.le_refl _, rfl, rfl⟩
          · show (c - 1 = 1 ∧ u = d.2 word.toNat) ∨ (c - 1 = 0 ∧ u = pvF d word 1 (d.2 word.toNat)) ∨ (c - 1 = -1 ∧ u = valF d word)
            rcases hi with ⟨e, g⟩ | ⟨e, g⟩ | ⟨e, _⟩
            · subst e
              exact Or.inr (Or.inl ⟨rfl, by rw [hu, g]; rfl⟩)
            · subst e
              exact Or.inr (Or.inr ⟨rfl, by rw [hu, g, valF_eq hz]; rfl⟩)
            · omega
          · show some (SV.a (AV.of (V.leaf Ty.int (wrap64 (c - 1))))) = some (SV.a (AV.of (V.leaf Ty.int (c - 1))))
            rw [wrap_id (by omega)]
    · rename_i h1
      have h1 : ¬ 0 ≤ c := h1
      refine Done.of ?_ (Or.inl rfl)
      show (v, ()) = (valF d word, ())
      rcases hi with ⟨e, _⟩ | ⟨e, _⟩ | ⟨_, e⟩
      · omega
      · omega
      · rw [e]
end Go.Proofs.YtjbbgpacijageacGreat.M

/- The document's own functions on memories. -/
namespace Go.Proofs.YtjbbgpacijageacGreat.M
open Go.RowKit
set_option linter.unusedVariables false
set_option linter.unusedSimpArgs false

theorem ownL_succ (m : Nat → Int) (k : Nat) : (ownL .int m 0 (k + 1)).all isW = ((ownL .int m 0 k).all isW && isW (m k)) := by
  unfold ownL
  rw [List.range_succ, List.map_append, List.all_append]
  simp
abbrev goodMemS : Spec := pureS [.arr 32 .int] [.bool] fun d => ((ownL .int d.1 0 32).all isW, ())
theorem c_goodMemory : Ctr Tryz.prog 40 goodMemS := by
  refine ctr_of tabOk (SpecsOk.cons c_rIsWord (by kernel_rfl) (SpecsOk.nil _)) Tryz.func40 rfl _ (Nat.le_of_ble_eq_true rfl) (fun _ _ => rfl) ?_
  rintro nn ⟨m, ⟨⟩⟩ _ _
  refine ⟨200, init_k fun K1 n1 => ?_⟩
  conv => whnf
  refine n1 _ ?_
  clear n1 K1
  repeat' (first | (with_reducible first | refine seq_k fun K1 n1 => ?_ | refine seq_nil ?_ | refine run_seq ?_ | refine run_regS ?_ | refine run_block ?_) | ((with_reducible refine Go.mk ?_); (conv => whnf)) | ((with_reducible refine n1 _ _ _ ?_); clear n1 K1) | fail)
  all_goals try dsimp only [Int.toNat_natCast] at *
  refine run_loop (loop_fam (ι := Nat × Bool) (fun i => [(7, .a (.of (.leaf .int (i.1 : Int)))), (6, .a (.of (.leaf (.arr 32 .int) m))), (3, .a (.of (.leaf .bool i.2)))]) (fun _ => []) (fun _ => ⟨nn, []⟩) (fun i => 32 - i.1) (fun i => i.1 ≤ 32 ∧ i.2 = (ownL .int m 0 i.1).all isW) ?_ ?_)
  · exact ⟨(0, true), ⟨Nat.zero_le _, rfl⟩, ⟨rfl, rfl, rfl, trivial⟩, rfl, 0, Nat.zero_le _, rfl, rfl⟩
  · rintro ⟨k, b⟩ ⟨hk, hb⟩
    repeat' (first | (with_reducible first | refine seq_k fun K1 n1 => ?_ | refine seq_nil ?_ | refine run_seq ?_ | refine run_skip ?_ | refine run_regS ?_ | refine run_cond ?_ | refine run_block ?_ | refine run_endb ?_ | refine run_exit fun K1 n1 => ?_ | refine run_ret fun K1 n1 => ?_ | refine run_fin ?_ | refine run_inv ?_) | ((with_reducible refine Go.mk ?_); (conv => whnf)) | refine Fork.dec (fun _ => ?_) (fun _ => ?_) | refine Way.yesG ?_ | refine Way.noG ?_ | refine Way.mkG (fun _ => ?_) (fun _ => ?_) | (with_reducible first | refine Need.mkG ?_ ?_) | ((with_reducible refine n1 _ _ _ ?_); clear n1 K1) | ((with_reducible refine n1 _ ?_); clear n1 K1) | fail)
    all_goals try (first | exact trivial | exact And.intro (by omega) (by omega))
    all_goals try dsimp only [Int.toNat_natCast] at *
    · rename_i h1 h2
      have h2 : b = true := h2
      refine ⟨(k + 1, isW (m k)), by show 32 - (k + 1) < 32 - k; omega, ⟨by show k + 1 ≤ 32; omega, ?_⟩, ⟨?_, rfl, rfl, trivial⟩, rfl, 0, Nat.zero_le _, rfl, rfl⟩
      · show _ = (ownL .int m 0 (k + 1)).all isW
        rw [ownL_succ, ← hb, h2]
        rfl
      · show some (SV.a (AV.of (V.leaf Ty.int (wrap64 (↑k + 1))))) = some (SV.a (AV.of (V.leaf Ty.int ((k + 1 : Nat) : Int))))
        rw [← wrap_succ k (by omega)]
    · rename_i h1 h2
      have h2 : b = false := h2
      refine ⟨(k + 1, false), by show 32 - (k + 1) < 32 - k; omega, ⟨by show k + 1 ≤ 32; omega, ?_⟩, ⟨?_, rfl, rfl, trivial⟩, rfl, 0, Nat.zero_le _, rfl, rfl⟩
      · show _ = (ownL .int m 0 (k + 1)).all isW
        rw [ownL_succ, ← hb, h2]
        rfl
      · show some (SV.a (AV.of (V.leaf Ty.int (wrap64 (↑k + 1))))) = some (SV.a (AV.of (V.leaf Ty.int ((k + 1 : Nat) : Int))))
        rw [← wrap_succ k (by omega)]
    · rename_i h1
      obtain rfl : k = 32 := by omega
      refine Done.of ?_ (Or.inl rfl)
      show (b, ()) = ((ownL .int m 0 32).all isW, ())
      rw [hb]
end Go.Proofs.YtjbbgpacijageacGreat.M
