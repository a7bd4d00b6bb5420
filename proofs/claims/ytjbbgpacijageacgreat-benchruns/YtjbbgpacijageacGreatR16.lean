/- The document's own functions on desks: which desks are good. -/
import Derived.Test.YtjbbgpacijageacGreatUM
import Derived.Test.YtjbbgpacijageacGreatR5
import Derived.Test.YtjbbgpacijageacGreatR9
namespace Go.Proofs.YtjbbgpacijageacGreat.M
open Go.RowKit
set_option linter.unusedVariables false
set_option linter.unusedSimpArgs false

theorem goodK_no {d : deskT.D} {k : Nat} (hk : k < 2) (h : goodC (d.1 k) = true → False) : goodK d = false := by
  rw [← Bool.not_eq_true]
  intro g
  exact h ((goodC_iff _).2 (((goodK_iff d).1 g).1 k hk))
theorem no400 {n : Int} (h : 399 < n) (g : n < 400) : False := by omega
theorem in400 {n : Int} (h : ¬ 399 < n) : n < 400 := by omega
theorem no31 {n : Int} (h : 31 < n) (g : n < 32) : False := by omega
theorem rng32 {n : Int} (h : ¬ n < 0) (g : ¬ 31 < n) : 0 ≤ n ∧ n < 32 := by omega
def SeenW (l : List writeT.D) (j : Nat) (sn : Nat → Bool) : Prop :=
  (∀ i, i < j → ((0 ≤ (nthD writeT l i).1 ∧ (nthD writeT l i).1 < 32) ∧ isW (nthD writeT l i).2 = true) ∧ ∀ q, q < i → (nthD writeT l q).1 ≠ (nthD writeT l i).1) ∧ ∀ w, sn w = true ↔ ∃ i, i < j ∧ (nthD writeT l i).1.toNat = w
theorem seen0 (l : List writeT.D) : SeenW l 0 (fun _ => false) := ⟨fun i hi => absurd hi (Nat.not_lt_zero _), fun w => ⟨fun h => (by cases h), fun ⟨i, hi, _⟩ => absurd hi (Nat.not_lt_zero _)⟩⟩
theorem same_int {a b : Int} (ha : 0 ≤ a) (hb : 0 ≤ b) (h : a.toNat = b.toNat) : a = b := by omega
theorem seen_no {l : List writeT.D} {j : Nat} {sn : Nat → Bool} (hs : SeenW l j sn) (h : sn (nthD writeT l j).1.toNat = true) (h9 : ((0 ≤ (nthD writeT l j).1 ∧ (nthD writeT l j).1 < 32) ∧ isW (nthD writeT l j).2 = true) ∧ ∀ q, q < j → (nthD writeT l q).1 ≠ (nthD writeT l j).1) : False := by
  obtain ⟨i, hi, e⟩ := (hs.2 _).1 h
  exact h9.2 i hi (same_int (hs.1 i hi).1.1.1 h9.1.1.1 e)
theorem seen_on {l : List writeT.D} {j : Nat} {sn : Nat → Bool} (hs : SeenW l j sn) (hr : 0 ≤ (nthD writeT l j).1 ∧ (nthD writeT l j).1 < 32) (hw : isW (nthD writeT l j).2 = true) (hn : sn (nthD writeT l j).1.toNat = false) : SeenW l (j + 1) (updA sn (nthD writeT l j).1.toNat true) := by
  refine ⟨fun i hi => ?_, fun w => ?_⟩
  · by_cases e : i = j
    · rw [e]
      refine ⟨⟨hr, hw⟩, fun q hq eq => ?_⟩
      have : sn (nthD writeT l j).1.toNat = true := (hs.2 _).2 ⟨q, hq, by rw [eq]⟩
      rw [hn] at this
      cases this
    · exact hs.1 i (by omega)
  · unfold updA
    by_cases e : w = (nthD writeT l j).1.toNat
    · rw [if_pos e]
      exact ⟨fun _ => ⟨j, Nat.lt_succ_self _, e.symm⟩, fun _ => rfl⟩
    · rw [if_neg e, hs.2]
      constructor
      · rintro ⟨i, hi, h⟩
        exact ⟨i, by omega, h⟩
      · rintro ⟨i, hi, h⟩
        refine ⟨i, ?_, h⟩
        by_cases q : i = j
        · rw [q] at h
          exact absurd h.symm e
        · omega
theorem nogood {d : deskT.D} {k nn : Nat} {ns : NS} (hk : k < 2) (h8 : goodC (d.1 k) = true → False) : Done goodKS nn (d, PUnit.unit) (false, ()) ns := by
  refine Done.of ?_ (Or.inl rfl)
  show (false, ()) = (goodK d, ())
  rw [goodK_no hk h8]
theorem wrap_slot {j : Nat} (h : j < 9223372036854775807) : some (SV.a (AV.of (V.leaf Ty.int (wrap64 ((j : Int) + 1))))) = some (SV.a (AV.of (V.leaf Ty.int ((j + 1 : Nat) : Int)))) := by rw [wrap_succ j h]
theorem next_ok {d : deskT.D} {k j : Nat} (hok : ∀ j, j < k → goodC (d.1 j) = true) (hC : goodC (d.1 k) = true) (hj : j < k + 1) : goodC (d.1 j) = true := by
  by_cases e : j = k
  · rw [e]; exact hC
  · exact hok j (by omega)
set_option maxHeartbeats 6400000 in
theorem c_IsDesk : Ctr Tryz.prog 66 goodKS := by
  refine ctr_of tabOk (SpecsOk.cons c_GoodCaches (by kernel_rfl) (SpecsOk.cons c_IsPlain (by kernel_rfl) (SpecsOk.cons c_rIsWord (by kernel_rfl) (SpecsOk.nil _)))) Tryz.func66 rfl _ (Nat.le_of_ble_eq_true rfl) (fun _ _ => rfl) ?_
  rintro nn ⟨d, ⟨⟩⟩ _ hb
  refine ⟨200, init_k fun K1 n1 => ?_⟩
  conv => whnf
  refine n1 _ ?_
  clear n1 K1
  repeat' (first | (with_reducible first | refine seq_k fun K1 n1 => ?_ | refine seq_nil ?_ | refine run_seq ?_ | refine run_skip ?_ | refine run_regS ?_ | refine run_cond ?_ | refine run_block ?_ | refine run_ret fun K1 n1 => ?_ | refine run_fin ?_) | ((with_reducible refine Go.mk ?_); (conv => whnf)) | refine Fork.mk (fun _ => ?_) (fun _ => ?_) | (with_reducible first | refine Need.mkG ?_ ?_) | ((with_reducible refine n1 _ _ _ ?_); clear n1 K1) | ((with_reducible refine n1 _ ?_); clear n1 K1) | fail)
  all_goals try (exact trivial)
  all_goals try dsimp only [Int.toNat_natCast] at *
  · rename_i h
    refine Done.of ?_ (Or.inl rfl)
    show (false, ()) = (goodK d, ())
    unfold goodK
    rw [not_t' h]
    simp only [Bool.and_false]
  · refine run_loop (loop_fam (ι := Nat) (fun k => [(14, .a (.of (.leaf .int (k : Int)))), (13, .a (.of (.leaf (.arr 2 coreT) d.1)))]) (fun _ => [.leaf deskT d]) (fun _ => ⟨nn, []⟩) (fun k => 2 - k) (fun k => k ≤ 2 ∧ ∀ j, j < k → goodC (d.1 j) = true) ?_ ?_)
    · exact ⟨0, ⟨Nat.zero_le _, fun j hj => absurd hj (Nat.not_lt_zero _)⟩, ⟨rfl, rfl, trivial⟩, rfl, 1, Nat.le_refl _, rfl, rfl⟩
    · rintro k ⟨hk, hok⟩
      have hk : k ≤ 2 := hk
      repeat' (first | (with_reducible first | refine seq_k fun K1 n1 => ?_ | refine seq_nil ?_ | refine run_seq ?_ | refine run_skip ?_ | refine run_regS ?_ | refine run_cond ?_ | refine run_block ?_ | refine run_exit fun K1 n1 => ?_ | refine run_ret fun K1 n1 => ?_ | refine run_fin ?_ | refine run_inv ?_) | ((with_reducible refine Go.mk ?_); (conv => whnf)) | refine Fork.yes ?_ | refine Fork.dec (fun _ => ?_) (fun _ => ?_) | refine Fork.ndec (fun _ => ?_) (fun _ => ?_) | refine Way.yesG ?_ | refine Way.noG ?_ | refine Way.decG (fun _ => ?_) (fun _ => ?_) | refine Way.ndecG (fun _ => ?_) (fun _ => ?_) | refine Way.mkG (fun _ => ?_) (fun _ => ?_) | (with_reducible first | refine Need.mkG ?_ ?_) | ((with_reducible refine n1 _ _ _ ?_); clear n1 K1) | ((with_reducible refine n1 _ ?_); clear n1 K1) | fail)
      all_goals try (first | exact trivial | decide | exact And.intro (by omega) (by omega))
      all_goals try dsimp only [Int.toNat_natCast] at *
      all_goals first
        | (have hk2 : ¬ (k : Int) < 2 := by assumption
           have hgd : goodD d = true := not_f (show (!goodD d) = false by assumption)
           refine Done.of ?_ (Or.inl rfl)
           show (true, ()) = (goodK d, ())
           unfold goodK
           rw [hok 0 (by omega), hok 1 (by omega), hgd]
           rfl)
        | (refine Done.of ?_ (Or.inl rfl)
           suffices h8 : goodC (d.1 k) = true → False by
             show (false, ()) = (goodK d, ())
             rw [goodK_no (by omega) h8]
           intro hC
           have hk2 := (goodC_iff _).1 hC
           first
             | (have h : (!goodP (d.1 k).1) = true := (by assumption); rw [hk2.now] at h; cases h; done)
             | (have h : @LT.lt Int _ (d.1 k).2.2.1 0 := (by assumption); exact absurd hk2.lo (Int.not_le.2 h))
             | (have h : @LT.lt Int _ 3 (d.1 k).2.2.1 := (by assumption); exact absurd hk2.hi (Int.not_le.2 h))
             | (have h0 : (d.1 k).2.2.1 = 0 := by assumption
                obtain ⟨o1, o2, o3, o4⟩ := hk2.out h0
                first
                  | (have h : ((d.1 k).2.1 (Int.toNat 0)).2.2.2 = true := (by assumption); have h9 := (any_iff (d.1 k)).2 ⟨0, by decide, h⟩; rw [o4] at h9; cases h9; done)
                  | (have h : ((d.1 k).2.1 (Int.toNat 1)).2.2.2 = true := (by assumption); have h9 := (any_iff (d.1 k)).2 ⟨1, by decide, h⟩; rw [o4] at h9; cases h9; done)
                  | (have h : ((d.1 k).2.1 (Int.toNat 2)).2.2.2 = true := (by assumption); have h9 := (any_iff (d.1 k)).2 ⟨2, by decide, h⟩; rw [o4] at h9; cases h9; done)
                  | (have h : ((d.1 k).2.1 (Int.toNat 3)).2.2.2 = true := (by assumption); have h9 := (any_iff (d.1 k)).2 ⟨3, by decide, h⟩; rw [o4] at h9; cases h9; done)
                  | (have h : (!eqT plainT (d.1 k).2.2.2.1 plainT.zero) = true := (by assumption); rw [o1] at h; cases h; done)
                  | (have h : ¬ ((d.1 k).2.2.2.2.1.2.length : Int) = 0 := (by assumption); rw [o2] at h; exact absurd rfl h)
                  | (have h : ¬ (d.1 k).2.2.2.2.2 = 0 := (by assumption); exact absurd o3 h))
             | (have h0 : ¬ (d.1 k).2.2.1 = 0 := by assumption
                obtain ⟨i1, i2, i3, i4, i5⟩ := hk2.ins h0
                first
                  | (have h : (!goodP (d.1 k).2.2.2.1) = true := (by assumption); rw [i1] at h; cases h; done)
                  | (have h : (d.1 k).1.2.2 = true := (by assumption); rw [i3] at h; cases h; done)
                  | (have h : (d.1 k).2.2.2.1.2.2 = true := (by assumption); rw [i2] at h; cases h; done)
                  | (have h : @LT.lt Int _ (d.1 k).2.2.2.2.2 1 := (by assumption); exact absurd i4.1 (Int.not_le.2 h))
                  | (have h : @LT.lt Int _ 399 (d.1 k).2.2.2.2.2 := (by assumption); exact (no400 h i4.2).elim)
                  | (have h : @LT.lt Int _ 4 ((d.1 k).2.2.2.2.1.2.length : Int) := (by assumption); have h9 := ((ws_iff _).1 i5).1; omega)))
        | (have h0 : (d.1 k).2.2.1 = 0 := by assumption
           have hr : anyRead (d.1 k) = false := any_false fun w hw => by
             have : w = 0 ∨ w = 1 ∨ w = 2 ∨ w = 3 := by omega
             rcases this with rfl | rfl | rfl | rfl <;> assumption
           have hC : goodC (d.1 k) = true := (goodC_iff _).2 ⟨not_f (by assumption), Int.not_lt.1 (by assumption), Int.not_lt.1 (by assumption), fun _ _ => trivial, fun _ => ⟨not_f (by assumption), List.length_eq_zero_iff.1 (by omega), by assumption, hr⟩, fun g => absurd h0 g⟩
           exact ⟨k + 1, (show 2 - (k + 1) < 2 - k by omega), ⟨(show k + 1 ≤ 2 by omega), fun j hj => by
            by_cases e : j = k
            · rw [e]; exact hC
            · exact hok j (by omega)⟩, ⟨(by
            show some (SV.a (AV.of (V.leaf Ty.int (wrap64 (↑k + 1))))) = some (SV.a (AV.of (V.leaf Ty.int ((k + 1 : Nat) : Int))))
            rw [← wrap_succ k (by omega)]), rfl, trivial⟩, rfl, 1, Nat.le_of_ble_eq_true rfl, rfl, rfl⟩)
        | skip
      all_goals
        have h0 : ¬ (d.1 k).2.2.1 = 0 := by assumption
        have hk1 : k < 2 := by omega
        have hws : (d.1 k).2.2.2.2.1.2.length ≤ 9223372036854775807 := (hb.1.1 k hk1).2.2.2.2.1
        refine run_loop (loop_fam (ι := Nat × (Nat → Bool)) (fun i => [(108, .a (.of (.leaf .int (i.1 : Int)))), (107, .a (.of (.leaf .int ((d.1 k).2.2.2.2.1.2.length : Int)))), (106, .a (.of (.leaf (.lst writeT) (d.1 k).2.2.2.2.1))), (6, .a (.ptr 2 0 [] (.arr 32 .bool))), (14, .a (.of (.leaf .int (k : Int)))), (13, .a (.of (.leaf (.arr 2 coreT) d.1)))]) (fun i => [.leaf deskT d, .leaf coreT (d.1 k), .leaf (.arr 32 .bool) i.2]) (fun _ => ⟨nn, []⟩) (fun i => (d.1 k).2.2.2.2.1.2.length - i.1) (fun i => i.1 ≤ (d.1 k).2.2.2.2.1.2.length ∧ SeenW (d.1 k).2.2.2.2.1.2 i.1 i.2) ?_ ?_)
        · exact ⟨(0, fun _ => false), ⟨Nat.zero_le _, seen0 _⟩, ⟨rfl, rfl, rfl, rfl, rfl, rfl, trivial⟩, rfl, 3, Nat.le_refl _, rfl, rfl⟩
        · rintro ⟨j, sn⟩ ⟨hj, hs⟩
          have hj : j ≤ (d.1 k).2.2.2.2.1.2.length := hj
          have hs : SeenW (d.1 k).2.2.2.2.1.2 j sn := hs
          repeat' (first | (with_reducible first | refine seq_k fun K1 n1 => ?_ | refine seq_nil ?_ | refine run_seq ?_ | refine run_skip ?_ | refine run_regS ?_ | refine run_cond ?_ | refine run_block ?_ | refine run_endb ?_ | refine run_exit fun K1 n1 => ?_ | refine run_ret fun K1 n1 => ?_ | refine run_fin ?_ | refine run_inv ?_) | ((with_reducible refine Go.mk ?_); (conv => whnf)) | refine Fork.yes ?_ | refine Fork.dec (fun _ => ?_) (fun _ => ?_) | refine Fork.mk (fun _ => ?_) (fun _ => ?_) | refine Way.yesG ?_ | refine Way.noG ?_ | refine Way.decG (fun _ => ?_) (fun _ => ?_) | refine Way.ndecG (fun _ => ?_) (fun _ => ?_) | (with_reducible first | refine Need.mkG ?_ ?_) | ((with_reducible refine n1 _ _ _ ?_); clear n1 K1) | ((with_reducible refine n1 _ ?_); clear n1 K1) | fail)
          all_goals try (first | exact trivial | exact And.intro (by omega) (by omega))
          all_goals try dsimp only [Int.toNat_natCast] at *
          all_goals first
            | (refine nogood hk1 ?_
               intro hC
               have h9 := ((ws_iff _).1 (((goodC_iff _).1 hC).ins h0).2.2.2.2).2 j (by omega)
               first
                 | (have h : @LT.lt Int _ (nthD writeT (d.1 k).2.2.2.2.1.2 j).1 0 := (by assumption); exact absurd h9.1.1.1 (Int.not_le.2 h))
                 | (have h : @LT.lt Int _ 31 (nthD writeT (d.1 k).2.2.2.2.1.2 j).1 := (by assumption); exact (no31 h h9.1.1.2).elim)
                 | (have h : ¬ (@LE.le Int _ 0 (nthD writeT (d.1 k).2.2.2.2.1.2 j).2 ∧ @LE.le Int _ (nthD writeT (d.1 k).2.2.2.2.1.2 j).2 4294967295) := (by assumption); exact absurd (of_decide_eq_true h9.1.2) h)
                 | (have h : sn (nthD writeT (d.1 k).2.2.2.2.1.2 j).1.toNat = true := (by assumption); exact (seen_no hs h h9).elim))
            | exact (show @LE.le Int _ 0 (nthD writeT (d.1 k).2.2.2.2.1.2 j).1 ∧ @LT.lt Int _ (nthD writeT (d.1 k).2.2.2.2.1.2 j).1 32 from rng32 (by assumption) (by assumption))
            | (have hlt : (j : Int) < ((d.1 k).2.2.2.2.1.2.length : Int) := (by assumption)
               refine ⟨(j + 1, updA sn (nthD writeT (d.1 k).2.2.2.2.1.2 j).1.toNat true), (show (d.1 k).2.2.2.2.1.2.length - (j + 1) < (d.1 k).2.2.2.2.1.2.length - j by omega), ⟨(show j + 1 ≤ (d.1 k).2.2.2.2.1.2.length by omega), seen_on hs (rng32 (by assumption) (by assumption)) (decide_eq_true (by assumption)) (by assumption)⟩, ⟨?_, rfl, rfl, rfl, rfl, rfl, trivial⟩, rfl, 3, Nat.le_of_ble_eq_true rfl, rfl, rfl⟩
               exact wrap_slot (by omega))
            | (have hC : goodC (d.1 k) = true := (goodC_iff _).2 ⟨not_f (by assumption), Int.not_lt.1 (by assumption), Int.not_lt.1 (by assumption), fun _ _ => trivial, fun g => absurd g h0, fun _ => ⟨not_f (by assumption), by assumption, by assumption, ⟨Int.not_lt.1 (by assumption), in400 (by assumption)⟩, (ws_iff _).2 ⟨by omega, fun i hi => hs.1 i (by omega)⟩⟩⟩
               refine ⟨k + 1, (show 2 - (k + 1) < 2 - k by omega), ⟨(show k + 1 ≤ 2 by omega), fun j hj => next_ok hok hC hj⟩, ⟨?_, rfl, trivial⟩, rfl, 1, Nat.le_of_ble_eq_true rfl, rfl, rfl⟩
               exact wrap_slot (by omega))
            | trace_state
end Go.Proofs.YtjbbgpacijageacGreat.M
