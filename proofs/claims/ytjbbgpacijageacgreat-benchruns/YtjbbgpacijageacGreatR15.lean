/- The document's own functions on desks: cores without a transaction, lines that are held, transactions that fail. -/
import Derived.Test.YtjbbgpacijageacGreatUG
import Derived.Test.YtjbbgpacijageacGreatR5
import Derived.Test.YtjbbgpacijageacGreatR9
namespace Go.Proofs.YtjbbgpacijageacGreat.M
open Go.RowKit
set_option linter.unusedVariables false
set_option linter.unusedSimpArgs false

theorem c_cleared : Ctr Tryz.prog 97 freedS := by
  refine ctr_of tabOk (SpecsOk.nil _) Tryz.func97 rfl _ (Nat.le_of_ble_eq_true rfl) (fun _ _ => rfl) ?_
  rintro nn ⟨c, ⟨⟩⟩ _ hb
  refine ⟨200, init_k fun K1 n1 => ?_⟩
  conv => whnf
  refine n1 _ ?_
  clear n1 K1
  repeat' (first | (with_reducible first | refine seq_k fun K1 n1 => ?_ | refine seq_nil ?_ | refine run_seq ?_ | refine run_regS ?_ | refine run_block ?_) | ((with_reducible refine Go.mk ?_); (conv => whnf)) | ((with_reducible refine n1 _ _ _ ?_); clear n1 K1) | fail)
  all_goals try dsimp only [Int.toNat_natCast] at *
  refine run_loop (loop_fam (ι := Nat × (Nat → lineT.D)) (fun i => [(4, .a (.of (.leaf .int (i.1 : Int)))), (2, .a (.ptr 1 0 [] coreT)), (1, .a (.ptr 0 0 [] coreT))])
    (fun i => [.leaf coreT (c.1, i.2, c.2.2), .leaf coreT coreT.zero]) (fun _ => ⟨nn, []⟩) (fun i => 4 - i.1) (fun i => i.1 ≤ 4 ∧ i.2 = fun w => if w < i.1 then ((c.2.1 w).1, (c.2.1 w).2.1, (c.2.1 w).2.2.1, false) else c.2.1 w) ?_ ?_)
  · exact ⟨(0, c.2.1), ⟨Nat.zero_le _, by funext w; rw [if_neg (by omega)]⟩, ⟨rfl, rfl, rfl, trivial⟩, rfl, 2, Nat.le_refl _, rfl, rfl⟩
  · rintro ⟨k, f⟩ ⟨hk, hf⟩
    have hk : k ≤ 4 := hk
    have hf : f = fun w => if w < k then ((c.2.1 w).1, (c.2.1 w).2.1, (c.2.1 w).2.2.1, false) else c.2.1 w := hf
    repeat' (first | (with_reducible first | refine seq_k fun K1 n1 => ?_ | refine seq_nil ?_ | refine run_seq ?_ | refine run_skip ?_ | refine run_regS ?_ | refine run_cond ?_ | refine run_block ?_ | refine run_endb ?_ | refine run_exit fun K1 n1 => ?_ | refine run_ret fun K1 n1 => ?_ | refine run_fin ?_ | refine run_inv ?_) | ((with_reducible refine Go.mk ?_); (conv => whnf)) | refine Fork.dec (fun _ => ?_) (fun _ => ?_) | (with_reducible first | refine Need.mkG ?_ ?_) | ((with_reducible refine n1 _ _ _ ?_); clear n1 K1) | ((with_reducible refine n1 _ ?_); clear n1 K1) | fail)
    all_goals try (exact And.intro (by omega) (by omega))
    all_goals try dsimp only [Int.toNat_natCast] at *
    · rename_i h1
      have hfk : f k = c.2.1 k := by rw [hf]; exact if_neg (Nat.lt_irrefl _)
      refine ⟨(k + 1, updA f k ((f k).1, (f k).2.1, (f k).2.2.1, false)), (by show 4 - (k + 1) < 4 - k; omega), ⟨(by show k + 1 ≤ 4; omega), ?_⟩, ⟨?_, rfl, rfl, trivial⟩, rfl, 2, Nat.le_of_ble_eq_true rfl, rfl, rfl⟩
      · funext w
        show updA f k _ w = if w < k + 1 then _ else _
        unfold updA
        by_cases hw : w = k
        · subst hw
          rw [if_pos rfl, if_pos (by omega), hfk]
        · rw [if_neg hw, hf]
          show (if w < k then _ else _) = _
          by_cases h2 : w < k
          · rw [if_pos h2, if_pos (by omega)]
          · rw [if_neg h2, if_neg (by omega)]
      · rw [← wrap_succ k (by omega)]
        rfl
    · rename_i h1
      obtain rfl : k = 4 := by omega
      refine Done.of ?_ (Or.inr (Nat.le_refl _))
      show ((c.1, f, 0, plainT.zero, (nilH, []), 0), ()) = (freedF c, ())
      unfold freedF noRead
      rw [hf]
theorem updA_tw {α : Type} (f : Nat → α) (k : Nat) (x y : α) : updA (updA f k x) k y = updA f k y := by
  funext j
  unfold updA
  by_cases h : j = k
  · rw [if_pos h, if_pos h]
  · rw [if_neg h, if_neg h, if_neg h]
theorem updA_self {α : Type} (f : Nat → α) (k : Nat) (x : α) : updA f k x k = x := if_pos rfl
theorem any_take (p : writeT.D → Bool) (l : List writeT.D) {k : Nat} (h : k < l.length) : (l.take (k + 1)).any p = ((l.take k).any p || p (nthD writeT l k)) := by
  rw [List.take_add_one, List.any_append, nth_some h, nthD_eq h]
  simp
set_option maxHeartbeats 1600000 in
theorem c_HoldsLine : Ctr Tryz.prog 122 holdsS := by
  refine ctr_of tabOk (SpecsOk.cons c_FindLine (by kernel_rfl) (SpecsOk.nil _)) Tryz.func122 rfl _ (Nat.le_of_ble_eq_true rfl) (fun _ _ => rfl) ?_
  rintro nn ⟨d, (c : Int), (line : Int), ⟨⟩⟩ _ hb
  refine ⟨200, init_k fun K1 n1 => ?_⟩
  conv => whnf
  refine n1 _ ?_
  clear n1 K1
  repeat' (first | (with_reducible first | refine seq_k fun K1 n1 => ?_ | refine seq_nil ?_ | refine run_seq ?_ | refine run_skip ?_ | refine run_regS ?_ | refine run_cond ?_ | refine run_block ?_ | refine run_ret fun K1 n1 => ?_ | refine run_fin ?_) | ((with_reducible refine Go.mk ?_); (conv => whnf)) | refine Fork.yes ?_ | refine Fork.dec (fun _ => ?_) (fun _ => ?_) | refine Way.yesG ?_ | refine Way.noG ?_ | refine Way.ndecG (fun _ => ?_) (fun _ => ?_) | refine Way.mkG (fun _ => ?_) (fun _ => ?_) | (with_reducible first | refine Need.mkG ?_ ?_) | ((with_reducible refine n1 _ _ _ ?_); clear n1 K1) | ((with_reducible refine n1 _ ?_); clear n1 K1) | fail)
  all_goals try (exact trivial)
  all_goals try dsimp only [Int.toNat_natCast] at *
  all_goals first
    | exact (show 0 ≤ c ∧ c < 2 by omega)
    | exact find_range d c line
    | (refine Done.of ?_ (Or.inl rfl)
       show (false, ()) = (holdsF d c line, ())
       unfold holdsF
       first
         | (rw [if_neg (show ¬ ((0 ≤ c ∧ c < 2) ∧ (d.1 c.toNat).2.2.1 ≠ 0) from fun g => by omega)]; done)
         | (rw [if_neg (show ¬ ((0 ≤ c ∧ c < 2) ∧ (d.1 c.toNat).2.2.1 ≠ 0) from fun g => g.2 (by assumption))]; done))
    | skip
  · have hfi : (findF d c line).2 = true := by assumption
    have hc : 0 ≤ c ∧ c < 2 := by omega
    have hdp : ¬ (d.1 c.toNat).2.2.1 = 0 := by assumption
    have hws : (d.1 c.toNat).2.2.2.2.1.2.length ≤ 9223372036854775807 := (hb.1.1 c.toNat (by omega)).2.2.2.2.1
    obtain ⟨V0, hV0⟩ : ∃ V0, V0 = ((findF d c line).2 && ((d.1 c.toNat).2.1 (findF d c line).1.toNat).2.2.2) := ⟨_, rfl⟩
    have hF : holdsF d c line = (V0 || (d.1 c.toNat).2.2.2.2.1.2.any (wrL line)) := by
      unfold holdsF
      rw [if_pos ⟨hc, hdp⟩, hV0]
    rw [hfi] at hV0
    refine run_loop (loop_fam (ι := Nat × Bool) (fun i => [(49, .a (.of (.leaf .int (i.1 : Int)))), (48, .a (.of (.leaf .int ((d.1 c.toNat).2.2.2.2.1.2.length : Int)))), (47, .a (.of (.leaf (.lst writeT) (d.1 c.toNat).2.2.2.2.1))), (8, .a (.of (.leaf .bool i.2))), (2, .a (.of (.leaf .int line)))])
      (fun _ => [.leaf deskT d]) (fun _ => ⟨nn, []⟩) (fun i => (d.1 c.toNat).2.2.2.2.1.2.length - i.1) (fun i => i.1 ≤ (d.1 c.toNat).2.2.2.2.1.2.length ∧ i.2 = (V0 || ((d.1 c.toNat).2.2.2.2.1.2.take i.1).any (wrL line))) ?_ ?_)
    · exact ⟨(0, ((d.1 c.toNat).2.1 (findF d c line).1.toNat).2.2.2), ⟨Nat.zero_le _, by show _ = (V0 || false); rw [Bool.or_false, hV0]; rfl⟩, ⟨rfl, rfl, rfl, rfl, rfl, trivial⟩, rfl, 1, Nat.le_refl _, rfl, rfl⟩
    · rintro ⟨k, b⟩ ⟨hk, hbb⟩
      have hk : k ≤ (d.1 c.toNat).2.2.2.2.1.2.length := hk
      have hbb : b = (V0 || ((d.1 c.toNat).2.2.2.2.1.2.take k).any (wrL line)) := hbb
      clear hfi
      repeat' (first | (with_reducible first | refine seq_k fun K1 n1 => ?_ | refine seq_nil ?_ | refine run_seq ?_ | refine run_skip ?_ | refine run_regS ?_ | refine run_cond ?_ | refine run_block ?_ | refine run_endb ?_ | refine run_exit fun K1 n1 => ?_ | refine run_ret fun K1 n1 => ?_ | refine run_fin ?_ | refine run_inv ?_) | ((with_reducible refine Go.mk ?_); (conv => whnf)) | refine Fork.dec (fun _ => ?_) (fun _ => ?_) | refine Way.yesG ?_ | refine Way.noG ?_ | refine Way.mkG (fun _ => ?_) (fun _ => ?_) | (with_reducible first | refine Need.mkG ?_ ?_) | ((with_reducible refine n1 _ _ _ ?_); clear n1 K1) | ((with_reducible refine n1 _ ?_); clear n1 K1) | fail)
      all_goals try (first | omega | exact And.intro (by omega) (by omega))
      all_goals try dsimp only [Int.toNat_natCast] at *
      · rename_i g1 g2
        subst g2
        exact ⟨(k + 1, true), (show (d.1 c.toNat).2.2.2.2.1.2.length - (k + 1) < (d.1 c.toNat).2.2.2.2.1.2.length - k by omega), ⟨(show k + 1 ≤ (d.1 c.toNat).2.2.2.2.1.2.length by omega), by show true = (V0 || _); rw [any_take _ _ (by omega), ← Bool.or_assoc, ← hbb]; rfl⟩, ⟨(by
          show some (SV.a (AV.of (V.leaf Ty.int (wrap64 (↑k + 1))))) = some (SV.a (AV.of (V.leaf Ty.int ((k + 1 : Nat) : Int))))
          rw [← wrap_succ k (by omega)]), rfl, rfl, rfl, rfl, trivial⟩, rfl, 1, Nat.le_of_ble_eq_true rfl, rfl, rfl⟩
      · rename_i g1 g2
        subst g2
        exact ⟨(k + 1, decide (wrap64 ((nthD writeT (d.1 c.toNat).2.2.2.2.1.2 k).1.tdiv 2) = line)), (show (d.1 c.toNat).2.2.2.2.1.2.length - (k + 1) < (d.1 c.toNat).2.2.2.2.1.2.length - k by omega), ⟨(show k + 1 ≤ (d.1 c.toNat).2.2.2.2.1.2.length by omega), by show _ = (V0 || _); rw [any_take _ _ (by omega), ← Bool.or_assoc, ← hbb]; rfl⟩, ⟨(by
          show some (SV.a (AV.of (V.leaf Ty.int (wrap64 (↑k + 1))))) = some (SV.a (AV.of (V.leaf Ty.int ((k + 1 : Nat) : Int))))
          rw [← wrap_succ k (by omega)]), rfl, rfl, rfl, rfl, trivial⟩, rfl, 1, Nat.le_of_ble_eq_true rfl, rfl, rfl⟩
      · rename_i g1
        refine Done.of ?_ (Or.inl rfl)
        show (b, ()) = (holdsF d c line, ())
        rw [hF, hbb, show k = (d.1 c.toNat).2.2.2.2.1.2.length from by omega, List.take_length]
  · have hfi : (findF d c line).2 = false := by assumption
    have hc : 0 ≤ c ∧ c < 2 := by omega
    have hdp : ¬ (d.1 c.toNat).2.2.1 = 0 := by assumption
    have hws : (d.1 c.toNat).2.2.2.2.1.2.length ≤ 9223372036854775807 := (hb.1.1 c.toNat (by omega)).2.2.2.2.1
    obtain ⟨V0, hV0⟩ : ∃ V0, V0 = ((findF d c line).2 && ((d.1 c.toNat).2.1 (findF d c line).1.toNat).2.2.2) := ⟨_, rfl⟩
    have hF : holdsF d c line = (V0 || (d.1 c.toNat).2.2.2.2.1.2.any (wrL line)) := by
      unfold holdsF
      rw [if_pos ⟨hc, hdp⟩, hV0]
    rw [hfi] at hV0
    refine run_loop (loop_fam (ι := Nat × Bool) (fun i => [(49, .a (.of (.leaf .int (i.1 : Int)))), (48, .a (.of (.leaf .int ((d.1 c.toNat).2.2.2.2.1.2.length : Int)))), (47, .a (.of (.leaf (.lst writeT) (d.1 c.toNat).2.2.2.2.1))), (8, .a (.of (.leaf .bool i.2))), (2, .a (.of (.leaf .int line)))])
      (fun _ => [.leaf deskT d]) (fun _ => ⟨nn, []⟩) (fun i => (d.1 c.toNat).2.2.2.2.1.2.length - i.1) (fun i => i.1 ≤ (d.1 c.toNat).2.2.2.2.1.2.length ∧ i.2 = (V0 || ((d.1 c.toNat).2.2.2.2.1.2.take i.1).any (wrL line))) ?_ ?_)
    · exact ⟨(0, false), ⟨Nat.zero_le _, by show _ = (V0 || false); rw [Bool.or_false, hV0]; rfl⟩, ⟨rfl, rfl, rfl, rfl, rfl, trivial⟩, rfl, 1, Nat.le_refl _, rfl, rfl⟩
    · rintro ⟨k, b⟩ ⟨hk, hbb⟩
      have hk : k ≤ (d.1 c.toNat).2.2.2.2.1.2.length := hk
      have hbb : b = (V0 || ((d.1 c.toNat).2.2.2.2.1.2.take k).any (wrL line)) := hbb
      clear hfi
      repeat' (first | (with_reducible first | refine seq_k fun K1 n1 => ?_ | refine seq_nil ?_ | refine run_seq ?_ | refine run_skip ?_ | refine run_regS ?_ | refine run_cond ?_ | refine run_block ?_ | refine run_endb ?_ | refine run_exit fun K1 n1 => ?_ | refine run_ret fun K1 n1 => ?_ | refine run_fin ?_ | refine run_inv ?_) | ((with_reducible refine Go.mk ?_); (conv => whnf)) | refine Fork.dec (fun _ => ?_) (fun _ => ?_) | refine Way.yesG ?_ | refine Way.noG ?_ | refine Way.mkG (fun _ => ?_) (fun _ => ?_) | (with_reducible first | refine Need.mkG ?_ ?_) | ((with_reducible refine n1 _ _ _ ?_); clear n1 K1) | ((with_reducible refine n1 _ ?_); clear n1 K1) | fail)
      all_goals try (first | omega | exact And.intro (by omega) (by omega))
      all_goals try dsimp only [Int.toNat_natCast] at *
      · rename_i g1 g2
        subst g2
        exact ⟨(k + 1, true), (show (d.1 c.toNat).2.2.2.2.1.2.length - (k + 1) < (d.1 c.toNat).2.2.2.2.1.2.length - k by omega), ⟨(show k + 1 ≤ (d.1 c.toNat).2.2.2.2.1.2.length by omega), by show true = (V0 || _); rw [any_take _ _ (by omega), ← Bool.or_assoc, ← hbb]; rfl⟩, ⟨(by
          show some (SV.a (AV.of (V.leaf Ty.int (wrap64 (↑k + 1))))) = some (SV.a (AV.of (V.leaf Ty.int ((k + 1 : Nat) : Int))))
          rw [← wrap_succ k (by omega)]), rfl, rfl, rfl, rfl, trivial⟩, rfl, 1, Nat.le_of_ble_eq_true rfl, rfl, rfl⟩
      · rename_i g1 g2
        subst g2
        exact ⟨(k + 1, decide (wrap64 ((nthD writeT (d.1 c.toNat).2.2.2.2.1.2 k).1.tdiv 2) = line)), (show (d.1 c.toNat).2.2.2.2.1.2.length - (k + 1) < (d.1 c.toNat).2.2.2.2.1.2.length - k by omega), ⟨(show k + 1 ≤ (d.1 c.toNat).2.2.2.2.1.2.length by omega), by show _ = (V0 || _); rw [any_take _ _ (by omega), ← Bool.or_assoc, ← hbb]; rfl⟩, ⟨(by
          show some (SV.a (AV.of (V.leaf Ty.int (wrap64 (↑k + 1))))) = some (SV.a (AV.of (V.leaf Ty.int ((k + 1 : Nat) : Int))))
          rw [← wrap_succ k (by omega)]), rfl, rfl, rfl, rfl, trivial⟩, rfl, 1, Nat.le_of_ble_eq_true rfl, rfl, rfl⟩
      · rename_i g1
        refine Done.of ?_ (Or.inl rfl)
        show (b, ()) = (holdsF d c line, ())
        rw [hF, hbb, show k = (d.1 c.toNat).2.2.2.2.1.2.length from by omega, List.take_length]
  · have hfi : (findF d c line).2 = true := by assumption
    have hc : 0 ≤ c ∧ c < 2 := by omega
    have hdp : ¬ (d.1 c.toNat).2.2.1 = 0 := by assumption
    have hws : (d.1 c.toNat).2.2.2.2.1.2.length ≤ 9223372036854775807 := (hb.1.1 c.toNat (by omega)).2.2.2.2.1
    obtain ⟨V0, hV0⟩ : ∃ V0, V0 = ((findF d c line).2 && ((d.1 c.toNat).2.1 (findF d c line).1.toNat).2.2.2) := ⟨_, rfl⟩
    have hF : holdsF d c line = (V0 || (d.1 c.toNat).2.2.2.2.1.2.any (wrL line)) := by
      unfold holdsF
      rw [if_pos ⟨hc, hdp⟩, hV0]
    rw [hfi] at hV0
    refine run_loop (loop_fam (ι := Nat × Bool) (fun i => [(49, .a (.of (.leaf .int (i.1 : Int)))), (48, .a (.of (.leaf .int ((d.1 c.toNat).2.2.2.2.1.2.length : Int)))), (47, .a (.of (.leaf (.lst writeT) (d.1 c.toNat).2.2.2.2.1))), (8, .a (.of (.leaf .bool i.2))), (2, .a (.of (.leaf .int line)))])
      (fun _ => [.leaf deskT d]) (fun _ => ⟨nn, []⟩) (fun i => (d.1 c.toNat).2.2.2.2.1.2.length - i.1) (fun i => i.1 ≤ (d.1 c.toNat).2.2.2.2.1.2.length ∧ i.2 = (V0 || ((d.1 c.toNat).2.2.2.2.1.2.take i.1).any (wrL line))) ?_ ?_)
    · exact ⟨(0, ((d.1 c.toNat).2.1 (findF d c line).1.toNat).2.2.2), ⟨Nat.zero_le _, by show _ = (V0 || false); rw [Bool.or_false, hV0]; rfl⟩, ⟨rfl, rfl, rfl, rfl, rfl, trivial⟩, rfl, 1, Nat.le_refl _, rfl, rfl⟩
    · rintro ⟨k, b⟩ ⟨hk, hbb⟩
      have hk : k ≤ (d.1 c.toNat).2.2.2.2.1.2.length := hk
      have hbb : b = (V0 || ((d.1 c.toNat).2.2.2.2.1.2.take k).any (wrL line)) := hbb
      clear hfi
      repeat' (first | (with_reducible first | refine seq_k fun K1 n1 => ?_ | refine seq_nil ?_ | refine run_seq ?_ | refine run_skip ?_ | refine run_regS ?_ | refine run_cond ?_ | refine run_block ?_ | refine run_endb ?_ | refine run_exit fun K1 n1 => ?_ | refine run_ret fun K1 n1 => ?_ | refine run_fin ?_ | refine run_inv ?_) | ((with_reducible refine Go.mk ?_); (conv => whnf)) | refine Fork.dec (fun _ => ?_) (fun _ => ?_) | refine Way.yesG ?_ | refine Way.noG ?_ | refine Way.mkG (fun _ => ?_) (fun _ => ?_) | (with_reducible first | refine Need.mkG ?_ ?_) | ((with_reducible refine n1 _ _ _ ?_); clear n1 K1) | ((with_reducible refine n1 _ ?_); clear n1 K1) | fail)
      all_goals try (first | omega | exact And.intro (by omega) (by omega))
      all_goals try dsimp only [Int.toNat_natCast] at *
      · rename_i g1 g2
        subst g2
        exact ⟨(k + 1, true), (show (d.1 c.toNat).2.2.2.2.1.2.length - (k + 1) < (d.1 c.toNat).2.2.2.2.1.2.length - k by omega), ⟨(show k + 1 ≤ (d.1 c.toNat).2.2.2.2.1.2.length by omega), by show true = (V0 || _); rw [any_take _ _ (by omega), ← Bool.or_assoc, ← hbb]; rfl⟩, ⟨(by
          show some (SV.a (AV.of (V.leaf Ty.int (wrap64 (↑k + 1))))) = some (SV.a (AV.of (V.leaf Ty.int ((k + 1 : Nat) : Int))))
          rw [← wrap_succ k (by omega)]), rfl, rfl, rfl, rfl, trivial⟩, rfl, 1, Nat.le_of_ble_eq_true rfl, rfl, rfl⟩
      · rename_i g1 g2
        subst g2
        exact ⟨(k + 1, decide (wrap64 ((nthD writeT (d.1 c.toNat).2.2.2.2.1.2 k).1.tdiv 2) = line)), (show (d.1 c.toNat).2.2.2.2.1.2.length - (k + 1) < (d.1 c.toNat).2.2.2.2.1.2.length - k by omega), ⟨(show k + 1 ≤ (d.1 c.toNat).2.2.2.2.1.2.length by omega), by show _ = (V0 || _); rw [any_take _ _ (by omega), ← Bool.or_assoc, ← hbb]; rfl⟩, ⟨(by
          show some (SV.a (AV.of (V.leaf Ty.int (wrap64 (↑k + 1))))) = some (SV.a (AV.of (V.leaf Ty.int ((k + 1 : Nat) : Int))))
          rw [← wrap_succ k (by omega)]), rfl, rfl, rfl, rfl, trivial⟩, rfl, 1, Nat.le_of_ble_eq_true rfl, rfl, rfl⟩
      · rename_i g1
        refine Done.of ?_ (Or.inl rfl)
        show (b, ()) = (holdsF d c line, ())
        rw [hF, hbb, show k = (d.1 c.toNat).2.2.2.2.1.2.length from by omega, List.take_length]
  · have hfi : (findF d c line).2 = false := by assumption
    have hc : 0 ≤ c ∧ c < 2 := by omega
    have hdp : ¬ (d.1 c.toNat).2.2.1 = 0 := by assumption
    have hws : (d.1 c.toNat).2.2.2.2.1.2.length ≤ 9223372036854775807 := (hb.1.1 c.toNat (by omega)).2.2.2.2.1
    obtain ⟨V0, hV0⟩ : ∃ V0, V0 = ((findF d c line).2 && ((d.1 c.toNat).2.1 (findF d c line).1.toNat).2.2.2) := ⟨_, rfl⟩
    have hF : holdsF d c line = (V0 || (d.1 c.toNat).2.2.2.2.1.2.any (wrL line)) := by
      unfold holdsF
      rw [if_pos ⟨hc, hdp⟩, hV0]
    rw [hfi] at hV0
    refine run_loop (loop_fam (ι := Nat × Bool) (fun i => [(49, .a (.of (.leaf .int (i.1 : Int)))), (48, .a (.of (.leaf .int ((d.1 c.toNat).2.2.2.2.1.2.length : Int)))), (47, .a (.of (.leaf (.lst writeT) (d.1 c.toNat).2.2.2.2.1))), (8, .a (.of (.leaf .bool i.2))), (2, .a (.of (.leaf .int line)))])
      (fun _ => [.leaf deskT d]) (fun _ => ⟨nn, []⟩) (fun i => (d.1 c.toNat).2.2.2.2.1.2.length - i.1) (fun i => i.1 ≤ (d.1 c.toNat).2.2.2.2.1.2.length ∧ i.2 = (V0 || ((d.1 c.toNat).2.2.2.2.1.2.take i.1).any (wrL line))) ?_ ?_)
    · exact ⟨(0, false), ⟨Nat.zero_le _, by show _ = (V0 || false); rw [Bool.or_false, hV0]; rfl⟩, ⟨rfl, rfl, rfl, rfl, rfl, trivial⟩, rfl, 1, Nat.le_refl _, rfl, rfl⟩
    · rintro ⟨k, b⟩ ⟨hk, hbb⟩
      have hk : k ≤ (d.1 c.toNat).2.2.2.2.1.2.length := hk
      have hbb : b = (V0 || ((d.1 c.toNat).2.2.2.2.1.2.take k).any (wrL line)) := hbb
      clear hfi
      repeat' (first | (with_reducible first | refine seq_k fun K1 n1 => ?_ | refine seq_nil ?_ | refine run_seq ?_ | refine run_skip ?_ | refine run_regS ?_ | refine run_cond ?_ | refine run_block ?_ | refine run_endb ?_ | refine run_exit fun K1 n1 => ?_ | refine run_ret fun K1 n1 => ?_ | refine run_fin ?_ | refine run_inv ?_) | ((with_reducible refine Go.mk ?_); (conv => whnf)) | refine Fork.dec (fun _ => ?_) (fun _ => ?_) | refine Way.yesG ?_ | refine Way.noG ?_ | refine Way.mkG (fun _ => ?_) (fun _ => ?_) | (with_reducible first | refine Need.mkG ?_ ?_) | ((with_reducible refine n1 _ _ _ ?_); clear n1 K1) | ((with_reducible refine n1 _ ?_); clear n1 K1) | fail)
      all_goals try (first | omega | exact And.intro (by omega) (by omega))
      all_goals try dsimp only [Int.toNat_natCast] at *
      · rename_i g1 g2
        subst g2
        exact ⟨(k + 1, true), (show (d.1 c.toNat).2.2.2.2.1.2.length - (k + 1) < (d.1 c.toNat).2.2.2.2.1.2.length - k by omega), ⟨(show k + 1 ≤ (d.1 c.toNat).2.2.2.2.1.2.length by omega), by show true = (V0 || _); rw [any_take _ _ (by omega), ← Bool.or_assoc, ← hbb]; rfl⟩, ⟨(by
          show some (SV.a (AV.of (V.leaf Ty.int (wrap64 (↑k + 1))))) = some (SV.a (AV.of (V.leaf Ty.int ((k + 1 : Nat) : Int))))
          rw [← wrap_succ k (by omega)]), rfl, rfl, rfl, rfl, trivial⟩, rfl, 1, Nat.le_of_ble_eq_true rfl, rfl, rfl⟩
      · rename_i g1 g2
        subst g2
        exact ⟨(k + 1, decide (wrap64 ((nthD writeT (d.1 c.toNat).2.2.2.2.1.2 k).1.tdiv 2) = line)), (show (d.1 c.toNat).2.2.2.2.1.2.length - (k + 1) < (d.1 c.toNat).2.2.2.2.1.2.length - k by omega), ⟨(show k + 1 ≤ (d.1 c.toNat).2.2.2.2.1.2.length by omega), by show _ = (V0 || _); rw [any_take _ _ (by omega), ← Bool.or_assoc, ← hbb]; rfl⟩, ⟨(by
          show some (SV.a (AV.of (V.leaf Ty.int (wrap64 (↑k + 1))))) = some (SV.a (AV.of (V.leaf Ty.int ((k + 1 : Nat) : Int))))
          rw [← wrap_succ k (by omega)]), rfl, rfl, rfl, rfl, trivial⟩, rfl, 1, Nat.le_of_ble_eq_true rfl, rfl, rfl⟩
      · rename_i g1
        refine Done.of ?_ (Or.inl rfl)
        show (b, ()) = (holdsF d c line, ())
        rw [hF, hbb, show k = (d.1 c.toNat).2.2.2.2.1.2.length from by omega, List.take_length]
theorem c_AbortOf (c_IsDesk : Ctr Tryz.prog 66 goodKS) : Ctr Tryz.prog 104 abortS := by
  refine ctr_of tabOk (SpecsOk.cons c_IsDesk (by kernel_rfl) (SpecsOk.cons c_NextInstr (by kernel_rfl) (SpecsOk.cons c_PutReg (by kernel_rfl) (SpecsOk.cons c_cleared (by kernel_rfl) (SpecsOk.nil _))))) Tryz.func104 rfl _ (Nat.le_of_ble_eq_true rfl) (fun _ _ => rfl) ?_
  rintro nn ⟨d, ⟨hl, l⟩, (c : Int), (why : Int), ⟨⟩⟩ _ hb
  refine ⟨200, init_k fun K1 n1 => ?_⟩
  conv => whnf
  refine n1 _ ?_
  clear n1 K1
  repeat' (first | (with_reducible first | refine seq_k fun K1 n1 => ?_ | refine seq_nil ?_ | refine run_seq ?_ | refine run_skip ?_ | refine run_regS ?_ | refine run_cond ?_ | refine run_ret fun K1 n1 => ?_ | refine run_fin ?_) | ((with_reducible refine Go.mk ?_); (conv => whnf)) | refine Fork.yes ?_ | refine Fork.dec (fun _ => ?_) (fun _ => ?_) | refine Fork.mk (fun _ => ?_) (fun _ => ?_) | refine Way.yesG ?_ | refine Way.noG ?_ | refine Way.ndecG (fun _ => ?_) (fun _ => ?_) | (with_reducible first | refine Need.mkG ?_ ?_) | ((with_reducible refine n1 _ _ _ ?_); clear n1 K1) | ((with_reducible refine n1 _ ?_); clear n1 K1) | fail)
  all_goals try (exact trivial)
  all_goals try dsimp only [Int.toNat_natCast] at *
  all_goals first
    | exact (show 0 ≤ c ∧ c < 2 by omega)
    | skip
  all_goals
    refine Done.of ?_ (Or.inr (Nat.le_refl _))
    show (_, _, ()) = ((abortF d l c why).1, (abortF d l c why).2, ())
    unfold abortF refF
  all_goals first
    | (rename_i h
       rw [if_neg (show ¬ goodK d = true by rw [not_t' h]; decide)]
       rfl)
    | (have h : (!goodK d) = false := by assumption
       have hg : goodK d = true := not_f h
       first
         | (rw [if_pos hg, if_neg (show ¬ (0 ≤ c ∧ c < 2) by omega)]
            rfl)
         | (rw [if_pos hg, if_pos (show 0 ≤ c ∧ c < 2 by omega), if_pos rfl]
            first
              | (rw [if_pos (by assumption)]; done)
              | (rw [if_neg (by assumption)]
                 unfold setCore failC freedF
                 rw [updA_tw, updA_self])))
end Go.Proofs.YtjbbgpacijageacGreat.M
