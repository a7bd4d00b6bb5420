/- Several texts in one. -/
import Derived.Test.YtjbbgpacijageacGreatX1
import Derived.Test.YtjbbgpacijageacGreatR4a
import Derived.Test.YtjbbgpacijageacGreatO1
/- Package deskmatestop: desks and records alike. -/
namespace Go.Proofs.YtjbbgpacijageacGreat.M
open Go.RowKit
set_option linter.unusedVariables false
set_option linter.unusedSimpArgs false

def sameR (a b : List recordT.D) : Bool := decide (a.length = b.length) && (List.range a.length).all fun k => eqT recordT (nthD recordT a k) (nthD recordT b k)
abbrev sameRS : Spec := pureS [.lst recordT, .lst recordT] [.bool] fun d => (sameR d.1.2 d.2.1.2, ())
theorem sameR_refl (a : List recordT.D) : sameR a a = true := by
  unfold sameR
  rw [decide_eq_true rfl, List.all_eq_true.2 (fun k _ => eqD_refl recordT rfl _)]
  rfl
theorem sameC_nh {a b : coreT.D} (h : nhC a = nhC b) : sameC a b = true := by
  have e1 : a.1 = b.1 := by have g := congrArg (fun x : coreT.D => x.1) h; exact g
  have e2 : a.2.1 = b.2.1 := by have g := congrArg (fun x : coreT.D => x.2.1) h; exact g
  have e3 : a.2.2.1 = b.2.2.1 := by have g := congrArg (fun x : coreT.D => x.2.2.1) h; exact g
  have e4 : a.2.2.2.1 = b.2.2.2.1 := by have g := congrArg (fun x : coreT.D => x.2.2.2.1) h; exact g
  have e5 : a.2.2.2.2.1.2 = b.2.2.2.2.1.2 := by have g := congrArg (fun x : coreT.D => x.2.2.2.2.1.2) h; exact g
  have e6 : a.2.2.2.2.2 = b.2.2.2.2.2 := by have g := congrArg (fun x : coreT.D => x.2.2.2.2.2) h; exact g
  unfold sameC
  rw [e1, e2, e3, e4, e5, e6, eqD_refl plainT rfl, eqD_refl (.arr 4 lineT) rfl, eqD_refl plainT rfl, decide_eq_true rfl, decide_eq_true rfl, decide_eq_true rfl, List.all_eq_true.2 (fun k _ => eqD_refl writeT rfl _)]
  rfl
theorem sameD_nh {a b : deskT.D} (h : nhD a = nhD b) : sameD a b = true := by
  unfold sameD
  have hm : a.2 = b.2 := by have g := congrArg (fun x : deskT.D => x.2) h; exact g
  rw [sameC_nh (al_core h 0), sameC_nh (al_core h 1), hm, eqD_refl (.arr 32 .int) rfl]
  rfl
end Go.Proofs.YtjbbgpacijageacGreat.M

/- The document's own functions: records alike. -/
namespace Go.Proofs.YtjbbgpacijageacGreat.M
open Go.RowKit
set_option linter.unusedVariables false
set_option linter.unusedSimpArgs false

theorem c_SameRecords : Ctr Tryz.prog 21 sameRS := by
  refine ctr_of tabOk (SpecsOk.nil _) Tryz.func21 rfl _ (Nat.le_of_ble_eq_true rfl) (fun _ _ => rfl) ?_
  rintro nn ⟨⟨ha, a⟩, ⟨hb', b⟩, ⟨⟩⟩ _ hb
  have hal : a.length ≤ 9223372036854775807 := hb.1
  have hbl : b.length ≤ 9223372036854775807 := hb.2.1
  refine ⟨200, init_k fun K1 n1 => ?_⟩
  conv => whnf
  refine n1 _ ?_
  clear n1 K1
  repeat' (first | (with_reducible first | refine seq_k fun K1 n1 => ?_ | refine seq_nil ?_ | refine run_seq ?_ | refine run_skip ?_ | refine run_regS ?_ | refine run_cond ?_ | refine run_block ?_ | refine run_ret fun K1 n1 => ?_ | refine run_fin ?_) | ((with_reducible refine Go.mk ?_); (conv => whnf)) | refine Fork.ndec (fun _ => ?_) (fun _ => ?_) | ((with_reducible refine n1 _ _ _ ?_); clear n1 K1) | ((with_reducible refine n1 _ ?_); clear n1 K1) | fail)
  all_goals try dsimp only [Int.toNat_natCast] at *
  · rename_i h
    refine Done.of ?_ (Or.inl rfl)
    show (false, ()) = (sameR a b, ())
    unfold sameR
    rw [decide_eq_false (by omega)]
    rfl
  · rename_i h
    have hl : a.length = b.length := by omega
    refine run_loop (loop_fam (ι := Nat) (fun k => [(13, .a (.of (.leaf .int (k : Int)))), (12, .a (.of (.leaf .int (a.length : Int)))), (1, .a (.of (.leaf (.lst recordT) (hb', b)))), (0, .a (.of (.leaf (.lst recordT) (ha, a))))])
      (fun _ => []) (fun _ => ⟨nn, []⟩) (fun k => a.length - k) (fun k => k ≤ a.length ∧ ∀ j, j < k → eqT recordT (nthD recordT a j) (nthD recordT b j) = true) ?_ ?_)
    · exact ⟨0, ⟨Nat.zero_le _, fun j hj => by omega⟩, ⟨rfl, rfl, rfl, rfl, trivial⟩, rfl, 0, Nat.le_refl _, rfl, rfl⟩
    · rintro k ⟨hk, hall⟩
      repeat' (first | (with_reducible first | refine seq_k fun K1 n1 => ?_ | refine seq_nil ?_ | refine drw_k fun K1 n1 => ?_ | refine drw_nil ?_ ?_ | refine run_seq ?_ | refine run_skip ?_ | refine run_regS ?_ | refine run_regD (by kernel_rfl) ?_ ?_ | refine run_cond ?_ | refine run_block ?_ | refine run_endb ?_ | refine run_exit fun K1 n1 => ?_ | refine run_ret fun K1 n1 => ?_ | refine run_fin ?_ | refine run_inv ?_) | ((with_reducible refine Go.mk ?_); (conv => whnf)) | refine Fork.dec (fun _ => ?_) (fun _ => ?_) | refine Fork.mk (fun _ => ?_) (fun _ => ?_) | (with_reducible first | refine Need.mkG ?_ ?_) | ((with_reducible refine n1 _ _ _ ?_); clear n1 K1) | ((with_reducible refine n1 _ ?_); clear n1 K1) | ((with_reducible refine n1 _ _ _ _ ?_); clear n1 K1) | fail)
      all_goals try (first | kernel_rfl | exact And.intro (by omega) (by omega))
      all_goals try dsimp only [Int.toNat_natCast] at *
      · exact (show @LE.le Int _ 0 (k : Int) ∧ @LT.lt Int _ (k : Int) (b.length : Int) from ⟨by omega, by omega⟩)
      · rename_i g1 g2
        have : ((List.range a.length).all fun i => eqT recordT (nthD recordT a i) (nthD recordT b i)) = false := by
          rw [List.all_eq_false]
          exact ⟨k, List.mem_range.2 (by omega), by rw [not_t g2]; exact Bool.false_ne_true⟩
        refine Done.of ?_ (Or.inl rfl)
        show (false, ()) = (sameR a b, ())
        unfold sameR
        rw [this, Bool.and_false]
      · rename_i g1 g2
        refine ⟨k + 1, by omega, ⟨by omega, fun i hi => ?_⟩, ⟨?_, rfl, rfl, rfl, trivial⟩, rfl, 0, Nat.zero_le _, rfl, rfl⟩
        · rcases Nat.lt_or_ge i k with g | g
          · exact hall i g
          · obtain rfl : i = k := by omega
            exact not_f g2
        · show some (SV.a (AV.of (V.leaf Ty.int (wrap64 (↑k + 1))))) = some (SV.a (AV.of (V.leaf Ty.int ((k + 1 : Nat) : Int))))
          rw [← wrap_succ k (by omega)]
      · rename_i g1
        refine Done.of ?_ (Or.inl rfl)
        show (true, ()) = (sameR a b, ())
        unfold sameR
        rw [decide_eq_true hl, List.all_eq_true.2 (fun i hi => hall i (by have := List.mem_range.1 hi; omega))]
        rfl
end Go.Proofs.YtjbbgpacijageacGreat.M
