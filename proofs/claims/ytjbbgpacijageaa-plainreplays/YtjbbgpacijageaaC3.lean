/- Package cache: lines. -/
import Derived.Test.YtjbbgpacijageaaC2
namespace Go.Proofs.Ytjbbgpacijageaa.M
open Go.RowKit
set_option linter.unusedVariables false
set_option linter.unusedSimpArgs false

def goodLn (l : lineT.D) (way : Int) : Bool :=
  bif decide (l.1 = 0) then eqT lineT l lineT.zero else decide (1 ≤ l.1 ∧ l.1 ≤ 3 ∧ (0 ≤ l.2.1 ∧ l.2.1 < 16) ∧ l.2.1.tmod 4 = way) && (ownL .int l.2.2.1 0 2).all isW
abbrev goodLineS : Spec := pureS [lineT, .int] [.bool] fun d => (goodLn d.1 d.2.1, ())
theorem c_GoodLine : Ctr Try.prog 44 goodLineS := by
  refine ctr_of tabOk (SpecsOk.cons c_isLine (by kernel_rfl) (SpecsOk.cons c_areWords (by kernel_rfl) (SpecsOk.nil _))) Try.func44 rfl _ (Nat.le_of_ble_eq_true rfl) (fun _ _ => rfl) ?_
  rintro nn ⟨l, way, ⟨⟩⟩ _ _
  refine ⟨200, init_k fun K1 n1 => ?_⟩
  conv => whnf
  refine n1 _ ?_
  clear n1 K1
  repeat' (first | with_reducible refine seq_k fun K1 n1 => ?_ | with_reducible refine seq_nil ?_ | with_reducible refine drw_k fun K1 n1 => ?_ | with_reducible refine drw_nil ?_ ?_ | with_reducible refine run_seq ?_ | with_reducible refine run_skip ?_ | with_reducible refine run_regS ?_ | with_reducible refine run_regD (by kernel_rfl) ?_ ?_ | with_reducible refine inl_k (by with_unfolding_all rfl) (Nat.le_of_ble_eq_true rfl) fun K1 n1 => ?_ | with_reducible refine inlA_k (by with_unfolding_all rfl) (Nat.le_of_ble_eq_true rfl) fun K1 n1 => ?_ | with_reducible refine run_finA ?_ | with_reducible refine run_cond ?_ | with_reducible refine run_block ?_ | with_reducible refine run_endb ?_ | with_reducible refine run_exit fun K1 n1 => ?_ | with_reducible refine run_ret fun K1 n1 => ?_ | with_reducible refine run_fin ?_ | with_reducible refine run_inv ?_ | with_reducible refine go_rounds ?_ | ((with_reducible refine Go.mk ?_); (conv => whnf)) | refine Fork.yes ?_ | refine Fork.no ?_ | refine Fork.dec (fun _ => ?_) (fun _ => ?_) | refine Fork.ndec (fun _ => ?_) (fun _ => ?_) | refine Fork.mk (fun _ => ?_) (fun _ => ?_) | refine Way.yesG ?_ | refine Way.noG ?_ | refine Way.decG (fun _ => ?_) (fun _ => ?_) | refine Way.ndecG (fun _ => ?_) (fun _ => ?_) | refine Way.mkG (fun _ => ?_) (fun _ => ?_) | with_reducible refine Need.mkG ?_ ?_ | refine AppW.go0 ?_ ?_ | with_reducible refine NilW.goG (fun _ => ?_) ?_ | ((with_reducible refine n1 _ _ _ ?_); clear n1 K1) | ((with_reducible refine n1 _ ?_); clear n1 K1) | ((with_reducible refine n1 _ _ ?_); clear n1 K1) | ((with_reducible refine n1 _ _ _ _ ?_); clear n1 K1) | fail)
  all_goals try (first | exact trivial | omega | kernel_rfl | decide | exact And.intro (by omega) (by omega))
  all_goals try dsimp only [Int.toNat_natCast] at *
  all_goals try (first | exact trivial | omega | exact And.intro (by omega) (by omega))
  all_goals refine Done.of ?_ (Or.inl rfl)
  all_goals (show (_, ()) = (goodLn l way, ()); unfold goodLn)
  all_goals simp [*]
def memL (m : Nat → Int) (n : Int) : Nat → Int := fun k => m (2 * n.toNat + k)
abbrev rememberedS : Spec := { args := [.arr 32 .int, .int], res := [.arr 2 .int], cr := false, m := fun _ => 0, fn := fun _ d => (memL d.1 d.2.1, ()), pre := fun d => @LE.le Int _ 0 d.2.1 ∧ @LT.lt Int _ d.2.1 16 }
theorem c_remembered : Ctr Try.prog 91 rememberedS := by
  refine ctr_of tabOk (SpecsOk.nil _) Try.func91 rfl _ (Nat.le_of_ble_eq_true rfl) (fun _ _ => rfl) ?_
  rintro nn ⟨m, (z : Int), ⟨⟩⟩ hpre _
  have h0 : 0 ≤ z := hpre.1
  have h1 : z < 16 := hpre.2
  have hw : wrap64 (2 * z) = 2 * z := wrap_id (by omega)
  refine ⟨200, init_k fun K1 n1 => ?_⟩
  conv => whnf
  refine n1 _ ?_
  clear n1 K1
  repeat' (first | with_reducible refine seq_k fun K1 n1 => ?_ | with_reducible refine seq_nil ?_ | with_reducible refine drw_k fun K1 n1 => ?_ | with_reducible refine drw_nil ?_ ?_ | with_reducible refine run_seq ?_ | with_reducible refine run_skip ?_ | with_reducible refine run_regS ?_ | with_reducible refine run_regD (by kernel_rfl) ?_ ?_ | with_reducible refine inl_k (by with_unfolding_all rfl) (Nat.le_of_ble_eq_true rfl) fun K1 n1 => ?_ | with_reducible refine inlA_k (by with_unfolding_all rfl) (Nat.le_of_ble_eq_true rfl) fun K1 n1 => ?_ | with_reducible refine run_finA ?_ | with_reducible refine run_cond ?_ | with_reducible refine run_block ?_ | with_reducible refine run_endb ?_ | with_reducible refine run_exit fun K1 n1 => ?_ | with_reducible refine run_ret fun K1 n1 => ?_ | with_reducible refine run_fin ?_ | with_reducible refine run_inv ?_ | with_reducible refine go_rounds ?_ | ((with_reducible refine Go.mk ?_); (conv => whnf)) | refine Fork.yes ?_ | refine Fork.no ?_ | refine Fork.dec (fun _ => ?_) (fun _ => ?_) | refine Fork.ndec (fun _ => ?_) (fun _ => ?_) | refine Fork.mk (fun _ => ?_) (fun _ => ?_) | refine Way.yesG ?_ | refine Way.noG ?_ | refine Way.decG (fun _ => ?_) (fun _ => ?_) | refine Way.ndecG (fun _ => ?_) (fun _ => ?_) | refine Way.mkG (fun _ => ?_) (fun _ => ?_) | with_reducible refine Need.mkG ?_ ?_ | refine AppW.go0 ?_ ?_ | with_reducible refine NilW.goG (fun _ => ?_) ?_ | ((with_reducible refine n1 _ _ _ ?_); clear n1 K1) | ((with_reducible refine n1 _ ?_); clear n1 K1) | ((with_reducible refine n1 _ _ ?_); clear n1 K1) | ((with_reducible refine n1 _ _ _ _ ?_); clear n1 K1) | fail)
  all_goals try (first | exact trivial | omega | kernel_rfl | decide | exact And.intro (by omega) (by omega))
  all_goals try dsimp only [Int.toNat_natCast] at *
  all_goals try (first | exact trivial | omega | exact And.intro (by omega) (by omega))
  all_goals first
    | (rw [hw]; exact ⟨by omega, by omega, by omega⟩)
    | skip
  · refine ⟨⟨fun i hi => ?_, trivial⟩, Or.inl rfl⟩
    show cpy _ 0 (min (32 - (wrap64 (2 * z)).toNat) 2) (fun q => m ((wrap64 (2 * z)).toNat + q)) i = memL m z i
    rw [hw]
    unfold cpy memL
    rw [if_pos (by omega)]
    have e : (2 * z).toNat + (i - 0) = 2 * z.toNat + i := by omega
    show m ((2 * z).toNat + (i - 0)) = m (2 * z.toNat + i)
    rw [e]

theorem tmod4 {n : Int} (h : 0 ≤ n) : 0 ≤ n.tmod 4 ∧ n.tmod 4 < 4 := by
  rw [Int.tmod_eq_emod_of_nonneg h]
  omega

/-- The place of a line in a core's cache, and whether it is there. -/
def findF (d : deskT.D) (c n : Int) : Int × Bool :=
  if (0 ≤ c ∧ c < 2) ∧ (0 ≤ n ∧ n < 16) then (n.tmod 4, hasL ((d.1 c.toNat).2.1 (n.tmod 4).toNat) n) else (0, false)
abbrev findS : Spec := pureS [deskT, .int, .int] [.int, .bool] fun d => ((findF d.1 d.2.1 d.2.2.1).1, (findF d.1 d.2.1 d.2.2.1).2, ())
theorem c_Find : Ctr Try.prog 49 findS := by
  refine ctr_of tabOk (SpecsOk.cons c_isCore (by kernel_rfl) (SpecsOk.cons c_isLine (by kernel_rfl) (SpecsOk.cons c_has (by kernel_rfl) (SpecsOk.nil _)))) Try.func49 rfl _ (Nat.le_of_ble_eq_true rfl) (fun _ _ => rfl) ?_
  rintro nn ⟨d, (c : Int), (n : Int), ⟨⟩⟩ _ _
  refine ⟨200, init_k fun K1 n1 => ?_⟩
  conv => whnf
  refine n1 _ ?_
  clear n1 K1
  repeat' (first | with_reducible refine seq_k fun K1 n1 => ?_ | with_reducible refine seq_nil ?_ | with_reducible refine drw_k fun K1 n1 => ?_ | with_reducible refine drw_nil ?_ ?_ | with_reducible refine run_seq ?_ | with_reducible refine run_skip ?_ | with_reducible refine run_regS ?_ | with_reducible refine run_regD (by kernel_rfl) ?_ ?_ | with_reducible refine inl_k (by with_unfolding_all rfl) (Nat.le_of_ble_eq_true rfl) fun K1 n1 => ?_ | with_reducible refine inlA_k (by with_unfolding_all rfl) (Nat.le_of_ble_eq_true rfl) fun K1 n1 => ?_ | with_reducible refine run_finA ?_ | with_reducible refine run_cond ?_ | with_reducible refine run_block ?_ | with_reducible refine run_endb ?_ | with_reducible refine run_exit fun K1 n1 => ?_ | with_reducible refine run_ret fun K1 n1 => ?_ | with_reducible refine run_fin ?_ | with_reducible refine run_inv ?_ | with_reducible refine go_rounds ?_ | ((with_reducible refine Go.mk ?_); (conv => whnf)) | refine Fork.yes ?_ | refine Fork.no ?_ | refine Fork.dec (fun _ => ?_) (fun _ => ?_) | refine Fork.ndec (fun _ => ?_) (fun _ => ?_) | refine Fork.mk (fun _ => ?_) (fun _ => ?_) | refine Way.yesG ?_ | refine Way.noG ?_ | refine Way.decG (fun _ => ?_) (fun _ => ?_) | refine Way.ndecG (fun _ => ?_) (fun _ => ?_) | refine Way.mkG (fun _ => ?_) (fun _ => ?_) | with_reducible refine Need.mkG ?_ ?_ | refine AppW.go0 ?_ ?_ | with_reducible refine NilW.goG (fun _ => ?_) ?_ | ((with_reducible refine n1 _ _ _ ?_); clear n1 K1) | ((with_reducible refine n1 _ ?_); clear n1 K1) | ((with_reducible refine n1 _ _ ?_); clear n1 K1) | ((with_reducible refine n1 _ _ _ _ ?_); clear n1 K1) | fail)
  all_goals try (first | exact trivial | omega | kernel_rfl | decide | exact And.intro (by omega) (by omega))
  all_goals try dsimp only [Int.toNat_natCast] at *
  all_goals try (first | exact trivial | omega | exact And.intro (by omega) (by omega))
  · refine Done.of ?_ (Or.inl rfl)
    show (0, false, ()) = ((findF d c n).1, (findF d c n).2, ())
    simp [findF, *]
  · refine Done.of ?_ (Or.inl rfl)
    show (0, false, ()) = ((findF d c n).1, (findF d c n).2, ())
    simp [findF, *]
  · rename_i h1 h2
    exact tmod4 h2.1
  · refine Done.of ?_ (Or.inl rfl)
    show (_, _, ()) = ((findF d c n).1, (findF d c n).2, ())
    simp [findF, *]
end Go.Proofs.Ytjbbgpacijageaa.M
