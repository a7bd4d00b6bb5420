/- Package code: cores. -/
import Derived.Test.YtjbbgpacijageaaD1
namespace Go.Proofs.Ytjbbgpacijageaa.M
open Go.RowKit
set_option linter.unusedVariables false
set_option linter.unusedSimpArgs false

def madeF (p : plainT.D) : plainT.D := (fun r => if r = 0 then 0 else wd (p.1 r), wd p.2.1, p.2.2)
abbrev madeS : Spec := pureS [plainT] [plainT] fun d => (madeF d.1, ())
theorem c_madeGood : Ctr Try.prog 69 madeS := by
  refine ctr_of tabOk (SpecsOk.cons c_toWord (by kernel_rfl) (SpecsOk.nil _)) Try.func69 rfl _ (Nat.le_of_ble_eq_true rfl) (fun _ _ => rfl) ?_
  rintro nn ⟨⟨g, (a : Int), off⟩, ⟨⟩⟩ _ _
  refine ⟨200, init_k fun K1 n1 => ?_⟩
  conv => whnf
  refine n1 _ ?_
  clear n1 K1
  repeat' (first | with_reducible refine seq_k fun K1 n1 => ?_ | with_reducible refine seq_nil ?_ | with_reducible refine drw_k fun K1 n1 => ?_ | with_reducible refine drw_nil ?_ ?_ | with_reducible refine run_seq ?_ | with_reducible refine run_skip ?_ | with_reducible refine run_regS ?_ | with_reducible refine run_regD (by kernel_rfl) ?_ ?_ | with_reducible refine inl_k (by with_unfolding_all rfl) (Nat.le_of_ble_eq_true rfl) fun K1 n1 => ?_ | with_reducible refine inlA_k (by with_unfolding_all rfl) (Nat.le_of_ble_eq_true rfl) fun K1 n1 => ?_ | with_reducible refine run_finA ?_ | with_reducible refine run_cond ?_ | with_reducible refine run_block ?_ | with_reducible refine run_endb ?_ | with_reducible refine run_exit fun K1 n1 => ?_ | with_reducible refine run_ret fun K1 n1 => ?_ | with_reducible refine run_fin ?_ | with_reducible refine run_inv ?_ | with_reducible refine go_rounds ?_ | ((with_reducible refine Go.mk ?_); (conv => whnf)) | refine Fork.yes ?_ | refine Fork.no ?_ | refine Fork.dec (fun _ => ?_) (fun _ => ?_) | refine Fork.ndec (fun _ => ?_) (fun _ => ?_) | refine Fork.mk (fun _ => ?_) (fun _ => ?_) | refine Way.yesG ?_ | refine Way.noG ?_ | refine Way.decG (fun _ => ?_) (fun _ => ?_) | refine Way.ndecG (fun _ => ?_) (fun _ => ?_) | refine Way.mkG (fun _ => ?_) (fun _ => ?_) | with_reducible refine Need.mkG ?_ ?_ | refine AppW.go0 ?_ ?_ | with_reducible refine NilW.goG (fun _ => ?_) ?_ | ((with_reducible refine n1 _ _ _ ?_); clear n1 K1) | ((with_reducible refine n1 _ ?_); clear n1 K1) | ((with_reducible refine n1 _ _ ?_); clear n1 K1) | ((with_reducible refine n1 _ _ _ _ ?_); clear n1 K1) | fail)
  all_goals try (first | exact trivial | omega | kernel_rfl | decide | exact And.intro (by omega) (by omega))
  all_goals try dsimp only [Int.toNat_natCast] at *
  all_goals try (first | exact trivial | omega | exact And.intro (by omega) (by omega))
  refine run_loop (loop_fam (ι := Nat × (Nat → Int)) (fun i => [(4, .a (.of (.leaf .int (i.1 : Int)))), (2, .a (.ptr 1 0 [] plainT)), (1, .a (.ptr 0 0 [] plainT))]) (fun i => [.leaf plainT (i.2, a, off), .leaf plainT plainT.zero]) (fun _ => ⟨nn, []⟩) (fun i => 8 - i.1) (fun i => i.1 ≤ 8 ∧ (∀ q, q < i.1 → i.2 q = wd (g q)) ∧ ∀ q, i.1 ≤ q → i.2 q = g q) ?_ ?_)
  · exact ⟨(0, g), ⟨Nat.zero_le _, fun _ h => absurd h (Nat.not_lt_zero _), fun _ _ => rfl⟩, ⟨rfl, rfl, rfl, trivial⟩, rfl, 2, Nat.le_refl _, rfl, rfl⟩
  · rintro ⟨k, f⟩ ⟨hk, hlo, hhi⟩
    have hlo : ∀ q, q < k → f q = wd (g q) := hlo
    have hhi : ∀ q, k ≤ q → f q = g q := hhi
    repeat' (first | with_reducible refine seq_k fun K1 n1 => ?_ | with_reducible refine seq_nil ?_ | with_reducible refine drw_k fun K1 n1 => ?_ | with_reducible refine drw_nil ?_ ?_ | with_reducible refine run_seq ?_ | with_reducible refine run_skip ?_ | with_reducible refine run_regS ?_ | with_reducible refine run_regD (by kernel_rfl) ?_ ?_ | with_reducible refine inl_k (by with_unfolding_all rfl) (Nat.le_of_ble_eq_true rfl) fun K1 n1 => ?_ | with_reducible refine inlA_k (by with_unfolding_all rfl) (Nat.le_of_ble_eq_true rfl) fun K1 n1 => ?_ | with_reducible refine run_finA ?_ | with_reducible refine run_cond ?_ | with_reducible refine run_block ?_ | with_reducible refine run_endb ?_ | with_reducible refine run_exit fun K1 n1 => ?_ | with_reducible refine run_ret fun K1 n1 => ?_ | with_reducible refine run_fin ?_ | with_reducible refine run_inv ?_ | with_reducible refine go_rounds ?_ | ((with_reducible refine Go.mk ?_); (conv => whnf)) | refine Fork.yes ?_ | refine Fork.no ?_ | refine Fork.dec (fun _ => ?_) (fun _ => ?_) | refine Fork.ndec (fun _ => ?_) (fun _ => ?_) | refine Fork.mk (fun _ => ?_) (fun _ => ?_) | refine Way.yesG ?_ | refine Way.noG ?_ | refine Way.decG (fun _ => ?_) (fun _ => ?_) | refine Way.ndecG (fun _ => ?_) (fun _ => ?_) | refine Way.mkG (fun _ => ?_) (fun _ => ?_) | with_reducible refine Need.mkG ?_ ?_ | refine AppW.go0 ?_ ?_ | with_reducible refine NilW.goG (fun _ => ?_) ?_ | ((with_reducible refine n1 _ _ _ ?_); clear n1 K1) | ((with_reducible refine n1 _ ?_); clear n1 K1) | ((with_reducible refine n1 _ _ ?_); clear n1 K1) | ((with_reducible refine n1 _ _ _ _ ?_); clear n1 K1) | fail)
    all_goals try (first | exact trivial | omega | kernel_rfl | decide | exact And.intro (by omega) (by omega))
    all_goals try dsimp only [Int.toNat_natCast] at *
    all_goals try (first | exact trivial | omega | exact And.intro (by omega) (by omega))
    · rename_i h1
      refine ⟨(k + 1, updA f k (wd (f k))), by show 8 - (k + 1) < 8 - k; omega, ⟨by show k + 1 ≤ 8; omega, fun q hq => ?_, fun q hq => ?_⟩, ⟨?_, rfl, rfl, trivial⟩, rfl, 2, Nat.le_refl _, rfl, rfl⟩
      · have hq : q < k + 1 := hq
        show updA f k (wd (f k)) q = _
        unfold updA
        split
        · rename_i e
          rw [e, hhi k (Nat.le_refl _)]
        · exact hlo q (by omega)
      · have hq : k + 1 ≤ q := hq
        show updA f k (wd (f k)) q = _
        unfold updA
        rw [if_neg (by omega)]
        exact hhi q (by omega)
      · show some (SV.a (AV.of (V.leaf Ty.int (wrap64 (↑k + 1))))) = some (SV.a (AV.of (V.leaf Ty.int ((k + 1 : Nat) : Int))))
        rw [← wrap_succ k (by omega)]
    · rename_i h1
      refine ⟨⟨⟨fun q hq => ?_, rfl, rfl⟩, trivial⟩, Or.inl rfl⟩
      have hq : q < 8 := hq
      show updA f 0 0 q = if q = 0 then 0 else wd (g q)
      unfold updA
      split
      · rfl
      · exact hlo q (by omega)
def goodP (p : plainT.D) : Bool := decide (p.1 0 = 0) && (isW p.2.1 && (List.range 8).all fun r => isW (p.1 r))
abbrev goodPS : Spec := pureS [plainT] [.bool] fun d => (goodP d.1, ())
theorem c_GoodPlain : Ctr Try.prog 19 goodPS := by
  refine ctr_of tabOk (SpecsOk.cons c_madeGood (by kernel_rfl) (SpecsOk.nil _)) Try.func19 rfl _ (Nat.le_of_ble_eq_true rfl) (fun _ _ => rfl) ?_
  rintro nn ⟨p, ⟨⟩⟩ _ _
  refine ⟨200, init_k fun K1 n1 => ?_⟩
  conv => whnf
  refine n1 _ ?_
  clear n1 K1
  repeat' (first | with_reducible refine seq_k fun K1 n1 => ?_ | with_reducible refine seq_nil ?_ | with_reducible refine drw_k fun K1 n1 => ?_ | with_reducible refine drw_nil ?_ ?_ | with_reducible refine run_seq ?_ | with_reducible refine run_skip ?_ | with_reducible refine run_regS ?_ | with_reducible refine run_regD (by kernel_rfl) ?_ ?_ | with_reducible refine inl_k (by with_unfolding_all rfl) (Nat.le_of_ble_eq_true rfl) fun K1 n1 => ?_ | with_reducible refine inlA_k (by with_unfolding_all rfl) (Nat.le_of_ble_eq_true rfl) fun K1 n1 => ?_ | with_reducible refine run_finA ?_ | with_reducible refine run_cond ?_ | with_reducible refine run_block ?_ | with_reducible refine run_endb ?_ | with_reducible refine run_exit fun K1 n1 => ?_ | with_reducible refine run_ret fun K1 n1 => ?_ | with_reducible refine run_fin ?_ | with_reducible refine run_inv ?_ | with_reducible refine go_rounds ?_ | ((with_reducible refine Go.mk ?_); (conv => whnf)) | refine Fork.yes ?_ | refine Fork.no ?_ | refine Fork.dec (fun _ => ?_) (fun _ => ?_) | refine Fork.ndec (fun _ => ?_) (fun _ => ?_) | refine Fork.mk (fun _ => ?_) (fun _ => ?_) | refine Way.yesG ?_ | refine Way.noG ?_ | refine Way.decG (fun _ => ?_) (fun _ => ?_) | refine Way.ndecG (fun _ => ?_) (fun _ => ?_) | refine Way.mkG (fun _ => ?_) (fun _ => ?_) | with_reducible refine Need.mkG ?_ ?_ | refine AppW.go0 ?_ ?_ | with_reducible refine NilW.goG (fun _ => ?_) ?_ | ((with_reducible refine n1 _ _ _ ?_); clear n1 K1) | ((with_reducible refine n1 _ ?_); clear n1 K1) | ((with_reducible refine n1 _ _ ?_); clear n1 K1) | ((with_reducible refine n1 _ _ _ _ ?_); clear n1 K1) | fail)
  all_goals try (first | exact trivial | omega | kernel_rfl | decide | exact And.intro (by omega) (by omega))
  all_goals try dsimp only [Int.toNat_natCast] at *
  all_goals try (first | exact trivial | omega | exact And.intro (by omega) (by omega))
  refine Done.of ?_ (Or.inl rfl)
  show (_, ()) = (goodP p, ())
  refine congrArg (fun z => (z, ())) ?_
  rw [Bool.eq_iff_iff]
  obtain ⟨g, a, off⟩ := p
  show (eqT (.arr 8 .int) g (fun r => if r = 0 then 0 else wd (g r)) && (eqT .int a (wd a) && eqT .bool off off)) = true ↔ (decide (g 0 = 0) && (isW a && (List.range 8).all fun r => isW (g r))) = true
  have hb : eqT .bool off off = true := decide_eq_true rfl
  rw [hb, Bool.and_true, Bool.and_eq_true, Bool.and_eq_true, Bool.and_eq_true, List.all_eq_true]
  have ha : eqT .int a (wd a) = isW a := isW_eq a
  rw [ha]
  have hr : eqT (.arr 8 .int) g (fun r => if r = 0 then 0 else wd (g r)) = true ↔ (∀ r ∈ List.range 8, g r = if r = 0 then 0 else wd (g r)) := by
    unfold eqT
    rw [List.all_eq_true]
    exact ⟨fun h r hr => of_decide_eq_true (h r hr), fun h r hr => decide_eq_true (h r hr)⟩
  rw [hr]
  constructor
  · rintro ⟨h1, h2⟩
    have h0 : g 0 = 0 := h1 0 (by decide)
    refine ⟨decide_eq_true h0, h2, fun r hr => ?_⟩
    by_cases hz : r = 0
    · subst hz; rw [h0]; rfl
    · have := h1 r hr
      rw [if_neg hz] at this
      rw [this]
      exact isW_wd _
  · rintro ⟨h0, h2, h3⟩
    refine ⟨fun r hr => ?_, h2⟩
    by_cases hz : r = 0
    · subst hz; rw [if_pos rfl]; exact of_decide_eq_true h0
    · rw [if_neg hz]
      exact (wd_of_isW (h3 r hr)).symm
def aloneF (p : plainT.D) (i : instrT.D) : plainT.D × Int :=
  if goodI i = true ∧ goodP p = true then
    if p.2.2 = true then (p, 4) else
    if i.1 = 1 then (nextF (putF p i.2.1 i.2.2.2.2), 0) else
    if i.1 = 2 then (nextF (putF p i.2.1 (getF p i.2.2.1 + getF p i.2.2.2.1)), 0) else
    if i.1 = 3 then (nextF (putF p i.2.1 (getF p i.2.2.1 - getF p i.2.2.2.1)), 0) else
    if i.1 = 4 then (nextF (putF p i.2.1 (lessF (getF p i.2.2.1) (getF p i.2.2.2.1))), 0) else
    if i.1 = 8 then (jumpF p i, 0) else
    if i.1 = 12 then ((p.1, p.2.1, true), 0) else (p, 3)
  else (p, 1)
abbrev aloneS : Spec := pureS [plainT, instrT] [plainT, .int] fun d => ((aloneF d.1 d.2.1).1, (aloneF d.1 d.2.1).2, ())
theorem putF_wrap (p : plainT.D) (r n : Int) : putF p r (wrap64 n) = putF p r n := by
  unfold putF
  rw [wd_wrap]
theorem c_Alone : Ctr Try.prog 28 aloneS := by
  refine ctr_of tabOk (SpecsOk.cons c_codeGood (by kernel_rfl) (SpecsOk.cons c_GoodPlain (by kernel_rfl) (SpecsOk.cons c_Get (by kernel_rfl) (SpecsOk.cons c_Put (by kernel_rfl) (SpecsOk.cons c_Next (by kernel_rfl) (SpecsOk.cons c_less (by kernel_rfl) (SpecsOk.cons c_jump (by kernel_rfl) (SpecsOk.nil _)))))))) Try.func28 rfl _ (Nat.le_of_ble_eq_true rfl) (fun _ _ => rfl) ?_
  rintro nn ⟨⟨g, (a : Int), (off : Bool)⟩, i, ⟨⟩⟩ _ _
  refine ⟨200, init_k fun K1 n1 => ?_⟩
  conv => whnf
  refine n1 _ ?_
  clear n1 K1
  repeat' (first | with_reducible refine seq_k fun K1 n1 => ?_ | with_reducible refine seq_nil ?_ | with_reducible refine drw_k fun K1 n1 => ?_ | with_reducible refine drw_nil ?_ ?_ | with_reducible refine run_seq ?_ | with_reducible refine run_skip ?_ | with_reducible refine run_regS ?_ | with_reducible refine run_regD (by kernel_rfl) ?_ ?_ | with_reducible refine inl_k (by with_unfolding_all rfl) (Nat.le_of_ble_eq_true rfl) fun K1 n1 => ?_ | with_reducible refine inlA_k (by with_unfolding_all rfl) (Nat.le_of_ble_eq_true rfl) fun K1 n1 => ?_ | with_reducible refine run_finA ?_ | with_reducible refine run_cond ?_ | with_reducible refine run_block ?_ | with_reducible refine run_endb ?_ | with_reducible refine run_exit fun K1 n1 => ?_ | with_reducible refine run_ret fun K1 n1 => ?_ | with_reducible refine run_fin ?_ | with_reducible refine run_inv ?_ | with_reducible refine go_rounds ?_ | ((with_reducible refine Go.mk ?_); (conv => whnf)) | refine Fork.yes ?_ | refine Fork.no ?_ | refine Fork.dec (fun _ => ?_) (fun _ => ?_) | refine Fork.ndec (fun _ => ?_) (fun _ => ?_) | refine Fork.mk (fun _ => ?_) (fun _ => ?_) | refine Way.yesG ?_ | refine Way.noG ?_ | refine Way.decG (fun _ => ?_) (fun _ => ?_) | refine Way.ndecG (fun _ => ?_) (fun _ => ?_) | refine Way.mkG (fun _ => ?_) (fun _ => ?_) | with_reducible refine Need.mkG ?_ ?_ | refine AppW.go0 ?_ ?_ | with_reducible refine NilW.goG (fun _ => ?_) ?_ | ((with_reducible refine n1 _ _ _ ?_); clear n1 K1) | ((with_reducible refine n1 _ ?_); clear n1 K1) | ((with_reducible refine n1 _ _ ?_); clear n1 K1) | ((with_reducible refine n1 _ _ _ _ ?_); clear n1 K1) | fail)
  all_goals try (first | exact trivial | omega | kernel_rfl | decide | exact And.intro (by omega) (by omega))
  all_goals try dsimp only [Int.toNat_natCast] at *
  all_goals try (first | exact trivial | omega | exact And.intro (by omega) (by omega))
  all_goals refine Done.of ?_ (Or.inl rfl)
  all_goals (show (_, _, ()) = ((aloneF (g, a, off) i).1, (aloneF (g, a, off) i).2, ()); unfold aloneF)
  all_goals simp_all [putF_wrap]
end Go.Proofs.Ytjbbgpacijageaa.M
