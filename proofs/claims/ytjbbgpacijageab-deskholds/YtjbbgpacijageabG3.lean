/- Package desk: writes that are held back. -/
import Derived.Test.YtjbbgpacijageabG2
namespace Go.Proofs.Ytjbbgpacijageab.M
open Go.RowKit
set_option linter.unusedVariables false
set_option linter.unusedSimpArgs false

def heldL (l : List writeT.D) (w : writeT.D) : List writeT.D := if atW l w.1 < 0 then l ++ [w] else l.set (atW l w.1).toNat w
abbrev heldS : Spec := { args := [.lst writeT, writeT], res := [.lst writeT], cr := true, m := fun _ => 1, fn := fun nn d => ((.nm nn, heldL d.1.2 d.2.1), ()), pre := fun d => d.1.2.length ≤ 1000 }
theorem held_done {nn : Nat} {hd h : Hd} {xs l : List writeT.D} {w : writeT.D} {ns : NS} (hl : l = heldL xs w) : DoneR heldS nn ((hd, xs), w, ()) ((h, l), ()) ns := by
  refine ⟨⟨fun _ => h, ⟨?_, trivial⟩⟩, ⟨Nat.lt_succ_self _, fun e _ => namD_nolst _ _ _ rfl⟩, trivial⟩
  show (h, l) = (renH nn (fun _ => h) (.nm nn), (heldL xs w).map (renD nn (fun _ => h) writeT))
  have e1 : renH nn (fun _ => h) (.nm nn) = h := if_neg (Nat.lt_irrefl _)
  have e2 : (heldL xs w).map (renD nn (fun _ => h) writeT) = heldL xs w := by
    conv => rhs; rw [← List.map_id (heldL xs w)]
    exact List.map_congr_left fun e _ => renD_nolst _ _ writeT e rfl
  rw [e1, e2, hl]
abbrev tabW : Tab := { tab with tks := [29], top := true }
theorem tabWOk : TabOk Try.prog tabW := ⟨tabOk.ty, tabOk.eq, tabOk.mix, tabOk.ptr⟩
theorem c_held : Ctr Try.prog 94 heldS := by
  refine ctr_ofR [(nilH, 2)] ⟨[2], rfl⟩ tabWOk (SpecsOk.cons c_writeOf (by kernel_rfl) (SpecsOk.mut (inl_ok tabWOk (SpecsOk.nil _) Try.func59 [.lst writeT]) (by kernel_rfl) (SpecsOk.nil _))) Try.func94 rfl _ (Nat.le_of_ble_eq_true rfl) (fun h => by cases h) ?_
  rintro nn ⟨⟨hd, xs⟩, w, ⟨⟩⟩ (hpre : xs.length ≤ 1000) hb
  refine ⟨200, init_k fun K1 n1 => ?_⟩
  conv => whnf
  refine n1 _ ?_
  clear n1 K1
  repeat' (first | with_reducible refine seq_k fun K1 n1 => ?_ | with_reducible refine seq_nil ?_ | with_reducible refine drw_k fun K1 n1 => ?_ | with_reducible refine drw_nil ?_ ?_ | with_reducible refine run_seq ?_ | with_reducible refine run_skip ?_ | with_reducible refine run_regS ?_ | with_reducible refine run_regD (by kernel_rfl) ?_ ?_ | with_reducible refine inl_k (by with_unfolding_all rfl) (Nat.le_of_ble_eq_true rfl) fun K1 n1 => ?_ | with_reducible refine inlA_k (by with_unfolding_all rfl) (Nat.le_of_ble_eq_true rfl) fun K1 n1 => ?_ | with_reducible refine run_finA ?_ | with_reducible refine run_cond ?_ | with_reducible refine run_block ?_ | with_reducible refine run_endb ?_ | with_reducible refine run_exit fun K1 n1 => ?_ | with_reducible refine run_ret fun K1 n1 => ?_ | with_reducible refine run_fin ?_ | with_reducible refine run_inv ?_ | with_reducible refine go_rounds ?_ | ((with_reducible refine Go.mk ?_); (conv => whnf)) | refine Fork.yes ?_ | refine Fork.no ?_ | refine Fork.dec (fun _ => ?_) (fun _ => ?_) | refine Fork.ndec (fun _ => ?_) (fun _ => ?_) | refine Fork.mk (fun _ => ?_) (fun _ => ?_) | refine Way.yesG ?_ | refine Way.noG ?_ | refine Way.decG (fun _ => ?_) (fun _ => ?_) | refine Way.ndecG (fun _ => ?_) (fun _ => ?_) | refine Way.mkG (fun _ => ?_) (fun _ => ?_) | with_reducible refine Need.mkG ?_ ?_ | refine AppW.go0 ?_ ?_ | with_reducible refine NilW.goG (fun _ => ?_) ?_ | ((with_reducible refine n1 _ _ _ ?_); clear n1 K1) | ((with_reducible refine n1 _ ?_); clear n1 K1) | ((with_reducible refine n1 _ _ ?_); clear n1 K1) | ((with_reducible refine n1 _ _ _ _ ?_); clear n1 K1) | fail)
  all_goals try (first | exact trivial | omega | kernel_rfl | decide | exact And.intro (by omega) (by omega))
  all_goals try dsimp only [Int.toNat_natCast] at *
  all_goals try (first | exact trivial | omega | exact And.intro (by omega) (by omega))
  · exact ⟨(by show 1 ≤ 140737488355328; decide), (by show 1 * 16 ≤ 140737488355328; decide)⟩
  · rename_i h
    subst h
    refine held_done ?_
    rfl
  · rw [List.length_nil, Nat.zero_add]
    exact ⟨by omega, (by show xs.length * 16 ≤ _; omega)⟩
  · rw [List.nil_append]
    exact ⟨by show xs.length + 1 ≤ _; omega, by show (xs.length + 1) * 16 ≤ _; omega⟩
  · rename_i h
    rw [List.nil_append] at h ⊢
    refine held_done ?_
    unfold heldL
    rw [if_pos h]
    rfl
  · rename_i h
    rw [List.nil_append] at h ⊢
    have := atW_rng xs w.1
    exact ⟨Int.not_lt.1 h, this.2⟩
  · rename_i h
    refine ⟨rfl, 0, [(0, .a (.of (.leaf (.lst writeT) (.nm (nn + 2), ([] ++ xs).set (atW ([] ++ xs) w.1).toNat w))))], rfl, rfl, ⟨Or.inr ⟨rfl, rfl⟩, trivial⟩, ?_⟩
    refine n1 _ _ _ ?_
    clear n1 K1
    repeat' (first | with_reducible refine seq_k fun K1 n1 => ?_ | with_reducible refine seq_nil ?_ | with_reducible refine drw_k fun K1 n1 => ?_ | with_reducible refine drw_nil ?_ ?_ | with_reducible refine run_seq ?_ | with_reducible refine run_skip ?_ | with_reducible refine run_regS ?_ | with_reducible refine run_regD (by kernel_rfl) ?_ ?_ | with_reducible refine inl_k (by with_unfolding_all rfl) (Nat.le_of_ble_eq_true rfl) fun K1 n1 => ?_ | with_reducible refine inlA_k (by with_unfolding_all rfl) (Nat.le_of_ble_eq_true rfl) fun K1 n1 => ?_ | with_reducible refine run_finA ?_ | with_reducible refine run_cond ?_ | with_reducible refine run_block ?_ | with_reducible refine run_endb ?_ | with_reducible refine run_exit fun K1 n1 => ?_ | with_reducible refine run_ret fun K1 n1 => ?_ | with_reducible refine run_fin ?_ | with_reducible refine run_inv ?_ | with_reducible refine go_rounds ?_ | ((with_reducible refine Go.mk ?_); (conv => whnf)) | refine Fork.yes ?_ | refine Fork.no ?_ | refine Fork.dec (fun _ => ?_) (fun _ => ?_) | refine Fork.ndec (fun _ => ?_) (fun _ => ?_) | refine Fork.mk (fun _ => ?_) (fun _ => ?_) | refine Way.yesG ?_ | refine Way.noG ?_ | refine Way.decG (fun _ => ?_) (fun _ => ?_) | refine Way.ndecG (fun _ => ?_) (fun _ => ?_) | refine Way.mkG (fun _ => ?_) (fun _ => ?_) | with_reducible refine Need.mkG ?_ ?_ | refine AppW.go0 ?_ ?_ | with_reducible refine NilW.goG (fun _ => ?_) ?_ | ((with_reducible refine n1 _ _ _ ?_); clear n1 K1) | ((with_reducible refine n1 _ ?_); clear n1 K1) | ((with_reducible refine n1 _ _ ?_); clear n1 K1) | ((with_reducible refine n1 _ _ _ _ ?_); clear n1 K1) | fail)
    all_goals try (first | exact trivial | omega | kernel_rfl | decide | exact And.intro (by omega) (by omega))
    all_goals try dsimp only [Int.toNat_natCast] at *
    all_goals try (first | exact trivial | omega | exact And.intro (by omega) (by omega))
    rw [List.nil_append] at h ⊢
    refine held_done ?_
    unfold heldL
    rw [if_neg h]
end Go.Proofs.Ytjbbgpacijageab.M
