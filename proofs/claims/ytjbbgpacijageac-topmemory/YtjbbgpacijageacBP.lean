/- Package bench: what was recorded, as a function that reads through a pointer. -/
import Derived.Test.YtjbbgpacijageacB2
namespace Go.Proofs.Ytjbbgpacijageac.M
open Go.RowKit
set_option linter.unusedVariables false
set_option linter.unusedSimpArgs false

abbrev rcsP : PSpec := { t := benchT, args := [], res := [.lst recordT], cr := true, m := fun _ _ => 1, fn := fun nn v _ => ((.nm nn, v.2.2.1.2), ()), pre := fun v _ => v.2.2.1.2.length ≤ 10000 }
theorem rcs_done {nn : Nat} {v : benchT.D} {h : Hd} {l : List recordT.D} {ns : NS} (hl : l = v.2.2.1.2) (ht : l = [] ∨ ∃ s, 0 < s ∧ (h, s) ∈ ns.tk) : DoneP rcsP nn v () ((h, l), ()) ns := by
  refine ⟨⟨fun _ => h, ⟨?_, trivial⟩⟩, ⟨⟨Nat.lt_succ_self _, fun e _ => namD_nolst _ _ _ rfl⟩, trivial⟩, Or.inr ⟨⟨rfl, ht⟩, trivial⟩⟩
  show (h, l) = (renH nn (fun _ => h) (.nm nn), v.2.2.1.2.map (renD nn (fun _ => h) recordT))
  have e1 : renH nn (fun _ => h) (.nm nn) = h := if_neg (Nat.lt_irrefl _)
  have e2 : v.2.2.1.2.map (renD nn (fun _ => h) recordT) = v.2.2.1.2 := by
    conv => rhs; rw [← List.map_id v.2.2.1.2]
    exact List.map_congr_left fun e _ => renD_nolst _ _ recordT e rfl
  rw [e1, e2, hl]
theorem c_rcsP : PCtr Try.prog 17 rcsP := by
  refine ctr_ptr [(nilH, 3)] ⟨[3], rfl⟩ tabBOk (SpecsOk.mut (inl_ok tabBOk (SpecsOk.nil _) Try.func30 [.lst recordT]) (by kernel_rfl) (SpecsOk.nil _)) rfl Try.func17 rfl _ (Nat.le_of_ble_eq_true rfl) (fun h => by cases h) ?_
  rintro nn ⟨L, D, ⟨H, rs⟩, k⟩ ⟨⟩ hpre hb hb2
  have hpre : rs.length ≤ 10000 := hpre
  refine ⟨200, init_k fun K1 n1 => ?_⟩
  conv => whnf
  refine n1 _ ?_
  clear n1 K1
  repeat' (first | with_reducible refine seq_k fun K1 n1 => ?_ | with_reducible refine seq_nil ?_ | with_reducible refine drw_k fun K1 n1 => ?_ | with_reducible refine drw_nil ?_ ?_ | with_reducible refine bar_k fun K1 n1 => ?_ | with_reducible refine run_seq ?_ | with_reducible refine run_skip ?_ | with_reducible refine run_regS ?_ | with_reducible refine run_regD (by kernel_rfl) ?_ ?_ | with_reducible refine inl_k (by with_unfolding_all rfl) (Nat.le_of_ble_eq_true rfl) fun K1 n1 => ?_ | with_reducible refine inlA_k (by with_unfolding_all rfl) (Nat.le_of_ble_eq_true rfl) fun K1 n1 => ?_ | with_reducible refine run_finA ?_ | with_reducible refine run_cond ?_ | with_reducible refine run_block ?_ | with_reducible refine run_endb ?_ | with_reducible refine run_exit fun K1 n1 => ?_ | with_reducible refine run_ret fun K1 n1 => ?_ | with_reducible refine run_fin ?_ | with_reducible refine run_inv ?_ | with_reducible refine go_rounds ?_ | ((with_reducible refine Go.mk ?_); (conv => whnf)) | refine Fork.yes ?_ | refine Fork.no ?_ | refine Fork.dec (fun _ => ?_) (fun _ => ?_) | refine Fork.ndec (fun _ => ?_) (fun _ => ?_) | refine Fork.mk (fun _ => ?_) (fun _ => ?_) | refine Way.yesG ?_ | refine Way.noG ?_ | refine Way.decG (fun _ => ?_) (fun _ => ?_) | refine Way.ndecG (fun _ => ?_) (fun _ => ?_) | refine Way.mkG (fun _ => ?_) (fun _ => ?_) | with_reducible refine Need.mkG ?_ ?_ | refine AppW.go0 ?_ ?_ | refine AppW.go1 ?_ ?_ | with_reducible refine NilW.goG (fun _ => ?_) ?_ | ((with_reducible refine n1 _ _ _ ?_); clear n1 K1) | ((with_reducible refine n1 _ ?_); clear n1 K1) | ((with_reducible refine n1 _ _ ?_); clear n1 K1) | ((with_reducible refine n1 _ _ _ _ ?_); clear n1 K1) | fail)
  all_goals try (first | exact trivial | omega | kernel_rfl | decide | exact And.intro (by omega) (by omega))
  all_goals try dsimp only [Int.toNat_natCast] at *
  all_goals try (first | exact trivial | omega | exact And.intro (by omega) (by omega))
  · rename_i h
    have h : rs = [] := h
    exact rcs_done (v := (L, D, (H, rs), k)) h.symm (Or.inl rfl)
  · exact ⟨by show 0 + rs.length ≤ _; omega, by show (0 + rs.length) * 24 ≤ _; omega⟩
  · exact rcs_done (v := (L, D, (H, rs), k)) (List.nil_append _) (Or.inr ⟨recordT.sz, by decide, List.mem_cons_self ..⟩)
end Go.Proofs.Ytjbbgpacijageac.M
