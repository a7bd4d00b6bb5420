/- The document's own step of a desk: what is walked in place. -/
import Derived.Test.YtjbbgpacijageabGreatR17
import Derived.Test.YtjbbgpacijageabGreatR11
import Derived.Test.YtjbbgpacijageabGreatR12
import Derived.Test.YtjbbgpacijageabGreatR13
import Derived.Test.YtjbbgpacijageabGreatR7
import Derived.Test.YtjbbgpacijageabGreatX1
import Derived.Test.YtjbbgpacijageabGreatUM
import Derived.Test.YtjbbgpacijageabGreatWX
namespace Go.Proofs.YtjbbgpacijageabGreat.M
open Go.RowKit
set_option linter.unusedVariables false
set_option linter.unusedSimpArgs false

abbrev workT : Ty := .pair deskT (.pair progsT (.lst recordT))
abbrev tabS : Tab := { tab with tks := [29, 39], top := true }
theorem tabSOk : TabOk Tryz.prog tabS := ⟨tabOk.ty, tabOk.eq, tabOk.mix, tabOk.ptr⟩
abbrev noteTr : MTr := Inl tabS [] Tryz.f72 []
theorem noteOk : MOk Tryz.prog 72 noteTr := inl_ok tabSOk (SpecsOk.nil _) Tryz.func72 []
abbrev failTr : MTr := Lax (Inl tabS [(16, abortS), (72, mutS noteTr)] Tryz.f47 [])
theorem failOk (c_AbortOf : Ctr Tryz.prog 16 abortS) : MOk Tryz.prog 47 failTr := lax_ok (inl_ok tabSOk (SpecsOk.cons c_AbortOf (by kernel_rfl) (SpecsOk.mut noteOk (by kernel_rfl) (SpecsOk.nil _))) Tryz.func47 [])
abbrev wputTr : MTr := Lax (Inl tabS [(22, holdsS), (47, mutS failTr), (116, ownS), (115, writeS)] Tryz.f71 [])
theorem wputOk (c_AbortOf : Ctr Tryz.prog 16 abortS) : MOk Tryz.prog 71 wputTr := lax_ok (inl_ok tabSOk (SpecsOk.cons c_HoldsLine (by kernel_rfl) (SpecsOk.mut (failOk c_AbortOf) (by kernel_rfl) (SpecsOk.cons c_OwnLine (by kernel_rfl) (SpecsOk.cons c_WriteWord (by kernel_rfl) (SpecsOk.nil _))))) Tryz.func71 [])
abbrev wonTr : MTr := Lax (Inl tabS [(70, wdS), (72, mutS noteTr)] Tryz.f68 [])
theorem wonOk : MOk Tryz.prog 68 wonTr := lax_ok (inl_ok tabSOk (SpecsOk.cons c_rest (by kernel_rfl) (SpecsOk.mut noteOk (by kernel_rfl) (SpecsOk.nil _))) Tryz.func68 [])
abbrev wstuckTr : MTr := Lax (Inl tabS [(47, mutS failTr), (72, mutS noteTr)] Tryz.f69 [])
theorem wstuckOk (c_AbortOf : Ctr Tryz.prog 16 abortS) : MOk Tryz.prog 69 wstuckTr := lax_ok (inl_ok tabSOk (SpecsOk.mut (failOk c_AbortOf) (by kernel_rfl) (SpecsOk.mut noteOk (by kernel_rfl) (SpecsOk.nil _))) Tryz.func69 [])
abbrev wdirTr : MTr := Lax (Inl tabS [(118, valueS), (119, shareS), (71, mutS wputTr), (42, putS), (68, mutS wonTr)] Tryz.f75 [])
theorem wdirOk (c_AbortOf : Ctr Tryz.prog 16 abortS) : MOk Tryz.prog 75 wdirTr := lax_ok (inl_ok tabSOk (SpecsOk.cons c_ValueOf (by kernel_rfl) (SpecsOk.cons c_ShareLine (by kernel_rfl) (SpecsOk.mut (wputOk c_AbortOf) (by kernel_rfl) (SpecsOk.cons c_PutReg (by kernel_rfl) (SpecsOk.mut wonOk (by kernel_rfl) (SpecsOk.nil _)))))) Tryz.func75 [])
abbrev wholdTr : MTr := Lax (InlT tabS [(118, valueS), (119, shareS), (47, mutS failTr), (42, putS), (68, mutS wonTr)] Tryz.f74 [])
theorem wholdOk (c_AbortOf : Ctr Tryz.prog 16 abortS) : MOkT Tryz.prog 74 wholdTr := laxT_ok (inlT_ok tabSOk (SpecsOk.cons c_ValueOf (by kernel_rfl) (SpecsOk.cons c_ShareLine (by kernel_rfl) (SpecsOk.mut (failOk c_AbortOf) (by kernel_rfl) (SpecsOk.cons c_PutReg (by kernel_rfl) (SpecsOk.mut wonOk (by kernel_rfl) (SpecsOk.nil _)))))) Tryz.func74 [])
abbrev wstepTr : MTr := Lax (InlT tabS [(47, mutS failTr), (68, mutS wonTr), (69, mutS wstuckTr), (70, wdS), (43, freedS), (71, mutS wputTr), (72, mutS noteTr), (73, wordS), (74, topS wholdTr), (75, mutS wdirTr), (76, aloneS)] Tryz.f32 [])
theorem wstepOk (c_AbortOf : Ctr Tryz.prog 16 abortS) : MOkT Tryz.prog 32 wstepTr := laxT_ok (inlT_ok tabSOk (SpecsOk.mut (failOk c_AbortOf) (by kernel_rfl) (SpecsOk.mut wonOk (by kernel_rfl) (SpecsOk.mut (wstuckOk c_AbortOf) (by kernel_rfl) (SpecsOk.cons c_rest (by kernel_rfl) (SpecsOk.cons c_cleared (by kernel_rfl) (SpecsOk.mut (wputOk c_AbortOf) (by kernel_rfl) (SpecsOk.mut noteOk (by kernel_rfl) (SpecsOk.cons c_WordOf (by kernel_rfl) (SpecsOk.top (wholdOk c_AbortOf) (by kernel_rfl) (SpecsOk.mut (wdirOk c_AbortOf) (by kernel_rfl) (SpecsOk.cons c_AloneOf (by kernel_rfl) (SpecsOk.nil _)))))))))))) Tryz.func32 [])
abbrev copyTr : MTr := Lax (Inl tabS [] Tryz.f6 [deskT])
theorem copyOk : MOk Tryz.prog 6 copyTr := lax_ok (inl_ok tabSOk (SpecsOk.nil _) Tryz.func6 [deskT])
theorem copy_at {t0 t1 t2 : Ty} {v0 : t0.D} {v1 : t1.D} {v2 : t2.D} {d : deskT.D} {n : Nat} {tk : List (Hd × Nat)} (hw : ∀ c, c < 2 → (d.1 c).2.2.2.2.1.2.length ≤ 4) {K : SV → List V → NS → Prop}
    (h : K (.a (.of (.leaf deskT (copyF n d)))) [.leaf t0 v0, .leaf t1 v1, .leaf t2 v2] ⟨n + 2, (.nm n, 2) :: (.nm (n + 1), 2) :: tk⟩) :
    copyTr [.of (.leaf deskT d)] [.leaf t0 v0, .leaf t1 v1, .leaf t2 v2] ⟨n, (nilH, 2) :: (nilH, 2) :: tk⟩ K := by
  refine ⟨[.of (.leaf deskT d)], [.leaf t0 v0, .leaf t1 v1, .leaf t2 v2], rfl, rfl, ?_⟩
  repeat' (first | (with_reducible first | refine seq_k fun K1 n1 => ?_ | refine seq_nil ?_ | refine drw_k fun K1 n1 => ?_ | refine drw_nil ?_ ?_ | refine drx_k fun K1 n1 => ?_ | refine drx_nil ?_ ?_ | refine barx_k fun K1 n1 => ?_ | refine inlT_k (by with_unfolding_all rfl) (Nat.le_of_ble_eq_true rfl) fun K1 n1 => ?_ | refine bar_k fun K1 n1 => ?_ | refine run_seq ?_ | refine run_skip ?_ | refine run_regS ?_ | refine run_regD (by with_unfolding_all rfl) ?_ ?_ | refine inl_k (by with_unfolding_all rfl) (Nat.le_of_ble_eq_true rfl) fun K1 n1 => ?_ | refine inlA_k (by with_unfolding_all rfl) (Nat.le_of_ble_eq_true rfl) fun K1 n1 => ?_ | refine run_finA ?_ | refine run_cond ?_ | refine run_block ?_ | refine run_endb ?_ | refine run_exit fun K1 n1 => ?_ | refine run_ret fun K1 n1 => ?_ | refine run_fin ?_ | refine run_inv ?_ | refine go_rounds ?_) | ((with_reducible refine Go.mk ?_); (conv => whnf)) | refine Fork.yes ?_ | refine Fork.no ?_ | refine Fork.dec (fun _ => ?_) (fun _ => ?_) | refine Fork.ndec (fun _ => ?_) (fun _ => ?_) | refine Fork.mk (fun _ => ?_) (fun _ => ?_) | refine Way.yesG ?_ | refine Way.noG ?_ | refine Way.decG (fun _ => ?_) (fun _ => ?_) | refine Way.ndecG (fun _ => ?_) (fun _ => ?_) | refine Way.mkG (fun _ => ?_) (fun _ => ?_) | (with_reducible first | refine Need.mkG ?_ ?_) | refine AppW.go0 ?_ ?_ | refine AppW.go1 ?_ ?_ | refine AppW.go2 ?_ ?_ | refine AppW.go3 ?_ ?_ | (with_reducible first | refine NilW.goG (fun _ => ?_) ?_) | ((with_reducible refine n1 _ _ _ ?_); clear n1 K1) | ((with_reducible refine n1 _ ?_); clear n1 K1) | ((with_reducible refine n1 _ _ ?_); clear n1 K1) | ((with_reducible refine n1 _ _ _ _ ?_); clear n1 K1) | fail)
  all_goals try (first | exact trivial | omega | kernel_rfl | decide | exact And.intro (by omega) (by omega))
  all_goals try dsimp only [Int.toNat_natCast] at *
  all_goals try (first | exact trivial | omega | exact And.intro (by omega) (by omega))
  refine unroll 3 (rounds_succ ?_)
  repeat' (first | (with_reducible first | refine seq_k fun K1 n1 => ?_ | refine seq_nil ?_ | refine drw_k fun K1 n1 => ?_ | refine drw_nil ?_ ?_ | refine drx_k fun K1 n1 => ?_ | refine drx_nil ?_ ?_ | refine barx_k fun K1 n1 => ?_ | refine inlT_k (by with_unfolding_all rfl) (Nat.le_of_ble_eq_true rfl) fun K1 n1 => ?_ | refine bar_k fun K1 n1 => ?_ | refine run_seq ?_ | refine run_skip ?_ | refine run_regS ?_ | refine run_regD (by with_unfolding_all rfl) ?_ ?_ | refine inl_k (by with_unfolding_all rfl) (Nat.le_of_ble_eq_true rfl) fun K1 n1 => ?_ | refine inlA_k (by with_unfolding_all rfl) (Nat.le_of_ble_eq_true rfl) fun K1 n1 => ?_ | refine run_finA ?_ | refine run_cond ?_ | refine run_block ?_ | refine run_endb ?_ | refine run_exit fun K1 n1 => ?_ | refine run_ret fun K1 n1 => ?_ | refine run_fin ?_ | refine run_inv ?_ | refine go_rounds ?_) | ((with_reducible refine Go.mk ?_); (conv => whnf)) | refine Fork.yes ?_ | refine Fork.no ?_ | refine Fork.dec (fun _ => ?_) (fun _ => ?_) | refine Fork.ndec (fun _ => ?_) (fun _ => ?_) | refine Fork.mk (fun _ => ?_) (fun _ => ?_) | refine Way.yesG ?_ | refine Way.noG ?_ | refine Way.decG (fun _ => ?_) (fun _ => ?_) | refine Way.ndecG (fun _ => ?_) (fun _ => ?_) | refine Way.mkG (fun _ => ?_) (fun _ => ?_) | (with_reducible first | refine Need.mkG ?_ ?_) | refine AppW.go0 ?_ ?_ | refine AppW.go1 ?_ ?_ | refine AppW.go2 ?_ ?_ | refine AppW.go3 ?_ ?_ | (with_reducible first | refine NilW.goG (fun _ => ?_) ?_) | ((with_reducible refine n1 _ _ _ ?_); clear n1 K1) | ((with_reducible refine n1 _ ?_); clear n1 K1) | ((with_reducible refine n1 _ _ ?_); clear n1 K1) | ((with_reducible refine n1 _ _ _ _ ?_); clear n1 K1) | fail)
  all_goals try (first | exact trivial | omega | kernel_rfl | decide | exact And.intro (by omega) (by omega))
  all_goals try dsimp only [Int.toNat_natCast] at *
  all_goals try (first | exact trivial | omega | exact And.intro (by omega) (by omega))
  · have h0 := hw 0 (by decide)
    show 0 + (d.1 0).2.2.2.2.1.2.length ≤ 140737488355328 ∧ (0 + (d.1 0).2.2.2.2.1.2.length) * 16 ≤ 140737488355328
    omega
  · have h1 := hw 1 (by decide)
    show 0 + (d.1 1).2.2.2.2.1.2.length ≤ 140737488355328 ∧ (0 + (d.1 1).2.2.2.2.1.2.length) * 16 ≤ 140737488355328
    omega
  · exact LaxE.mk' 3 (n + 2) _ (Nat.le_refl _) (by simp only [List.length_cons]; omega) rfl (Nat.le_refl _) (TkLe.refl _) h
end Go.Proofs.YtjbbgpacijageabGreat.M
