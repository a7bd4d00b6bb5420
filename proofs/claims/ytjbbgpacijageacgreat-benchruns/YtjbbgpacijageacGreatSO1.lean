/- The document's own step of a desk: what is walked in place. -/
import Derived.Test.YtjbbgpacijageacGreatR17
import Derived.Test.YtjbbgpacijageacGreatR11
import Derived.Test.YtjbbgpacijageacGreatR12
import Derived.Test.YtjbbgpacijageacGreatR13
import Derived.Test.YtjbbgpacijageacGreatR7
import Derived.Test.YtjbbgpacijageacGreatX1
import Derived.Test.YtjbbgpacijageacGreatUM
import Derived.Test.YtjbbgpacijageacGreatWX
namespace Go.Proofs.YtjbbgpacijageacGreat.M
open Go.RowKit
set_option linter.unusedVariables false
set_option linter.unusedSimpArgs false

abbrev workT : Ty := .pair deskT (.pair progsT (.lst recordT))
abbrev tabS : Tab := { tab with tks := [50, 38], top := true }
theorem tabSOk : TabOk Tryz.prog tabS := ⟨tabOk.ty, tabOk.eq, tabOk.mix, tabOk.ptr⟩
abbrev noteTr : MTr := Inl tabS [] Tryz.f99 []
theorem noteOk : MOk Tryz.prog 99 noteTr := inl_ok tabSOk (SpecsOk.nil _) Tryz.func99 []
abbrev failTr : MTr := Lax (Inl tabS [(104, abortS), (99, mutS noteTr)] Tryz.f70 [])
theorem failOk (c_AbortOf : Ctr Tryz.prog 104 abortS) : MOk Tryz.prog 70 failTr := lax_ok (inl_ok tabSOk (SpecsOk.cons c_AbortOf (by kernel_rfl) (SpecsOk.mut noteOk (by kernel_rfl) (SpecsOk.nil _))) Tryz.func70 [])
abbrev wputTr : MTr := Lax (Inl tabS [(122, holdsS), (70, mutS failTr), (124, ownS), (123, writeS)] Tryz.f98 [])
theorem wputOk (c_AbortOf : Ctr Tryz.prog 104 abortS) : MOk Tryz.prog 98 wputTr := lax_ok (inl_ok tabSOk (SpecsOk.cons c_HoldsLine (by kernel_rfl) (SpecsOk.mut (failOk c_AbortOf) (by kernel_rfl) (SpecsOk.cons c_OwnLine (by kernel_rfl) (SpecsOk.cons c_WriteWord (by kernel_rfl) (SpecsOk.nil _))))) Tryz.func98 [])
abbrev wonTr : MTr := Lax (Inl tabS [(96, wdS), (99, mutS noteTr)] Tryz.f94 [])
theorem wonOk : MOk Tryz.prog 94 wonTr := lax_ok (inl_ok tabSOk (SpecsOk.cons c_rest (by kernel_rfl) (SpecsOk.mut noteOk (by kernel_rfl) (SpecsOk.nil _))) Tryz.func94 [])
abbrev wstuckTr : MTr := Lax (Inl tabS [(70, mutS failTr), (99, mutS noteTr)] Tryz.f95 [])
theorem wstuckOk (c_AbortOf : Ctr Tryz.prog 104 abortS) : MOk Tryz.prog 95 wstuckTr := lax_ok (inl_ok tabSOk (SpecsOk.mut (failOk c_AbortOf) (by kernel_rfl) (SpecsOk.mut noteOk (by kernel_rfl) (SpecsOk.nil _))) Tryz.func95 [])
abbrev wdirTr : MTr := Lax (Inl tabS [(126, valueS), (127, shareS), (98, mutS wputTr), (128, putS), (94, mutS wonTr)] Tryz.f102 [])
theorem wdirOk (c_AbortOf : Ctr Tryz.prog 104 abortS) : MOk Tryz.prog 102 wdirTr := lax_ok (inl_ok tabSOk (SpecsOk.cons c_ValueOf (by kernel_rfl) (SpecsOk.cons c_ShareLine (by kernel_rfl) (SpecsOk.mut (wputOk c_AbortOf) (by kernel_rfl) (SpecsOk.cons c_PutReg (by kernel_rfl) (SpecsOk.mut wonOk (by kernel_rfl) (SpecsOk.nil _)))))) Tryz.func102 [])
abbrev wholdTr : MTr := Lax (InlT tabS [(126, valueS), (127, shareS), (70, mutS failTr), (128, putS), (94, mutS wonTr)] Tryz.f101 [])
theorem wholdOk (c_AbortOf : Ctr Tryz.prog 104 abortS) : MOkT Tryz.prog 101 wholdTr := laxT_ok (inlT_ok tabSOk (SpecsOk.cons c_ValueOf (by kernel_rfl) (SpecsOk.cons c_ShareLine (by kernel_rfl) (SpecsOk.mut (failOk c_AbortOf) (by kernel_rfl) (SpecsOk.cons c_PutReg (by kernel_rfl) (SpecsOk.mut wonOk (by kernel_rfl) (SpecsOk.nil _)))))) Tryz.func101 [])
abbrev wstepTr : MTr := Lax (InlT tabS [(70, mutS failTr), (94, mutS wonTr), (95, mutS wstuckTr), (96, wdS), (97, freedS), (98, mutS wputTr), (99, mutS noteTr), (100, wordS), (101, topS wholdTr), (102, mutS wdirTr), (103, aloneS)] Tryz.f68 [])
theorem wstepOk (c_AbortOf : Ctr Tryz.prog 104 abortS) : MOkT Tryz.prog 68 wstepTr := laxT_ok (inlT_ok tabSOk (SpecsOk.mut (failOk c_AbortOf) (by kernel_rfl) (SpecsOk.mut wonOk (by kernel_rfl) (SpecsOk.mut (wstuckOk c_AbortOf) (by kernel_rfl) (SpecsOk.cons c_rest (by kernel_rfl) (SpecsOk.cons c_cleared (by kernel_rfl) (SpecsOk.mut (wputOk c_AbortOf) (by kernel_rfl) (SpecsOk.mut noteOk (by kernel_rfl) (SpecsOk.cons c_WordOf (by kernel_rfl) (SpecsOk.top (wholdOk c_AbortOf) (by kernel_rfl) (SpecsOk.mut (wdirOk c_AbortOf) (by kernel_rfl) (SpecsOk.cons c_AloneOf (by kernel_rfl) (SpecsOk.nil _)))))))))))) Tryz.func68 [])
abbrev copyTr : MTr := Lax (Inl tabS [] Tryz.f67 [deskT])
theorem copyOk : MOk Tryz.prog 67 copyTr := lax_ok (inl_ok tabSOk (SpecsOk.nil _) Tryz.func67 [deskT])
theorem copy_at {t0 t1 t2 : Ty} {v0 : t0.D} {v1 : t1.D} {v2 : t2.D} {d : deskT.D} {n : Nat} {tk : List (Hd × Nat)} (hw : ∀ c, c < 2 → (d.1 c).2.2.2.2.1.2.length ≤ 4) {K : SV → List V → NS → Prop}
    (h : K (.a (.of (.leaf deskT (copyF n d)))) [.leaf t0 v0, .leaf t1 v1, .leaf t2 v2] ⟨n + 2, (.nm n, 2) :: (.nm (n + 1), 2) :: tk⟩) :
    copyTr [.of (.leaf deskT d)] [.leaf t0 v0, .leaf t1 v1, .leaf t2 v2] ⟨n, (nilH, 2) :: (nilH, 2) :: tk⟩ K := by
  refine ⟨[.of (.leaf deskT d)], [.leaf t0 v0, .leaf t1 v1, .leaf t2 v2], rfl, rfl, ?_⟩
  repeat' (first | (with_reducible first | refine seq_k fun K1 n1 => ?_ | refine seq_nil ?_ | refine run_seq ?_ | refine run_regS ?_ | refine inl_k (by with_unfolding_all rfl) (Nat.le_of_ble_eq_true rfl) fun K1 n1 => ?_ | refine run_block ?_) | ((with_reducible refine Go.mk ?_); (conv => whnf)) | ((with_reducible refine n1 _ _ _ ?_); clear n1 K1) | ((with_reducible refine n1 _ _ ?_); clear n1 K1) | fail)
  all_goals try dsimp only [Int.toNat_natCast] at *
  refine unroll 3 (rounds_succ ?_)
  repeat' (first | (with_reducible first | refine seq_k fun K1 n1 => ?_ | refine seq_nil ?_ | refine run_seq ?_ | refine run_skip ?_ | refine run_regS ?_ | refine run_cond ?_ | refine run_block ?_ | refine run_endb ?_ | refine run_exit fun K1 n1 => ?_ | refine run_ret fun K1 n1 => ?_ | refine run_fin ?_ | refine run_inv ?_ | refine go_rounds ?_) | ((with_reducible refine Go.mk ?_); (conv => whnf)) | refine Fork.yes ?_ | refine Fork.no ?_ | (with_reducible first | refine Need.mkG ?_ ?_) | refine AppW.go0 ?_ ?_ | refine AppW.go1 ?_ ?_ | ((with_reducible refine n1 _ _ _ ?_); clear n1 K1) | ((with_reducible refine n1 _ ?_); clear n1 K1) | fail)
  all_goals try (decide)
  all_goals try dsimp only [Int.toNat_natCast] at *
  · have h0 := hw 0 (by decide)
    show 0 + (d.1 0).2.2.2.2.1.2.length ≤ 140737488355328 ∧ (0 + (d.1 0).2.2.2.2.1.2.length) * 16 ≤ 140737488355328
    omega
  · have h1 := hw 1 (by decide)
    show 0 + (d.1 1).2.2.2.2.1.2.length ≤ 140737488355328 ∧ (0 + (d.1 1).2.2.2.2.1.2.length) * 16 ≤ 140737488355328
    omega
  · exact LaxE.mk' 3 (n + 2) _ (Nat.le_refl _) (by simp only [List.length_cons]; omega) rfl (Nat.le_refl _) (TkLe.refl _) h
end Go.Proofs.YtjbbgpacijageacGreat.M
