/- For all programs, memories and acts, Run answers exactly what the document's bench answers, act by act, errors too (BenchRuns); its lists take up no more than a machine has. -/
import Derived.Test.YtjbbgpacijageacGreatTQ
import Derived.Test.YtjbbgpacijageacGreatO1
import Derived.Test.YtjbbgpacijageacGreatRows
namespace Go.Proofs.YtjbbgpacijageacGreat.benchRuns
open Go.ChangeShapes Go.WideShapes Go.ChangeAt Go.RowKit Go.Proofs.YtjbbgpacijageacGreat.M
set_option linter.unusedVariables false

theorem own : ownKnob Tryz.prog.godebug = none := by kernel_rfl
theorem laidOut : laidOutB Tryz.prog = true := by kernel_rfl
abbrev Ts : List Ty := [progsT, .arr 32 .int, .lst actT]

set_option maxRecDepth 100000 in
theorem lifted (os : Os) (started : os.Started) (H : Type) (enc : TypeId × Value → H) :
    ReturnsInHanded {} Tryz.checked os 5 .any (Rows.benchRunsSpec.pre6 enc Tryz.prog Tryz.f5 Rows.benchRunsRow.domain false) (Rows.benchRunsSpec.post enc Tryz.prog Tryz.f5 false true false false) := by
  refine returnsInHanded_of_change_sized (C := Tryz.checked) own started (by kernel_rfl) Tryz.func5
    (ChangeSpec.witness6 (enc := enc) (C := Tryz.checked) false ⟨#[], zeros Ts, []⟩ 12 (by kernel_rfl) (by kernel_rfl) (by kernel_rfl) (by kernel_rfl)) ?_
  intro W base args ds gs before hval0 hW hcnd hsz0 _
  have hval : ∀ (j : Nat) t v, Tryz.f5.params[j]? = some t → args[j]? = some v → Value.okWide Tryz.prog W .any base t v := hval0
  have hsz : (DataW.weightsEach Tryz.prog (Tryz.f5.params.toList ++ Rows.benchRunsSpec.plain.varTypes Tryz.prog) (ds ++ gs)).all (· ≤ reachBytes) = true := hsz0
  have hW' := hW
  obtain ⟨p, q, hA0, hV, rfl, hfz, hnd⟩ := hW
  have hA : DataW.TrodAll enc Tryz.prog W 0 (fun _ => true) true Tryz.f5.params.toList args.toList ds p := hA0
  obtain ⟨d, hd, hwk, hsm⟩ := open_all (B := fun _ => undef) (n := 9) _ Ts _ _ _ (by kernel_rfl) hA (fun j t v ht hv => hval j t v (by simpa using ht) (by simpa using hv))
  obtain ⟨rfl, rfl⟩ := trodVars_none hV
  have r0 := hA
  rw [Tryz.params5] at r0
  obtain ⟨_, _, e0, t0, _, _, _, rfl, _, _, r1⟩ := trodAll_cons r0
  obtain ⟨_, _, e1, t1, _, _, _, rfl, _, _, r2⟩ := trodAll_cons r1
  obtain ⟨_, _, e2, t2, _, _, _, rfl, _, _, r3⟩ := trodAll_cons r2
  obtain ⟨_, rfl, _⟩ := trodAll_nil r3
  have hsz : ∀ n ∈ DataW.weightsEach Tryz.prog Tryz.f5.params.toList _, n ≤ reachBytes := fun n hn => of_decide_eq_true (List.all_eq_true.1 hsz n (by rw [List.append_nil]; exact hn))
  obtain rfl : args = ((leafs Ts d).map (V.val fun _ => undef)).toArray := by apply Array.toList_inj.1; rw [hd]
  refine (law_runZ c_BenchRuns W d hwk (hsm hsz)).mono fun e W' ⟨he, bel⟩ => ?_
  subst he
  obtain ⟨ps', hps⟩ := below_all laidOut bel _ _ _ _ (by kernel_rfl) hA
  exact ⟨_, rfl, _, _, _, [], _, [], hW', trodAll_mk1 (shut_bool Tryz.underlying4 _), hps, rfl, bel.frame _, fun h => by cases h⟩

theorem over : Rows.benchRunsRow.holds Tryz.pinned (OpenSpec.ofChange Rows.benchRunsSpec) :=
  OpenClaim.holds_of_wide 5 Tryz.f5 rfl rfl rfl rfl rfl rfl rfl ⟨rfl, rfl, rfl, rfl, rfl⟩ rfl rfl rfl rfl rfl (by kernel_rfl) Tryz.func5 (by kernel_rfl)
    (of_decide_eq_true (by kernel_rfl)) (by unfold Func.isWrapper; first | (rw [if_pos (by decide +kernel)]; kernel_rfl) | (rw [if_neg (by decide +kernel)]; exact ⟨rfl, rfl⟩))
    (fun os started H enc _ => lifted os started H enc)

end Go.Proofs.YtjbbgpacijageacGreat.benchRuns

namespace Go.Proofs.YtjbbgpacijageacGreat

theorem benchRuns_holds : Rows.BenchRunsSaid := benchRuns.over
#print axioms benchRuns_holds

end Go.Proofs.YtjbbgpacijageacGreat
