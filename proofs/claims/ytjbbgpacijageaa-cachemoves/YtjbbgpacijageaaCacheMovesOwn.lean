/- For every desk, core, line, word and number the Go function deskmateslaw.CacheMoves returns true, and its arguments read behind the call as they read before; there are no conditions beyond the row's own. -/
import Derived.Test.YtjbbgpacijageaaQ4
import Derived.Test.YtjbbgpacijageaaO1
import Derived.Test.YtjbbgpacijageaaRows
namespace Go.Proofs.Ytjbbgpacijageaa.cacheMoves
open Go.ChangeShapes Go.WideShapes Go.ChangeAt Go.RowKit Go.Proofs.Ytjbbgpacijageaa.M
set_option linter.unusedVariables false

theorem own : ownKnob Try.prog.godebug = none := by kernel_rfl
theorem laidOut : laidOutB Try.prog = true := by kernel_rfl
abbrev Ts : List Ty := [deskT, .int, .int, .int, .int]

set_option maxRecDepth 100000 in
theorem lifted (os : Os) (started : os.Started) (H : Type) (enc : TypeId × Value → H) :
    ReturnsInHanded {} Try.checked os 14 .any (Rows.cacheMovesSpec.pre6 enc Try.prog Try.f14 Rows.cacheMovesRow.domain false) (Rows.cacheMovesSpec.post enc Try.prog Try.f14 false true false false) := by
  refine returnsInHanded_of_change_sized (C := Try.checked) own started (by kernel_rfl) Try.func14
    (ChangeSpec.witness6 (enc := enc) (C := Try.checked) false ⟨#[], zeros Ts, []⟩ 12 (by kernel_rfl) (by kernel_rfl) (by kernel_rfl) (by kernel_rfl)) ?_
  intro W base args ds gs before hval0 hW hcnd hsz0 _
  have hval : ∀ (j : Nat) t v, Try.f14.params[j]? = some t → args[j]? = some v → Value.okWide Try.prog W .any base t v := hval0
  have hsz : (DataW.weightsEach Try.prog (Try.f14.params.toList ++ Rows.cacheMovesSpec.plain.varTypes Try.prog) (ds ++ gs)).all (· ≤ reachBytes) = true := hsz0
  have hW' := hW
  obtain ⟨p, q, hA0, hV, rfl, hfz, hnd⟩ := hW
  have hA : DataW.TrodAll enc Try.prog W 0 (fun _ => true) true Try.f14.params.toList args.toList ds p := hA0
  obtain ⟨d, hd, hwk, hsm⟩ := open_all (B := fun _ => undef) (n := 9) _ Ts _ _ _ (by kernel_rfl) hA (fun j t v ht hv => hval j t v (by simpa using ht) (by simpa using hv))
  obtain ⟨rfl, rfl⟩ := trodVars_none hV
  have r0 := hA
  rw [Try.params14] at r0
  obtain ⟨_, _, e0, t0, _, _, _, rfl, _, _, r1⟩ := trodAll_cons r0
  obtain ⟨_, _, e1, t1, _, _, _, rfl, _, _, r2⟩ := trodAll_cons r1
  obtain ⟨_, _, e2, t2, _, _, _, rfl, _, _, r3⟩ := trodAll_cons r2
  obtain ⟨_, _, e3, t3, _, _, _, rfl, _, _, r4⟩ := trodAll_cons r3
  obtain ⟨_, _, e4, t4, _, _, _, rfl, _, _, r5⟩ := trodAll_cons r4
  obtain ⟨_, rfl, _⟩ := trodAll_nil r5
  have hsz : ∀ n ∈ DataW.weightsEach Try.prog Try.f14.params.toList _, n ≤ reachBytes := fun n hn => of_decide_eq_true (List.all_eq_true.1 hsz n (by rw [List.append_nil]; exact hn))
  obtain rfl : args = ((leafs Ts d).map (V.val fun _ => undef)).toArray := by apply Array.toList_inj.1; rw [hd]
  refine (law_runZ c_CacheMoves W d hwk (hsm hsz)).mono fun e W' ⟨he, bel⟩ => ?_
  subst he
  obtain ⟨ps', hps⟩ := below_all laidOut bel _ _ _ _ (by kernel_rfl) hA
  exact ⟨_, rfl, _, _, _, [], _, [], hW', trodAll_mk1 (shut_bool Try.underlying4 _), hps, rfl, bel.frame _, fun h => by cases h⟩

theorem over : Rows.cacheMovesRow.holds Try.pinned (OpenSpec.ofChange Rows.cacheMovesSpec) :=
  OpenClaim.holds_of_wide 14 Try.f14 rfl rfl rfl rfl rfl rfl rfl ⟨rfl, rfl, rfl, rfl, rfl⟩ rfl rfl rfl rfl rfl (by kernel_rfl) Try.func14 (by kernel_rfl)
    (of_decide_eq_true (by kernel_rfl)) (by unfold Func.isWrapper; first | (rw [if_pos (by decide +kernel)]; kernel_rfl) | (rw [if_neg (by decide +kernel)]; exact ⟨rfl, rfl⟩))
    (fun os started H enc _ => lifted os started H enc)

end Go.Proofs.Ytjbbgpacijageaa.cacheMoves

namespace Go.Proofs.Ytjbbgpacijageaa

theorem cacheMoves_holds : Rows.CacheMovesSaid := cacheMoves.over
#print axioms cacheMoves_holds

end Go.Proofs.Ytjbbgpacijageaa
