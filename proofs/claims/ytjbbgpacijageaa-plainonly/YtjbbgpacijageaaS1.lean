/- goodMemory: a loop over a memory. -/
import Derived.Test.YtjbbgpacijageaaMem
import Derived.Test.YtjbbgpacijageaaL2
namespace Go.Proofs.Ytjbbgpacijageaa
open Go.RowKit
set_option linter.unusedSimpArgs false
set_option linter.unusedVariables false
attribute [local go_sem] Up.c1_0 Up.z1_0

theorem row43 : rowB Try.prog 43 32 = true := by kernel_rfl
theorem row25 : rowB Try.prog 25 10 = true := by kernel_rfl
theorem row27 : rowB Try.prog 27 5 = true := by kernel_rfl

theorem index_mc (m : Nat → Int) (k : Nat) (h : k < 32) (w : World) : (Instr.index 43 (.agg (mc m)) (.int .i64 (k : Int))).run Try.prog w = .ok (.int .i64 (m k)) w := by
  obtain ⟨i, hi⟩ : ∃ i, Try.prog.info? 3 = some i := info_of_underlying Try.underlying3
  have hsz : i.size = 1 := by
    have h : (Try.prog.info? 3).map (·.size) = some 1 := by kernel_rfl
    simpa [hi] using h
  have h0 : (0 : Int) ≤ (k : Int) ∧ (k : Int) < ((32 : Nat) : Int) := by omega
  simp [Instr.index, asIntOf, run_underlying Try.underlying43, sizeOf, typeInfo, hi, hsz, part, isAgg, run_underlying Try.underlying3, mc_get m h]
  omega

theorem goodM_to (m : Nat → Int) (k : Nat) : (List.range (k + 1)).all (fun k => isW (m k)) = ((List.range k).all (fun k => isW (m k)) && isW (m k)) := by
  rw [List.range_succ, List.all_append]
  simp

set_option maxHeartbeats 1000000 in
theorem c_goodMemory (m : Nat → Int) (w : World) :
    Calls Try.prog 75 #[.agg (mc m)] w fun e w' => e = .returned (.bool (goodM m)) ∧ Below w.heap.size w w' := by
  go_enter Try.func75, Try.ntmps75
  go_wp2_with (first | (refine wpl_value (v := .agg (mc m)) (by rfl) (exec_load (by rfl) (by rfl) row43 (HB.new _ _ _) (mc_size m)) ?_))
  go_loop [3, 7] (fun ok c => ∃ k : Nat, k ≤ 32 ∧ c = .int .i64 k ∧ ok = .bool ((List.range k).all (fun k => isW (m k)))) (fun _ c => 32 - (intOf c).toNat)
  case atStart => exact ⟨0, by omega, rfl, rfl⟩
  case round =>
    obtain ⟨k, hk, rfl, rfl⟩ := hrel
    have HG : Hid ((List.range (k + 1)).all (fun k => isW (m k)) = ((List.range k).all (fun k => isW (m k)) && isW (m k))) := goodM_to m k
    by_cases hlt : k < 32
    · have hix := index_mc m k hlt
      have hlt' : (k : Int) < 32 := by omega
      cases hb : (List.range k).all (fun k => isW (m k))
      · go_wp2_with (go_at_call 68; refine (c_refWord _ _).mono ?_; rintro e w' ⟨rfl, rfl⟩)
        go_round
        case rel => exact ⟨k + 1, by omega, by go_num, by rw [HG.out, hb]; rfl⟩
        case measure => simp [intOf]; omega
      · go_wp2_with (go_at_call 68; refine (c_refWord _ _).mono ?_; rintro e w' ⟨rfl, rfl⟩)
        go_round
        case rel => exact ⟨k + 1, by omega, by go_num, by rw [HG.out, hb]; rfl⟩
        case measure => simp [intOf]; omega
    · obtain ⟨g, hg⟩ : ∃ g, (List.range k).all (fun k => isW (m k)) = g := ⟨_, rfl⟩
      have HE : Hid (g = goodM m) := by
        have hk32 : k = 32 := by omega
        subst hk32
        exact hg.symm
      rw [hg]
      clear hg HG
      go_wp2_with fail
      go_ret
      exact ⟨by rw [← HE.out]; rfl, by go_grown⟩

end Go.Proofs.Ytjbbgpacijageaa
