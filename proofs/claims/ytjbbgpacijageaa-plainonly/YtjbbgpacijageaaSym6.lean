/- A function's contract out of such a walk. No program is named here. -/
import Derived.Test.YtjbbgpacijageaaSym5
namespace Go.Proofs.Ytjbbgpacijageaa
open Go.RowKit
set_option linter.unusedVariables false
set_option linter.unusedSimpArgs false

def resS (T : Tab) (f : Fr) (σ : St) : List ResultVar → Option (List LV)
  | [] => some []
  | .tmp t :: r => match look f t with
    | some (.l v) => match resS T f σ r with | some l => some (v :: l) | none => none
    | _ => none
  | .cell b t :: r => match look f b with
    | some (.ptr i off) => match nth σ i with
      | some c => match loadS T t c.1 off with
        | some v => match resS T f σ r with | some l => some (v :: l) | none => none
        | none => none
      | none => none
    | _ => none
def retV : List LV → Value
  | [x] => x.val
  | l => .tuple (l.map LV.val).toArray

section
variable {P : Program} {T : Tab} {w0 : World} {N : Nat}

def resOne (tmps : Array Value) : ResultVar → Sem Value
  | .tmp t => pure (tmps.getD t undef)
  | .cell b t => do loadVar t (← asAddr (tmps.getD b undef))

theorem resS_sound (hT : TabOk P T) {f : Fr} {σ : St} {A : Nat → Nat} {x : World} {a : Act} (hr : Real w0 [] σ A x) (hf : FR N σ.length A f a) : ∀ (rs : List ResultVar) (l : List LV), resS T f σ rs = some l →
    (rs.mapM (resOne a.tmps)).run P x = .ok (l.map LV.val) x
  | [], l, h => by cases h; simp
  | .tmp t :: r, l, h => by
    unfold resS at h
    split at h
    · rename_i v hv
      split at h
      · rename_i q hq
        cases h
        have ih := resS_sound hT hr hf r q hq
        have h1 := (hf.get t _ hv).1
        have h2 : a.tmps.getD t undef = v.val := by rw [Array.getD_eq_getD_getElem?, h1]; rfl
        rw [List.mapM_cons]
        rw [show resOne a.tmps (.tmp t) = pure v.val from by simp only [resOne, h2]]
        rw [Sem.run_bind, Sem.run_pure, Result.andThen_ok, Sem.run_bind, ih]
        rfl
      · cases h
    · cases h
  | .cell b t :: r, l, h => by
    unfold resS at h
    split at h
    · rename_i i off hv
      split at h
      · rename_i c hc
        split at h
        · rename_i v hl
          split at h
          · rename_i q hq
            cases h
            have ih := resS_sound hT hr hf r q hq
            have h1 := (hf.get b _ hv).1
            have h2 : a.tmps.getD b undef = .pointer (some ⟨A i, off, none⟩) := by rw [Array.getD_eq_getD_getElem?, h1]; rfl
            rw [nth_eq] at hc
            have hB := hr.blk i c.1 c.2 hc rfl
            rw [List.mapM_cons]
            rw [show resOne a.tmps (.cell b t) = (do loadVar t (← asAddr (.pointer (some ⟨A i, off, none⟩)))) from by simp only [resOne, h2]]
            rw [show asAddr (.pointer (some ⟨A i, off, none⟩)) = pure ⟨A i, off, none⟩ from rfl, Sem.run_bind, Sem.run_bind, Sem.run_pure, Result.andThen_ok, loadS_sound hT hl hB, Result.andThen_ok, Sem.run_bind, ih]
            rfl
          · cases h
        · cases h
      · cases h
    · cases h

theorem results_run (hT : TabOk P T) {f : Fr} {σ : St} {A : Nat → Nat} {x : World} {a : Act} (hr : Real w0 [] σ A x) (hf : FR N σ.length A f a) {fn : Func} {l : List LV} (h : resS T f σ fn.results.toList = some l) : (results fn a.tmps).run P x = .ok (retV l) x := by
  have h1 := resS_sound hT hr hf _ _ h
  have hops : fn.results = fn.results.toList.toArray := by simp
  rw [show results fn a.tmps = (do let vs ← fn.results.mapM (resOne a.tmps); pure (if h : vs.size = 1 then vs[0] else .tuple vs)) from rfl]
  rw [hops, List.mapM_toArray]
  rw [Sem.run_bind, Sem.run_map, h1]
  simp only [Result.andThen_ok, Sem.run_pure]
  match l with
  | [] => rfl
  | [v] => rfl
  | v :: u :: r => simp [retV]

def initF : List LV → Nat → Fr
  | [], _ => []
  | v :: r, k => (k, .l v) :: initF r (k + 1)
theorem initF_look : ∀ (l : List LV) (k t : Nat) (s : SV), look (initF l k) t = some s → ∃ v, s = .l v ∧ k ≤ t ∧ l[t - k]? = some v
  | [], _, _, _, h => by cases h
  | v :: r, k, t, s, h => by
    unfold initF look at h
    split at h
    · rename_i hb
      have := Nat.eq_of_beq_eq_true hb
      subst this; cases h
      exact ⟨v, rfl, Nat.le_refl _, by simp⟩
    · obtain ⟨u, h1, h2, h3⟩ := initF_look r (k + 1) t s h
      refine ⟨u, h1, by omega, ?_⟩
      have : t - k = t - (k + 1) + 1 := by omega
      rw [this]
      simpa using h3

/-- The end of a function: what it gives back. -/
def endS (T : Tab) (rs : List ResultVar) (v : Value) : Exit → Fr → St → Prop
  | .ret, f, σ => match resS T f σ rs with | some l => retV l = v | none => False
  | .normal, f, σ => match resS T f σ rs with | some l => retV l = v | none => False
  | _, _, _ => False

theorem sym_calls (hT : TabOk P T) {g : FuncId} {fn : Func} {c : Code} (hf : P.funcs[g]? = some fn) (hb : fn.body = some c) (args : List LV) (w : World) (v : Value) (hn : args.length ≤ fn.ntmps)
    (h : swp P T w fn.ntmps c (endS T fn.results.toList v) (initF args 0) []) : Calls P g (args.map LV.val).toArray w fun e w' => e = .returned v ∧ Below w.heap.size w w' := by
  refine calls_of_wp hf hb ?_
  have hR : Real w [] [] (fun _ => 0) w := ⟨fun i l t hi => by simp at hi, fun i l t hi => by simp at hi, fun i hi => by simp at hi, fun i j hi => by simp at hi, Below.refl _ _⟩
  have hF : FR fn.ntmps 0 (fun _ => 0) (initF args 0) { tmps := (args.map LV.val).toArray ++ Array.replicate (fn.ntmps - (args.map LV.val).toArray.size) undef, defers := [] } := by
    refine ⟨by simp; omega, rfl, fun t s ht => ?_⟩
    obtain ⟨u, rfl, _, hu⟩ := initF_look args 0 t s ht
    refine ⟨?_, trivial⟩
    have hlt := lt_of_get hu
    rw [Nat.sub_zero] at hu hlt
    simp only []
    rw [Array.getElem?_append_left (by simpa using hlt)]
    simp [hu, SV.val]
  refine wp_mono (swp_sound hT c _ _ _ h _ w _ hR hF) fun e a x hs => ?_
  obtain ⟨f, σ, A, hk, hr, hf'⟩ := hs
  cases e with
  | ret =>
    simp only [endS] at hk
    split at hk
    · rename_i l hl
      exact ⟨hf'.defers, _, results_run hT hr hf' hl, by rw [hk], hr.below⟩
    · exact hk.elim
  | normal =>
    simp only [endS] at hk
    split at hk
    · rename_i l hl
      exact ⟨hf'.defers, _, results_run hT hr hf' hl, by rw [hk], hr.below⟩
    · exact hk.elim
  | _ => exact hk.elim

end
end Go.Proofs.Ytjbbgpacijageaa
