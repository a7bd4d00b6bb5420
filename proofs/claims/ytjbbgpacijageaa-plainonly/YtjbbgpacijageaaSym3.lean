/- Operations and regions of a function, without worlds. No program is named here. -/
import Derived.Test.YtjbbgpacijageaaSym2
namespace Go.Proofs.Ytjbbgpacijageaa
open Go.RowKit
set_option linter.unusedVariables false
set_option linter.unusedSimpArgs false

def argsS (f : Fr) : List Operand → Option (List SV)
  | [] => some []
  | x :: r => match evS f x with
    | some v => match argsS f r with | some vs => some (v :: vs) | none => none
    | none => none
theorem argsS_sound {N n : Nat} {A : Nat → Nat} {f : Fr} {a : Act} (h : FR N n A f a) : ∀ (l : List Operand) (vs : List SV), argsS f l = some vs → l.map a.eval = vs.map (SV.val A)
  | [], vs, hl => by cases hl; rfl
  | x :: r, vs, hl => by
    unfold argsS at hl
    split at hl
    · rename_i v hv
      split at hl
      · rename_i us hu
        cases hl
        rw [List.map_cons, argsS_sound h r us hu, (evS_sound h hv).1]
        rfl
      · cases hl
    · cases hl
def partsV (f : Fr) : List (Nat × Operand) → Option (List (Nat × Value))
  | [] => some []
  | (i, x) :: r => match evS f x with
    | some (.l v) => match partsV f r with | some vs => some ((i, v.val) :: vs) | none => none
    | _ => none
theorem partsV_sound {N n : Nat} {A : Nat → Nat} {f : Fr} {a : Act} (h : FR N n A f a) : ∀ (l : List (Nat × Operand)) (vs : List (Nat × Value)), partsV f l = some vs → l.map (fun e => (e.1, a.eval e.2)) = vs
  | [], vs, hl => by cases hl; rfl
  | (i, x) :: r, vs, hl => by
    unfold partsV at hl
    split at hl
    · rename_i v hv
      split at hl
      · rename_i us hu
        cases hl
        rw [List.map_cons, partsV_sound h r us hu, (evS_sound h hv).1]
        rfl
      · cases hl
    · cases hl

/-- A truth value is taken apart. -/
def splitB (s : SV) (k : SV → Prop) : Prop :=
  match s with
  | .l (.v (.bool b)) => (b = true → k (.l (.v (.bool true)))) ∧ (b = false → k (.l (.v (.bool false))))
  | s => k s
theorem splitB_elim {s : SV} {k : SV → Prop} (h : splitB s k) : k s := by
  unfold splitB at h
  split at h
  · rename_i b
    cases b
    · exact h.2 rfl
    · exact h.1 rfl
  · exact h

/-- By hand: what the operation yields is told, and shown. -/
def byHand (P : Program) (w0 : World) (o : Oper) (f : Fr) (k : SV → Prop) : Prop :=
  ∃ v : LV, (∀ (ρ : Operand → Value) (x : World), (∀ y s, evS f y = some (.l s) → ρ y = s.val) → Below w0.heap.size w0 x → (execOp ρ o).run P x = .ok (.value v.val) x) ∧ splitB (.l v) k

/-- An operation that yields a value. -/
def sval (P : Program) (T : Tab) (w0 : World) (S : List Nat) (o : Oper) (f : Fr) (σ : St) (k : SV → Prop) : Prop :=
  match o.op with
  | .call c => match c.callee with
    | .value (.func g) => match fnL T.fn g with
      | true => match argsS f c.args.toList with
        | some vs => ∃ (r : SV) (v : Value), (∀ A n, r.val A = v ∧ r.ok n) ∧ (∀ A x, Real w0 S σ A x → Calls P g (vs.map (SV.val A)).toArray x fun e w' => e = .returned v ∧ Below x.heap.size x w') ∧ k r
        | none => False
      | false => False
    | _ => byHand P w0 o f k
  | .indexAddr t x y => match evS f x with
    | some (.ptr i off) => match arL T.ar t with
      | some (len, n) => match evS f y with
        | some (.l (.v (.int .i64 z))) => ∃ j : Nat, z = (j : Int) ∧ j < len ∧ k (match Nat.beq len 32 with | true => (match Nat.beq n 1 with | true => .pix i off j | false => .ptr i (off + j * n)) | false => .ptr i (off + j * n))
        | _ => False
      | none => False
    | _ => byHand P w0 o f k
  | .build t parts => match partsV f parts.toList with
    | some vs => ∃ l : List Seg, (∀ x : World, (Instr.build t vs.toArray).run P x = .ok (.agg (cat l)) x) ∧ k (.l (.a l))
    | none => False
  | .load t x => match evS f x with
    | some (.pix i off j) => match S.contains i with
      | true => False
      | false => match nth σ i with
        | some b => match tyL T.ty t with
          | some .sc => match memAt b.1 off with | some m => j < 32 ∧ k (.l (.v (.int .i64 (m j)))) | none => False
          | _ => False
        | none => False
    | _ => match pureS T S (.load t x) f σ with | some s => splitB s k | none => byHand P w0 o f k
  | .binOp op t x y u => match pureS T S (.binOp op t x y u) f σ with | some s => splitB s k | none => byHand P w0 o f k
  | .unOp op t x => match pureS T S (.unOp op t x) f σ with | some s => splitB s k | none => byHand P w0 o f k
  | .pick c x y => match evS f c with
    | some (.l (.v (.bool t))) => match t with
      | true => match evS f x with | some s => k s | none => False
      | false => match evS f y with | some s => k s | none => False
    | _ => False
  | op => match pureS T S op f σ with | some s => k s | none => byHand P w0 o f k

section
variable {P : Program} {T : Tab} {w0 : World} {N : Nat}

theorem byHand_sound {S : List Nat} {o : Oper} {f : Fr} {σ : St} {k : SV → Prop} (h : byHand P w0 o f k) : ∃ s, k s ∧ s.ok σ.length ∧ ∀ A x a, Real w0 S σ A x → FR N σ.length A f a → absUpon P x (s.val A) ((execOp a.eval o).run P x) := by
  obtain ⟨v, hv, hk⟩ := h
  refine ⟨.l v, splitB_elim hk, trivial, fun A x a hr hf => ?_⟩
  rw [hv a.eval x (fun y s hy => (evS_sound hf hy).1) hr.below]
  exact ⟨rfl, rfl⟩

theorem pure_sound (hT : TabOk P T) {S : List Nat} {o : Oper} {f : Fr} {σ : St} {k : SV → Prop} {s : SV} (hs : pureS T S o.op f σ = some s) (hk : k s) (hne : ∃ A x a, Real w0 S σ A x ∧ FR N σ.length A f a) :
    ∃ s, k s ∧ s.ok σ.length ∧ ∀ A x a, Real w0 S σ A x → FR N σ.length A f a → absUpon P x (s.val A) ((execOp a.eval o).run P x) := by
  obtain ⟨A, x, a, h1, h2⟩ := hne
  refine ⟨s, hk, (pureS_sound hT h1 h2 hs).2, fun A x a hr hf => ?_⟩
  rw [(pureS_sound hT hr hf hs).1]
  exact ⟨rfl, rfl⟩

theorem callFunc_run {g : Nat} (h : fnB P g = true) (args : Array Value) (x : World) : (callFunc g args).run P x = .ok (.enter g args) x := by
  unfold fnB at h
  split at h
  · rename_i fn hfn
    rw [Bool.and_eq_true, Bool.not_eq_true'] at h
    have h1 : ¬ fn.name = "runtime.NumGoroutine" := by simpa using h.1
    have h2 : ¬ fn.body = none := fun hb => by rw [hb] at h; simp at h
    unfold callFunc
    simp [go_sem, hfn, h1, h2]
  · cases h

theorem sval_sound (hT : TabOk P T) {S : List Nat} {o : Oper} {f : Fr} {σ : St} {k : SV → Prop} (h : sval P T w0 S o f σ k) (hne : ∃ A x a, Real w0 S σ A x ∧ FR N σ.length A f a) :
    ∃ s, k s ∧ s.ok σ.length ∧ ∀ A x a, Real w0 S σ A x → FR N σ.length A f a → absUpon P x (s.val A) ((execOp a.eval o).run P x) := by
  have hne' := hne
  obtain ⟨A0, x0, a0, hr0, hf0⟩ := hne
  unfold sval at h
  split at h
  · rename_i c ho
    split at h
    · rename_i g hc
      split at h
      · rename_i hg
        split at h
        · rename_i vs hvs
          obtain ⟨r, v, hrv, hcl, hk⟩ := h
          refine ⟨r, hk, (hrv A0 _).2, fun A x a hr hf => ?_⟩
          have hb : fnB P g = true := List.all_eq_true.1 hT.fn _ (fnL_mem _ _ hg)
          have ha := argsS_sound hf _ _ hvs
          have hargs : c.args.map a.eval = (vs.map (SV.val A)).toArray := by
            apply Array.toList_inj.1
            rw [Array.toList_map, ha]
          have hx : (execOp a.eval o).run P x = .ok (.enter g (vs.map (SV.val A)).toArray) x := by
            unfold execOp
            simp only [ho, resolve, hc, Act.eval, hargs, Deferred.ofValue, Sem.run_bind, Sem.run_pure, Result.andThen_ok, invoke]
            simp [callFunc_run hb]
          rw [hx, (hrv A 0).1]
          exact ⟨rfl, hcl A x hr⟩
        · exact h.elim
      · exact h.elim
    · exact byHand_sound h
  · rename_i t x y ho
    split at h
    · rename_i i off hx
      split at h
      · rename_i len n har
        split at h
        · rename_i z hy
          obtain ⟨j, rfl, hj, hk⟩ := h
          have hA := List.all_eq_true.1 hT.ar _ (arL_mem _ _ _ har)
          have hok := (evS_sound hf0 hx).2
          have hrun : ∀ A x a, Real w0 S σ A x → FR N σ.length A f a → (execOp a.eval o).run P x = .ok (.value (.pointer (some ⟨A i, off + j * n, none⟩))) x := fun A x a hr hf => by
            obtain ⟨h1, _⟩ := evS_sound hf hx
            obtain ⟨h2, _⟩ := evS_sound hf hy
            simp only [arB] at hA
            split at hA
            · rename_i l e hu
              rw [Bool.and_eq_true, beq_iff_eq] at hA
              obtain ⟨hl, hs⟩ := hA
              subst hl
              cases hi : P.info? e with
              | none => rw [hi] at hs; simp at hs
              | some inf =>
                have hsz : inf.size = n := by simpa [hi] using hs
                unfold execOp
                simp only [ho, h1, h2, SV.val, LV.val, Instr.indexAt, asIntOf, Sem.run_bind, Sem.run_pure, Result.andThen_ok, run_underlying hu, Instr.sureAddr]
                have hj0 : (0 : Int) ≤ (j : Int) ∧ (j : Int) < (l : Int) := ⟨by omega, by omega⟩
                rw [if_pos hj0]
                simp [sizeOf, typeInfo, hi, hsz, Addr.add]
                try (
                  by_cases h0 : j * n = 0
                  · rcases Nat.mul_eq_zero.1 h0 with h' | h' <;> simp [h']
                  · have : ¬ (j = 0 ∨ n = 0) := fun h' => h0 (by rcases h' with h' | h' <;> simp [h'])
                    simp [this])
            · cases hA
          by_cases h32 : Nat.beq len 32 = true ∧ Nat.beq n 1 = true
          · have hn := Nat.eq_of_beq_eq_true h32.2
            rw [h32.1, h32.2] at hk
            refine ⟨_, hk, hok, fun A x a hr hf => ?_⟩
            rw [hrun A x a hr hf, hn, Nat.mul_one]
            exact ⟨rfl, rfl⟩
          · have hk' : k (.ptr i (off + j * n)) := by
              cases h1 : Nat.beq len 32
              · rw [h1] at hk; exact hk
              · cases h2 : Nat.beq n 1
                · rw [h1, h2] at hk; exact hk
                · exact absurd ⟨h1, h2⟩ h32
            refine ⟨_, hk', hok, fun A x a hr hf => ?_⟩
            rw [hrun A x a hr hf]
            exact ⟨rfl, rfl⟩
        · exact h.elim
      · exact h.elim
    · exact byHand_sound h
  · rename_i t parts ho
    split at h
    · rename_i vs hvs
      obtain ⟨l, hl, hk⟩ := h
      refine ⟨_, hk, trivial, fun A x a hr hf => ?_⟩
      have ha := partsV_sound hf _ _ hvs
      have hp : (parts.map fun e => (e.1, a.eval e.2)) = vs.toArray := by
        apply Array.toList_inj.1
        rw [Array.toList_map, ha]
      have hx : (execOp a.eval o).run P x = .ok (.value (.agg (cat l))) x := by
        unfold execOp
        simp only [ho, Sem.run_bind]
        rw [show (parts.map fun (i, x) => (i, a.eval x)) = vs.toArray from hp, hl]
        rfl
      rw [hx]
      exact ⟨rfl, rfl⟩
    · exact h.elim
  · rename_i t y ho
    split at h
    · rename_i i off j hy
      split at h
      · exact h.elim
      · rename_i hS
        split at h
        · rename_i b hb
          split at h
          · rename_i ht
            split at h
            · rename_i m hm
              obtain ⟨hj, hk⟩ := h
              refine ⟨_, hk, trivial, fun A x a hr hf => ?_⟩
              rw [nth_eq] at hb
              have hB := hr.blk i b.1 b.2 hb hS
              have h1 := (evS_sound hf hy).1
              have hx : (execOp a.eval o).run P x = .ok (.value (.int .i64 (m j))) x := by
                unfold execOp
                simp only [ho, h1, SV.val, Instr.loadAt, Instr.sureAddr, Sem.run_bind, Sem.run_pure, Result.andThen_ok, loadVar_sc hB (hT.sc ht) (memAt_cat hm hj)]
              rw [hx]
              exact ⟨rfl, rfl⟩
            · exact h.elim
          · exact h.elim
        · exact h.elim
    · split at h
      · rename_i s hs
        exact pure_sound hT (by rw [ho]; exact hs) (splitB_elim h) hne'
      · exact byHand_sound h
  · rename_i op t y z u ho
    split at h
    · rename_i s hs
      exact pure_sound hT (by rw [ho]; exact hs) (splitB_elim h) hne'
    · exact byHand_sound h
  · rename_i op t y ho
    split at h
    · rename_i s hs
      exact pure_sound hT (by rw [ho]; exact hs) (splitB_elim h) hne'
    · exact byHand_sound h
  · rename_i c y z ho
    split at h
    · rename_i t hc
      have hpick : ∀ (q : Operand) (s : SV), evS f q = some s → k s → (∀ a : Act, (if t = true then a.eval y else a.eval z) = a.eval q) → ∃ s, k s ∧ s.ok σ.length ∧ ∀ A x a, Real w0 S σ A x → FR N σ.length A f a → absUpon P x (s.val A) ((execOp a.eval o).run P x) := fun q s hq hk hpq => by
        refine ⟨s, hk, (evS_sound hf0 hq).2, fun A x a hr hf => ?_⟩
        have h1 := (evS_sound hf hc).1
        have hx : (execOp a.eval o).run P x = .ok (.value (s.val A)) x := by
          rw [show SV.val A (.l (.v (.bool t))) = .bool t from rfl] at h1
          unfold execOp
          simp only [ho, h1, asBool, Sem.run_bind, Sem.run_pure, Result.andThen_ok]
          rw [hpq a, (evS_sound hf hq).1]
        rw [hx]
        exact ⟨rfl, rfl⟩
      cases t with
      | true =>
        have h1 := h
        simp only at h1
        split at h1
        · rename_i s hs
          exact hpick y s hs h1 (fun a => if_pos rfl)
        · exact h1.elim
      | false =>
        have h1 := h
        simp only at h1
        split at h1
        · rename_i s hs
          exact hpick z s hs h1 (fun a => if_neg (by simp))
        · exact h1.elim
    · exact h.elim
  · split at h
    · rename_i s hs
      exact pure_sound hT hs h hne'
    · exact byHand_sound h

end
end Go.Proofs.Ytjbbgpacijageaa
