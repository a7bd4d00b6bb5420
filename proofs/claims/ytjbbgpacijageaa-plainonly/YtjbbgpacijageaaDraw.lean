/- Regions that draw their order, without worlds. No program is named here. -/
import Derived.Test.YtjbbgpacijageaaSym4
import Derived.Test.YtjbbgpacijageaaAbs3
namespace Go.Proofs.Ytjbbgpacijageaa
open Go.RowKit
set_option linter.unusedVariables false
set_option linter.unusedSimpArgs false

/-- The stores of a region: a block, the operation that stores into it. -/
def opOf : List (Nat × Nat) → Nat → Option Nat
  | [], _ => none
  | (i', s) :: r, i => match Nat.beq i i' with | true => some s | false => opOf r i
/-- Which operation may look at which of these blocks. -/
def visB : List (Nat × Nat) → Nat → Nat → Bool
  | [], _, _ => false
  | (j', i') :: r, j, i => match Nat.beq j j' && Nat.beq i i' with | true => true | false => visB r j i
def hidOf (vis : List (Nat × Nat)) (j : Nat) : List (Nat × Nat) → List Nat
  | [] => []
  | (i, _) :: r => match visB vis j i with | true => hidOf vis j r | false => i :: hidOf vis j r
def okVis (ops : List Oper) (SS vis : List (Nat × Nat)) : Bool :=
  vis.all fun e => match opOf SS e.2 with
    | some s => s == e.1 || (decide (s < e.1) && waitsB ops e.1 s) || (decide (e.1 < s) && waitsB ops s e.1)
    | none => true

theorem visB_mem : ∀ (vis : List (Nat × Nat)) (j i : Nat), visB vis j i = true → (j, i) ∈ vis
  | [], _, _, h => by cases h
  | (j', i') :: r, j, i, h => by
    unfold visB at h
    split at h
    · rename_i hb
      rw [Bool.and_eq_true] at hb
      have h1 := Nat.eq_of_beq_eq_true hb.1
      have h2 := Nat.eq_of_beq_eq_true hb.2
      subst h1; subst h2; simp
    · exact List.mem_cons_of_mem _ (visB_mem r j i h)
theorem hid_vis (vis : List (Nat × Nat)) (j : Nat) : ∀ (SS : List (Nat × Nat)) (i s : Nat), opOf SS i = some s → (hidOf vis j SS).contains i = false → visB vis j i = true
  | [], _, _, h, _ => by cases h
  | (i', s') :: r, i, s, h, hc => by
    unfold opOf at h
    unfold hidOf at hc
    split at h
    · rename_i hb
      have := Nat.eq_of_beq_eq_true hb
      subst this
      split at hc
      · rename_i hv; exact hv
      · simp at hc
    · split at hc
      · exact hid_vis vis j r i s h hc
      · refine hid_vis vis j r i s h ?_
        simp at hc ⊢
        exact hc.2

def sdraw (P : Program) (T : Tab) (w0 : World) (N : Nat) (SS vis : List (Nat × Nat)) (ops : Array Oper) : List Oper → Nat → (Fr → St → Prop) → Fr → St → Prop
  | [], _, K, f, σ => K f σ
  | o :: r, j, K, f, σ => guardS ops o.guard f
      (match o.op with
        | .store t x y => match evS f x with
          | some (.ptr i off) => match evS f y with
            | some (.l v) => match v.segs with
              | some l => match fits T t v l with
                | true => match opOf SS i with
                  | some s => match Nat.beq s j with
                    | true => match nth σ i with
                      | some b => match visB vis j i with
                        | true => match putS b.1 off l with
                          | some l' => forceS (setN σ i l') (fun σ' => putF N o.dst (.l (.v undef)) f (fun f' => sdraw P T w0 N SS vis ops r (j + 1) K f' σ'))
                          | none => False
                        | false => match Nat.beq off 0 && Nat.beq (sz l) (sz b.1) with
                          | true => forceS (setN σ i l) (fun σ' => putF N o.dst (.l (.v undef)) f (fun f' => sdraw P T w0 N SS vis ops r (j + 1) K f' σ'))
                          | false => False
                      | none => False
                    | false => False
                  | none => False
                | false => False
              | none => False
            | _ => False
          | _ => False
        | _ => sval P T w0 (hidOf vis j SS) o f σ (fun s => putF N o.dst s f (fun f' => sdraw P T w0 N SS vis ops r (j + 1) K f' σ)))
      (putF N o.dst (.l (.v undef)) f (fun f' => sdraw P T w0 N SS vis ops r (j + 1) K f' σ))

theorem guard_all {N n : Nat} {A : Nat → Nat} {ops : Array Oper} {o : Oper} {f : Fr} {yes no : Prop} (h : guardS ops o.guard f yes no) :
    ((∀ a, FR N n A f a → Region.wanted o (yielded ops a.tmps) = true) ∧ yes) ∨ ((∀ a, FR N n A f a → Region.wanted o (yielded ops a.tmps) = false) ∧ no) := by
  by_cases hy : ∃ a, FR N n A f a ∧ Region.wanted o (yielded ops a.tmps) = true ∧ yes
  · obtain ⟨a, hf, hw, hyes⟩ := hy
    refine Or.inl ⟨fun a' hf' => ?_, hyes⟩
    unfold guardS at h
    split at h
    · rename_i hg; unfold Region.wanted; rw [hg]
    · rename_i j want hg
      split at h
      · rename_i t ht
        have key : ∀ a, FR N n A f a → ∀ s, look f t = some s → Region.wanted o (yielded ops a.tmps) = (match s.val A with | .bool b => b == want | _ => false) := fun a hf s hs => by
          have h1 := (hf.get t _ hs).1
          have hy' : yielded ops a.tmps j = (match s.val A with | .bool b => some b | _ => none) := by
            unfold yielded
            rw [ht]
            simp only [Option.bind_some, h1]
            cases s.val A <;> rfl
          unfold Region.wanted
          rw [hg]
          simp only [hy']
          cases s.val A <;> simp
        cases hl : look f t with
        | none => rw [hl] at h; exact h.elim
        | some s => rw [key a' hf' s hl, ← key a hf s hl]; exact hw
      · exact h.elim
  · by_cases hne : ∃ a, FR N n A f a
    · obtain ⟨a, hf⟩ := hne
      rcases guard_sound h hf with ⟨hw, hyes⟩ | ⟨hw, hno⟩
      · exact absurd ⟨a, hf, hw, hyes⟩ hy
      · refine Or.inr ⟨fun a' hf' => ?_, hno⟩
        rcases guard_sound h hf' with ⟨hw', hyes⟩ | ⟨hw', _⟩
        · exact absurd ⟨a', hf', hw', hyes⟩ hy
        · exact hw'
    · have hcase : yes ∨ no := by
        unfold guardS at h
        split at h
        · exact Or.inl h
        · rename_i j want hg
          split at h
          · split at h
            · rename_i b hb
              cases b <;> cases want <;> simp_all
            · exact Or.inr h
            · exact h.elim
          · exact h.elim
      rcases hcase with h1 | h1
      · exact Or.inl ⟨fun a hf => absurd ⟨a, hf⟩ hne, h1⟩
      · exact Or.inr ⟨fun a hf => absurd ⟨a, hf⟩ hne, h1⟩

abbrev Fx := List (SV × Option (Nat × List Seg))
def updS (σ : St) : Option (Nat × List Seg) → St
  | some (i, l) => setN σ i l
  | none => σ

section
variable {P : Program} {T : Tab} {w0 : World} {N : Nat}

/-- What an operation does, in the order of the text. -/
def Fact (P : Program) (w0 : World) (N : Nat) (hid : List Nat) (ops : Array Oper) (o : Oper) (f : Fr) (σ : St) (A : Nat → Nat) (s : SV) (u : Option (Nat × List Seg)) : Prop :=
  ((∀ a, FR N σ.length A f a → Region.wanted o (yielded ops a.tmps) = true) ∧ ((u = none ∧ ∀ a x, FR N σ.length A f a → Real w0 hid σ A x → absUpon P x (s.val A) ((execOp a.eval o).run P x)) ∨
    ∃ i l, u = some (i, l) ∧ s = .l (.v undef) ∧ ∀ a x, FR N σ.length A f a → Real w0 hid σ A x → (execOp a.eval o).run P x = .ok .skip (putB x (A i) (cat l)))) ∨
  ((∀ a, FR N σ.length A f a → Region.wanted o (yielded ops a.tmps) = false) ∧ s = .l (.v undef) ∧ u = none)

def Wk (P : Program) (w0 : World) (N : Nat) (A : Nat → Nat) (SS vis : List (Nat × Nat)) (ops : Array Oper) : List Oper → Nat → Fr → St → Fx → Fr → St → Prop
  | [], _, f, σ, [], f1, σ1 => f1 = f ∧ σ1 = σ
  | o :: r, j, f, σ, (s, u) :: fx, f1, σ1 => Fact P w0 N (hidOf vis j SS) ops o f σ A s u ∧ (∀ i l, u = some (i, l) → opOf SS i = some j ∧ ∃ b, σ[i]? = some b ∧ sz l = sz b.1) ∧
      ∃ f', (∀ a, FR N σ.length A f a → FR N σ.length A f' (a.put o.dst (s.val A))) ∧ Wk P w0 N A SS vis ops r (j + 1) f' (updS σ u) fx f1 σ1
  | _, _, _, _, _, _, _ => False

theorem putF_all {d : Option Tmp} {s : SV} {f : Fr} {k : Fr → Prop} (h : putF N d s f k) {n : Nat} {A : Nat → Nat} (hs : s.ok n) : ∃ f', k f' ∧ ∀ a, FR N n A f a → FR N n A f' (a.put d (s.val A)) := by
  unfold putF at h
  split at h
  · split at h
    · rename_i hd
      exact ⟨_, h, fun a hf => hf.put (Nat.le_of_ble_eq_true hd) hs⟩
    · exact h.elim
  · exact ⟨f, h, fun a hf => hf⟩

theorem updS_len (σ : St) (u : Option (Nat × List Seg)) : (updS σ u).length = σ.length := by
  cases u with
  | none => rfl
  | some e => exact setN_len _ _ _

theorem walk_of (hT : TabOk P T) {SS vis : List (Nat × Nat)} {ops : Array Oper} {A : Nat → Nat} {K : Fr → St → Prop} : ∀ (l : List Oper) (j : Nat) (f : Fr) (σ : St), sdraw P T w0 N SS vis ops l j K f σ → (∃ x, Real w0 [] σ A x) → (∃ a, FR N σ.length A f a) →
    ∃ fx f1 σ1, Wk P w0 N A SS vis ops l j f σ fx f1 σ1 ∧ K f1 σ1
  | [], j, f, σ, h, _, _ => ⟨[], f, σ, ⟨rfl, rfl⟩, h⟩
  | o :: r, j, f, σ, h, ⟨x0, hx0⟩, ⟨a0, ha0⟩ => by
    have hsame : ∀ (f' : Fr), (∀ a, FR N σ.length A f a → FR N σ.length A f' (a.put o.dst undef)) → sdraw P T w0 N SS vis ops r (j + 1) K f' σ → (∀ a, FR N σ.length A f a → Region.wanted o (yielded ops a.tmps) = false) →
        ∃ fx f1 σ1, Wk P w0 N A SS vis ops (o :: r) j f σ fx f1 σ1 ∧ K f1 σ1 := fun f' hf' hk hw => by
      obtain ⟨fx, f1, σ1, hwk, hK⟩ := walk_of hT r (j + 1) f' σ hk ⟨x0, hx0⟩ ⟨_, hf' a0 ha0⟩
      exact ⟨(.l (.v undef), none) :: fx, f1, σ1, ⟨Or.inr ⟨hw, rfl, rfl⟩, (fun _ _ h => by cases h), f', hf', hwk⟩, hK⟩
    unfold sdraw at h
    rcases guard_all (N := N) (n := σ.length) (A := A) h with ⟨hw, hy⟩ | ⟨hw, hno⟩
    · have hstore : ∀ (t : TypeId) (y z : Operand) (i off : Nat) (v : LV) (q l' : List Seg) (b : List Seg × TypeId), o.op = .store t y z → evS f y = some (.ptr i off) → evS f z = some (.l v) → v.segs = some q → fits T t v q = true → opOf SS i = some j → σ[i]? = some b → sz l' = sz b.1 →
          (∀ x, Real w0 (hidOf vis j SS) σ A x → (storeVar t ⟨A i, off, none⟩ v.val).run P x = .ok () (putB x (A i) (cat l'))) →
          putF N o.dst (.l (.v undef)) f (fun f' => sdraw P T w0 N SS vis ops r (j + 1) K f' (setN σ i l')) → ∃ fx f1 σ1, Wk P w0 N A SS vis ops (o :: r) j f σ fx f1 σ1 ∧ K f1 σ1 := fun t y z i off v q l' b ho hy hz hq hfit hop hb hsz hrun hk => by
        obtain ⟨f', hk', hf'⟩ := putF_all (n := σ.length) (A := A) hk trivial
        obtain ⟨fx, f1, σ1, hwk, hK⟩ := walk_of hT r (j + 1) f' (setN σ i l') hk' ⟨_, hx0.put hb hsz⟩ ⟨_, by rw [setN_len]; exact hf' a0 ha0⟩
        refine ⟨(.l (.v undef), some (i, l')) :: fx, f1, σ1, ⟨Or.inl ⟨hw, Or.inr ⟨i, l', rfl, rfl, fun a x hf hx => ?_⟩⟩, ?_, f', hf', hwk⟩, hK⟩
        · have h1 := (evS_sound hf hy).1
          have h2 := (evS_sound hf hz).1
          unfold execOp
          simp only [ho, h1, h2, SV.val, Instr.storeAt, Instr.sureAddr, Sem.run_bind, Sem.run_pure, Result.andThen_ok, hrun x hx]
        · intro i' l'' he
          cases he
          exact ⟨hop, b, hb, hsz⟩
      split at hy
      · rename_i t y z ho
        split at hy
        · rename_i i off hi
          split at hy
          · rename_i v hv
            split at hy
            · rename_i q hq
              split at hy
              · rename_i hfit
                split at hy
                · rename_i s hop
                  split at hy
                  · rename_i hsj
                    have hsj' := Nat.eq_of_beq_eq_true hsj
                    subst hsj'
                    split at hy
                    · rename_i b hb
                      rw [nth_eq] at hb
                      split at hy
                      · rename_i hvis
                        split at hy
                        · rename_i l' hp
                          refine hstore t y z i off v q l' b ho hi hv hq hfit hop hb (putS_size hp) (fun x hx => ?_) (forceS_elim _ _ hy)
                          have hnot : (hidOf vis s SS).contains i = false := by
                            have hn : ∀ SS : List (Nat × Nat), (hidOf vis s SS).contains i = false := fun SS => by
                              induction SS with
                              | nil => rfl
                              | cons e r ih =>
                                unfold hidOf
                                split
                                · exact ih
                                · rename_i hv'
                                  have hne : e.1 ≠ i := fun he => by rw [he, hvis] at hv'; cases hv'
                                  rw [List.contains_cons, ih]
                                  simp [Ne.symm hne]
                            exact hn SS
                          exact store_run hT hq hfit hp (hx.blk i b.1 b.2 hb hnot)
                        · exact hy.elim
                      · split at hy
                        · rename_i hc
                          rw [Bool.and_eq_true] at hc
                          have h0 := Nat.eq_of_beq_eq_true hc.1
                          have hz := Nat.eq_of_beq_eq_true hc.2
                          subst h0
                          refine hstore t y z i 0 v q q b ho hi hv hq hfit hop hb hz (fun x hx => ?_) (forceS_elim _ _ hy)
                          obtain ⟨C, hC, hCs⟩ := hx.hid i b.1 b.2 hb
                          have hrun := store_runC hT hq hfit (off := 0) (by omega) hC
                          rw [sets_all (by rw [cat_size]; omega)] at hrun
                          exact hrun
                        · exact hy.elim
                    · exact hy.elim
                  · exact hy.elim
                · exact hy.elim
              · exact hy.elim
            · exact hy.elim
          · exact hy.elim
        · exact hy.elim
      · obtain ⟨s, hk, hs, hx⟩ := sval_sound hT hy ⟨A, x0, a0, hx0.hide _, ha0⟩
        obtain ⟨f', hk', hf'⟩ := putF_all (n := σ.length) (A := A) hk hs
        obtain ⟨fx, f1, σ1, hwk, hK⟩ := walk_of hT r (j + 1) f' σ hk' ⟨x0, hx0⟩ ⟨_, hf' a0 ha0⟩
        exact ⟨(s, none) :: fx, f1, σ1, ⟨Or.inl ⟨hw, Or.inl ⟨rfl, fun a x hf hr => hx A x a hr hf⟩⟩, (fun _ _ h => by cases h), f', hf', hwk⟩, hK⟩
    · obtain ⟨f', hk', hf'⟩ := putF_all (n := σ.length) (A := A) hno trivial
      exact hsame f' hf' hk' hw

end
end Go.Proofs.Ytjbbgpacijageaa
