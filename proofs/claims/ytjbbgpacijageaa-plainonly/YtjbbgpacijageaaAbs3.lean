/- A region that draws its order: one walk in the order of the text serves every order, also where a slot is read ahead of its being written, and a block ahead of a store into it. No program is named here. -/
import Derived.Test.YtjbbgpacijageaaAbs
namespace Go.Proofs.Ytjbbgpacijageaa
open Go.RowKit
set_option linter.unusedVariables false

def waitsB (ops : List Oper) (k i : Nat) : Bool :=
  match ops[k]? with
  | some o => o.after.toList.any fun e => Region.binds .any e && e.on == i
  | none => false

def okRegion3 (ops : List Oper) : Bool :=
  Region.noSelect ops.toArray && (List.range ops.length).all fun i =>
    match ops[i]? with
    | none => true
    | some o =>
      o.after.toList.all (fun e => !Region.binds .any e || decide (e.on < i)) &&
      (List.range ops.length).all fun k =>
        match dstOf ops k with
        | none => true
        | some d => (k == i || o.dst != some d) && (!(o.looksAt ops.toArray).contains d || k == i || (decide (k < i) && waitsB ops i k) || (decide (i < k) && waitsB ops k i))

section
variable {P : Program} {ops : List Oper} {Q : Exit → Act → World → Prop}

theorem waitsB_spec {k i : Nat} (h : waitsB ops k i = true) : ∃ o e, ops[k]? = some o ∧ e ∈ o.after ∧ Region.binds .any e = true ∧ e.on = i := by
  unfold waitsB at h
  split at h
  · rename_i o ho
    simp only [List.any_eq_true, Bool.and_eq_true, beq_iff_eq] at h
    obtain ⟨e, he, hb, hon⟩ := h
    exact ⟨o, e, ho, by simpa using he, hb, hon⟩
  · cases h
theorem waitsB_of {k : Nat} {o : Oper} {e : Edge} (ho : ops[k]? = some o) (he : e ∈ o.after) (hb : Region.binds .any e = true) : waitsB ops k e.on = true := by
  unfold waitsB
  rw [ho]
  simp only [List.any_eq_true, Bool.and_eq_true, beq_iff_eq]
  exact ⟨e, by simpa using he, hb, rfl⟩

theorem ok3_edges {i : Nat} {o : Oper} (h : okRegion3 ops = true) (ho : ops[i]? = some o) : ∀ e ∈ o.after, Region.binds .any e = true → e.on < i := by
  simp only [okRegion3, Bool.and_eq_true, List.all_eq_true, List.mem_range] at h
  have hi : i < ops.length := (List.getElem?_eq_some_iff.1 ho).1
  have h1 := h.2 i hi
  rw [ho] at h1
  simp only [Bool.and_eq_true, List.all_eq_true, Bool.or_eq_true, Bool.not_eq_true', decide_eq_true_iff] at h1
  intro e he hb
  rcases h1.1 e (by simpa using he) with h2 | h2
  · rw [hb] at h2; cases h2
  · exact h2

theorem ok3_slots {i k d : Nat} {o : Oper} (h : okRegion3 ops = true) (ho : ops[i]? = some o) (hk : dstOf ops k = some d) :
    (k ≠ i → o.dst ≠ some d) ∧ (d ∈ o.looksAt ops.toArray → k = i ∨ (k < i ∧ waitsB ops i k = true) ∨ (i < k ∧ waitsB ops k i = true)) := by
  simp only [okRegion3, Bool.and_eq_true, List.all_eq_true, List.mem_range] at h
  have hi : i < ops.length := (List.getElem?_eq_some_iff.1 ho).1
  have hk' : k < ops.length := by
    rcases Nat.lt_or_ge k ops.length with h' | h'
    · exact h'
    · simp [dstOf, List.getElem?_eq_none h'] at hk
  have h1 := h.2 i hi
  rw [ho] at h1
  simp only [Bool.and_eq_true, List.all_eq_true, List.mem_range] at h1
  have h2 := h1.2 k hk'
  rw [hk] at h2
  simp only [Bool.and_eq_true, Bool.or_eq_true, beq_iff_eq, bne_iff_ne, ne_eq, Bool.not_eq_true', decide_eq_true_iff] at h2
  refine ⟨fun hne => ?_, fun hd => ?_⟩
  · rcases h2.1 with h3 | h3
    · exact absurd h3 hne
    · exact h3
  · rcases h2.2 with ((h3 | h3) | h3) | h3
    · have : (o.looksAt ops.toArray).contains d = true := by simpa using hd
      rw [this] at h3; cases h3
    · exact Or.inl h3
    · exact Or.inr (Or.inl h3)
    · exact Or.inr (Or.inr h3)

/-- When operation i may go, what is done. -/
structure Adm (ops : List Oper) (i : Nat) (D : Nat → Bool) : Prop where
  un : D i = false
  ahead : ∀ k, waitsB ops i k = true → D k = true
  behind : ∀ k, waitsB ops k i = true → D k = false

def upon3 (P : Program) (v : Value) (I : World → Prop) : Result Next → Prop
  | .ok (.value u) x => u = v ∧ I x
  | .ok .skip x => v = undef ∧ I x
  | .ok (.enter g args) x => Calls P g args x fun e x' => e = .returned v ∧ I x'
  | _ => False
def setD (D : Nat → Bool) (i : Nat) : Nat → Bool := fun k => k == i || D k
def lexF (ops : List Oper) (es : List Eff) (j : Nat) (a0 : Act) : Act := foldP ops es (fun k => decide (k < j)) (List.range ops.length) a0

theorem ok3_dis (hok : okRegion3 ops = true) : ∀ (i : Nat) (o : Oper), ops[i]? = some o → ∀ k, k ≠ i → ∀ d, dstOf ops i = some d → dstOf ops k ≠ some d := fun i o ho k hk d hd hkd => by
  have h1 := (ok3_slots hok ho hkd).1 hk
  apply h1
  simpa [dstOf, ho] using hd
theorem lexF_succ {es : List Eff} {a0 : Act} (hok : okRegion3 ops = true) {j : Nat} {o : Oper} {e : Eff} (ho : ops[j]? = some o) (he : es[j]? = some e) : lexF ops es (j + 1) a0 = (lexF ops es j a0).put o.dst e.1 := by
  have hj : j < ops.length := (List.getElem?_eq_some_iff.1 ho).1
  have := foldP_set (ops := ops) (es := es) (F := fun k => decide (k < j)) (G := fun k => decide (k < j + 1)) (i := j) (by simp) (by simp) (fun k hk => by
    have : (k < j) ↔ (k < j + 1) := by omega
    simp [this]) (List.range ops.length) a0 List.nodup_range (by simpa using hj) (fun k _ hk => ok3_dis hok j o ho k hk)
  unfold lexF
  rw [← this]
  simp [dstOf, valOf, ho, he]
theorem lexF_zero {es : List Eff} {a0 : Act} : lexF ops es 0 a0 = a0 := foldP_none _ _ (fun k _ => by simp)

theorem wp_region_abs3 {Inv : (Nat → Bool) → World → Prop} {id : Nat} {a0 : Act} {w0 : World} (hm : P.follows .mixedOrders = true) (hok : okRegion3 ops = true) (es : List Eff) (hl : es.length = ops.length)
    (h0 : Inv (fun _ => false) { w0 with drawn := w0.drawn + 1 })
    (hstep : ∀ (i : Nat) (o : Oper) (e : Eff), ops[i]? = some o → es[i]? = some e → ∀ D x, Adm ops i D → Inv D x →
      if Region.wanted o (yielded ops.toArray (lexF ops es i a0).tmps) = true then upon3 P e.1 (Inv (setD D i)) ((execOp (lexF ops es i a0).eval o).run P x) else e.1 = undef ∧ Inv (setD D i) x)
    (hend : ∀ D x, (∀ k, k < ops.length → D k = true) → Inv D x → Q .normal (lexF ops es ops.length a0) x) : (Code.region id ops.toArray true).wp P Q a0 w0 := by
  have hsel : ∀ (j : Nat) (o : Oper) cs b, ops.toArray[j]? = some o → o.op ≠ .select cs b := fun j o cs b ho => by
    simp only [okRegion3, Bool.and_eq_true] at hok
    exact Region.noSelect_spec hok.1 j o cs b ho
  have main : ∀ (fuel : Nat) (L : Array Bool) (w : World), L.size = ops.length → ops.length ≤ ((List.range ops.length).filter (fun k => L.getD k false)).length + fuel → (∀ k j, L.getD k false = true → waitsB ops k j = true → L.getD j false = true) →
      Inv (fun k => L.getD k false) w → wpAny P .any ops.toArray Q fuel L (foldP ops es (fun k => L.getD k false) (List.range ops.length) a0) w := by
    have allDone : ∀ (L : Array Bool) (w : World), L.size = ops.length → Inv (fun k => L.getD k false) w → (∀ k, k < ops.length → L.getD k false = true) → Q .normal (foldP ops es (fun k => L.getD k false) (List.range ops.length) a0) w := fun L w hL hw hall => by
      have e1 : foldP ops es (fun k => L.getD k false) (List.range ops.length) a0 = lexF ops es ops.length a0 :=
        foldP_congr _ _ (fun k hk => by
          have hk' : k < ops.length := by simpa using hk
          rw [hall k hk']; simp [hk'])
      rw [e1]
      exact hend _ w hall hw
    have fromReady : ∀ (L : Array Bool), L.size = ops.length → Region.ready .any ops.toArray L = [] → ∀ k, k < ops.length → L.getD k false = true := fun L hL hr k => by
      induction k using Nat.strongRecOn with
      | ind k ih =>
        intro hk
        cases hc : L.getD k false with
        | true => rfl
        | false =>
          exfalso
          have hmem : k ∈ Region.ready .any ops.toArray L := by
            rw [mem_ready]
            refine ⟨?_, ops[k], by simp, fun e he hb => ?_⟩
            · have : k < L.size := by omega
              simp [this] at hc ⊢
              exact hc
            · have hlt := ok3_edges hok (i := k) (o := ops[k]) (by simp) e he hb
              exact ih e.on hlt (by omega)
          rw [hr] at hmem
          cases hmem
    intro fuel
    induction fuel with
    | zero =>
      intro L w hL hc hcl hw
      have hfull : ∀ k, k < ops.length → L.getD k false = true := fun k hk => by
        have hle := List.length_filter_le (fun k => L.getD k false) (List.range ops.length)
        have heq : ((List.range ops.length).filter (fun k => L.getD k false)).length = (List.range ops.length).length := by simp at hle hc ⊢; omega
        have := List.length_filter_eq_length_iff.1 heq k (by simpa using hk)
        simpa using this
      refine ⟨?_, allDone L w hL hw hfull⟩
      rw [List.eq_nil_iff_forall_not_mem]
      intro k hk
      obtain ⟨h1, o, ho, _⟩ := mem_ready.1 hk
      have hk' : k < ops.length := by simpa using (Array.getElem?_eq_some_iff.1 ho).1
      have h2 := hfull k hk'
      have : k < L.size := by omega
      simp [this] at h1 h2
      rw [h2] at h1
      cases h1
    | succ fuel ih =>
      intro L w hL hc hcl hw
      refine ⟨fun hr => allDone L w hL hw (fromReady L hL hr), fun i hi => ?_⟩
      obtain ⟨hun, o, ho', hwait⟩ := mem_ready.1 hi
      have ho : ops[i]? = some o := by simpa using ho'
      have hin : i < ops.length := (List.getElem?_eq_some_iff.1 ho).1
      have hiL : i < L.size := by omega
      have hunF : L.getD i false = false := by simp [hiL] at hun ⊢; exact hun
      obtain ⟨e, he⟩ : ∃ e, es[i]? = some e := ⟨es[i]'(by omega), by simp⟩
      have hsetG : (L.setIfInBounds i true).getD i false = true := by simp [hiL]
      have hsetFG : ∀ k, k ≠ i → L.getD k false = (L.setIfInBounds i true).getD k false := fun k hk => (getD_set_ne false (Ne.symm hk)).symm
      have hL' : (L.setIfInBounds i true).size = ops.length := by simp [hL]
      have hcnt : ops.length ≤ ((List.range ops.length).filter (fun k => (L.setIfInBounds i true).getD k false)).length + fuel := by
        rw [filter_set (F := fun k => L.getD k false) (G := fun k => (L.setIfInBounds i true).getD k false) hunF hsetG hsetFG _ List.nodup_range (by simpa using hin)]
        omega
      have hput : ∀ v, v = e.1 → (foldP ops es (fun k => L.getD k false) (List.range ops.length) a0).put o.dst v = foldP ops es (fun k => (L.setIfInBounds i true).getD k false) (List.range ops.length) a0 := fun v hv => by
        have := foldP_set (ops := ops) (es := es) (F := fun k => L.getD k false) (G := fun k => (L.setIfInBounds i true).getD k false) (i := i) hunF hsetG hsetFG (List.range ops.length) a0 List.nodup_range (by simpa using hin) (fun k _ hk => ok3_dis hok i o ho k hk)
        rw [← this, hv]
        simp [dstOf, valOf, ho, he]
      have hwaitB : ∀ k, waitsB ops i k = true → L.getD k false = true := fun k hk => by
        obtain ⟨o', e', ho'', he', hb, hon⟩ := waitsB_spec hk
        rw [ho] at ho''
        cases ho''
        have := hwait e' he' hb
        rwa [hon] at this
      have hbeh : ∀ k, waitsB ops k i = true → L.getD k false = false := fun k hk => by
        cases hLk : L.getD k false with
        | false => rfl
        | true => rw [hcl k i hLk hk] at hunF; cases hunF
      have hcl' : ∀ k j, (L.setIfInBounds i true).getD k false = true → waitsB ops k j = true → (L.setIfInBounds i true).getD j false = true := fun k j hk hj => by
        have hLj : L.getD j false = true := by
          by_cases hki : k = i
          · subst hki; exact hwaitB j hj
          · exact hcl k j (by rw [hsetFG k hki]; exact hk) hj
        by_cases hji : j = i
        · subst hji; exact hsetG
        · rw [← hsetFG j hji]; exact hLj
      have hag : Ag ops o (foldP ops es (fun k => L.getD k false) (List.range ops.length) a0) (lexF ops es i a0) :=
        foldP_ag _ _ _ (Ag.refl a0) (fun k _ d hd hlook => by
          rcases (ok3_slots hok ho hd).2 hlook with rfl | ⟨hki, hw'⟩ | ⟨hki, hw'⟩
          · rw [hunF]; simp
          · rw [hwaitB k hw']; simp [hki]
          · rw [hbeh k hw']
            have : ¬ k < i := by omega
            simp [this])
      have hD : (fun k => (L.setIfInBounds i true).getD k false) = setD (fun k => L.getD k false) i := by
        funext k
        unfold setD
        by_cases hki : k = i
        · subst hki; rw [hsetG]; simp
        · rw [← hsetFG k hki]; simp [hki]
      have hs := hstep i o e ho he _ w ⟨hunF, hwaitB, hbeh⟩ hw
      unfold wpOp
      rw [ho']
      simp only []
      rw [hag.wanted]
      have hgo : ∀ w'', Inv (setD (fun k => L.getD k false) i) w'' → wpAny P .any ops.toArray Q fuel (L.setIfInBounds i true) ((foldP ops es (fun k => L.getD k false) (List.range ops.length) a0).put o.dst e.1) w'' := fun w'' hI => by
        rw [hput e.1 rfl]
        exact ih _ _ hL' hcnt hcl' (by rw [hD]; exact hI)
      split
      · rename_i hwant
        rw [if_pos hwant] at hs
        refine Or.inl ?_
        unfold Oper.wp
        rw [hag.exec (fun cs b => hsel i o cs b ho')]
        generalize (execOp (lexF ops es i a0).eval o).run P w = res at hs
        cases res with
        | ok nx w' =>
          cases nx <;> simp only [upon3] at hs <;> simp only [Oper.upon]
          case value u => obtain ⟨rfl, h1⟩ := hs; exact hgo _ h1
          case skip => obtain ⟨h2, h1⟩ := hs; rw [← h2]; exact hgo _ h1
          case enter f args => exact hs.mono fun en w'' ⟨hen, h1⟩ => by subst hen; exact hgo _ h1
        | halt x w' => simp only [upon3] at hs
      · rename_i hwant
        rw [if_neg hwant] at hs
        rw [← hs.1]
        exact hgo _ hs.2
  refine wp_region_any hm ?_
  have hfalse : ∀ k, (Array.replicate ops.length false).getD k false = false := fun k => by
    simp [Array.getElem?_replicate]
    split <;> rfl
  have hz : foldP ops es (fun k => (Array.replicate ops.length false).getD k false) (List.range ops.length) a0 = a0 := foldP_none _ _ (fun k _ => hfalse k)
  have := main ops.length (Array.replicate ops.length false) { w0 with drawn := w0.drawn + 1 } (by simp) (by omega) (fun k j hk => by rw [hfalse k] at hk; cases hk) (by
    rw [show (fun k => (Array.replicate ops.length false).getD k false) = fun _ => false from funext hfalse]
    exact h0)
  rw [hz] at this
  simpa using this

end
end Go.Proofs.Ytjbbgpacijageaa
