/- Such a walk serves every order. No program is named here. -/
import Derived.Test.YtjbbgpacijageaaDraw
namespace Go.Proofs.Ytjbbgpacijageaa
open Go.RowKit
set_option linter.unusedVariables false
set_option linter.unusedSimpArgs false

theorem setN_get : ∀ (σ : St) (i : Nat) (l : List Seg) (j : Nat), (setN σ i l)[j]? = if j = i then (σ[j]?).map (fun b => (l, b.2)) else σ[j]?
  | [], i, l, j => by simp [setN]
  | (c, t) :: r, i, l, j => by
    unfold setN
    split
    · rename_i h
      have := Nat.eq_of_beq_eq_true h
      subst this
      cases j with
      | zero => simp
      | succ j => simp
    · rename_i h
      cases i with
      | zero => simp at h
      | succ i =>
        cases j with
        | zero => simp
        | succ j => simpa using setN_get r i l j

/-- A block's type and size. -/
def shp (b : List Seg × TypeId) : TypeId × Nat := (b.2, sz b.1)

section
variable {P : Program} {T : Tab} {w0 : World} {N : Nat} {A : Nat → Nat} {SS vis : List (Nat × Nat)} {ops : Array Oper}

theorem updS_shp {σ : St} {u : Option (Nat × List Seg)} {j : Nat} (hu : ∀ i l, u = some (i, l) → opOf SS i = some j ∧ ∃ b, σ[i]? = some b ∧ sz l = sz b.1) (i : Nat) : ((updS σ u)[i]?).map shp = (σ[i]?).map shp := by
  cases u with
  | none => rfl
  | some e =>
    obtain ⟨i', l⟩ := e
    obtain ⟨_, b, hb, hz⟩ := hu i' l rfl
    show ((setN σ i' l)[i]?).map shp = _
    rw [setN_get]
    split
    · rename_i h
      subst h
      rw [hb]
      simp [shp, hz]
    · rfl
theorem updS_other {σ : St} {u : Option (Nat × List Seg)} {j : Nat} (hu : ∀ i l, u = some (i, l) → opOf SS i = some j ∧ ∃ b, σ[i]? = some b ∧ sz l = sz b.1) {i : Nat} (hi : opOf SS i ≠ some j) : (updS σ u)[i]? = σ[i]? := by
  cases u with
  | none => rfl
  | some e =>
    obtain ⟨i', l⟩ := e
    obtain ⟨h1, _⟩ := hu i' l rfl
    show (setN σ i' l)[i]? = _
    rw [setN_get, if_neg (fun h => by subst h; exact hi h1)]

theorem Wk_late : ∀ (l : List Oper) (j : Nat) (f : Fr) (σ : St) (fx : Fx) (f1 : Fr) (σ1 : St), Wk P w0 N A SS vis ops l j f σ fx f1 σ1 → (∀ (i : Nat), (∀ s, opOf SS i = some s → s < j) → σ[i]? = σ1[i]?) ∧ (∀ (i : Nat), (σ[i]?).map shp = (σ1[i]?).map shp) ∧ fx.length = l.length
  | [], j, f, σ, [], f1, σ1, h => by
    obtain ⟨_, rfl⟩ := h
    exact ⟨fun _ _ => rfl, fun _ => rfl, rfl⟩
  | [], _, _, _, _ :: _, _, _, h => h.elim
  | _ :: _, _, _, _, [], _, _, h => h.elim
  | o :: r, j, f, σ, (s, u) :: fx, f1, σ1, h => by
    obtain ⟨_, hu, f', _, hwk⟩ := h
    obtain ⟨h1, h2, h3⟩ := Wk_late r (j + 1) f' _ fx f1 σ1 hwk
    refine ⟨fun i hi => ?_, fun i => ?_, by simp [h3]⟩
    · rw [← h1 i (fun s hs => Nat.lt_succ_of_lt (hi s hs)), updS_other hu (fun h => Nat.lt_irrefl j (hi j h))]
    · rw [← h2 i, updS_shp hu i]

/-- What is known at each operation. -/
theorem Wk_at (hok : okRegion3 ops.toList = true) {σ0 : St} {a0 : Act} {es : List Eff} : ∀ (l : List Oper) (k : Nat) (f : Fr) (σ : St) (fx : Fx) (f1 : Fr) (σ1 : St), Wk P w0 N A SS vis ops l k f σ fx f1 σ1 → ops.toList.drop k = l →
    (∀ (j : Nat) s u, fx[j]? = some (s, u) → es[k + j]? = some (s.val A, none)) → FR N σ.length A f (lexF ops.toList es k a0) → σ.length = σ0.length → (∀ (i : Nat), (∀ s, opOf SS i = some s → k ≤ s) → σ[i]? = σ0[i]?) → (∀ (i : Nat), (σ[i]?).map shp = (σ0[i]?).map shp) →
    (∀ (j : Nat) o, ops.toList[j]? = some o → k ≤ j → ∃ f σ s u, FR N σ.length A f (lexF ops.toList es j a0) ∧ es[j]? = some (s.val A, none) ∧ Fact P w0 N (hidOf vis j SS) ops o f σ A s u ∧ (∀ i l, u = some (i, l) → opOf SS i = some j ∧ ∃ b, σ[i]? = some b ∧ sz l = sz b.1) ∧
      σ.length = σ0.length ∧ (∀ (i : Nat), (∀ s, opOf SS i = some s → j ≤ s) → σ[i]? = σ0[i]?) ∧ (∀ (i : Nat), (∀ s, opOf SS i = some s → s < j) → σ[i]? = σ1[i]?) ∧ (∀ (i : Nat), (∀ s, opOf SS i = some s → s < j + 1) → (updS σ u)[i]? = σ1[i]?) ∧ (∀ (i : Nat), (σ[i]?).map shp = (σ0[i]?).map shp)) ∧
    FR N σ1.length A f1 (lexF ops.toList es (k + l.length) a0)
  | [], k, f, σ, [], f1, σ1, h, hd, hes, hF, hlen, h0, hshp => by
    obtain ⟨rfl, rfl⟩ := h
    refine ⟨fun j o ho hkj => ?_, hF⟩
    have := congrArg List.length hd
    have hj := lt_of_get ho
    simp at this hj
    omega
  | [], _, _, _, _ :: _, _, _, h, _, _, _, _, _, _ => h.elim
  | _ :: _, _, _, _, [], _, _, h, _, _, _, _, _, _ => h.elim
  | o :: r, k, f, σ, (s, u) :: fx, f1, σ1, h, hd, hes, hF, hlen, h0, hshp => by
    have hall := h
    obtain ⟨hfact, hu, f', hf', hwk⟩ := h
    have hok' : ops.toList[k]? = some o := by
      have := congrArg (·[0]?) hd
      simpa using this
    have he : es[k]? = some (s.val A, none) := by
      have := hes 0 s u rfl
      simpa using this
    have hd' : ops.toList.drop (k + 1) = r := by
      have := congrArg (List.drop 1) hd
      simpa [Nat.add_comm] using this
    have hlate := Wk_late _ _ _ _ _ _ _ hall
    have hlate' := Wk_late _ _ _ _ _ _ _ hwk
    have hF' : FR N (updS σ u).length A f' (lexF ops.toList es (k + 1) a0) := by
      rw [updS_len, lexF_succ hok hok' he]
      exact hf' _ hF
    obtain ⟨h1, h2⟩ := Wk_at hok (σ0 := σ0) r (k + 1) f' (updS σ u) fx f1 σ1 hwk hd' (fun j s' u' hj => by
      have := hes (j + 1) s' u' (by simpa using hj)
      rw [show k + 1 + j = k + (j + 1) from by omega]
      exact this) hF' (by rw [updS_len]; exact hlen) (fun i hi => by
        rw [updS_other hu (fun h => Nat.lt_irrefl k (hi k h))]
        exact h0 i (fun s hs => Nat.le_of_succ_le (hi s hs))) (fun i => by rw [updS_shp hu i]; exact hshp i)
    refine ⟨fun j o' ho' hkj => ?_, by rw [List.length_cons, show k + (r.length + 1) = k + 1 + r.length from by omega]; exact h2⟩
    by_cases hjk : j = k
    · subst hjk
      rw [hok'] at ho'
      cases ho'
      exact ⟨f, σ, s, u, hF, he, hfact, hu, hlen, h0, hlate.1, hlate'.1, hshp⟩
    · exact h1 j o' ho' (by omega)

/-- The world at any time: each block as before, or as behind its store. -/
structure RealM (w0 : World) (A : Nat → Nat) (SS : List (Nat × Nat)) (σ0 σ1 : St) (D : Nat → Bool) (x : World) : Prop where
  blk : ∀ (i : Nat) (l : List Seg) (t : TypeId), (match opOf SS i with | some s => if D s = true then σ1[i]? else σ0[i]? | none => σ0[i]?) = some (l, t) → HB x (A i) (cat l) t
  lo : ∀ i, i < σ0.length → w0.heap.size ≤ A i
  inj : ∀ i j, i < σ0.length → j < σ0.length → A i = A j → i = j
  below : Below w0.heap.size w0 x

theorem draw_sound (hT : TabOk P T) {id : Nat} {f : Fr} {σ : St} {K : Fr → St → Prop} {x : World} {a : Act} (hok : okRegion3 ops.toList = true) (hvis : okVis ops.toList SS vis = true) (h : sdraw P T w0 N SS vis ops ops.toList 0 K f σ) (hr : Real w0 [] σ A x) (hf : FR N σ.length A f a)
    {Q : Exit → Act → World → Prop} (hQ : ∀ a x, Sat w0 N K a x → Q .normal a x) : (Code.region id ops true).wp P Q a x := by
  obtain ⟨fx, f1, σ1, hwk, hK⟩ := walk_of hT _ _ _ _ h ⟨x, hr⟩ ⟨a, hf⟩
  obtain ⟨_, hsh1, hfl⟩ := Wk_late _ _ _ _ _ _ _ hwk
  let es : List Eff := fx.map fun e => (e.1.val A, none)
  obtain ⟨hat, hend⟩ := Wk_at hok (σ0 := σ) (a0 := a) (es := es) _ _ _ _ _ _ _ hwk rfl (fun j s u hj => by
    rw [Nat.zero_add]
    show (fx.map _)[j]? = _
    rw [List.getElem?_map, hj]
    rfl) (by rw [lexF_zero]; exact hf) rfl (fun _ _ => rfl) (fun _ => rfl)
  have hops : ops = ops.toList.toArray := by simp
  rw [hops]
  have hlt1 : σ1.length = σ.length := by
    have key : ∀ i, (i < σ.length ↔ i < σ1.length) := fun i => by
      have := hsh1 i
      constructor
      · intro hi
        rcases Nat.lt_or_ge i σ1.length with h' | h'
        · exact h'
        · rw [List.getElem?_eq_none h', List.getElem?_eq_getElem hi] at this; cases this
      · intro hi
        rcases Nat.lt_or_ge i σ.length with h' | h'
        · exact h'
        · rw [List.getElem?_eq_none h', List.getElem?_eq_getElem hi] at this; cases this
    have h1 := key σ.length
    have h2 := key σ1.length
    omega
  refine wp_region_abs3 (Inv := RealM w0 A SS σ σ1) hT.mix hok es (by simp [es, hfl]) ?_ ?_ ?_
  · refine ⟨fun i l t hi => ?_, hr.lo, hr.inj, hr.below.drew⟩
    have : σ[i]? = some (l, t) := by
      cases ho : opOf SS i <;> rw [ho] at hi <;> simpa using hi
    exact (hr.blk i l t this rfl)
  · intro j o e ho he D y hadm hI
    obtain ⟨f', σ', s, u, hF, he', hfact, hu, hlen, hearly, hl1, hl2, hshp⟩ := hat j o ho (Nat.zero_le _)
    rw [he] at he'
    cases he'
    -- the world as the operation sees it
    have hreal : Real w0 (hidOf vis j SS) σ' A y := by
      refine ⟨fun i l t hi hnot => ?_, fun i l t hi => ?_, fun i hi => hI.lo i (by omega), fun i k hi hk => hI.inj i k (by omega) (by omega), hI.below⟩
      · refine hI.blk i l t ?_
        cases hop : opOf SS i with
        | none => rw [← hearly i (fun s hs => by rw [hop] at hs; cases hs)]; exact hi
        | some q =>
          have hv := hid_vis vis j SS i q hop hnot
          have hc := List.all_eq_true.1 hvis _ (visB_mem vis j i hv)
          simp only [hop, Bool.or_eq_true, Bool.and_eq_true, beq_iff_eq, decide_eq_true_iff] at hc
          have hq : ∀ s, opOf SS i = some s → s = q := fun s hs => by rw [hop] at hs; cases hs; rfl
          rcases hc with (rfl | ⟨hlt, hw⟩) | ⟨hlt, hw⟩
          · simp only [hadm.un, Bool.false_eq_true, if_false]
            rw [← hearly i (fun s hs => by rw [hq s hs]; exact Nat.le_refl _)]; exact hi
          · simp only [hadm.ahead q hw, if_true]
            rw [← hl1 i (fun s hs => by rw [hq s hs]; exact hlt)]; exact hi
          · simp only [hadm.behind q hw, Bool.false_eq_true, if_false]
            rw [← hearly i (fun s hs => by rw [hq s hs]; exact Nat.le_of_lt hlt)]; exact hi
      · have hm : ∀ (b : Option (List Seg × TypeId)), b.map shp = (σ'[i]?).map shp → ∃ l', b = some (l', t) ∧ sz l' = sz l := fun b hb => by
          rw [hi] at hb
          cases b with
          | none => cases hb
          | some c =>
            simp only [Option.map_some, Option.some.injEq, shp, Prod.mk.injEq] at hb
            exact ⟨c.1, by rw [← hb.1], hb.2⟩
        have hmix : (match opOf SS i with | some s => if D s = true then σ1[i]? else σ[i]? | none => σ[i]?).map shp = (σ'[i]?).map shp := by
          rw [hshp i]
          cases opOf SS i with
          | none => rfl
          | some q =>
            simp only
            split
            · rw [hsh1 i]
            · rfl
        obtain ⟨l', hl', hz⟩ := hm _ hmix
        exact ⟨_, hI.blk i l' t hl', by rw [cat_size, hz]⟩
    -- the world behind it
    have hnext : ∀ y', (∀ (i : Nat) (l : List Seg) (t : TypeId), ((updS σ' u)[i]? = some (l, t) ∧ opOf SS i = some j) ∨ (opOf SS i ≠ some j ∧ (match opOf SS i with | some s => if D s = true then σ1[i]? else σ[i]? | none => σ[i]?) = some (l, t)) → HB y' (A i) (cat l) t) → Below w0.heap.size w0 y' → RealM w0 A SS σ σ1 (setD D j) y' := fun y' hb hbl => by
      refine ⟨fun i l t hi => ?_, hI.lo, hI.inj, hbl⟩
      apply hb i l t
      by_cases hop : opOf SS i = some j
      · refine Or.inl ⟨?_, hop⟩
        rw [hop] at hi
        simp only [setD, beq_self_eq_true, Bool.true_or, if_true] at hi
        rw [hl2 i (fun s hs => by rw [hop] at hs; cases hs; exact Nat.lt_succ_self _)]
        exact hi
      · refine Or.inr ⟨hop, ?_⟩
        cases hq : opOf SS i with
        | none => rw [hq] at hi; exact hi
        | some q =>
          rw [hq] at hi
          have hne : q ≠ j := fun h => hop (by rw [hq, h])
          have : (q == j) = false := by simpa using hne
          simpa only [setD, this, Bool.false_or] using hi
    have hold : ∀ y', Below y.heap.size y y' → u = none → RealM w0 A SS σ σ1 (setD D j) y' := fun y' hb hun => by
      refine hnext y' (fun i l t hi => ?_) (below_trans hI.below hb)
      rcases hi with ⟨h1, h2⟩ | ⟨h1, h2⟩
      · subst hun
        have h3 : σ[i]? = some (l, t) := by
          rw [← hearly i (fun s hs => by rw [h2] at hs; cases hs; exact Nat.le_refl _)]
          exact h1
        refine (hI.blk i l t ?_).below hb
        rw [h2]
        simp only [hadm.un, Bool.false_eq_true, if_false]
        exact h3
      · exact (hI.blk i l t h2).below hb
    rcases hfact with ⟨hw, hx⟩ | ⟨hw, hs, hun⟩
    · rw [if_pos (by have := hw _ hF; rw [hops] at this; exact this)]
      rcases hx with ⟨hun, hx⟩ | ⟨i, l, hun, hs, hx⟩
      · have h1 := hx _ y hF hreal
        generalize (execOp (lexF ops.toList es j a).eval o).run P y = res at h1
        cases res with
        | ok nx w' =>
          cases nx <;> simp only [absUpon] at h1 <;> simp only [upon3]
          case value v => obtain ⟨h2, rfl⟩ := h1; exact ⟨h2, hold _ (Below.refl _ _) hun⟩
          case skip => obtain ⟨h2, rfl⟩ := h1; exact ⟨h2, hold _ (Below.refl _ _) hun⟩
          case enter g args =>
            obtain ⟨rfl, h2⟩ := h1
            exact h2.mono fun e w'' ⟨he, hb⟩ => ⟨he, hold _ hb hun⟩
        | halt q w' => simp only [absUpon] at h1
      · rw [hx _ y hF hreal]
        refine ⟨by rw [hs]; rfl, ?_⟩
        subst hun
        obtain ⟨hop, b, hb, hz⟩ := hu i l rfl
        have hil : i < σ.length := by rw [← hlen]; exact lt_of_get hb
        obtain ⟨C, hC, _⟩ := hreal.hid i b.1 b.2 hb
        refine hnext _ (fun k q t hk => ?_) (below_putB' hI.below (hI.lo i hil) _)
        rcases hk with ⟨h1, h2⟩ | ⟨h1, h2⟩
        · change (setN σ' i l)[k]? = some (q, t) at h1
          rw [setN_get] at h1
          split at h1
          · rename_i hki
            subst hki
            rw [hb] at h1
            cases h1
            exact hC.put _
          · rename_i hki
            have h3 : σ[k]? = some (q, t) := by
              rw [← hearly k (fun s hs => by rw [h2] at hs; cases hs; exact Nat.le_refl _)]
              exact h1
            have h4 : HB y (A k) (cat q) t := hI.blk k q t (by rw [h2]; simp only [hadm.un, Bool.false_eq_true, if_false]; exact h3)
            exact h4.put_ne (fun hA => hki (hI.inj k i (lt_of_get h3) hil hA)) _
        · have hki : k ≠ i := fun h => by subst h; exact h1 hop
          have hkl : k < σ.length := by
            cases hq : opOf SS k with
            | none => rw [hq] at h2; exact lt_of_get h2
            | some z =>
              rw [hq] at h2
              simp only at h2
              split at h2
              · rw [← hlt1]; exact lt_of_get h2
              · exact lt_of_get h2
          exact (hI.blk k q t h2).put_ne (fun hA => hki (hI.inj k i hkl hil hA)) _
    · rw [if_neg (by have := hw _ hF; rw [hops] at this; rw [this]; exact Bool.false_ne_true)]
      exact ⟨by rw [hs]; rfl, hold _ (Below.refl _ _) hun⟩
  · intro D y hall hI
    apply hQ
    refine ⟨f1, σ1, A, hK, ?_, by have := hend; rw [Nat.zero_add] at this; exact this⟩
    have key : ∀ (i : Nat) (l : List Seg) (t : TypeId), σ1[i]? = some (l, t) → HB y (A i) (cat l) t := fun i l t hi => by
      by_cases hop : ∃ s, opOf SS i = some s ∧ D s = false
      · obtain ⟨s, hs, hD⟩ := hop
        -- such an operation is none of the region's
        have hge : ops.toList.length ≤ s := by
          rcases Nat.lt_or_ge s ops.toList.length with h' | h'
          · rw [hall s h'] at hD; cases hD
          · exact h'
        refine hI.blk i l t ?_
        rw [hs]
        simp only [hD, Bool.false_eq_true, if_false]
        have : ∀ (l : List Oper) (j : Nat) (f : Fr) (σ' : St) (fx : Fx) (f1 : Fr) (σ1 : St), Wk P w0 N A SS vis ops l j f σ' fx f1 σ1 → j + l.length ≤ s → σ'[i]? = σ1[i]? := by
          intro l
          induction l with
          | nil =>
            intro j f σ' fx f1 σ1 h _
            cases fx with
            | nil => obtain ⟨_, rfl⟩ := h; rfl
            | cons _ _ => exact h.elim
          | cons o r ih =>
            intro j f σ' fx f1 σ1 h hle
            cases fx with
            | nil => exact h.elim
            | cons e fx =>
              obtain ⟨s', u⟩ := e
              obtain ⟨_, hu, f', _, hwk⟩ := h
              simp only [List.length_cons] at hle
              rw [← ih (j + 1) f' _ fx f1 σ1 hwk (by omega), updS_other hu (fun h => by rw [hs] at h; cases h; omega)]
        rw [this _ _ _ _ _ _ _ hwk (by omega)]
        exact hi
      · refine hI.blk i l t ?_
        cases hq : opOf SS i with
        | none =>
          simp only
          rw [(Wk_late _ _ _ _ _ _ _ hwk).1 i (fun s hs => by rw [hq] at hs; cases hs)]
          exact hi
        | some q =>
          have hD : D q = true := by
            cases hDq : D q with
            | true => rfl
            | false => exact absurd ⟨q, hq, hDq⟩ hop
          simp only [hD, if_true]
          exact hi
    exact ⟨fun i l t hi _ => key i l t hi, fun i l t hi => ⟨_, key i l t hi, cat_size _⟩, fun i hi => hI.lo i (by omega), fun i k hi hk => hI.inj i k (by omega) (by omega), hI.below⟩

end
end Go.Proofs.Ytjbbgpacijageaa
