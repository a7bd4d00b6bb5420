/- Whole functions, without worlds. No program is named here. -/
import Derived.Test.YtjbbgpacijageaaDraw2
namespace Go.Proofs.Ytjbbgpacijageaa
open Go.RowKit
set_option linter.unusedVariables false
set_option linter.unusedSimpArgs false

/-- Is all that g has in f? -/
def subF : Fr → Fr → Prop
  | [], _ => True
  | (t, s) :: r, f => look f t = some s ∧ subF r f
theorem subF_look : ∀ (g f : Fr), subF g f → ∀ t s, look g t = some s → look f t = some s
  | [], _, _, t, s, h => by cases h
  | (t', s') :: r, f, hs, t, s, h => by
    unfold look at h
    split at h
    · rename_i hb
      have := Nat.eq_of_beq_eq_true hb
      subst this; cases h
      exact hs.1
    · exact subF_look r f hs.2 t s h
/-- The first blocks alone. -/
theorem Real.take {w0 x : World} {S : List Nat} {σ : St} {A : Nat → Nat} (h : Real w0 S σ A x) (k : Nat) : Real w0 S (σ.take k) A x := by
  have hg : ∀ (i : Nat) (b : List Seg × TypeId), (σ.take k)[i]? = some b → σ[i]? = some b := fun i b hi => by
    rw [List.getElem?_take] at hi
    split at hi
    · exact hi
    · cases hi
  exact ⟨fun i l t hi hs => h.blk i l t (hg i _ hi) hs, fun i l t hi => h.hid i l t (hg i _ hi), fun i hi => h.lo i (by simp at hi; omega), fun i j hi hj => h.inj i j (by simp at hi; omega) (by simp at hj; omega), h.below⟩
/-- No pointer of it leads beyond the first k blocks. -/
def okF (k : Nat) : Fr → Prop
  | [] => True
  | (_, s) :: r => s.ok k ∧ okF k r
theorem okF_look {k : Nat} : ∀ (f : Fr), okF k f → ∀ t s, look f t = some s → s.ok k
  | [], _, t, s, h => by cases h
  | (t', s') :: r, hk, t, s, h => by
    unfold look at h
    split at h
    · cases h; exact hk.1
    · exact okF_look r hk.2 t s h

def swp (P : Program) (T : Tab) (w0 : World) (N : Nat) : Code → (Exit → Fr → St → Prop) → Fr → St → Prop
  | .skip, K, f, σ => K .normal f σ
  | .region _ ops draw, K, f, σ => match draw with
    | false => sops P T w0 N ops ops.toList (K .normal) f σ
    | true => ∃ SS vis : List (Nat × Nat), (okRegion3 ops.toList && okVis ops.toList SS vis) = true ∧ sdraw P T w0 N SS vis ops ops.toList 0 (K .normal) f σ
  | .seq a b, K, f, σ => swp P T w0 N a (fun e f σ => match e with | .normal => swp P T w0 N b K f σ | e => K e f σ) f σ
  | .cond c a b, K, f, σ => match evS f c with
    | some (.l (.v (.bool t))) => (match t with | true => swp P T w0 N a K f σ | false => swp P T w0 N b K f σ)
    | _ => False
  | .block id a, K, f, σ => swp P T w0 N a (fun e f σ => match e with | .exit id' => (match Nat.beq id' id with | true => K .normal f σ | false => K (.exit id') f σ) | e => K e f σ) f σ
  | .loop a, K, f, σ => ∃ I : Nat → Fr → St → Prop, (∃ n g k, subF g f ∧ okF (σ.take k).length g ∧ I n g (σ.take k)) ∧
      ∀ n f σ, I n f σ → swp P T w0 N a (fun e f' σ' => match e with | .normal => ∃ n' g k, n' < n ∧ subF g f' ∧ okF (σ'.take k).length g ∧ I n' g (σ'.take k) | e => K e f' σ') f σ
  | .exit id, K, f, σ => K (.exit id) f σ
  | .ret, K, f, σ => K .ret f σ
  | _, _, _, _ => False

theorem least {p : Nat → Prop} (h : ∃ n, p n) : ∃ n, p n ∧ ∀ m, p m → n ≤ m := by
  obtain ⟨n, hn⟩ := h
  induction n using Nat.strongRecOn with
  | ind n ih =>
    by_cases hm : ∃ m, m < n ∧ p m
    · obtain ⟨m, hlt, hp⟩ := hm
      exact ih m hlt hp
    · exact ⟨n, hn, fun m hp => Nat.le_of_not_lt fun hlt => hm ⟨m, hlt, hp⟩⟩

section
variable {P : Program} {T : Tab} {w0 : World} {N : Nat}
open Classical in
theorem swp_sound (hT : TabOk P T) : ∀ (c : Code) (K : Exit → Fr → St → Prop) (f : Fr) (σ : St), swp P T w0 N c K f σ → ∀ A x a, Real w0 [] σ A x → FR N σ.length A f a → c.wp P (fun e a x => Sat w0 N (K e) a x) a x
  | .skip, K, f, σ, h, A, x, a, hr, hf => wp_skip ⟨f, σ, A, h, hr, hf⟩
  | .region id ops draw, K, f, σ, h, A, x, a, hr, hf => by
    cases draw with
    | false => exact wp_region_list (sops_sound hT (fun a x hs => hs) _ f σ A a x h hr hf)
    | true =>
      obtain ⟨SS, vis, hok, hd⟩ := h
      rw [Bool.and_eq_true] at hok
      exact draw_sound hT hok.1 hok.2 hd hr hf (fun a x hs => hs)
  | .seq c d, K, f, σ, h, A, x, a, hr, hf => by
    refine wp_seq (wp_mono (swp_sound hT c _ f σ h A x a hr hf) fun e a' x' hs => ?_)
    obtain ⟨f', σ', A', hk, hr', hf'⟩ := hs
    cases e with
    | normal => exact swp_sound hT d K f' σ' hk A' x' a' hr' hf'
    | _ => exact ⟨f', σ', A', hk, hr', hf'⟩
  | .cond c y z, K, f, σ, h, A, x, a, hr, hf => by
    unfold swp at h
    split at h
    · rename_i t ht
      have := (evS_sound hf ht).1
      cases t with
      | true => exact wp_cond_true this (swp_sound hT y K f σ h A x a hr hf)
      | false => exact wp_cond_false this (swp_sound hT z K f σ h A x a hr hf)
    · exact h.elim
  | .block id c, K, f, σ, h, A, x, a, hr, hf => by
    refine wp_block (wp_mono (swp_sound hT c _ f σ h A x a hr hf) fun e a' x' hs => ?_)
    obtain ⟨f', σ', A', hk, hr', hf'⟩ := hs
    cases e with
    | exit id' =>
      show if id' = id then _ else _
      simp only at hk
      split at hk
      · rename_i hb
        rw [if_pos (Nat.eq_of_beq_eq_true hb)]
        exact ⟨f', σ', A', hk, hr', hf'⟩
      · rename_i hb
        rw [if_neg (fun he => by subst he; simp at hb)]
        exact ⟨f', σ', A', hk, hr', hf'⟩
    | _ => exact ⟨f', σ', A', hk, hr', hf'⟩
  | .loop c, K, f, σ, h, A, x, a, hr, hf => by
    obtain ⟨I, ⟨n, g, k, hsub, hok, hI⟩, hround⟩ := h
    have weak : ∀ {n : Nat} {g f : Fr} {k : Nat} {σ : St} {A : Nat → Nat} {a : Act} {x : World}, subF g f → okF (σ.take k).length g → I n g (σ.take k) → Real w0 [] σ A x → FR N σ.length A f a → ∃ f σ A, I n f σ ∧ Real w0 [] σ A x ∧ FR N σ.length A f a :=
      fun {n g f k σ A a x} hs ho hI hr hf => ⟨g, σ.take k, A, hI, hr.take k, ⟨hf.size, hf.defers, fun t s ht => ⟨(hf.get t s (subF_look g f hs t s ht)).1, okF_look g ho t s ht⟩⟩⟩
    let J : Nat → Act → World → Prop := fun n a x => ∃ f σ A, I n f σ ∧ Real w0 [] σ A x ∧ FR N σ.length A f a
    let μ : Act → World → Nat := fun a x => if h : ∃ n, J n a x then Classical.choose (least h) else 0
    have hμ : ∀ a x, (∃ n, J n a x) → J (μ a x) a x ∧ ∀ m, J m a x → μ a x ≤ m := fun a x h => by
      have : μ a x = Classical.choose (least h) := dif_pos h
      rw [this]
      exact Classical.choose_spec (least h)
    refine wp_loop (fun a x => ∃ n, J n a x) μ ⟨n, weak hsub hok hI hr hf⟩ fun a x hJ => ?_
    obtain ⟨hm, hleast⟩ := hμ a x hJ
    obtain ⟨f, σ, A, hI, hr, hf⟩ := hm
    refine wp_mono (swp_sound hT c _ f σ (hround _ f σ hI) A x a hr hf) fun e a' x' hs => ?_
    obtain ⟨f', σ', A', hk, hr', hf'⟩ := hs
    cases e with
    | normal =>
      obtain ⟨n', g, k, hlt, hsub, hok, hI'⟩ := hk
      have hJ' : J n' a' x' := weak hsub hok hI' hr' hf'
      exact ⟨⟨n', hJ'⟩, Nat.lt_of_le_of_lt ((hμ a' x' ⟨n', hJ'⟩).2 n' hJ') hlt⟩
    | _ => exact ⟨f', σ', A', hk, hr', hf'⟩
  | .exit id, K, f, σ, h, A, x, a, hr, hf => wp_exit ⟨f, σ, A, h, hr, hf⟩
  | .ret, K, f, σ, h, A, x, a, hr, hf => wp_ret ⟨f, σ, A, h, hr, hf⟩
  | .rangeFunc _ _ _ _, _, _, _, h, _, _, _, _, _ => h.elim
  | .scope _, _, _, _, h, _, _, _, _, _ => h.elim
  | .label _, _, _, _, h, _, _, _, _, _ => h.elim
  | .goto _, _, _, _, h, _, _, _, _, _ => h.elim
  | .refuse _, _, _, _, h, _, _, _, _, _ => h.elim

end
end Go.Proofs.Ytjbbgpacijageaa
