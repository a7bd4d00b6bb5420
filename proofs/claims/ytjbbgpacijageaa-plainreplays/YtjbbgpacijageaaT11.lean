/- A region that draws its order: an invariant over what is done. No program is named here. -/
import Derived.Test.YtjbbgpacijageaaT10
namespace Go.Proofs.Ytjbbgpacijageaa.M
open Go.RowKit
set_option linter.unusedVariables false
set_option linter.unusedSimpArgs false

def dstOf (ops : List Oper) (k : Nat) : Option Tmp := (ops[k]?).bind (·.dst)
def waitsB (ops : List Oper) (k i : Nat) : Bool :=
  match ops[k]? with
  | some o => o.after.toList.any fun e => Region.binds .any e && e.on == i
  | none => false
/-- Edges lead back; no slot is written twice; who looks at a slot that another one writes is in order with it. -/
def okRegion (ops : List Oper) : Bool :=
  Region.noSelect ops.toArray && (List.range ops.length).all fun i =>
    match ops[i]? with
    | none => true
    | some o =>
      o.after.toList.all (fun e => !Region.binds .any e || decide (e.on < i)) &&
      (List.range ops.length).all fun k =>
        match dstOf ops k with
        | none => true
        | some d => (k == i || o.dst != some d) && (!(o.looksAt ops.toArray).contains d || k == i || (decide (k < i) && waitsB ops i k) || (decide (i < k) && waitsB ops k i))

section
variable {P : Program} {ops : List Oper} {Q : Exit → Act → World → Prop}

theorem waitsB_spec {k i : Nat} (h : waitsB ops k i = true) : ∃ o e, ops[k]? = some o ∧ e ∈ o.after ∧ Region.binds .any e = true ∧ e.on = i := by
  unfold waitsB at h
  split at h
  · rename_i o ho
    simp only [List.any_eq_true, Bool.and_eq_true, beq_iff_eq] at h
    obtain ⟨e, he, hb, hon⟩ := h
    exact ⟨o, e, ho, by simpa using he, hb, hon⟩
  · cases h
theorem ok_edges {i : Nat} {o : Oper} (h : okRegion ops = true) (ho : ops[i]? = some o) : ∀ e ∈ o.after, Region.binds .any e = true → e.on < i := by
  simp only [okRegion, Bool.and_eq_true, List.all_eq_true, List.mem_range] at h
  have hi : i < ops.length := (List.getElem?_eq_some_iff.1 ho).1
  have h1 := h.2 i hi
  rw [ho] at h1
  simp only [Bool.and_eq_true, List.all_eq_true, Bool.or_eq_true, Bool.not_eq_true', decide_eq_true_iff] at h1
  intro e he hb
  rcases h1.1 e (by simpa using he) with h2 | h2
  · rw [hb] at h2; cases h2
  · exact h2
theorem ok_slots {i k d : Nat} {o : Oper} (h : okRegion ops = true) (ho : ops[i]? = some o) (hk : dstOf ops k = some d) :
    (k ≠ i → o.dst ≠ some d) ∧ (d ∈ o.looksAt ops.toArray → k = i ∨ (k < i ∧ waitsB ops i k = true) ∨ (i < k ∧ waitsB ops k i = true)) := by
  simp only [okRegion, Bool.and_eq_true, List.all_eq_true, List.mem_range] at h
  have hi : i < ops.length := (List.getElem?_eq_some_iff.1 ho).1
  have hk' : k < ops.length := by
    rcases Nat.lt_or_ge k ops.length with h' | h'
    · exact h'
    · simp [dstOf, List.getElem?_eq_none h'] at hk
  have h1 := h.2 i hi
  rw [ho] at h1
  simp only [Bool.and_eq_true, List.all_eq_true, List.mem_range] at h1
  have h2 := h1.2 k hk'
  rw [hk] at h2
  simp only [Bool.and_eq_true, Bool.or_eq_true, beq_iff_eq, bne_iff_ne, ne_eq, Bool.not_eq_true', decide_eq_true_iff] at h2
  refine ⟨fun hne => ?_, fun hd => ?_⟩
  · rcases h2.1 with h3 | h3
    · exact absurd h3 hne
    · exact h3
  · rcases h2.2 with ((h3 | h3) | h3) | h3
    · have : (o.looksAt ops.toArray).contains d = true := by simpa using hd
      rw [this] at h3; cases h3
    · exact Or.inl h3
    · exact Or.inr (Or.inl h3)
    · exact Or.inr (Or.inr h3)

/-- When operation i may go, what is done. -/
structure Adm (ops : List Oper) (i : Nat) (D : Nat → Bool) : Prop where
  un : D i = false
  ahead : ∀ k, waitsB ops i k = true → D k = true
  behind : ∀ k, waitsB ops k i = true → D k = false
  closed : ∀ k j, D k = true → waitsB ops k j = true → D j = true
/-- Waits, by others too. -/
def waitsT (ops : List Oper) : Nat → Nat → Nat → Bool
  | 0, _, _ => false
  | n + 1, k, i => match ops[k]? with
    | some o => o.after.toList.any fun e => Region.binds .any e && (e.on == i || waitsT ops n e.on i)
    | none => false
theorem waitsT_done {ops : List Oper} {D : Nat → Bool} (hc : ∀ k j, D k = true → waitsB ops k j = true → D j = true) : ∀ (n k i : Nat), waitsT ops n k i = true → D k = true → D i = true
  | 0, _, _, h, _ => by cases h
  | n + 1, k, i, h, hk => by
    unfold waitsT at h
    split at h
    · rename_i o ho
      simp only [List.any_eq_true, Bool.and_eq_true, Bool.or_eq_true, beq_iff_eq] at h
      obtain ⟨e, he, hb, h1⟩ := h
      have hw : waitsB ops k e.on = true := by
        unfold waitsB
        rw [ho]
        simp only [List.any_eq_true, Bool.and_eq_true, beq_iff_eq]
        exact ⟨e, he, hb, rfl⟩
      have hd := hc k e.on hk hw
      rcases h1 with rfl | h1
      · exact hd
      · exact waitsT_done hc n _ _ h1 hd
    · cases h
theorem Adm.aheadT {ops : List Oper} {i : Nat} {D : Nat → Bool} (h : Adm ops i D) {n k : Nat} (hw : waitsT ops n i k = true) : D k = true := by
  cases n with
  | zero => cases hw
  | succ n =>
    unfold waitsT at hw
    split at hw
    · rename_i o ho
      simp only [List.any_eq_true, Bool.and_eq_true, Bool.or_eq_true, beq_iff_eq] at hw
      obtain ⟨e, he, hb, h1⟩ := hw
      have hd : D e.on = true := h.ahead e.on (by
        unfold waitsB
        rw [ho]
        simp only [List.any_eq_true, Bool.and_eq_true, beq_iff_eq]
        exact ⟨e, he, hb, rfl⟩)
      rcases h1 with rfl | h1
      · exact hd
      · exact waitsT_done h.closed n _ _ h1 hd
    · cases hw
theorem Adm.behindT {ops : List Oper} {i : Nat} {D : Nat → Bool} (h : Adm ops i D) {n k : Nat} (hw : waitsT ops n k i = true) : D k = false := by
  cases hk : D k with
  | false => rfl
  | true =>
    have := waitsT_done h.closed n k i hw hk
    rw [h.un] at this
    cases this
def setD (D : Nat → Bool) (i : Nat) : Nat → Bool := fun k => k == i || D k

theorem filter_set {F G : Nat → Bool} {i : Nat} (hF : F i = false) (hG : G i = true) (hFG : ∀ k, k ≠ i → F k = G k) : ∀ (l : List Nat), l.Nodup → i ∈ l → (l.filter G).length = (l.filter F).length + 1
  | [], _, hi => by cases hi
  | k :: l, hn, hi => by
    have hn' := List.nodup_cons.1 hn
    by_cases hk : k = i
    · subst hk
      have hsame : l.filter G = l.filter F := List.filter_congr fun j hj => (hFG j (fun e => hn'.1 (e ▸ hj))).symm
      rw [List.filter_cons_of_pos hG, List.filter_cons_of_neg (by rw [hF]; exact Bool.false_ne_true), hsame]
      rfl
    · have hi' : i ∈ l := by
        rcases List.mem_cons.1 hi with h | h
        · exact absurd h.symm hk
        · exact h
      have ih := filter_set hF hG hFG l hn'.2 hi'
      rw [List.filter_cons, List.filter_cons, hFG k hk]
      split <;> simp [ih]

theorem wp_region_inv (Inv : (Nat → Bool) → Act → World → Prop) {id : Nat} {a0 : Act} {w0 : World} (hm : P.follows .mixedOrders = true) (hok : okRegion ops = true)
    (h0 : Inv (fun _ => false) a0 { w0 with drawn := w0.drawn + 1 })
    (hstep : ∀ (i : Nat) (o : Oper), ops[i]? = some o → ∀ D a x, Adm ops i D → Inv D a x →
      if Region.wanted o (yielded ops.toArray a.tmps) = true then upon4 P (fun v x' => Inv (setD D i) (a.put o.dst v) x') ((execOp a.eval o).run P x) else Inv (setD D i) (a.put o.dst undef) x)
    (hend : ∀ D a x, (∀ k, k < ops.length → D k = true) → Inv D a x → Q .normal a x) : (Code.region id ops.toArray true).wp P Q a0 w0 := by
  have main : ∀ (fuel : Nat) (L : Array Bool) (a : Act) (w : World), L.size = ops.length → ops.length ≤ ((List.range ops.length).filter (fun k => L.getD k false)).length + fuel → (∀ k j, L.getD k false = true → waitsB ops k j = true → L.getD j false = true) →
      Inv (fun k => L.getD k false) a w → wpAny P .any ops.toArray Q fuel L a w := by
    have fromReady : ∀ (L : Array Bool), L.size = ops.length → Region.ready .any ops.toArray L = [] → ∀ k, k < ops.length → L.getD k false = true := fun L hL hr k => by
      induction k using Nat.strongRecOn with
      | ind k ih =>
        intro hk
        cases hc : L.getD k false with
        | true => rfl
        | false =>
          exfalso
          have hmem : k ∈ Region.ready .any ops.toArray L := by
            rw [mem_ready]
            refine ⟨?_, ops[k], by simp, fun e he hb => ?_⟩
            · have : k < L.size := by omega
              simp [this] at hc ⊢
              exact hc
            · have hlt := ok_edges hok (i := k) (o := ops[k]) (by simp) e he hb
              exact ih e.on hlt (by omega)
          rw [hr] at hmem
          cases hmem
    intro fuel
    induction fuel with
    | zero =>
      intro L a w hL hc hcl hw
      have hfull : ∀ k, k < ops.length → L.getD k false = true := fun k hk => by
        have hle := List.length_filter_le (fun k => L.getD k false) (List.range ops.length)
        have heq : ((List.range ops.length).filter (fun k => L.getD k false)).length = (List.range ops.length).length := by simp at hle hc ⊢; omega
        have := List.length_filter_eq_length_iff.1 heq k (by simpa using hk)
        simpa using this
      refine ⟨?_, hend _ a w hfull hw⟩
      rw [List.eq_nil_iff_forall_not_mem]
      intro k hk
      obtain ⟨h1, o, ho, _⟩ := mem_ready.1 hk
      have hk' : k < ops.length := by simpa using (Array.getElem?_eq_some_iff.1 ho).1
      have h2 := hfull k hk'
      have : k < L.size := by omega
      simp [this] at h1 h2
      rw [h2] at h1
      cases h1
    | succ fuel ih =>
      intro L a w hL hc hcl hw
      refine ⟨fun hr => hend _ a w (fromReady L hL hr) hw, fun i hi => ?_⟩
      obtain ⟨hun, o, ho', hwait⟩ := mem_ready.1 hi
      have ho : ops[i]? = some o := by simpa using ho'
      have hin : i < ops.length := (List.getElem?_eq_some_iff.1 ho).1
      have hiL : i < L.size := by omega
      have hunF : L.getD i false = false := by simp [hiL] at hun ⊢; exact hun
      have hsetG : (L.setIfInBounds i true).getD i false = true := by simp [hiL]
      have hsetFG : ∀ k, k ≠ i → L.getD k false = (L.setIfInBounds i true).getD k false := fun k hk => by
        simp only [Array.getD_eq_getD_getElem?, Array.getElem?_setIfInBounds_ne (Ne.symm hk)]
      have hL' : (L.setIfInBounds i true).size = ops.length := by simp [hL]
      have hcnt : ops.length ≤ ((List.range ops.length).filter (fun k => (L.setIfInBounds i true).getD k false)).length + fuel := by
        rw [filter_set (F := fun k => L.getD k false) (G := fun k => (L.setIfInBounds i true).getD k false) hunF hsetG hsetFG _ List.nodup_range (by simpa using hin)]
        omega
      have hwaitB : ∀ k, waitsB ops i k = true → L.getD k false = true := fun k hk => by
        obtain ⟨o', e', ho'', he', hb, hon⟩ := waitsB_spec hk
        rw [ho] at ho''
        cases ho''
        have := hwait e' he' hb
        rwa [hon] at this
      have hbeh : ∀ k, waitsB ops k i = true → L.getD k false = false := fun k hk => by
        cases hLk : L.getD k false with
        | false => rfl
        | true => rw [hcl k i hLk hk] at hunF; cases hunF
      have hcl' : ∀ k j, (L.setIfInBounds i true).getD k false = true → waitsB ops k j = true → (L.setIfInBounds i true).getD j false = true := fun k j hk hj => by
        have hLj : L.getD j false = true := by
          by_cases hki : k = i
          · subst hki; exact hwaitB j hj
          · exact hcl k j (by rw [hsetFG k hki]; exact hk) hj
        by_cases hji : j = i
        · subst hji; exact hsetG
        · rw [← hsetFG j hji]; exact hLj
      have hD : (fun k => (L.setIfInBounds i true).getD k false) = setD (fun k => L.getD k false) i := by
        funext k
        unfold setD
        by_cases hki : k = i
        · subst hki; rw [hsetG]; simp
        · rw [← hsetFG k hki]; simp [hki]
      have hs := hstep i o ho _ a w ⟨hunF, hwaitB, hbeh, hcl⟩ hw
      have hgo : ∀ a'' w'', Inv (setD (fun k => L.getD k false) i) a'' w'' → wpAny P .any ops.toArray Q fuel (L.setIfInBounds i true) a'' w'' := fun a'' w'' hI =>
        ih _ _ _ hL' hcnt hcl' (by rw [hD]; exact hI)
      unfold wpOp
      rw [ho']
      simp only []
      split
      · rename_i hwant
        rw [if_pos hwant] at hs
        refine Or.inl ?_
        unfold Oper.wp
        generalize (execOp a.eval o).run P w = res at hs
        cases res with
        | ok nx w' =>
          cases nx <;> simp only [upon4] at hs <;> simp only [Oper.upon]
          case value u => exact hgo _ _ hs
          case skip => exact hgo _ _ hs
          case enter f args => exact hs.mono fun en w'' ⟨u, hen, h1⟩ => by subst hen; exact hgo _ _ h1
        | halt x w' => simp only [upon4] at hs
      · rename_i hwant
        rw [if_neg hwant] at hs
        exact hgo _ _ hs
  refine wp_region_any hm ?_
  have hfalse : ∀ k, (Array.replicate ops.length false).getD k false = false := fun k => by
    simp [Array.getElem?_replicate]
    split <;> rfl
  have := main ops.length (Array.replicate ops.length false) a0 { w0 with drawn := w0.drawn + 1 } (by simp) (by omega) (fun k j hk => by rw [hfalse k] at hk; cases hk) (by
    rw [show (fun k => (Array.replicate ops.length false).getD k false) = fun _ => false from funext hfalse]
    exact h0)
  simpa using this
end

/-- What an operation of such a region has looked at, and written; whether it is a call, and makes names. -/
structure Lg where
  t : List Nat
  w : List Nat
  q : Bool
  cr : Bool
def efW (n : Nat) : Ef → List Nat
  | .none => []
  | .set i _ => [i]
  | .new _ => [n]
def meet : List Nat → List Nat → Bool
  | [], _ => false
  | a :: r, l => l.contains a || meet r l
def clash (a b : Lg) : Bool := meet a.w b.t || meet a.t b.w || (a.q && b.q && (a.cr || b.cr))
/-- Who would get into each other's way are in order. -/
def okLog (ops : List Oper) (l : List Lg) : Bool :=
  (List.range l.length).all fun j => (List.range j).all fun i => match l[i]?, l[j]? with
    | some a, some b => !clash a b || waitsT ops ops.length j i
    | _, _ => false
def okCr (l : List Lg) : Bool := l.all fun a => !a.cr || a.q

def drwK (T : Tab) (S : List (Nat × Spec)) (N : Nat) (ops : List Oper) (ds : List (Option Tmp)) : List Oper → List Lg → Fr → List V → NS → (Fr → List V → NS → Prop) → Prop
  | [], lg, f, bl, nn, K => Need ((okLog ops lg.reverse && okCr lg) = true) (K f bl nn)
  | o :: r, lg, f, bl, nn, K => guardK ds o.guard f
      (fun f => opK T S o f bl nn.n fun
        | ⟨v, ef, m, rd, q, cr⟩ => efK bl ef fun bl' => lenK bl 0 fun n => putK N o.dst v f fun f' => addK nn cr m fun nn' => drwK T S N ops ds r (⟨rd ++ efW n ef, efW n ef, q, cr⟩ :: lg) f' bl' nn' K)
      (fun f => putK N o.dst und f fun f' => drwK T S N ops ds r (⟨[], [], false, false⟩ :: lg) f' bl nn K)

/-- The walk, written down. -/
structure Tr (P : Program) (w0 : World) (F0 : Old) (N : Nat) (ops : List Oper) where
  f : Nat → Fr
  b : Nat → List V
  n : Nat → Nat
  o : Nat → Out
def Tr.lg {P : Program} {w0 : World} {F0 : Old} {N : Nat} {ops : List Oper} (T : Tr P w0 F0 N ops) (i : Nat) : Lg := ⟨(T.o i).rd ++ efW (T.b i).length (T.o i).ef, efW (T.b i).length (T.o i).ef, (T.o i).q, (T.o i).cr⟩

structure Tr.At {P : Program} {w0 : World} {F0 : Old} {N : Nat} {ops : List Oper} (T : Tr P w0 F0 N ops) (i : Nat) (o : Oper) : Prop where
  look : ∀ u, look (T.f (i + 1)) u = if o.dst = some u then some (T.o i).r else M.look (T.f i) u
  dst : ∀ d, o.dst = some d → d < N
  bl : T.b (i + 1) = efB (T.b i) (T.o i).ef
  nn : T.n (i + 1) = T.n i + (T.o i).m
  set : ∀ j y, (T.o i).ef = .set j y → j < (T.b i).length
  cr : (T.o i).cr = false → (T.o i).m = 0
  way : ((∀ (E : Env) (a : Act), (∀ t s, t ∈ o.looksAt ops.toArray → M.look (T.f i) t = some s → a.tmps[t]? = some (s.val E)) → Region.wanted o (yielded ops.toArray a.tmps) = true) ∧ Does P w0 F0 o (T.f i) (fun j => (T.b i)[j]?) (T.b i).length (T.n i) (T.o i)) ∨
    ((∀ (E : Env) (a : Act), (∀ t s, t ∈ o.looksAt ops.toArray → M.look (T.f i) t = some s → a.tmps[t]? = some (s.val E)) → Region.wanted o (yielded ops.toArray a.tmps) = false) ∧ T.o i = ⟨und, .none, 0, [], false, false⟩)

section
variable {P : Program} {T : Tab} {S : List (Nat × Spec)} {w0 : World} {F0 : Old} {N : Nat}

theorem guardK_all {ops : List Oper} {o : Oper} {f : Fr} {yes no : Fr → Prop} (h : guardK (ops.map (·.dst)) o.guard f yes no) :
    ((∀ (E : Env) (a : Act), (∀ t s, t ∈ o.looksAt ops.toArray → look f t = some s → a.tmps[t]? = some (s.val E)) → Region.wanted o (yielded ops.toArray a.tmps) = true) ∧ ∃ f', yes f' ∧ ∀ u, look f' u = look f u) ∨
    ((∀ (E : Env) (a : Act), (∀ t s, t ∈ o.looksAt ops.toArray → look f t = some s → a.tmps[t]? = some (s.val E)) → Region.wanted o (yielded ops.toArray a.tmps) = false) ∧ ∃ f', no f' ∧ ∀ u, look f' u = look f u) := by
  unfold guardK at h
  split at h
  · rename_i hg
    exact Or.inl ⟨fun E a _ => by unfold Region.wanted; rw [hg], f, h, fun _ => rfl⟩
  · rename_i j want hg
    split at h
    · rename_i t hj
      rw [nthT_eq] at hj
      have hjt : (ops.toArray[j]?).bind (·.dst) = some t := by
        simp only [List.getElem?_map] at hj
        cases ho : ops[j]? with
        | none => rw [ho] at hj; cases hj
        | some oj => rw [ho] at hj; simp [ho]; simpa using hj
      have hmem : t ∈ o.looksAt ops.toArray := by
        unfold Oper.looksAt
        rw [hg]
        simp only [List.mem_append]
        exact Or.inr (by rw [hjt]; simp)
      split at h
      · rename_i b hb
        have hw : ∀ (E : Env) (a : Act), (∀ t s, t ∈ o.looksAt ops.toArray → look f t = some s → a.tmps[t]? = some (s.val E)) → Region.wanted o (yielded ops.toArray a.tmps) = (b == want) := fun E a hl => by
          have h1 := hl t _ hmem hb
          have hy : yielded ops.toArray a.tmps j = some b := by unfold yielded; rw [hjt]; simp [h1, SV.val, AV.val, V.val]
          unfold Region.wanted
          rw [hg]
          simp [hy]
        have hlook : ∀ b', b = b' → ∀ u, look ((t, lit b') :: f) u = look f u := fun b' hbb u => by
          show (match Nat.beq u t with | true => some (lit b') | false => look f u) = look f u
          split
          · rename_i hu
            have := Nat.eq_of_beq_eq_true hu
            subst this
            rw [hb, ← hbb]
            rfl
          · rfl
        split at h
        · cases hbb : b with
          | true => exact Or.inl ⟨fun E a hl => by rw [hw E a hl, hbb]; rfl, _, h.t hbb, hlook _ hbb⟩
          | false => exact Or.inr ⟨fun E a hl => by rw [hw E a hl, hbb]; rfl, _, h.f hbb, hlook _ hbb⟩
        · cases hbb : b with
          | true => exact Or.inr ⟨fun E a hl => by rw [hw E a hl, hbb]; rfl, _, h.t hbb, hlook _ hbb⟩
          | false => exact Or.inl ⟨fun E a hl => by rw [hw E a hl, hbb]; rfl, _, h.f hbb, hlook _ hbb⟩
      · rename_i q hb
        refine Or.inr ⟨fun E a hl => ?_, f, h, fun _ => rfl⟩
        have h1 := hl t _ hmem hb
        have hy : yielded ops.toArray a.tmps j = none := by unfold yielded; rw [hjt]; simp [h1, SV.val, AV.val]
        unfold Region.wanted
        rw [hg]
        simp [hy]
      · exact h.elim
    · exact h.elim

theorem evS_congr {f f' : Fr} (h : ∀ u, look f' u = look f u) (x : Operand) : evS f' x = evS f x := by
  cases x with
  | tmp t => exact h t
  | _ => rfl
theorem Does.congr {o : Oper} {f f' : Fr} {get : Nat → Option V} {bl nn : Nat} {out : Out} (h : ∀ u, look f' u = look f u) (hd : Does P w0 F0 o f' get bl nn out) : Does P w0 F0 o f get bl nn out :=
  ⟨hd.1, fun c ρ hw hρ => hd.2 c ρ hw fun y hy s hs => hρ y hy s (by rw [← evS_congr h]; exact hs)⟩
theorem putK_look {d : Option Tmp} {s : SV} {f : Fr} {k : Fr → Prop} (h : putK N d s f k) : ∃ f', k f' ∧ (∀ u, look f' u = if d = some u then some s else look f u) ∧ ∀ t, d = some t → t < N := by
  unfold putK at h
  split at h
  · rename_i d
    split at h
    · rename_i hd
      refine ⟨_, h, fun u => ?_, fun t ht => by cases ht; exact Nat.le_of_ble_eq_true hd⟩
      show (match Nat.beq u d with | true => some s | false => look f u) = _
      split
      · rename_i hu
        have := Nat.eq_of_beq_eq_true hu
        subst this
        rw [if_pos rfl]
      · rename_i hu
        rw [if_neg fun h => by cases h; simp at hu]
    · exact h.elim
  · exact ⟨f, h, fun u => by rw [if_neg (fun h => by cases h)], fun t ht => by cases ht⟩

theorem drw_tr (hT : TabOk P T) (hS : SpecsOk P S) {ops : List Oper} {K : Fr → List V → NS → Prop} : ∀ (l : List Oper) (lg : List Lg) (f : Fr) (bl : List V) (nn : NS), drwK T S N ops (ops.map (·.dst)) l lg f bl nn K →
    ∃ t : Tr P w0 F0 N ops, t.f 0 = f ∧ t.b 0 = bl ∧ t.n 0 = nn.n ∧ (∀ i o, l[i]? = some o → t.At i o) ∧ K (t.f l.length) (t.b l.length) ⟨t.n l.length, nn.tk⟩ ∧ okLog ops (lg.reverse ++ (List.range l.length).map t.lg) = true ∧ okCr (lg.reverse ++ (List.range l.length).map t.lg) = true
  | [], lg, f, bl, nn, h => by
    obtain ⟨h1, h2⟩ := h
    rw [Bool.and_eq_true] at h1
    exact ⟨⟨fun _ => f, fun _ => bl, fun _ => nn.n, fun _ => ⟨und, .none, 0, [], false, false⟩⟩, rfl, rfl, rfl, fun i o hi => by simp at hi, h2, by simpa using h1.1, by simpa [okCr] using h1.2⟩
  | o :: r, lg, f, bl, nn, h => by
    unfold drwK at h
    -- what comes behind, shifted by one
    have shift : ∀ (out : Out) (f1 : Fr), (∀ u, look f1 u = if o.dst = some u then some out.r else look f u) → (∀ d, o.dst = some d → d < N) → (∀ j y, out.ef = .set j y → j < bl.length) → (out.cr = false → out.m = 0) →
        (((∀ (E : Env) (a : Act), (∀ t s, t ∈ o.looksAt ops.toArray → look f t = some s → a.tmps[t]? = some (s.val E)) → Region.wanted o (yielded ops.toArray a.tmps) = true) ∧ Does P w0 F0 o f (fun j => bl[j]?) bl.length nn.n out) ∨
          ((∀ (E : Env) (a : Act), (∀ t s, t ∈ o.looksAt ops.toArray → look f t = some s → a.tmps[t]? = some (s.val E)) → Region.wanted o (yielded ops.toArray a.tmps) = false) ∧ out = ⟨und, .none, 0, [], false, false⟩)) →
        drwK T S N ops (ops.map (·.dst)) r (⟨out.rd ++ efW bl.length out.ef, efW bl.length out.ef, out.q, out.cr⟩ :: lg) f1 (efB bl out.ef) ⟨nn.n + out.m, nn.tk⟩ K →
        ∃ t : Tr P w0 F0 N ops, t.f 0 = f ∧ t.b 0 = bl ∧ t.n 0 = nn.n ∧ (∀ i o', (o :: r)[i]? = some o' → t.At i o') ∧ K (t.f (r.length + 1)) (t.b (r.length + 1)) ⟨t.n (r.length + 1), nn.tk⟩ ∧ okLog ops (lg.reverse ++ (List.range (r.length + 1)).map t.lg) = true ∧ okCr (lg.reverse ++ (List.range (r.length + 1)).map t.lg) = true := by
      intro out f1 hl hd hset hcr hway hrest
      obtain ⟨t, e1, e2, e3, e4, e5, e6, e7⟩ := drw_tr hT hS r _ f1 _ _ hrest
      let t' : Tr P w0 F0 N ops := ⟨fun i => match i with | 0 => f | i + 1 => t.f i, fun i => match i with | 0 => bl | i + 1 => t.b i, fun i => match i with | 0 => nn.n | i + 1 => t.n i, fun i => match i with | 0 => out | i + 1 => t.o i⟩
      have hlg : (List.range (r.length + 1)).map t'.lg = ⟨out.rd ++ efW bl.length out.ef, efW bl.length out.ef, out.q, out.cr⟩ :: (List.range r.length).map t.lg := by
        rw [List.range_succ_eq_map, List.map_cons, List.map_map]
        rfl
      refine ⟨t', rfl, rfl, rfl, fun i o' hi => ?_, e5, ?_, ?_⟩
      · cases i with
        | zero =>
          have : o = o' := by simpa using hi
          subst this
          refine ⟨fun u => ?_, hd, ?_, ?_, hset, hcr, hway⟩
          · show look (t.f 0) u = _
            rw [e1]; exact hl u
          · show t.b 0 = _
            rw [e2]
          · show t.n 0 = _
            rw [e3]
        | succ i =>
          have := e4 i o' (by simpa using hi)
          exact ⟨this.look, this.dst, this.bl, this.nn, this.set, this.cr, this.way⟩
      · rw [hlg]
        rw [List.reverse_cons, List.append_assoc] at e6
        exact e6
      · rw [hlg]
        rw [List.reverse_cons, List.append_assoc] at e7
        exact e7
    rcases guardK_all h with ⟨hw, f', hy, hlk⟩ | ⟨hw, f', hno, hlk⟩
    · obtain ⟨out, hk, hd⟩ := opK_sound (w0 := w0) (F0 := F0) hT hS hy
      have hk : efK bl out.ef fun bl' => lenK bl 0 fun n => putK N o.dst out.r f' fun f'' => addK nn out.cr out.m fun nn' => drwK T S N ops (ops.map (·.dst)) r (⟨out.rd ++ efW n out.ef, efW n out.ef, out.q, out.cr⟩ :: lg) f'' bl' nn' K := by
        cases out; exact hk
      have hset : ∀ j y, out.ef = .set j y → j < bl.length := fun j y hj => by
        rw [hj] at hk
        exact (setB_elim _ _ _ _ hk).2
      have hk := lenK_elim _ _ _ (efK_elim hk)
      rw [Nat.add_zero] at hk
      obtain ⟨f1, hk1, hl1, hd1⟩ := putK_look hk
      have hk2 : drwK T S N ops (ops.map (·.dst)) r (⟨out.rd ++ efW bl.length out.ef, efW bl.length out.ef, out.q, out.cr⟩ :: lg) f1 (efB bl out.ef) ⟨nn.n + out.m, nn.tk⟩ K := by
        cases hc : out.cr with
        | true => simp only [hc, addK] at hk1; exact hk1
        | false =>
          simp only [hc, addK] at hk1
          rw [hd.1 hc, Nat.add_zero]
          exact hk1
      exact shift out f1 (fun u => by rw [hl1 u, hlk u]) hd1 hset hd.1 (Or.inl ⟨hw, hd.congr hlk⟩) hk2
    · obtain ⟨f1, hk1, hl1, hd1⟩ := putK_look hno
      exact shift ⟨und, .none, 0, [], false, false⟩ f1 (fun u => by rw [hl1 u, hlk u]) hd1 (fun j y hj => by cases hj) (fun _ => rfl) (Or.inr ⟨hw, rfl⟩) hk1
end

end Go.Proofs.Ytjbbgpacijageaa.M
