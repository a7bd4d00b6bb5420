/- Several texts in one. -/
import Derived.Test.YtjbbgpacijageabUB
/- A region that draws its order: an invariant over what is done. No program is named here. -/
namespace Go.Proofs.Ytjbbgpacijageab.M
open Go.RowKit
set_option linter.unusedVariables false
set_option linter.unusedSimpArgs false

def dstOf (ops : List Oper) (k : Nat) : Option Tmp := (ops[k]?).bind (·.dst)
def waitsB (ops : List Oper) (k i : Nat) : Bool :=
  match ops[k]? with
  | some o => o.after.toList.any fun e => Region.binds .any e && e.on == i
  | none => false
/-- Edges lead back; no slot is written twice; who looks at a slot that another one writes is in order with it. -/
def okRegion (ops : List Oper) : Bool :=
  Region.noSelect ops.toArray && (List.range ops.length).all fun i =>
    match ops[i]? with
    | none => true
    | some o =>
      o.after.toList.all (fun e => !Region.binds .any e || decide (e.on < i)) &&
      (List.range ops.length).all fun k =>
        match dstOf ops k with
        | none => true
        | some d => (k == i || o.dst != some d) && (!(o.looksAt ops.toArray).contains d || k == i || (decide (k < i) && waitsB ops i k) || (decide (i < k) && waitsB ops k i))

section
variable {P : Program} {ops : List Oper} {Q : Exit → Act → World → Prop}

theorem waitsB_spec {k i : Nat} (h : waitsB ops k i = true) : ∃ o e, ops[k]? = some o ∧ e ∈ o.after ∧ Region.binds .any e = true ∧ e.on = i := by
  unfold waitsB at h
  split at h
  · rename_i o ho
    simp only [List.any_eq_true, Bool.and_eq_true, beq_iff_eq] at h
    obtain ⟨e, he, hb, hon⟩ := h
    exact ⟨o, e, ho, by simpa using he, hb, hon⟩
  · cases h
theorem ok_edges {i : Nat} {o : Oper} (h : okRegion ops = true) (ho : ops[i]? = some o) : ∀ e ∈ o.after, Region.binds .any e = true → e.on < i := by
  simp only [okRegion, Bool.and_eq_true, List.all_eq_true, List.mem_range] at h
  have hi : i < ops.length := (List.getElem?_eq_some_iff.1 ho).1
  have h1 := h.2 i hi
  rw [ho] at h1
  simp only [Bool.and_eq_true, List.all_eq_true, Bool.or_eq_true, Bool.not_eq_true', decide_eq_true_iff] at h1
  intro e he hb
  rcases h1.1 e (by simpa using he) with h2 | h2
  · rw [hb] at h2; cases h2
  · exact h2
theorem ok_slots {i k d : Nat} {o : Oper} (h : okRegion ops = true) (ho : ops[i]? = some o) (hk : dstOf ops k = some d) :
    (k ≠ i → o.dst ≠ some d) ∧ (d ∈ o.looksAt ops.toArray → k = i ∨ (k < i ∧ waitsB ops i k = true) ∨ (i < k ∧ waitsB ops k i = true)) := by
  simp only [okRegion, Bool.and_eq_true, List.all_eq_true, List.mem_range] at h
  have hi : i < ops.length := (List.getElem?_eq_some_iff.1 ho).1
  have hk' : k < ops.length := by
    rcases Nat.lt_or_ge k ops.length with h' | h'
    · exact h'
    · simp [dstOf, List.getElem?_eq_none h'] at hk
  have h1 := h.2 i hi
  rw [ho] at h1
  simp only [Bool.and_eq_true, List.all_eq_true, List.mem_range] at h1
  have h2 := h1.2 k hk'
  rw [hk] at h2
  simp only [Bool.and_eq_true, Bool.or_eq_true, beq_iff_eq, bne_iff_ne, ne_eq, Bool.not_eq_true', decide_eq_true_iff] at h2
  refine ⟨fun hne => ?_, fun hd => ?_⟩
  · rcases h2.1 with h3 | h3
    · exact absurd h3 hne
    · exact h3
  · rcases h2.2 with ((h3 | h3) | h3) | h3
    · have : (o.looksAt ops.toArray).contains d = true := by simpa using hd
      rw [this] at h3; cases h3
    · exact Or.inl h3
    · exact Or.inr (Or.inl h3)
    · exact Or.inr (Or.inr h3)

/-- When operation i may go, what is done. -/
structure Adm (ops : List Oper) (i : Nat) (D : Nat → Bool) : Prop where
  un : D i = false
  ahead : ∀ k, waitsB ops i k = true → D k = true
  behind : ∀ k, waitsB ops k i = true → D k = false
  closed : ∀ k j, D k = true → waitsB ops k j = true → D j = true
/-- Waits, by others too. -/
def waitsT (ops : List Oper) : Nat → Nat → Nat → Bool
  | 0, _, _ => false
  | n + 1, k, i => match ops[k]? with
    | some o => o.after.toList.any fun e => Region.binds .any e && (e.on == i || waitsT ops n e.on i)
    | none => false
/-- Waits: at once, or by others. -/
def waitsD (ops : List Oper) (k i : Nat) : Bool := waitsB ops k i || waitsT ops ops.length k i
theorem waitsD_T {ops : List Oper} {k i : Nat} (h : waitsD ops k i = true) : waitsT ops ops.length k i = true := by
  unfold waitsD at h
  rw [Bool.or_eq_true] at h
  rcases h with h | h
  · obtain ⟨o, e, ho, he, hb, hon⟩ := waitsB_spec h
    have hk : k < ops.length := (List.getElem?_eq_some_iff.1 ho).1
    obtain ⟨n, hn⟩ : ∃ n, ops.length = n + 1 := ⟨ops.length - 1, by omega⟩
    rw [hn]
    unfold waitsT
    rw [ho]
    simp only [List.any_eq_true, Bool.and_eq_true, Bool.or_eq_true, beq_iff_eq]
    exact ⟨e, by simpa using he, hb, Or.inl hon⟩
  · exact h
theorem waitsT_done {ops : List Oper} {D : Nat → Bool} (hc : ∀ k j, D k = true → waitsB ops k j = true → D j = true) : ∀ (n k i : Nat), waitsT ops n k i = true → D k = true → D i = true
  | 0, _, _, h, _ => by cases h
  | n + 1, k, i, h, hk => by
    unfold waitsT at h
    split at h
    · rename_i o ho
      simp only [List.any_eq_true, Bool.and_eq_true, Bool.or_eq_true, beq_iff_eq] at h
      obtain ⟨e, he, hb, h1⟩ := h
      have hw : waitsB ops k e.on = true := by
        unfold waitsB
        rw [ho]
        simp only [List.any_eq_true, Bool.and_eq_true, beq_iff_eq]
        exact ⟨e, he, hb, rfl⟩
      have hd := hc k e.on hk hw
      rcases h1 with rfl | h1
      · exact hd
      · exact waitsT_done hc n _ _ h1 hd
    · cases h
theorem Adm.aheadT {ops : List Oper} {i : Nat} {D : Nat → Bool} (h : Adm ops i D) {n k : Nat} (hw : waitsT ops n i k = true) : D k = true := by
  cases n with
  | zero => cases hw
  | succ n =>
    unfold waitsT at hw
    split at hw
    · rename_i o ho
      simp only [List.any_eq_true, Bool.and_eq_true, Bool.or_eq_true, beq_iff_eq] at hw
      obtain ⟨e, he, hb, h1⟩ := hw
      have hd : D e.on = true := h.ahead e.on (by
        unfold waitsB
        rw [ho]
        simp only [List.any_eq_true, Bool.and_eq_true, beq_iff_eq]
        exact ⟨e, he, hb, rfl⟩)
      rcases h1 with rfl | h1
      · exact hd
      · exact waitsT_done h.closed n _ _ h1 hd
    · cases hw
theorem Adm.behindT {ops : List Oper} {i : Nat} {D : Nat → Bool} (h : Adm ops i D) {n k : Nat} (hw : waitsT ops n k i = true) : D k = false := by
  cases hk : D k with
  | false => rfl
  | true =>
    have := waitsT_done h.closed n k i hw hk
    rw [h.un] at this
    cases this
def setD (D : Nat → Bool) (i : Nat) : Nat → Bool := fun k => k == i || D k

theorem filter_set {F G : Nat → Bool} {i : Nat} (hF : F i = false) (hG : G i = true) (hFG : ∀ k, k ≠ i → F k = G k) : ∀ (l : List Nat), l.Nodup → i ∈ l → (l.filter G).length = (l.filter F).length + 1
  | [], _, hi => by cases hi
  | k :: l, hn, hi => by
    have hn' := List.nodup_cons.1 hn
    by_cases hk : k = i
    · subst hk
      have hsame : l.filter G = l.filter F := List.filter_congr fun j hj => (hFG j (fun e => hn'.1 (e ▸ hj))).symm
      rw [List.filter_cons_of_pos hG, List.filter_cons_of_neg (by rw [hF]; exact Bool.false_ne_true), hsame]
      rfl
    · have hi' : i ∈ l := by
        rcases List.mem_cons.1 hi with h | h
        · exact absurd h.symm hk
        · exact h
      have ih := filter_set hF hG hFG l hn'.2 hi'
      rw [List.filter_cons, List.filter_cons, hFG k hk]
      split <;> simp [ih]

theorem wp_region_inv (Inv : (Nat → Bool) → Act → World → Prop) {id : Nat} {a0 : Act} {w0 : World} (hm : P.follows .mixedOrders = true) (hok : okRegion ops = true)
    (h0 : Inv (fun _ => false) a0 { w0 with drawn := w0.drawn + 1 })
    (hstep : ∀ (i : Nat) (o : Oper), ops[i]? = some o → ∀ D a x, Adm ops i D → Inv D a x →
      if Region.wanted o (yielded ops.toArray a.tmps) = true then upon4 P (fun v x' => Inv (setD D i) (a.put o.dst v) x') ((execOp a.eval o).run P x) else Inv (setD D i) (a.put o.dst undef) x)
    (hend : ∀ D a x, (∀ k, k < ops.length → D k = true) → Inv D a x → Q .normal a x) : (Code.region id ops.toArray true).wp P Q a0 w0 := by
  have main : ∀ (fuel : Nat) (L : Array Bool) (a : Act) (w : World), L.size = ops.length → ops.length ≤ ((List.range ops.length).filter (fun k => L.getD k false)).length + fuel → (∀ k j, L.getD k false = true → waitsB ops k j = true → L.getD j false = true) →
      Inv (fun k => L.getD k false) a w → wpAny P .any ops.toArray Q fuel L a w := by
    have fromReady : ∀ (L : Array Bool), L.size = ops.length → Region.ready .any ops.toArray L = [] → ∀ k, k < ops.length → L.getD k false = true := fun L hL hr k => by
      induction k using Nat.strongRecOn with
      | ind k ih =>
        intro hk
        cases hc : L.getD k false with
        | true => rfl
        | false =>
          exfalso
          have hmem : k ∈ Region.ready .any ops.toArray L := by
            rw [mem_ready]
            refine ⟨?_, ops[k], by simp, fun e he hb => ?_⟩
            · have : k < L.size := by omega
              simp [this] at hc ⊢
              exact hc
            · have hlt := ok_edges hok (i := k) (o := ops[k]) (by simp) e he hb
              exact ih e.on hlt (by omega)
          rw [hr] at hmem
          cases hmem
    intro fuel
    induction fuel with
    | zero =>
      intro L a w hL hc hcl hw
      have hfull : ∀ k, k < ops.length → L.getD k false = true := fun k hk => by
        have hle := List.length_filter_le (fun k => L.getD k false) (List.range ops.length)
        have heq : ((List.range ops.length).filter (fun k => L.getD k false)).length = (List.range ops.length).length := by simp at hle hc ⊢; omega
        have := List.length_filter_eq_length_iff.1 heq k (by simpa using hk)
        simpa using this
      refine ⟨?_, hend _ a w hfull hw⟩
      rw [List.eq_nil_iff_forall_not_mem]
      intro k hk
      obtain ⟨h1, o, ho, _⟩ := mem_ready.1 hk
      have hk' : k < ops.length := by simpa using (Array.getElem?_eq_some_iff.1 ho).1
      have h2 := hfull k hk'
      have : k < L.size := by omega
      simp [this] at h1 h2
      rw [h2] at h1
      cases h1
    | succ fuel ih =>
      intro L a w hL hc hcl hw
      refine ⟨fun hr => hend _ a w (fromReady L hL hr) hw, fun i hi => ?_⟩
      obtain ⟨hun, o, ho', hwait⟩ := mem_ready.1 hi
      have ho : ops[i]? = some o := by simpa using ho'
      have hin : i < ops.length := (List.getElem?_eq_some_iff.1 ho).1
      have hiL : i < L.size := by omega
      have hunF : L.getD i false = false := by simp [hiL] at hun ⊢; exact hun
      have hsetG : (L.setIfInBounds i true).getD i false = true := by simp [hiL]
      have hsetFG : ∀ k, k ≠ i → L.getD k false = (L.setIfInBounds i true).getD k false := fun k hk => by
        simp only [Array.getD_eq_getD_getElem?, Array.getElem?_setIfInBounds_ne (Ne.symm hk)]
      have hL' : (L.setIfInBounds i true).size = ops.length := by simp [hL]
      have hcnt : ops.length ≤ ((List.range ops.length).filter (fun k => (L.setIfInBounds i true).getD k false)).length + fuel := by
        rw [filter_set (F := fun k => L.getD k false) (G := fun k => (L.setIfInBounds i true).getD k false) hunF hsetG hsetFG _ List.nodup_range (by simpa using hin)]
        omega
      have hwaitB : ∀ k, waitsB ops i k = true → L.getD k false = true := fun k hk => by
        obtain ⟨o', e', ho'', he', hb, hon⟩ := waitsB_spec hk
        rw [ho] at ho''
        cases ho''
        have := hwait e' he' hb
        rwa [hon] at this
      have hbeh : ∀ k, waitsB ops k i = true → L.getD k false = false := fun k hk => by
        cases hLk : L.getD k false with
        | false => rfl
        | true => rw [hcl k i hLk hk] at hunF; cases hunF
      have hcl' : ∀ k j, (L.setIfInBounds i true).getD k false = true → waitsB ops k j = true → (L.setIfInBounds i true).getD j false = true := fun k j hk hj => by
        have hLj : L.getD j false = true := by
          by_cases hki : k = i
          · subst hki; exact hwaitB j hj
          · exact hcl k j (by rw [hsetFG k hki]; exact hk) hj
        by_cases hji : j = i
        · subst hji; exact hsetG
        · rw [← hsetFG j hji]; exact hLj
      have hD : (fun k => (L.setIfInBounds i true).getD k false) = setD (fun k => L.getD k false) i := by
        funext k
        unfold setD
        by_cases hki : k = i
        · subst hki; rw [hsetG]; simp
        · rw [← hsetFG k hki]; simp [hki]
      have hs := hstep i o ho _ a w ⟨hunF, hwaitB, hbeh, hcl⟩ hw
      have hgo : ∀ a'' w'', Inv (setD (fun k => L.getD k false) i) a'' w'' → wpAny P .any ops.toArray Q fuel (L.setIfInBounds i true) a'' w'' := fun a'' w'' hI =>
        ih _ _ _ hL' hcnt hcl' (by rw [hD]; exact hI)
      unfold wpOp
      rw [ho']
      simp only []
      split
      · rename_i hwant
        rw [if_pos hwant] at hs
        refine Or.inl ?_
        unfold Oper.wp
        generalize (execOp a.eval o).run P w = res at hs
        cases res with
        | ok nx w' =>
          cases nx <;> simp only [upon4] at hs <;> simp only [Oper.upon]
          case value u => exact hgo _ _ hs
          case skip => exact hgo _ _ hs
          case enter f args => exact hs.mono fun en w'' ⟨u, hen, h1⟩ => by subst hen; exact hgo _ _ h1
        | halt x w' => simp only [upon4] at hs
      · rename_i hwant
        rw [if_neg hwant] at hs
        exact hgo _ _ hs
  refine wp_region_any hm ?_
  have hfalse : ∀ k, (Array.replicate ops.length false).getD k false = false := fun k => by
    simp [Array.getElem?_replicate]
    split <;> rfl
  have := main ops.length (Array.replicate ops.length false) a0 { w0 with drawn := w0.drawn + 1 } (by simp) (by omega) (fun k j hk => by rw [hfalse k] at hk; cases hk) (by
    rw [show (fun k => (Array.replicate ops.length false).getD k false) = fun _ => false from funext hfalse]
    exact h0)
  simpa using this
end

/-- What an operation of such a region has looked at, and written; whether it is a call, and makes names. -/
structure Lg where
  t : List Nat
  w : List Nat
  q : Bool
  cr : Bool
def efW (n : Nat) : Ef → List Nat
  | .none => []
  | .set i _ => [i]
  | .new _ => [n]
def meet : List Nat → List Nat → Bool
  | [], _ => false
  | a :: r, l => l.contains a || meet r l
def clash (a b : Lg) : Bool := meet a.w b.t || meet a.t b.w || (a.q && b.q && (a.cr || b.cr))
/-- Who would get into each other's way are in order. -/
def okLog (ops : List Oper) (l : List Lg) : Bool :=
  (List.range l.length).all fun j => (List.range j).all fun i => match l[i]?, l[j]? with
    | some a, some b => !clash a b || waitsD ops j i
    | _, _ => false
def okCr (l : List Lg) : Bool := l.all fun a => !a.cr || a.q

def drwK (T : Tab) (S : List (Nat × Spec)) (N : Nat) (ops : List Oper) (ds : List (Option Tmp)) : List Oper → List Lg → Fr → List V → NS → (Fr → List V → NS → Prop) → Prop
  | [], lg, f, bl, nn, K => Need ((okLog ops lg.reverse && okCr lg) = true) (K f bl nn)
  | o :: r, lg, f, bl, nn, K => guardK ds o.guard f
      (fun f => opK T S o f bl nn.n fun
        | ⟨v, ef, m, rd, q, cr⟩ => efK bl ef fun bl' => lenK bl 0 fun n => putK N o.dst v f fun f' => addK nn cr m fun nn' => drwK T S N ops ds r (⟨rd ++ efW n ef, efW n ef, q, cr⟩ :: lg) f' bl' nn' K)
      (fun f => putK N o.dst und f fun f' => drwK T S N ops ds r (⟨[], [], false, false⟩ :: lg) f' bl nn K)

/-- The walk, written down. -/
structure Tr (P : Program) (w0 : World) (F0 : Old) (N : Nat) (ops : List Oper) where
  f : Nat → Fr
  b : Nat → List V
  n : Nat → Nat
  o : Nat → Out
def Tr.lg {P : Program} {w0 : World} {F0 : Old} {N : Nat} {ops : List Oper} (T : Tr P w0 F0 N ops) (i : Nat) : Lg := ⟨(T.o i).rd ++ efW (T.b i).length (T.o i).ef, efW (T.b i).length (T.o i).ef, (T.o i).q, (T.o i).cr⟩

structure Tr.At {P : Program} {w0 : World} {F0 : Old} {N : Nat} {ops : List Oper} (T : Tr P w0 F0 N ops) (i : Nat) (o : Oper) : Prop where
  look : ∀ u, look (T.f (i + 1)) u = if o.dst = some u then some (T.o i).r else M.look (T.f i) u
  dst : ∀ d, o.dst = some d → d < N
  bl : T.b (i + 1) = efB (T.b i) (T.o i).ef
  nn : T.n (i + 1) = T.n i + (T.o i).m
  set : ∀ j y, (T.o i).ef = .set j y → j < (T.b i).length
  cr : (T.o i).cr = false → (T.o i).m = 0
  way : ((∀ (E : Env) (a : Act), (∀ t s, t ∈ o.looksAt ops.toArray → M.look (T.f i) t = some s → a.tmps[t]? = some (s.val E)) → Region.wanted o (yielded ops.toArray a.tmps) = true) ∧ Does P w0 F0 o (T.f i) (fun j => (T.b i)[j]?) (T.b i).length (T.n i) (T.o i)) ∨
    ((∀ (E : Env) (a : Act), (∀ t s, t ∈ o.looksAt ops.toArray → M.look (T.f i) t = some s → a.tmps[t]? = some (s.val E)) → Region.wanted o (yielded ops.toArray a.tmps) = false) ∧ T.o i = ⟨und, .none, 0, [], false, false⟩)

section
variable {P : Program} {T : Tab} {S : List (Nat × Spec)} {w0 : World} {F0 : Old} {N : Nat}

theorem guardK_all {ops : List Oper} {o : Oper} {f : Fr} {yes no : Fr → Prop} (h : guardK (ops.map (·.dst)) o.guard f yes no) :
    ((∀ (E : Env) (a : Act), (∀ t s, t ∈ o.looksAt ops.toArray → look f t = some s → a.tmps[t]? = some (s.val E)) → Region.wanted o (yielded ops.toArray a.tmps) = true) ∧ ∃ f', yes f' ∧ ∀ u, look f' u = look f u) ∨
    ((∀ (E : Env) (a : Act), (∀ t s, t ∈ o.looksAt ops.toArray → look f t = some s → a.tmps[t]? = some (s.val E)) → Region.wanted o (yielded ops.toArray a.tmps) = false) ∧ ∃ f', no f' ∧ ∀ u, look f' u = look f u) := by
  unfold guardK at h
  split at h
  · rename_i hg
    exact Or.inl ⟨fun E a _ => by unfold Region.wanted; rw [hg], f, h, fun _ => rfl⟩
  · rename_i j want hg
    split at h
    · rename_i t hj
      rw [nthT_eq] at hj
      have hjt : (ops.toArray[j]?).bind (·.dst) = some t := by
        simp only [List.getElem?_map] at hj
        cases ho : ops[j]? with
        | none => rw [ho] at hj; cases hj
        | some oj => rw [ho] at hj; simp [ho]; simpa using hj
      have hmem : t ∈ o.looksAt ops.toArray := by
        unfold Oper.looksAt
        rw [hg]
        simp only [List.mem_append]
        exact Or.inr (by rw [hjt]; simp)
      split at h
      · rename_i b hb
        have hw : ∀ (E : Env) (a : Act), (∀ t s, t ∈ o.looksAt ops.toArray → look f t = some s → a.tmps[t]? = some (s.val E)) → Region.wanted o (yielded ops.toArray a.tmps) = (b == want) := fun E a hl => by
          have h1 := hl t _ hmem hb
          have hy : yielded ops.toArray a.tmps j = some b := by unfold yielded; rw [hjt]; simp [h1, SV.val, AV.val, V.val]
          unfold Region.wanted
          rw [hg]
          simp [hy]
        have hlook : ∀ b', b = b' → ∀ u, look ((t, lit b') :: f) u = look f u := fun b' hbb u => by
          show (match Nat.beq u t with | true => some (lit b') | false => look f u) = look f u
          split
          · rename_i hu
            have := Nat.eq_of_beq_eq_true hu
            subst this
            rw [hb, ← hbb]
            rfl
          · rfl
        split at h
        · cases hbb : b with
          | true => exact Or.inl ⟨fun E a hl => by rw [hw E a hl, hbb]; rfl, _, h.t hbb, hlook _ hbb⟩
          | false => exact Or.inr ⟨fun E a hl => by rw [hw E a hl, hbb]; rfl, _, h.f hbb, hlook _ hbb⟩
        · cases hbb : b with
          | true => exact Or.inr ⟨fun E a hl => by rw [hw E a hl, hbb]; rfl, _, h.t hbb, hlook _ hbb⟩
          | false => exact Or.inl ⟨fun E a hl => by rw [hw E a hl, hbb]; rfl, _, h.f hbb, hlook _ hbb⟩
      · rename_i q hb
        refine Or.inr ⟨fun E a hl => ?_, f, h, fun _ => rfl⟩
        have h1 := hl t _ hmem hb
        have hy : yielded ops.toArray a.tmps j = none := by unfold yielded; rw [hjt]; simp [h1, SV.val, AV.val]
        unfold Region.wanted
        rw [hg]
        simp [hy]
      · exact h.elim
    · exact h.elim

theorem evS_congr {f f' : Fr} (h : ∀ u, look f' u = look f u) (x : Operand) : evS f' x = evS f x := by
  cases x with
  | tmp t => exact h t
  | _ => rfl
theorem Does.congr {o : Oper} {f f' : Fr} {get : Nat → Option V} {bl nn : Nat} {out : Out} (h : ∀ u, look f' u = look f u) (hd : Does P w0 F0 o f' get bl nn out) : Does P w0 F0 o f get bl nn out :=
  ⟨hd.1, fun c ρ hw hρ => hd.2 c ρ hw fun y hy s hs => hρ y hy s (by rw [← evS_congr h]; exact hs)⟩
theorem putK_look {d : Option Tmp} {s : SV} {f : Fr} {k : Fr → Prop} (h : putK N d s f k) : ∃ f', k f' ∧ (∀ u, look f' u = if d = some u then some s else look f u) ∧ ∀ t, d = some t → t < N := by
  unfold putK at h
  split at h
  · rename_i d
    split at h
    · rename_i hd
      refine ⟨_, h, fun u => ?_, fun t ht => by cases ht; exact Nat.le_of_ble_eq_true hd⟩
      show (match Nat.beq u d with | true => some s | false => look f u) = _
      split
      · rename_i hu
        have := Nat.eq_of_beq_eq_true hu
        subst this
        rw [if_pos rfl]
      · rename_i hu
        rw [if_neg fun h => by cases h; simp at hu]
    · exact h.elim
  · exact ⟨f, h, fun u => by rw [if_neg (fun h => by cases h)], fun t ht => by cases ht⟩

theorem drw_tr (hT : TabOk P T) (hS : SpecsOk P S) {ops : List Oper} {K : Fr → List V → NS → Prop} : ∀ (l : List Oper) (lg : List Lg) (f : Fr) (bl : List V) (nn : NS), drwK T S N ops (ops.map (·.dst)) l lg f bl nn K →
    ∃ t : Tr P w0 F0 N ops, t.f 0 = f ∧ t.b 0 = bl ∧ t.n 0 = nn.n ∧ (∀ i o, l[i]? = some o → t.At i o) ∧ K (t.f l.length) (t.b l.length) ⟨t.n l.length, nn.tk⟩ ∧ okLog ops (lg.reverse ++ (List.range l.length).map t.lg) = true ∧ okCr (lg.reverse ++ (List.range l.length).map t.lg) = true
  | [], lg, f, bl, nn, h => by
    obtain ⟨h1, h2⟩ := h
    rw [Bool.and_eq_true] at h1
    exact ⟨⟨fun _ => f, fun _ => bl, fun _ => nn.n, fun _ => ⟨und, .none, 0, [], false, false⟩⟩, rfl, rfl, rfl, fun i o hi => by simp at hi, h2, by simpa using h1.1, by simpa [okCr] using h1.2⟩
  | o :: r, lg, f, bl, nn, h => by
    unfold drwK at h
    -- what comes behind, shifted by one
    have shift : ∀ (out : Out) (f1 : Fr), (∀ u, look f1 u = if o.dst = some u then some out.r else look f u) → (∀ d, o.dst = some d → d < N) → (∀ j y, out.ef = .set j y → j < bl.length) → (out.cr = false → out.m = 0) →
        (((∀ (E : Env) (a : Act), (∀ t s, t ∈ o.looksAt ops.toArray → look f t = some s → a.tmps[t]? = some (s.val E)) → Region.wanted o (yielded ops.toArray a.tmps) = true) ∧ Does P w0 F0 o f (fun j => bl[j]?) bl.length nn.n out) ∨
          ((∀ (E : Env) (a : Act), (∀ t s, t ∈ o.looksAt ops.toArray → look f t = some s → a.tmps[t]? = some (s.val E)) → Region.wanted o (yielded ops.toArray a.tmps) = false) ∧ out = ⟨und, .none, 0, [], false, false⟩)) →
        drwK T S N ops (ops.map (·.dst)) r (⟨out.rd ++ efW bl.length out.ef, efW bl.length out.ef, out.q, out.cr⟩ :: lg) f1 (efB bl out.ef) ⟨nn.n + out.m, nn.tk⟩ K →
        ∃ t : Tr P w0 F0 N ops, t.f 0 = f ∧ t.b 0 = bl ∧ t.n 0 = nn.n ∧ (∀ i o', (o :: r)[i]? = some o' → t.At i o') ∧ K (t.f (r.length + 1)) (t.b (r.length + 1)) ⟨t.n (r.length + 1), nn.tk⟩ ∧ okLog ops (lg.reverse ++ (List.range (r.length + 1)).map t.lg) = true ∧ okCr (lg.reverse ++ (List.range (r.length + 1)).map t.lg) = true := by
      intro out f1 hl hd hset hcr hway hrest
      obtain ⟨t, e1, e2, e3, e4, e5, e6, e7⟩ := drw_tr hT hS r _ f1 _ _ hrest
      let t' : Tr P w0 F0 N ops := ⟨fun i => match i with | 0 => f | i + 1 => t.f i, fun i => match i with | 0 => bl | i + 1 => t.b i, fun i => match i with | 0 => nn.n | i + 1 => t.n i, fun i => match i with | 0 => out | i + 1 => t.o i⟩
      have hlg : (List.range (r.length + 1)).map t'.lg = ⟨out.rd ++ efW bl.length out.ef, efW bl.length out.ef, out.q, out.cr⟩ :: (List.range r.length).map t.lg := by
        rw [List.range_succ_eq_map, List.map_cons, List.map_map]
        rfl
      refine ⟨t', rfl, rfl, rfl, fun i o' hi => ?_, e5, ?_, ?_⟩
      · cases i with
        | zero =>
          have : o = o' := by simpa using hi
          subst this
          refine ⟨fun u => ?_, hd, ?_, ?_, hset, hcr, hway⟩
          · show look (t.f 0) u = _
            rw [e1]; exact hl u
          · show t.b 0 = _
            rw [e2]
          · show t.n 0 = _
            rw [e3]
        | succ i =>
          have := e4 i o' (by simpa using hi)
          exact ⟨this.look, this.dst, this.bl, this.nn, this.set, this.cr, this.way⟩
      · rw [hlg]
        rw [List.reverse_cons, List.append_assoc] at e6
        exact e6
      · rw [hlg]
        rw [List.reverse_cons, List.append_assoc] at e7
        exact e7
    rcases guardK_all h with ⟨hw, f', hy, hlk⟩ | ⟨hw, f', hno, hlk⟩
    · obtain ⟨out, hk, hd⟩ := opK_sound (w0 := w0) (F0 := F0) hT hS hy
      have hk : efK bl out.ef fun bl' => lenK bl 0 fun n => putK N o.dst out.r f' fun f'' => addK nn out.cr out.m fun nn' => drwK T S N ops (ops.map (·.dst)) r (⟨out.rd ++ efW n out.ef, efW n out.ef, out.q, out.cr⟩ :: lg) f'' bl' nn' K := by
        cases out; exact hk
      have hset : ∀ j y, out.ef = .set j y → j < bl.length := fun j y hj => by
        rw [hj] at hk
        exact (setB_elim _ _ _ _ hk).2
      have hk := lenK_elim _ _ _ (efK_elim hk)
      rw [Nat.add_zero] at hk
      obtain ⟨f1, hk1, hl1, hd1⟩ := putK_look hk
      have hk2 : drwK T S N ops (ops.map (·.dst)) r (⟨out.rd ++ efW bl.length out.ef, efW bl.length out.ef, out.q, out.cr⟩ :: lg) f1 (efB bl out.ef) ⟨nn.n + out.m, nn.tk⟩ K := by
        cases hc : out.cr with
        | true => simp only [hc, addK] at hk1; exact hk1
        | false =>
          simp only [hc, addK] at hk1
          rw [hd.1 hc, Nat.add_zero]
          exact hk1
      exact shift out f1 (fun u => by rw [hl1 u, hlk u]) hd1 hset hd.1 (Or.inl ⟨hw, hd.congr hlk⟩) hk2
    · obtain ⟨f1, hk1, hl1, hd1⟩ := putK_look hno
      exact shift ⟨und, .none, 0, [], false, false⟩ f1 (fun u => by rw [hl1 u, hlk u]) hd1 (fun j y hj => by cases hj) (fun _ => rfl) (Or.inr ⟨hw, rfl⟩) hk1
end

end Go.Proofs.Ytjbbgpacijageab.M

/- One walk in the order of the text serves every order. No program is named here. -/
namespace Go.Proofs.Ytjbbgpacijageab.M
open Go.RowKit
set_option linter.unusedVariables false
set_option linter.unusedSimpArgs false

section
variable {P : Program} {w0 : World} {F0 : Old} {N : Nat} {ops : List Oper}

theorem meet_of {a b : List Nat} {x : Nat} (ha : x ∈ a) (hb : x ∈ b) : meet a b = true := by
  induction a with
  | nil => cases ha
  | cons y r ih =>
    unfold meet
    rcases List.mem_cons.1 ha with rfl | ha
    · simp [hb]
    · rw [ih ha]; simp

variable (t : Tr P w0 F0 N ops)
def Tr.wr (k b : Nat) : Prop := b ∈ efW (t.b k).length (t.o k).ef
def Tr.isNew (k : Nat) : Prop := ∃ y, (t.o k).ef = .new y

variable {t}
section
variable (hAt : ∀ i o, ops[i]? = some o → t.At i o) (hlog : okLog ops ((List.range ops.length).map t.lg) = true) (hcr : okCr ((List.range ops.length).map t.lg) = true)
include hAt
theorem at_of {i : Nat} (hi : i < ops.length) : ∃ o, ops[i]? = some o ∧ t.At i o := ⟨ops[i], by simp [hi], hAt i _ (by simp [hi])⟩
theorem blk_same {i b : Nat} (hi : i < ops.length) (hb : ¬ t.wr i b) : (t.b (i + 1))[b]? = (t.b i)[b]? := by
  obtain ⟨o, _, ha⟩ := at_of hAt hi
  rw [ha.bl]
  unfold Tr.wr at hb
  cases hef : (t.o i).ef with
  | none => rfl
  | set j y =>
    rw [hef] at hb
    simp only [efW, List.mem_singleton] at hb
    simp only [efB, List.getElem?_set]
    rw [if_neg (Ne.symm hb)]
  | new y =>
    rw [hef] at hb
    simp only [efW, List.mem_singleton] at hb
    simp only [efB]
    rw [List.getElem?_append]
    split
    · rfl
    · rename_i hlt
      rw [List.getElem?_eq_none (by simp; omega), List.getElem?_eq_none (by omega)]
theorem len_step {i : Nat} (hi : i < ops.length) : ((t.b (i + 1)).length = (t.b i).length + 1 ∧ t.isNew i) ∨ ((t.b (i + 1)).length = (t.b i).length ∧ ¬ t.isNew i) := by
  obtain ⟨o, _, ha⟩ := at_of hAt hi
  rw [ha.bl]
  unfold Tr.isNew
  cases hef : (t.o i).ef with
  | none => exact Or.inr ⟨rfl, fun ⟨y, hy⟩ => by cases hy⟩
  | set j y => exact Or.inr ⟨by simp [efB], fun ⟨y, hy⟩ => by cases hy⟩
  | new y => exact Or.inl ⟨by simp [efB], y, rfl⟩
theorem len_mono {i j : Nat} (hij : i ≤ j) (hj : j ≤ ops.length) : (t.b i).length ≤ (t.b j).length := by
  induction j with
  | zero => have : i = 0 := by omega
            subst this; exact Nat.le_refl _
  | succ j ih =>
    by_cases h : i = j + 1
    · subst h; exact Nat.le_refl _
    · have := ih (by omega) (by omega)
      rcases len_step hAt (i := j) (by omega) with ⟨h1, _⟩ | ⟨h1, _⟩ <;> omega
theorem made {b : Nat} : ∀ i, i ≤ ops.length → b < (t.b i).length → b < (t.b 0).length ∨ ∃ k, k < i ∧ t.isNew k ∧ b = (t.b k).length
  | 0, _, h => Or.inl h
  | i + 1, hi, h => by
    by_cases hb : b < (t.b i).length
    · rcases made i (by omega) hb with h1 | ⟨k, h1, h2⟩
      · exact Or.inl h1
      · exact Or.inr ⟨k, by omega, h2⟩
    · rcases len_step hAt (i := i) (by omega) with ⟨h1, h2⟩ | ⟨h1, _⟩
      · exact Or.inr ⟨i, by omega, h2, by omega⟩
      · omega
theorem lastw (b : Nat) : ∀ i, i ≤ ops.length → (∃ k, k < i ∧ t.wr k b ∧ (∀ k', k' < i → t.wr k' b → k' ≤ k) ∧ (t.b (k + 1))[b]? = (t.b i)[b]?) ∨ ((∀ k, k < i → ¬ t.wr k b) ∧ (t.b 0)[b]? = (t.b i)[b]?)
  | 0, _ => Or.inr ⟨fun k hk => by omega, rfl⟩
  | i + 1, hi => by
    by_cases hw : t.wr i b
    · exact Or.inl ⟨i, by omega, hw, fun k' hk' _ => by omega, rfl⟩
    · have hs := blk_same hAt (i := i) (by omega) hw
      rcases lastw b i (by omega) with ⟨k, h1, h2, h3, h4⟩ | ⟨h1, h2⟩
      · refine Or.inl ⟨k, by omega, h2, fun k' hk' hw' => ?_, by rw [hs]; exact h4⟩
        by_cases hk : k' = i
        · subst hk; exact absurd hw' hw
        · exact h3 k' (by omega) hw'
      · refine Or.inr ⟨fun k hk hw' => ?_, by rw [hs]; exact h2⟩
        by_cases hk' : k = i
        · subst hk'; exact hw hw'
        · exact h1 k (by omega) hw'
theorem names (n : Nat) : ∀ i, i ≤ ops.length → (n < t.n i ↔ n < t.n 0 ∨ ∃ k, k < i ∧ t.n k ≤ n ∧ n < t.n k + (t.o k).m)
  | 0, _ => ⟨Or.inl, fun h => by
      rcases h with h | ⟨k, hk, _⟩
      · exact h
      · omega⟩
  | i + 1, hi => by
    obtain ⟨o, _, ha⟩ := at_of hAt (i := i) (by omega)
    rw [ha.nn]
    have ih := names n i (by omega)
    constructor
    · intro h
      by_cases hn : n < t.n i
      · rcases ih.1 hn with h1 | ⟨k, h1, h2⟩
        · exact Or.inl h1
        · exact Or.inr ⟨k, by omega, h2⟩
      · exact Or.inr ⟨i, by omega, by omega, h⟩
    · intro h
      rcases h with h | ⟨k, h1, h2, h3⟩
      · have := ih.2 (Or.inl h); omega
      · by_cases hk : k = i
        · subst hk; omega
        · have := ih.2 (Or.inr ⟨k, by omega, h2, h3⟩); omega
theorem slots (hok : okRegion ops = true) (u : Nat) : ∀ i, i ≤ ops.length → (∃ k, k < i ∧ dstOf ops k = some u ∧ look (t.f i) u = some (t.o k).r) ∨ ((∀ k, k < i → dstOf ops k ≠ some u) ∧ look (t.f i) u = look (t.f 0) u)
  | 0, _ => Or.inr ⟨fun k hk => by omega, rfl⟩
  | i + 1, hi => by
    obtain ⟨o, ho, ha⟩ := at_of hAt (i := i) (by omega)
    have hd : dstOf ops i = o.dst := by simp [dstOf, ho]
    by_cases hu : o.dst = some u
    · exact Or.inl ⟨i, by omega, by rw [hd]; exact hu, by rw [ha.look, if_pos hu]⟩
    · rcases slots hok u i (by omega) with ⟨k, h1, h2, h3⟩ | ⟨h1, h2⟩
      · exact Or.inl ⟨k, by omega, h2, by rw [ha.look, if_neg hu]; exact h3⟩
      · refine Or.inr ⟨fun k hk hk' => ?_, by rw [ha.look, if_neg hu]; exact h2⟩
        by_cases hki : k = i
        · subst hki; rw [hd] at hk'; exact hu hk'
        · exact h1 k (by omega) hk'
end

theorem log_waits (hlog : okLog ops ((List.range ops.length).map t.lg) = true) {i j : Nat} (hij : i < j) (hj : j < ops.length) (hc : clash (t.lg i) (t.lg j) = true) : waitsT ops ops.length j i = true := by
  simp only [okLog, List.all_eq_true, List.mem_range, List.length_map, List.length_range] at hlog
  have h1 := hlog j hj i hij
  have hi : i < ops.length := by omega
  simp only [List.getElem?_map, List.getElem?_range hi, List.getElem?_range hj, Option.map_some, Bool.or_eq_true, Bool.not_eq_true'] at h1
  rcases h1 with h1 | h1
  · rw [hc] at h1; cases h1
  · exact waitsD_T h1
theorem cr_q (hcr : okCr ((List.range ops.length).map t.lg) = true) {i : Nat} (hi : i < ops.length) (h : (t.o i).cr = true) : (t.o i).q = true := by
  simp only [okCr, List.all_eq_true, List.mem_map, List.mem_range] at hcr
  have := hcr (t.lg i) ⟨i, hi, rfl⟩
  simp only [Tr.lg, h, Bool.not_true, Bool.false_or] at this
  exact this

/-- What a block holds, when D is done. -/
def Cont (t : Tr P w0 F0 N ops) (D : Nat → Bool) (b : Nat) (v : V) : Prop :=
  (∃ k, k < ops.length ∧ D k = true ∧ t.wr k b ∧ (∀ k', k' < ops.length → D k' = true → t.wr k' b → k' ≤ k) ∧ (t.b (k + 1))[b]? = some v) ∨ ((∀ k, k < ops.length → D k = true → ¬ t.wr k b) ∧ (t.b 0)[b]? = some v)

structure DInv (t : Tr P w0 F0 N ops) (tk : List (Hd × Nat)) (D : Nat → Bool) (a : Act) (c : Cx) : Prop where
  wf : c.Wf w0 F0
  tok : Toks w0 c tk
  XA : ∀ b, c.XA b ↔ (b < (t.b 0).length ∨ ∃ k, k < ops.length ∧ D k = true ∧ t.isNew k ∧ b = (t.b k).length)
  XB : ∀ n, c.XB n ↔ (n < t.n 0 ∨ ∃ k, k < ops.length ∧ D k = true ∧ t.n k ≤ n ∧ n < t.n k + (t.o k).m)
  blk : ∀ b v, c.XA b → Cont t D b v → c.ty b = some v.ty ∧ (∃ e, HB c.x (c.E.A b) (v.cells c.E.B).toArray e) ∧ v.okc c
  size : a.tmps.size = N
  defers : a.defers = []
  done : ∀ k u, k < ops.length → D k = true → dstOf ops k = some u → a.tmps[u]? = some ((t.o k).r.val c.E) ∧ (t.o k).r.ok c
  init : ∀ u s, (∀ k, k < ops.length → D k = true → dstOf ops k ≠ some u) → look (t.f 0) u = some s → a.tmps[u]? = some (s.val c.E) ∧ s.ok c

theorem dinv_slot (hAt : ∀ i o, ops[i]? = some o → t.At i o) (hok : okRegion ops = true) {tk : List (Hd × Nat)} {D : Nat → Bool} {a : Act} {c : Cx} (h : DInv t tk D a c) {i : Nat} {o : Oper} (ho : ops[i]? = some o) (hadm : Adm ops i D) {u : Nat} (hu : u ∈ o.looksAt ops.toArray) {s : SV} (hs : look (t.f i) u = some s) : a.tmps[u]? = some (s.val c.E) ∧ s.ok c := by
  have hi : i < ops.length := lt_of_get ho
  rcases slots hAt hok u i (by omega) with ⟨k, h1, h2, h3⟩ | ⟨h1, h2⟩
  · rw [h3] at hs
    cases hs
    refine h.done k u (by omega) (hadm.ahead k ?_) h2
    rcases (ok_slots hok ho h2).2 hu with h4 | ⟨_, h4⟩ | ⟨h4, _⟩
    · omega
    · exact h4
    · omega
  · rw [h2] at hs
    refine h.init u s (fun k hk hD hd => ?_) hs
    rcases (ok_slots hok ho hd).2 hu with h4 | ⟨h4, _⟩ | ⟨_, h4⟩
    · subst h4; rw [hadm.un] at hD; cases hD
    · exact h1 k h4 hd
    · rw [hadm.behind k h4] at hD; cases hD

theorem dinv_touch (hlog : okLog ops ((List.range ops.length).map t.lg) = true) {D : Nat → Bool} {i : Nat} (hi : i < ops.length) (hadm : Adm ops i D) {b : Nat} (hb : b ∈ (t.lg i).t) {k : Nat} (hk : k < ops.length) (hw : t.wr k b) : (k < i → D k = true) ∧ (D k = true → k < i) := by
  have hwt : b ∈ (t.lg k).w := hw
  have hww : b ∈ (t.lg k).t := List.mem_append.2 (Or.inr hw)
  refine ⟨fun hlt => hadm.aheadT (log_waits hlog hlt hi ?_), fun hD => ?_⟩
  · unfold clash; rw [meet_of hwt hb]; simp
  · rcases Nat.lt_trichotomy k i with h | h | h
    · exact h
    · subst h; rw [hadm.un] at hD; cases hD
    · exfalso
      have := hadm.behindT (log_waits hlog h hk (by unfold clash; rw [meet_of hb hwt]; simp))
      rw [this] at hD; cases hD

theorem dinv_cont (hAt : ∀ i o, ops[i]? = some o → t.At i o) (hlog : okLog ops ((List.range ops.length).map t.lg) = true) {D : Nat → Bool} {i : Nat} (hi : i < ops.length) (hadm : Adm ops i D) {b : Nat} (hb : b ∈ (t.lg i).t) {v : V} (hv : (t.b i)[b]? = some v) : Cont t D b v := by
  rcases lastw hAt b i (by omega) with ⟨k, h1, h2, h3, h4⟩ | ⟨h1, h2⟩
  · have hk : k < ops.length := by omega
    refine Or.inl ⟨k, hk, (dinv_touch hlog hi hadm hb hk h2).1 h1, h2, fun k' hk' hD' hw' => h3 k' ((dinv_touch hlog hi hadm hb hk' hw').2 hD') hw', by rw [h4]; exact hv⟩
  · exact Or.inr ⟨fun k hk hD hw => h1 k ((dinv_touch hlog hi hadm hb hk hw).2 hD) hw, by rw [h2]; exact hv⟩

theorem dinv_step (hAt : ∀ i o, ops[i]? = some o → t.At i o) (hok : okRegion ops = true) (hlog : okLog ops ((List.range ops.length).map t.lg) = true) {tk : List (Hd × Nat)} {D : Nat → Bool} {a : Act} {c : Cx} (h : DInv t tk D a c) {i : Nat} {o : Oper} (ho : ops[i]? = some o) (hadm : Adm ops i D) {v : Value} {x' : World} {E : Env}
    (hp : Post w0 F0 c (t.o i) (t.b i).length (t.n i) v x' E) : DInv t tk (setD D i) (a.put o.dst v) (c.ext (t.o i) (t.b i).length (t.n i) E x') := by
  have hi : i < ops.length := lt_of_get ho
  have ha := hAt i o ho
  have hdst : dstOf ops i = o.dst := by simp [dstOf, ho]
  have hnew : (∃ y, (t.o i).ef = .new y) → ¬ c.XA (t.b i).length := fun hn hx => by
    rcases (h.XA _).1 hx with h1 | ⟨k, hk, hD, hnk, hb⟩
    · have := len_mono hAt (i := 0) (j := i) (by omega) (by omega); omega
    · have hki : k ≠ i := fun e => by subst e; rw [hadm.un] at hD; cases hD
      rcases Nat.lt_or_gt_of_ne hki with hlt | hlt
      · have h1 := len_mono hAt (i := k + 1) (j := i) (by omega) (by omega)
        rcases len_step hAt (i := k) hk with ⟨h2, _⟩ | ⟨_, h2⟩
        · omega
        · exact h2 hnk
      · have h1 := len_mono hAt (i := i + 1) (j := k) (by omega) (by omega)
        rcases len_step hAt (i := i) hi with ⟨h2, _⟩ | ⟨_, h2⟩
        · omega
        · exact h2 hn
  have hle := hp.le h.wf hnew
  have hwf := hp.wf h.wf hnew
  have hDi : setD D i i = true := by simp [setD]
  have hDk : ∀ k, D k = true → setD D i k = true := fun k hk => by simp [setD, hk]
  have hDk' : ∀ k, setD D i k = true → k = i ∨ D k = true := fun k hk => by simpa [setD] using hk
  refine ⟨hwf, h.tok.step h.wf hnew hp, fun b => ?_, fun n => ?_, fun b u hx hcont => ?_, ?_, ?_, fun k u hk hD hd => ?_, fun u s hno hs => ?_⟩
  · show (c.XA b ∨ (b = (t.b i).length ∧ ∃ y, (t.o i).ef = .new y)) ↔ _
    rw [h.XA]
    constructor
    · rintro ((h1 | ⟨k, h1, h2, h3⟩) | ⟨h1, h2⟩)
      · exact Or.inl h1
      · exact Or.inr ⟨k, h1, hDk k h2, h3⟩
      · exact Or.inr ⟨i, hi, hDi, h2, h1⟩
    · rintro (h1 | ⟨k, h1, h2, h3, h4⟩)
      · exact Or.inl (Or.inl h1)
      · rcases hDk' k h2 with rfl | h2
        · exact Or.inr ⟨h4, h3⟩
        · exact Or.inl (Or.inr ⟨k, h1, h2, h3, h4⟩)
  · show (c.XB n ∨ (t.n i ≤ n ∧ n < t.n i + (t.o i).m)) ↔ _
    rw [h.XB]
    constructor
    · rintro ((h1 | ⟨k, h1, h2, h3⟩) | h1)
      · exact Or.inl h1
      · exact Or.inr ⟨k, h1, hDk k h2, h3⟩
      · exact Or.inr ⟨i, hi, hDi, h1⟩
    · rintro (h1 | ⟨k, h1, h2, h3⟩)
      · exact Or.inl (Or.inl h1)
      · rcases hDk' k h2 with rfl | h2
        · exact Or.inr h3
        · exact Or.inl (Or.inr ⟨k, h1, h2, h3⟩)
  · by_cases hw : t.wr i b
    · -- it was written just now
      have hbt : b ∈ (t.lg i).t := List.mem_append.2 (Or.inr hw)
      have hval : (t.b (i + 1))[b]? = some u := by
        rcases hcont with ⟨k, h1, h2, h3, h4, h5⟩ | ⟨h1, _⟩
        · have hik := h4 i hi hDi hw
          rcases hDk' k h2 with rfl | h2
          · exact h5
          · have := (dinv_touch hlog hi hadm hbt h1 h3).2 h2
            omega
        · exact absurd hw (h1 i hi hDi)
      rw [ha.bl] at hval
      unfold Tr.wr at hw
      cases hef : (t.o i).ef with
      | none => rw [hef] at hw; simp [efW] at hw
      | set j y =>
        rw [hef] at hw hval
        simp only [efW, List.mem_singleton] at hw
        subst hw
        obtain ⟨p1, p2, p3, p4⟩ := hp.set b y hef
        simp only [efB, List.getElem?_set, if_true, ha.set b y hef] at hval
        cases hval
        refine ⟨?_, p3, p4⟩
        rw [(hle.A b p1).2.2]; exact p2
      | new y =>
        rw [hef] at hw hval
        simp only [efW, List.mem_singleton] at hw
        subst hw
        obtain ⟨p1, p2, p3, p4, p5⟩ := hp.new y hef
        simp [efB] at hval
        subst hval
        refine ⟨?_, p4, p5⟩
        show (match (t.o i).ef with | .new y => if (t.b i).length = (t.b i).length then some y.ty else c.ty _ | _ => c.ty _) = some y.ty
        rw [hef]
        simp
    · have hcont' : Cont t D b u := by
        rcases hcont with ⟨k, h1, h2, h3, h4, h5⟩ | ⟨h1, h2⟩
        · rcases hDk' k h2 with rfl | h2
          · exact absurd h3 hw
          · exact Or.inl ⟨k, h1, h2, h3, fun k' hk' hD' => h4 k' hk' (hDk k' hD'), h5⟩
        · exact Or.inr ⟨fun k hk hD => h1 k hk (hDk k hD), h2⟩
      have hxa : c.XA b := by
        rcases hx with hx | ⟨hx, y, hy⟩
        · exact hx
        · exact absurd (by unfold Tr.wr; rw [hy, hx]; simp [efW]) hw
      obtain ⟨p1, ⟨e, p2⟩, p3⟩ := h.blk b u hxa hcont'
      refine ⟨by rw [(hle.A b hxa).2.2]; exact p1, ⟨e, ?_⟩, V.okc_mono hle p3⟩
      have hcells : u.cells E.B = u.cells c.E.B := V.cellsc hle p3
      show HB x' (E.A b) (u.cells E.B).toArray e
      rw [hcells, hp.A b hxa]
      unfold HB
      rw [hp.same.block _ p2.lt (by
        rintro ⟨j, y, hy, hj⟩
        have : b = j := h.wf.inj b j hxa (hp.set j y hy).1 hj
        subst this
        exact hw (by unfold Tr.wr; rw [hy]; simp [efW]))]
      exact p2
  · show (a.put o.dst v).tmps.size = N
    cases o.dst <;> simp [Act.put, h.size]
  · cases o.dst <;> simp [Act.put, h.defers]
  · have hne : ∀ {d}, o.dst = some d → k ≠ i → d ≠ u := fun hd' hki e => by
      subst e
      exact (ok_slots hok ho hd).1 hki hd'
    rcases hDk' k hD with rfl | hD'
    · rw [hdst] at hd
      rw [hd]
      have hlt := ha.dst u hd
      refine ⟨?_, hp.ok⟩
      simp only [Act.put]
      rw [hp.val]
      simp [h.size, hlt]
      rfl
    · have hki : k ≠ i := fun e => by subst e; rw [hadm.un] at hD'; cases hD'
      obtain ⟨p1, p2⟩ := h.done k u hk hD' hd
      refine ⟨?_, SV.ok_mono hle p2⟩
      rw [SV.val_mono hle p2, ← p1]
      cases hd' : o.dst with
      | none => rfl
      | some d => simp only [Act.put, Array.getElem?_setIfInBounds_ne (hne hd' hki)]
  · obtain ⟨p1, p2⟩ := h.init u s (fun k hk hD => hno k hk (hDk k hD)) hs
    refine ⟨?_, SV.ok_mono hle p2⟩
    rw [SV.val_mono hle p2, ← p1]
    cases hd' : o.dst with
    | none => rfl
    | some d =>
      have : d ≠ u := fun e => by
        subst e
        exact hno i hi hDi (by rw [hdst]; exact hd')
      simp only [Act.put, Array.getElem?_setIfInBounds_ne this]

theorem draw_inv0 {T : Tab} {S : List (Nat × Spec)} (hT : TabOk P T) (hS : SpecsOk P S) {f : Fr} {bl : List V} {nn : NS} {K : Fr → List V → NS → Prop} {c : Cx} {a : Act} (hok : okRegion ops = true) (h : drwK T S N ops (ops.map (·.dst)) ops [] f bl nn K) (hr : Real w0 F0 bl nn c) (hf : FR N c f a) :
    ∃ Inv : (Nat → Bool) → Act → World → Prop, Inv (fun _ => false) a c.x ∧
    (∀ (i : Nat) (o : Oper), ops[i]? = some o → ∀ D a x, Adm ops i D → Inv D a x →
      if Region.wanted o (yielded ops.toArray a.tmps) = true then upon4 P (fun v x' => Inv (setD D i) (a.put o.dst v) x') ((execOp a.eval o).run P x) else Inv (setD D i) (a.put o.dst undef) x) ∧
    (∀ D a x, (∀ k, k < ops.length → D k = true) → Inv D a x → Sat w0 F0 N K a x) := by
  obtain ⟨t, e1, e2, e3, hAt, hK, hlog, hcr⟩ := drw_tr (w0 := w0) (F0 := F0) hT hS ops [] f bl nn h
  rw [List.reverse_nil, List.nil_append] at hlog hcr
  refine ⟨fun D a x => ∃ c, DInv t nn.tk D a c ∧ c.x = x, ?_, ?_, ?_⟩
  · refine ⟨c, ⟨hr.wf, hr.tk, fun b => ?_, fun n => ?_, fun b v hx hc => ?_, hf.size, hf.defers, fun k u _ hD => (by cases hD), fun u s _ hs => ?_⟩, rfl⟩
    · show c.XA b ↔ _
      rw [hr.XA, e2]
      constructor
      · exact Or.inl
      · rintro (h1 | ⟨k, _, hD, _⟩)
        · exact h1
        · cases hD
    · show c.XB n ↔ _
      rw [hr.XB, e3]
      constructor
      · exact Or.inl
      · rintro (h1 | ⟨k, _, hD, _⟩)
        · exact h1
        · cases hD
    · rcases hc with ⟨k, _, hD, _⟩ | ⟨_, hc⟩
      · cases hD
      · rw [e2] at hc
        exact ⟨hr.ty b v hc, (hr.blk b v hc).1, (hr.blk b v hc).2⟩
    · rw [e1] at hs
      exact ⟨(hf.get u s hs).1, (hf.get u s hs).2⟩
  · rintro i o ho D a x hadm ⟨c, hI, rfl⟩
    have hi : i < ops.length := lt_of_get ho
    have ha := hAt i o ho
    have hsl : ∀ u s, u ∈ o.looksAt ops.toArray → look (t.f i) u = some s → a.tmps[u]? = some (s.val c.E) ∧ s.ok c := fun u s hu hs => dinv_slot hAt hok hI ho hadm hu hs
    rcases ha.way with ⟨hw, hd⟩ | ⟨hw, ho'⟩
    · rw [if_pos (hw c.E a fun u s hu hs => (hsl u s hu hs).1)]
      have hdo := hd.2 c a.eval hI.wf (fun y hy s hs => ?_) (fun b hb v hv => ?_) (fun hn hx => ?_) (fun hq n => ?_)
      · generalize (execOp a.eval o).run P c.x = res at hdo
        have step : ∀ v x', (∃ E, Post w0 F0 c (t.o i) (t.b i).length (t.n i) v x' E) → ∃ c', DInv t nn.tk (setD D i) (a.put o.dst v) c' ∧ c'.x = x' := fun v x' ⟨E, hp⟩ => ⟨_, dinv_step hAt hok hlog hI ho hadm hp, rfl⟩
        cases res with
        | ok nx w' =>
          cases nx <;> simp only [upon4] at hdo ⊢
          case value u => exact step _ _ hdo
          case skip => exact step _ _ hdo
          case enter g args => exact hdo.mono fun e x' ⟨u, he, hu⟩ => ⟨u, he, step _ _ hu⟩
        | halt q w' => simp only [upon4] at hdo
      · cases y with
        | tmp u =>
          have hu : u ∈ o.looksAt ops.toArray := by
            unfold Oper.looksAt
            simp only [List.mem_append, List.mem_filterMap]
            exact Or.inl ⟨.tmp u, by simpa using hy, rfl⟩
          obtain ⟨h1, h2⟩ := hsl u s hu hs
          exact ⟨by simp only [Act.eval, Array.getD_eq_getD_getElem?, h1]; rfl, h2⟩
        | const v => cases hs; exact ⟨(constA_val _ v).symm, constA_ok _ v⟩
        | func g => cases hs; exact ⟨rfl, fun q hq => by cases hq⟩
        | global g => cases hs
      · have hbt : b ∈ (t.lg i).t := by
          show b ∈ (t.o i).rd ++ efW (t.b i).length (t.o i).ef
          rcases hb with hb | ⟨y, hy⟩
          · exact List.mem_append.2 (Or.inl hb)
          · exact List.mem_append.2 (Or.inr (by rw [hy]; simp [efW]))
        have hxa : c.XA b := by
          rw [hI.XA]
          rcases made hAt i (by omega) (lt_of_get hv) with h1 | ⟨k, h1, h2, h3⟩
          · exact Or.inl h1
          · have hwr : t.wr k b := by
              obtain ⟨y, hy⟩ := h2
              unfold Tr.wr
              rw [hy, h3]; simp [efW]
            exact Or.inr ⟨k, by omega, (dinv_touch hlog hi hadm hbt (by omega) hwr).1 h1, h2, h3⟩
        exact ⟨hxa, hI.blk b v hxa (dinv_cont hAt hlog hi hadm hbt hv)⟩
      · rcases (hI.XA _).1 hx with h1 | ⟨k, hk, hD, hnk, hb⟩
        · have := len_mono hAt (i := 0) (j := i) (by omega) (by omega); omega
        · have hki : k ≠ i := fun e => by subst e; rw [hadm.un] at hD; cases hD
          rcases Nat.lt_or_gt_of_ne hki with hlt | hlt
          · have h1 := len_mono hAt (i := k + 1) (j := i) (by omega) (by omega)
            rcases len_step hAt (i := k) hk with ⟨h2, _⟩ | ⟨_, h2⟩
            · omega
            · exact h2 hnk
          · have h1 := len_mono hAt (i := i + 1) (j := k) (by omega) (by omega)
            rcases len_step hAt (i := i) hi with ⟨h2, _⟩ | ⟨_, h2⟩
            · omega
            · exact h2 hn
      · rw [hI.XB, names hAt n i (by omega)]
        have hcrk : ∀ k, k < ops.length → t.n k ≤ n → n < t.n k + (t.o k).m → (t.o k).cr = true := fun k hk h1 h2 => by
          obtain ⟨o', _, ha'⟩ := at_of hAt hk
          cases hc : (t.o k).cr with
          | true => rfl
          | false => have := ha'.cr hc; omega
        have hclash : ∀ k, k < ops.length → (t.o k).cr = true → clash (t.lg k) (t.lg i) = true ∧ clash (t.lg i) (t.lg k) = true := fun k hk hc => by
          have hqk := cr_q hcr hk hc
          unfold clash
          have h1 : (t.lg k).q = true := hqk
          have h2 : (t.lg i).q = true := hq
          have h3 : (t.lg k).cr = true := hc
          rw [h1, h2, h3]
          simp
        constructor
        · rintro (h1 | ⟨k, h1, h2, h3, h4⟩)
          · exact Or.inl h1
          · refine Or.inr ⟨k, ?_, h3, h4⟩
            have hc := hcrk k h1 h3 h4
            rcases Nat.lt_trichotomy k i with h | h | h
            · exact h
            · subst h; rw [hadm.un] at h2; cases h2
            · exfalso
              have := hadm.behindT (log_waits hlog h h1 (hclash k h1 hc).2)
              rw [this] at h2; cases h2
        · rintro (h1 | ⟨k, h1, h3, h4⟩)
          · exact Or.inl h1
          · have hk : k < ops.length := by omega
            have hc := hcrk k hk h3 h4
            exact Or.inr ⟨k, hk, hadm.aheadT (log_waits hlog h1 hi (hclash k hk hc).1), h3, h4⟩
    · rw [if_neg (by rw [hw c.E a fun u s hu hs => (hsl u s hu hs).1]; exact Bool.false_ne_true)]
      have hp : Post w0 F0 c (t.o i) (t.b i).length (t.n i) undef c.x c.E := by
        rw [ho']
        exact post_val hI.wf (und_ok c)
      exact ⟨_, dinv_step hAt hok hlog hI ho hadm hp, rfl⟩
  · rintro D a x hall ⟨c, hI, rfl⟩
    refine ⟨_, _, _, c, hK, ⟨hI.wf, fun i => ?_, fun n => ?_, fun i v hv => ?_, fun i v hv => ?_, hI.tok⟩, ⟨hI.size, hI.defers, fun u s hs => ?_⟩, rfl⟩
    · rw [hI.XA]
      constructor
      · rintro (h1 | ⟨k, hk, _, h2, h3⟩)
        · have := len_mono hAt (i := 0) (j := ops.length) (by omega) (by omega); omega
        · have h1 := len_mono hAt (i := k + 1) (j := ops.length) (by omega) (by omega)
          rcases len_step hAt (i := k) hk with ⟨h4, _⟩ | ⟨_, h4⟩
          · omega
          · exact absurd h2 h4
      · intro hlt
        rcases made hAt ops.length (Nat.le_refl _) hlt with h1 | ⟨k, h1, h2⟩
        · exact Or.inl h1
        · exact Or.inr ⟨k, h1, hall k h1, h2⟩
    · show c.XB n ↔ n < t.n ops.length
      rw [hI.XB, names hAt n ops.length (Nat.le_refl _)]
      constructor
      · rintro (h1 | ⟨k, h1, _, h2⟩)
        · exact Or.inl h1
        · exact Or.inr ⟨k, h1, h2⟩
      · rintro (h1 | ⟨k, h1, h2⟩)
        · exact Or.inl h1
        · exact Or.inr ⟨k, h1, hall k h1, h2⟩
    all_goals first
      | (have hxa : c.XA i := by
          rw [hI.XA]
          rcases made hAt ops.length (Nat.le_refl _) (lt_of_get hv) with h1 | ⟨k, h1, h2⟩
          · exact Or.inl h1
          · exact Or.inr ⟨k, h1, hall k h1, h2⟩
         have hc : Cont t D i v := by
          rcases lastw hAt i ops.length (Nat.le_refl _) with ⟨k, h1, h2, h3, h4⟩ | ⟨h1, h2⟩
          · exact Or.inl ⟨k, h1, hall k h1, h2, fun k' hk' _ => h3 k' hk', by rw [h4]; exact hv⟩
          · exact Or.inr ⟨fun k hk _ => h1 k hk, by rw [h2]; exact hv⟩
         first | exact (hI.blk i v hxa hc).1 | exact (hI.blk i v hxa hc).2)
      | skip
    rcases slots hAt hok u ops.length (Nat.le_refl _) with ⟨k, h1, h2, h3⟩ | ⟨h1, h2⟩
    · rw [h3] at hs
      cases hs
      exact hI.done k u h1 (hall k h1) h2
    · rw [h2] at hs
      exact hI.init u s (fun k hk _ => h1 k hk) hs
theorem real_drew {bl : List V} {nn : NS} {c : Cx} (hr : Real w0 F0 bl nn c) : Real w0 F0 bl nn { c with x := { c.x with drawn := c.x.drawn + 1 } } ∧ c.Le { c with x := { c.x with drawn := c.x.drawn + 1 } } := by
  have hle1 : c.Le { c with x := { c.x with drawn := c.x.drawn + 1 } } := ⟨fun i hi => ⟨hi, rfl, rfl⟩, fun n hn => ⟨hn, rfl⟩, fun _ _ h => h, fun _ _ _ _ _ => rfl, Nat.le_refl _⟩
  exact ⟨⟨⟨hr.wf.below.drew, hr.wf.lo, hr.wf.hi, hr.wf.inj, hr.wf.fhi, hr.wf.own, hr.wf.old, hr.wf.oldB, hr.wf.le.trans hle1⟩, hr.XA, hr.XB, hr.ty, fun i v hi => ⟨(hr.blk i v hi).1, V.okc_mono hle1 (hr.blk i v hi).2⟩, hr.tk.drew⟩, hle1⟩
theorem draw_inv {T : Tab} {S : List (Nat × Spec)} (hT : TabOk P T) (hS : SpecsOk P S) {f : Fr} {bl : List V} {nn : NS} {K : Fr → List V → NS → Prop} {c : Cx} {a : Act} (hok : okRegion ops = true) (h : drwK T S N ops (ops.map (·.dst)) ops [] f bl nn K) (hr : Real w0 F0 bl nn c) (hf : FR N c f a) :
    ∃ Inv : (Nat → Bool) → Act → World → Prop, Inv (fun _ => false) a { c.x with drawn := c.x.drawn + 1 } ∧
    (∀ (i : Nat) (o : Oper), ops[i]? = some o → ∀ D a x, Adm ops i D → Inv D a x →
      if Region.wanted o (yielded ops.toArray a.tmps) = true then upon4 P (fun v x' => Inv (setD D i) (a.put o.dst v) x') ((execOp a.eval o).run P x) else Inv (setD D i) (a.put o.dst undef) x) ∧
    (∀ D a x, (∀ k, k < ops.length → D k = true) → Inv D a x → Sat w0 F0 N K a x) := by
  obtain ⟨r1, l1⟩ := real_drew hr
  exact draw_inv0 hT hS hok h r1 (hf.mono l1)
theorem draw_sound {T : Tab} {S : List (Nat × Spec)} (hT : TabOk P T) (hS : SpecsOk P S) {id : Nat} {f : Fr} {bl : List V} {nn : NS} {K : Fr → List V → NS → Prop} {c : Cx} {a : Act} (hok : okRegion ops = true) (h : drwK T S N ops (ops.map (·.dst)) ops [] f bl nn K) (hr : Real w0 F0 bl nn c) (hf : FR N c f a)
    {Q : Exit → Act → World → Prop} (hQ : ∀ a x, Sat w0 F0 N K a x → Q .normal a x) : (Code.region id ops.toArray true).wp P Q a c.x := by
  obtain ⟨Inv, h0, hs, he⟩ := draw_inv hT hS hok h hr hf
  exact wp_region_inv Inv hT.mix hok h0 hs fun D a x hD hI => hQ a x (he D a x hD hI)

end

end Go.Proofs.Ytjbbgpacijageab.M

/- A region that draws its order, and then goes on one by one. No program is named here. -/
namespace Go.Proofs.Ytjbbgpacijageab.M
open Go.RowKit
set_option linter.unusedVariables false
set_option linter.unusedSimpArgs false

/-- From operation k on each waits for all ahead. -/
def tailOk (ops : List Oper) (k : Nat) : Bool :=
  okRegion ops && (okRegion (ops.take k) && (Nat.ble k ops.length && ((List.range ops.length).all (fun j => Nat.ble (j + 1) k || (List.range j).all fun i => waitsB ops j i) &&
  (ops.take k).all fun o => match o.guard with | none => true | some (j, _) => Nat.ble (j + 1) k)))

section
variable {P : Program} {ops : List Oper} {Q : Exit → Act → World → Prop} {k : Nat}

theorem tail_ok (h : tailOk ops k = true) : okRegion ops = true ∧ okRegion (ops.take k) = true ∧ k ≤ ops.length ∧ (∀ j, j < ops.length → k ≤ j → ∀ i, i < j → waitsB ops j i = true) ∧ ∀ o ∈ ops.take k, ∀ j w, o.guard = some (j, w) → j < k := by
  simp only [tailOk, Bool.and_eq_true, List.all_eq_true, List.mem_range, Bool.or_eq_true] at h
  obtain ⟨h1, h2, h3, h4, h5⟩ := h
  refine ⟨h1, h2, Nat.le_of_ble_eq_true h3, fun j hj hkj i hi => ?_, fun o ho j w hg => ?_⟩
  · rcases h4 j hj with h6 | h6
    · have := Nat.le_of_ble_eq_true h6; omega
    · exact h6 i hi
  · have := h5 o ho
    rw [hg] at this
    exact Nat.le_of_ble_eq_true this

theorem take_get {i : Nat} (hi : i < k) : (ops.take k)[i]? = ops[i]? := by rw [List.getElem?_take, if_pos hi]
theorem take_get_none {i : Nat} (hi : k ≤ i) : (ops.take k)[i]? = none := by rw [List.getElem?_take, if_neg (by omega)]
theorem waits_take {i j : Nat} (hi : i < k) : waitsB (ops.take k) i j = waitsB ops i j := by unfold waitsB; rw [take_get hi]
theorem waits_take_lt {i j : Nat} (h : waitsB (ops.take k) i j = true) : i < k := by
  rcases Nat.lt_or_ge i k with h1 | h1
  · exact h1
  · unfold waitsB at h; rw [take_get_none h1] at h; cases h
theorem wanted_take {o : Oper} (hg : ∀ j w, o.guard = some (j, w) → j < k) (tmps : Array Value) : Region.wanted o (yielded (ops.take k).toArray tmps) = Region.wanted o (yielded ops.toArray tmps) := by
  unfold Region.wanted
  cases h : o.guard with
  | none => rfl
  | some q =>
    obtain ⟨j, w⟩ := q
    have hj := hg j w h
    have : yielded (ops.take k).toArray tmps j = yielded ops.toArray tmps j := by
      unfold yielded
      have e : (ops.take k).toArray[j]? = ops.toArray[j]? := by simp [List.getElem?_take, hj]
      rw [e]
    simp only [this]

theorem wp_region_tail (Inv : (Nat → Bool) → Act → World → Prop) {id : Nat} {a0 : Act} {w0 : World} (hm : P.follows .mixedOrders = true) (ht : tailOk ops k = true)
    (h0 : Inv (fun _ => false) a0 { w0 with drawn := w0.drawn + 1 })
    (hstep : ∀ (i : Nat) (o : Oper), (ops.take k)[i]? = some o → ∀ D a x, Adm (ops.take k) i D → Inv D a x →
      if Region.wanted o (yielded (ops.take k).toArray a.tmps) = true then upon4 P (fun v x' => Inv (setD D i) (a.put o.dst v) x') ((execOp a.eval o).run P x) else Inv (setD D i) (a.put o.dst undef) x)
    (hend : ∀ D a x, (∀ j, j < (ops.take k).length → D j = true) → Inv D a x → tailL P ops.toArray (fun a x => Q .normal a x) (ops.drop k) a x) : (Code.region id ops.toArray true).wp P Q a0 w0 := by
  obtain ⟨t1, t2, t3, t4, t5⟩ := tail_ok ht
  have tailstep : ∀ (i : Nat) (o : Oper), ops[i]? = some o → k ≤ i → ∀ D a x, (∀ m, D m = true ↔ m < i) → tailL P ops.toArray (fun a x => Q .normal a x) (ops.drop i) a x →
      if Region.wanted o (yielded ops.toArray a.tmps) = true then upon4 P (fun v x' => (∀ m, setD D i m = true ↔ m < i + 1) ∧ tailL P ops.toArray (fun a x => Q .normal a x) (ops.drop (i + 1)) (a.put o.dst v) x') ((execOp a.eval o).run P x)
        else (∀ m, setD D i m = true ↔ m < i + 1) ∧ tailL P ops.toArray (fun a x => Q .normal a x) (ops.drop (i + 1)) (a.put o.dst undef) x := by
    intro i o ho hki D a x hD hl
    have hsD : ∀ m, setD D i m = true ↔ m < i + 1 := fun m => by
      unfold setD
      rw [Bool.or_eq_true, hD m, beq_iff_eq]
      omega
    have hi : i < ops.length := lt_of_get ho
    have hdrop : ops.drop i = o :: ops.drop (i + 1) := by
      rw [List.drop_eq_getElem_cons hi]
      congr 1
      exact Option.some.inj (by rw [← ho, List.getElem?_eq_getElem hi])
    rw [hdrop] at hl
    unfold tailL at hl
    split at hl
    · rename_i hw
      rw [if_pos hw]
      exact upon4_mono (fun v x' h => ⟨hsD, h⟩) hl
    · rename_i hw
      rw [if_neg hw]
      exact ⟨hsD, hl⟩
  refine wp_region_inv (fun D a x => ((∀ j, k ≤ j → D j = false) ∧ Inv D a x) ∨ ∃ j, k ≤ j ∧ j ≤ ops.length ∧ (∀ m, D m = true ↔ m < j) ∧ tailL P ops.toArray (fun a x => Q .normal a x) (ops.drop j) a x) hm t1 (Or.inl ⟨fun _ _ => rfl, h0⟩) ?_ ?_
  · intro i o ho D a x hadm hI
    have hi : i < ops.length := lt_of_get ho
    rcases hI with ⟨hno, hI⟩ | ⟨j, hkj, hjl, hD, hl⟩
    · by_cases hik : i < k
      · have ho' : (ops.take k)[i]? = some o := by rw [take_get hik]; exact ho
        have hs := hstep i o ho' D a x ⟨hadm.un, fun m hm => hadm.ahead m (by rw [← waits_take hik]; exact hm), fun m hm => hadm.behind m (by rw [← waits_take (waits_take_lt hm)]; exact hm), fun m q hm hq => hadm.closed m q hm (by rw [← waits_take (waits_take_lt hq)]; exact hq)⟩ hI
        rw [wanted_take (t5 o (List.mem_of_getElem? ho'))] at hs
        have hsD : ∀ j, k ≤ j → setD D i j = false := fun j hj => by
          unfold setD
          rw [hno j hj, Bool.or_false, beq_eq_false_iff_ne]
          omega
        split at hs
        · rename_i hw
          rw [if_pos hw]
          exact upon4_mono (fun v x' h => Or.inl ⟨hsD, h⟩) hs
        · rename_i hw
          rw [if_neg hw]
          exact Or.inl ⟨hsD, hs⟩
      · have hki : k ≤ i := by omega
        have hdone : ∀ m, m < i → D m = true := fun m hm => hadm.ahead m (t4 i hi hki m hm)
        have hik' : i = k := by
          rcases Nat.lt_or_ge k i with h | h
          · have h1 := hdone k h
            rw [hno k (Nat.le_refl _)] at h1
            cases h1
          · omega
        subst hik'
        have hl := hend D a x (fun j hj => hdone j (by simp at hj; omega)) hI
        have hD : ∀ m, D m = true ↔ m < i := fun m => Iff.intro (fun h => by
          rcases Nat.lt_or_ge m i with h1 | h1
          · exact h1
          · rw [hno m h1] at h; cases h) (hdone m)
        have hs := tailstep i o ho (Nat.le_refl _) D a x hD hl
        split at hs
        · rename_i hw
          rw [if_pos hw]
          exact upon4_mono (fun v x' h => Or.inr ⟨i + 1, by omega, by omega, h.1, h.2⟩) hs
        · rename_i hw
          rw [if_neg hw]
          exact Or.inr ⟨i + 1, by omega, by omega, hs.1, hs.2⟩
    · have hji : j = i := by
        have h1 : ¬ i < j := fun h => by have := (hD i).2 h; rw [hadm.un] at this; cases this
        rcases Nat.lt_or_ge j i with h | h
        · have h2 := hadm.ahead j (t4 i hi (by omega) j h)
          have := (hD j).1 h2
          omega
        · omega
      subst hji
      have hs := tailstep j o ho hkj D a x hD hl
      split at hs
      · rename_i hw
        rw [if_pos hw]
        exact upon4_mono (fun v x' h => Or.inr ⟨j + 1, by omega, by omega, h.1, h.2⟩) hs
      · rename_i hw
        rw [if_neg hw]
        exact Or.inr ⟨j + 1, by omega, by omega, hs.1, hs.2⟩
  · intro D a x hall hI
    rcases hI with ⟨hno, hI⟩ | ⟨j, hkj, hjl, hD, hl⟩
    · have hk : k = ops.length := by
        rcases Nat.lt_or_ge k ops.length with h | h
        · have h1 := hall k h
          rw [hno k (Nat.le_refl _)] at h1
          cases h1
        · omega
      have hl := hend D a x (fun j hj => hall j (by simp at hj; omega)) hI
      rw [List.drop_of_length_le (by omega)] at hl
      exact hl
    · have hj : j = ops.length := by
        rcases Nat.lt_or_ge j ops.length with h | h
        · have := (hD j).1 (hall j h)
          omega
        · omega
      rw [List.drop_of_length_le (by omega)] at hl
      exact hl
end

theorem draw_tail {P : Program} {T : Tab} {S : List (Nat × Spec)} {w0 : World} {F0 : Old} {N : Nat} {ops : List Oper} {k : Nat} (hT : TabOk P T) (hS : SpecsOk P S) {id : Nat} {f : Fr} {bl : List V} {nn : NS} {K : Fr → List V → NS → Prop} {c : Cx} {a : Act} (hok : tailOk ops k = true)
    (h : drwK T S N (ops.take k) ((ops.take k).map (·.dst)) (ops.take k) [] f bl nn fun f bl nn => seqK T S N (ops.map (·.dst)) (ops.drop k) f bl nn K) (hr : Real w0 F0 bl nn c) (hf : FR N c f a) (htop : T.top = true → ∀ b e, F0.c.E.F b e → b < w0.heap.size)
    {Q : Exit → Act → World → Prop} (hQ : ∀ a x, Sat w0 F0 N K a x → Q .normal a x) : (Code.region id ops.toArray true).wp P Q a c.x := by
  obtain ⟨t1, t2, t3, t4, t5⟩ := tail_ok hok
  obtain ⟨Inv, h0, hs, he⟩ := draw_inv hT hS t2 h hr hf
  refine wp_region_tail Inv hT.mix hok h0 hs fun D a x hD hI => ?_
  obtain ⟨f', bl', nn', c', hk, hr', hf', rfl⟩ := he D a x hD hI
  exact seqK_tail hT hS htop hQ _ f' bl' nn' c' a hk hr' hf'

end Go.Proofs.Ytjbbgpacijageab.M

/- A region that draws its order, with operations that all ahead come before and all behind come after. No program is named here. -/
namespace Go.Proofs.Ytjbbgpacijageab.M
open Go.RowKit
set_option linter.unusedVariables false
set_option linter.unusedSimpArgs false

/-- An operation that was done already. -/
def dumOp (o : Oper) : Oper := { o with op := .assign (.const undef), dst := none, guard := none }
def dum : Nat → List Oper → List Oper
  | 0, l => l
  | _ + 1, [] => []
  | s + 1, o :: l => dumOp o :: dum s l
theorem dum_get : ∀ (s : Nat) (l : List Oper) (i : Nat), (dum s l)[i]? = (l[i]?).map fun o => if i < s then dumOp o else o
  | 0, l, i => by
    unfold dum
    cases l[i]? <;> simp
  | s + 1, [], i => by simp [dum]
  | s + 1, o :: l, i => by
    unfold dum
    cases i with
    | zero => simp
    | succ i =>
      rw [List.getElem?_cons_succ, List.getElem?_cons_succ, dum_get s l i]
      cases l[i]? with
      | none => rfl
      | some o => simp
theorem dum_len : ∀ (s : Nat) (l : List Oper), (dum s l).length = l.length
  | 0, l => rfl
  | s + 1, [] => rfl
  | s + 1, o :: l => by unfold dum; rw [List.length_cons, List.length_cons, dum_len s l]
theorem dum_waits (s : Nat) (l : List Oper) (k i : Nat) : waitsB (dum s l) k i = waitsB l k i := by
  unfold waitsB
  rw [dum_get]
  cases l[k]? with
  | none => rfl
  | some o => simp only [Option.map_some]; split <;> rfl
/-- Guards of a part lie in it. -/
def grdOk (s e : Nat) (l : List Oper) : Bool := (l.take e).all fun o => match o.guard with | none => true | some (j, _) => Nat.ble s j && Nat.ble (j + 1) e
def grdOk' (s e : Nat) (l : List Oper) : Bool := (List.range e).all fun i => Nat.ble (i + 1) s || (match l[i]? with | some o => (match o.guard with | none => true | some (j, _) => Nat.ble s j && Nat.ble (j + 1) e) | none => true)
/-- The parts between such operations. -/
def segOk (ops : List Oper) : Nat → List Nat → Bool
  | s, [] => okRegion (dum s ops) && grdOk' s ops.length ops
  | s, k :: cs => okRegion (dum s (ops.take k)) && (grdOk' s k ops && (Nat.ble s k && (Nat.ble (k + 1) ops.length && ((List.range k).all (fun i => waitsD ops k i) && ((List.range ops.length).all (fun j => Nat.ble j k || waitsD ops j k) && segOk ops (k + 1) cs)))))

def barK (T : Tab) (S : List (Nat × Spec)) (N : Nat) (ds : List (Option Tmp)) (o : Oper) (f : Fr) (bl : List V) (nn : NS) (K : Fr → List V → NS → Prop) : Prop :=
  guardK ds o.guard f (fun f => oneK T S N o f bl nn K) (fun f => putK N o.dst und f fun f' => K f' bl nn)
def segK (T : Tab) (S : List (Nat × Spec)) (N : Nat) (ops : List Oper) : Nat → List Nat → Fr → List V → NS → (Fr → List V → NS → Prop) → Prop
  | s, [], f, bl, nn, K => drwK T S N (dum s ops) ((dum s ops).map (·.dst)) (dum s ops) [] f bl nn K
  | s, k :: cs, f, bl, nn, K => drwK T S N (dum s (ops.take k)) ((dum s (ops.take k)).map (·.dst)) (dum s (ops.take k)) [] f bl nn fun f bl nn =>
      match ops[k]? with
      | some o => barK T S N (ops.map (·.dst)) o f bl nn fun f bl nn => segK T S N ops (k + 1) cs f bl nn K
      | none => False

section
variable {P : Program} {T : Tab} {S : List (Nat × Spec)} {w0 : World} {F0 : Old} {N : Nat} {ops : List Oper}

/-- What goes on. -/
structure Goes (P : Program) (ops : List Oper) (s : Nat) (Q : Act → World → Prop) (Inv : (Nat → Bool) → Act → World → Prop) : Prop where
  step : ∀ (i : Nat) (o : Oper), ops[i]? = some o → ∀ D a x, Adm ops i D → (∀ j, j < s → D j = true) → Inv D a x →
    if Region.wanted o (yielded ops.toArray a.tmps) = true then upon4 P (fun v x' => Inv (setD D i) (a.put o.dst v) x') ((execOp a.eval o).run P x) else Inv (setD D i) (a.put o.dst undef) x
  fin : ∀ D a x, (∀ k, k < ops.length → D k = true) → Inv D a x → Q a x

theorem wanted_part {s e : Nat} {o : Oper} (hg : ∀ j w, o.guard = some (j, w) → s ≤ j ∧ j < e) (tmps : Array Value) : Region.wanted o (yielded (dum s (ops.take e)).toArray tmps) = Region.wanted o (yielded ops.toArray tmps) := by
  unfold Region.wanted
  cases h : o.guard with
  | none => rfl
  | some q =>
    obtain ⟨j, w⟩ := q
    have hj := hg j w h
    have : yielded (dum s (ops.take e)).toArray tmps j = yielded ops.toArray tmps j := by
      unfold yielded
      have e : (dum s (ops.take e)).toArray[j]? = ops.toArray[j]? := by
        simp only [List.getElem?_toArray]
        rw [dum_get, List.getElem?_take, if_pos hj.2]
        cases ops[j]? with
        | none => rfl
        | some o => simp only [Option.map_some]; rw [if_neg (by omega)]
      rw [e]
    simp only [this]

theorem grd_at {s e : Nat} (h : grdOk' s e ops = true) {i : Nat} {o : Oper} (ho : ops[i]? = some o) (hs : s ≤ i) (he : i < e) : ∀ j w, o.guard = some (j, w) → s ≤ j ∧ j < e := by
  unfold grdOk' at h
  have h1 := List.all_eq_true.1 h i (List.mem_range.2 he)
  rw [Bool.or_eq_true] at h1
  rcases h1 with h1 | h1
  · have := Nat.le_of_ble_eq_true h1; omega
  · rw [ho] at h1
    intro j w hg
    simp only [hg, Bool.and_eq_true] at h1
    exact ⟨Nat.le_of_ble_eq_true h1.1, Nat.le_of_ble_eq_true h1.2⟩

/-- A part that is drawn: what goes on in it. -/
theorem part_inv (hT : TabOk P T) (hS : SpecsOk P S) {s e : Nat} (he : e ≤ ops.length) (hse : s ≤ e) {f : Fr} {bl : List V} {nn : NS} {K : Fr → List V → NS → Prop} {c : Cx} {a : Act} (hedge : ∀ i o, ops[i]? = some o → ∀ q ∈ o.after, Region.binds .any q = true → q.on < i) (hok : okRegion (dum s (ops.take e)) = true) (hgr : grdOk' s e ops = true)
    (h : drwK T S N (dum s (ops.take e)) ((dum s (ops.take e)).map (·.dst)) (dum s (ops.take e)) [] f bl nn K) (hr : Real w0 F0 bl nn c) (hf : FR N c f a) :
    ∃ Inv : (Nat → Bool) → Act → World → Prop, Inv (fun i => decide (i < s)) a c.x ∧
    (∀ (i : Nat) (o : Oper), ops[i]? = some o → s ≤ i → i < e → ∀ D a x, Adm ops i D → Inv D a x →
      if Region.wanted o (yielded ops.toArray a.tmps) = true then upon4 P (fun v x' => Inv (setD D i) (a.put o.dst v) x') ((execOp a.eval o).run P x) else Inv (setD D i) (a.put o.dst undef) x) ∧
    (∀ D a x, (∀ k, k < e → D k = true) → Inv D a x → Sat w0 F0 N K a x) := by
  obtain ⟨Inv, h0, hs, hend⟩ := draw_inv0 hT hS hok h hr hf
  have hlen : (dum s (ops.take e)).length = e := by rw [dum_len, List.length_take]; omega
  have hget : ∀ i o, ops[i]? = some o → i < e → (dum s (ops.take e))[i]? = some (if i < s then dumOp o else o) := fun i o ho hi => by
    rw [dum_get, List.getElem?_take, if_pos hi, ho]
    rfl
  have hwt : ∀ k i, waitsB (dum s (ops.take e)) k i = true → k < e ∧ waitsB ops k i = true := fun k i hw => by
    rw [dum_waits] at hw
    have hk := waits_take_lt hw
    exact ⟨hk, by rw [← waits_take hk]; exact hw⟩
  refine ⟨Inv, ?_, fun i o ho hsi hie D a x hadm hI => ?_, fun D a x hD hI => hend D a x (fun k hk => hD k (by omega)) hI⟩
  · have main : ∀ n, n ≤ s → Inv (fun i => decide (i < n)) a c.x := fun n => by
      induction n with
      | zero => intro _; exact h0
      | succ n ih =>
        intro hn
        have hI := ih (by omega)
        obtain ⟨o, ho⟩ : ∃ o, ops[n]? = some o := ⟨ops[n]'(by omega), by simp [show n < ops.length by omega]⟩
        have hg := hget n o ho (by omega)
        rw [if_pos (by omega)] at hg
        have hadm : Adm (dum s (ops.take e)) n (fun i => decide (i < n)) := by
          refine ⟨by simp, fun k hk => ?_, fun k hk => ?_, fun k j hk hj => ?_⟩
          · obtain ⟨o', q, h1, h2, h3, h4⟩ := waitsB_spec (hwt n k hk).2
            have := hedge n o' h1 q h2 h3
            simp; omega
          · obtain ⟨o', q, h1, h2, h3, h4⟩ := waitsB_spec (hwt k n hk).2
            have := hedge k o' h1 q h2 h3
            simp; omega
          · obtain ⟨o', q, h1, h2, h3, h4⟩ := waitsB_spec (hwt k j hj).2
            have := hedge k o' h1 q h2 h3
            simp at hk ⊢; omega
        have hst := hs n _ hg _ a c.x hadm hI
        rw [if_pos (show Region.wanted (dumOp o) _ = true from rfl)] at hst
        have hx : (execOp a.eval (dumOp o)).run P c.x = .ok (.value undef) c.x := rfl
        rw [hx] at hst
        have h1 : Inv (setD (fun i => decide (i < n)) n) a c.x := hst
        rw [show (fun i => decide (i < n + 1)) = setD (fun i => decide (i < n)) n from ?_]
        · exact h1
        · funext i
          unfold setD
          by_cases h2 : i = n
          · subst h2; simp
          · have h3 : (i == n) = false := by simpa using h2
            rw [h3, Bool.false_or]
            congr 1
            exact propext ⟨fun g => by omega, fun g => by omega⟩
    exact main s (Nat.le_refl _)
  · have hg := hget i o ho hie
    rw [if_neg (by omega)] at hg
    have hst := hs i o hg D a x ⟨hadm.un, fun k hk => hadm.ahead k (hwt i k hk).2, fun k hk => hadm.behind k (hwt k i hk).2, fun k j hk hj => hadm.closed k j hk (hwt k j hj).2⟩ hI
    rw [wanted_part (grd_at hgr ho hsi hie)] at hst
    exact hst

theorem seg_sound (hT : TabOk P T) (hS : SpecsOk P S) (htop : T.top = true → ∀ b e, F0.c.E.F b e → b < w0.heap.size) (hedge : ∀ i o, ops[i]? = some o → ∀ q ∈ o.after, Region.binds .any q = true → q.on < i) {K : Fr → List V → NS → Prop} {Q : Act → World → Prop} (hQ : ∀ a x, Sat w0 F0 N K a x → Q a x) :
    ∀ (cs : List Nat) (s : Nat) (f : Fr) (bl : List V) (nn : NS) (c : Cx) (a : Act), s ≤ ops.length → segOk ops s cs = true → segK T S N ops s cs f bl nn K → Real w0 F0 bl nn c → FR N c f a → ∃ Inv, Goes P ops s Q Inv ∧ Inv (fun i => decide (i < s)) a c.x
  | [], s, f, bl, nn, c, a, hsl, hok, h, hr, hf => by
    unfold segOk at hok
    rw [Bool.and_eq_true] at hok
    unfold segK at h
    have htk : ops.take ops.length = ops := List.take_length
    obtain ⟨Inv, h0, hs, hend⟩ := part_inv (ops := ops) (s := s) (e := ops.length) hT hS (Nat.le_refl _) hsl hedge (by rw [htk]; exact hok.1) hok.2 (by rw [htk]; exact h) hr hf
    refine ⟨Inv, ⟨fun i o ho D a x hadm hD hI => ?_, fun D a x hD hI => hQ a x (hend D a x hD hI)⟩, h0⟩
    have hsi : s ≤ i := by
      rcases Nat.lt_or_ge i s with h1 | h1
      · have := hD i h1
        rw [hadm.un] at this
        cases this
      · exact h1
    exact hs i o ho hsi (lt_of_get ho) D a x hadm hI
  | k :: cs, s, f, bl, nn, c, a, hsl, hok, h, hr, hf => by
    unfold segOk at hok
    simp only [Bool.and_eq_true] at hok
    obtain ⟨ok1, ok2, ok3, ok4, ok5, ok6, ok7⟩ := hok
    have hsk := Nat.le_of_ble_eq_true ok3
    have hkl : k < ops.length := Nat.le_of_ble_eq_true ok4
    have hw1 : ∀ i, i < k → waitsT ops ops.length k i = true := fun i hi => waitsD_T (List.all_eq_true.1 ok5 i (List.mem_range.2 hi))
    have hw2 : ∀ j, j < ops.length → k < j → waitsT ops ops.length j k = true := fun j hj hkj => by
      have := List.all_eq_true.1 ok6 j (List.mem_range.2 hj)
      rw [Bool.or_eq_true] at this
      rcases this with h1 | h1
      · have := Nat.le_of_ble_eq_true h1; omega
      · exact waitsD_T h1
    unfold segK at h
    obtain ⟨Inv, h0, hs, hend⟩ := part_inv hT hS (Nat.le_of_lt hkl) hsk hedge ok1 ok2 h hr hf
    refine ⟨fun D a x => ((∀ j, k ≤ j → D j = false) ∧ Inv D a x) ∨ (∀ j, j < k + 1 → D j = true) ∧ ∃ Inv', Goes P ops (k + 1) Q Inv' ∧ Inv' D a x, ⟨?_, ?_⟩, Or.inl ⟨fun j hj => by simp; omega, h0⟩⟩
    · intro i o ho D a x hadm hD hI
      rcases hI with ⟨hno, hI⟩ | ⟨hyes, Inv', hG, hI⟩
      · by_cases hik : i < k
        · have hsi : s ≤ i := by
            rcases Nat.lt_or_ge i s with h1 | h1
            · have := hD i h1
              rw [hadm.un] at this
              cases this
            · exact h1
          have hst := hs i o ho hsi hik D a x hadm hI
          have hsD : ∀ j, k ≤ j → setD D i j = false := fun j hj => by
            unfold setD
            rw [hno j hj, Bool.or_false, beq_eq_false_iff_ne]
            omega
          split at hst
          · rename_i hw
            rw [if_pos hw]
            exact upon4_mono (fun v x' h => Or.inl ⟨hsD, h⟩) hst
          · rename_i hw
            rw [if_neg hw]
            exact Or.inl ⟨hsD, hst⟩
        · have hi : i < ops.length := lt_of_get ho
          have hik' : i = k := by
            rcases Nat.lt_or_ge k i with h1 | h1
            · have h2 := hadm.aheadT (hw2 i hi h1)
              rw [hno k (Nat.le_refl _)] at h2
              cases h2
            · omega
          subst hik'
          have hall : ∀ j, j < i → D j = true := fun j hj => hadm.aheadT (hw1 j hj)
          obtain ⟨f', bl', nn', c', hbar, hr', hf', rfl⟩ := hend D a x hall hI
          rw [ho] at hbar
          have hbar : barK T S N (ops.map (·.dst)) o f' bl' nn' fun f bl nn => segK T S N ops (i + 1) cs f bl nn K := hbar
          have hsD : ∀ j, j < i + 1 → setD D i j = true := fun j hj => by
            unfold setD
            by_cases h1 : j = i
            · subst h1; simp
            · rw [hall j (by omega), Bool.or_true]
          have hDeq : setD D i = fun j => decide (j < i + 1) := by
            funext j
            rcases Nat.lt_or_ge j (i + 1) with h1 | h1
            · rw [hsD j h1, decide_eq_true h1]
            · rw [decide_eq_false (by omega)]
              unfold setD
              rw [hno j (by omega), Bool.or_false, beq_eq_false_iff_ne]
              omega
          have next : ∀ a x, Sat w0 F0 N (fun f bl nn => segK T S N ops (i + 1) cs f bl nn K) a x → ((∀ j, i ≤ j → setD D i j = false) ∧ Inv (setD D i) a x) ∨ (∀ j, j < i + 1 → setD D i j = true) ∧ ∃ Inv', Goes P ops (i + 1) Q Inv' ∧ Inv' (setD D i) a x := fun a x hsat => by
            obtain ⟨f2, bl2, nn2, c2, hk2, hr2, hf2, rfl⟩ := hsat
            obtain ⟨Inv', hG, hI'⟩ := seg_sound hT hS htop hedge hQ cs (i + 1) f2 bl2 nn2 c2 a hkl ok7 hk2 hr2 hf2
            exact Or.inr ⟨hsD, Inv', hG, by rw [hDeq]; exact hI'⟩
          unfold barK at hbar
          rcases guardK_sound (ops := ops) hbar hf' with ⟨hw, f3, h3, hf3⟩ | ⟨hw, f3, h3, hf3⟩
          · rw [if_pos hw]
            exact upon4_mono (fun v x' h => next _ _ h) (oneK_sound hT hS h3 hr' hf3 htop)
          · rw [if_neg (by rw [hw]; decide)]
            obtain ⟨f4, h4, hf4⟩ := putK_sound h3 hf3 (und_ok c')
            exact next _ _ ⟨f4, bl', nn', c', h4, hr', hf4, rfl⟩
      · have hst := hG.step i o ho D a x hadm hyes hI
        have hsD : ∀ j, j < k + 1 → setD D i j = true := fun j hj => by
          unfold setD
          rw [hyes j hj, Bool.or_true]
        split at hst
        · rename_i hw
          rw [if_pos hw]
          exact upon4_mono (fun v x' h => Or.inr ⟨hsD, Inv', hG, h⟩) hst
        · rename_i hw
          rw [if_neg hw]
          exact Or.inr ⟨hsD, Inv', hG, hst⟩
    · intro D a x hD hI
      rcases hI with ⟨hno, hI⟩ | ⟨hyes, Inv', hG, hI⟩
      · have h1 := hD k hkl
        rw [hno k (Nat.le_refl _)] at h1
        cases h1
      · exact hG.fin D a x hD hI

theorem draw_seg (hT : TabOk P T) (hS : SpecsOk P S) (htop : T.top = true → ∀ b e, F0.c.E.F b e → b < w0.heap.size) {id : Nat} {cs : List Nat} {f : Fr} {bl : List V} {nn : NS} {K : Fr → List V → NS → Prop} {c : Cx} {a : Act} (hok : (okRegion ops && segOk ops 0 cs) = true) (h : segK T S N ops 0 cs f bl nn K) (hr : Real w0 F0 bl nn c) (hf : FR N c f a)
    {Q : Exit → Act → World → Prop} (hQ : ∀ a x, Sat w0 F0 N K a x → Q .normal a x) : (Code.region id ops.toArray true).wp P Q a c.x := by
  rw [Bool.and_eq_true] at hok
  obtain ⟨r1, l1⟩ := real_drew hr
  obtain ⟨Inv, hG, h0⟩ := seg_sound (Q := fun a x => Q .normal a x) hT hS htop (fun i o ho => ok_edges hok.1 ho) hQ cs 0 f bl nn _ a (Nat.zero_le _) hok.2 h r1 (hf.mono l1)
  exact wp_region_inv Inv hT.mix hok.1 h0 (fun i o ho D a x hadm hI => hG.step i o ho D a x hadm (fun j hj => absurd hj (Nat.not_lt_zero _)) hI) hG.fin
end
end Go.Proofs.Ytjbbgpacijageab.M

/- A region that draws its order, with operations that all ahead come before, and all behind come after but for some that only read. No program is named here. -/
namespace Go.Proofs.Ytjbbgpacijageab.M
open Go.RowKit
set_option linter.unusedVariables false
set_option linter.unusedSimpArgs false

/-- What comes of operations that only read. -/
abbrev Ex := List (Nat × SV)
def exL : Ex → Nat → Option SV
  | [], _ => none
  | (j, v) :: r, i => match Nat.beq i j with | true => some v | false => exL r i
def partL (keep : Nat → Bool) : Nat → List Oper → List Oper
  | _, [] => []
  | i, o :: l => (match keep i with | true => o | false => dumOp o) :: partL keep (i + 1) l
theorem partL_len (keep : Nat → Bool) : ∀ (i : Nat) (l : List Oper), (partL keep i l).length = l.length
  | _, [] => rfl
  | i, o :: l => by simp [partL, partL_len keep (i + 1) l]
theorem partL_get (keep : Nat → Bool) : ∀ (i : Nat) (l : List Oper) (j : Nat), (partL keep i l)[j]? = (l[j]?).map fun o => if keep (i + j) = true then o else dumOp o
  | _, [], j => by simp [partL]
  | i, o :: l, 0 => by
    simp only [partL, List.getElem?_cons_zero, Option.map_some, Nat.add_zero]
    cases keep i <;> rfl
  | i, o :: l, j + 1 => by
    simp only [partL, List.getElem?_cons_succ]
    rw [partL_get keep (i + 1) l j, show i + 1 + j = i + (j + 1) from by omega]
theorem partL_waits (keep : Nat → Bool) (l : List Oper) (k i : Nat) : waitsB (partL keep 0 l) k i = waitsB l k i := by
  unfold waitsB
  rw [partL_get]
  cases l[k]? with
  | none => rfl
  | some o => simp only [Option.map_some]; split <;> rfl
/-- Only read. -/
structure Pure (out : Out) : Prop where
  ef : out.ef = .none
  m : out.m = 0
  q : out.q = false
  cr : out.cr = false
/-- Is it as it should be? -/
def chkK (pu : Nat → Bool) (ex : Ex) (i : Nat) (v : SV) (ef : Ef) (q cr : Bool) (p : Prop) : Prop :=
  match pu i with
  | false => p
  | true => match ef, q, cr with
    | .none, false, false => match exL ex i with
      | none => p
      | some w => Need (v = w) p
    | _, _, _ => False
theorem chkK_sound {pu : Nat → Bool} {ex : Ex} {i : Nat} {v : SV} {ef : Ef} {q cr : Bool} {p : Prop} (h : chkK pu ex i v ef q cr p) : p ∧ (pu i = true → (ef = .none ∧ q = false ∧ cr = false) ∧ ∀ w, exL ex i = some w → v = w) := by
  unfold chkK at h
  split at h
  · rename_i hp
    exact ⟨h, fun h1 => by rw [hp] at h1; cases h1⟩
  · split at h
    · split at h
      · rename_i he
        exact ⟨h, fun _ => ⟨⟨rfl, rfl, rfl⟩, fun w hw => by rw [he] at hw; cases hw⟩⟩
      · rename_i w he
        exact ⟨h.r, fun _ => ⟨⟨rfl, rfl, rfl⟩, fun w' hw => by rw [he] at hw; cases hw; exact h.l⟩⟩
    · exact h.elim
def drxK (T : Tab) (S : List (Nat × Spec)) (N : Nat) (ops : List Oper) (ds : List (Option Tmp)) (pu : Nat → Bool) (ex : Ex) : Nat → List Oper → List Lg → Fr → List V → NS → (Fr → List V → NS → Prop) → Prop
  | _, [], lg, f, bl, nn, K => Need ((okLog ops lg.reverse && okCr lg) = true) (K f bl nn)
  | i, o :: r, lg, f, bl, nn, K => guardK ds o.guard f
      (fun f => opK T S o f bl nn.n fun
        | ⟨v, ef, m, rd, q, cr⟩ => chkK pu ex i v ef q cr (efK bl ef fun bl' => lenK bl 0 fun n => putK N o.dst v f fun f' => addK nn cr m fun nn' => drxK T S N ops ds pu ex (i + 1) r (⟨rd ++ efW n ef, efW n ef, q, cr⟩ :: lg) f' bl' nn' K))
      (fun f => chkK pu ex i und .none false false (putK N o.dst und f fun f' => drxK T S N ops ds pu ex (i + 1) r (⟨[], [], false, false⟩ :: lg) f' bl nn K))
section
variable {P : Program} {T : Tab} {S : List (Nat × Spec)} {w0 : World} {F0 : Old} {N : Nat}
theorem drx_tr (hT : TabOk P T) (hS : SpecsOk P S) {ops : List Oper} {pu : Nat → Bool} {ex : Ex} {K : Fr → List V → NS → Prop} : ∀ (l : List Oper) (i0 : Nat) (lg : List Lg) (f : Fr) (bl : List V) (nn : NS), drxK T S N ops (ops.map (·.dst)) pu ex i0 l lg f bl nn K →
    ∃ t : Tr P w0 F0 N ops, t.f 0 = f ∧ t.b 0 = bl ∧ t.n 0 = nn.n ∧ (∀ i o, l[i]? = some o → t.At i o ∧ (pu (i0 + i) = true → Pure (t.o i) ∧ ∀ w, exL ex (i0 + i) = some w → (t.o i).r = w)) ∧ K (t.f l.length) (t.b l.length) ⟨t.n l.length, nn.tk⟩ ∧ okLog ops (lg.reverse ++ (List.range l.length).map t.lg) = true ∧ okCr (lg.reverse ++ (List.range l.length).map t.lg) = true
  | [], i0, lg, f, bl, nn, h => by
    obtain ⟨h1, h2⟩ := h
    rw [Bool.and_eq_true] at h1
    exact ⟨⟨fun _ => f, fun _ => bl, fun _ => nn.n, fun _ => ⟨und, .none, 0, [], false, false⟩⟩, rfl, rfl, rfl, fun i o hi => by simp at hi, h2, by simpa using h1.1, by simpa [okCr] using h1.2⟩
  | o :: r, i0, lg, f, bl, nn, h => by
    unfold drxK at h
    have shift : ∀ (out : Out) (f1 : Fr), (∀ u, look f1 u = if o.dst = some u then some out.r else look f u) → (∀ d, o.dst = some d → d < N) → (∀ j y, out.ef = .set j y → j < bl.length) → (out.cr = false → out.m = 0) →
        (((∀ (E : Env) (a : Act), (∀ t s, t ∈ o.looksAt ops.toArray → look f t = some s → a.tmps[t]? = some (s.val E)) → Region.wanted o (yielded ops.toArray a.tmps) = true) ∧ Does P w0 F0 o f (fun j => bl[j]?) bl.length nn.n out) ∨
          ((∀ (E : Env) (a : Act), (∀ t s, t ∈ o.looksAt ops.toArray → look f t = some s → a.tmps[t]? = some (s.val E)) → Region.wanted o (yielded ops.toArray a.tmps) = false) ∧ out = ⟨und, .none, 0, [], false, false⟩)) →
        (pu i0 = true → Pure out ∧ ∀ w, exL ex i0 = some w → out.r = w) →
        drxK T S N ops (ops.map (·.dst)) pu ex (i0 + 1) r (⟨out.rd ++ efW bl.length out.ef, efW bl.length out.ef, out.q, out.cr⟩ :: lg) f1 (efB bl out.ef) ⟨nn.n + out.m, nn.tk⟩ K →
        ∃ t : Tr P w0 F0 N ops, t.f 0 = f ∧ t.b 0 = bl ∧ t.n 0 = nn.n ∧ (∀ i o', (o :: r)[i]? = some o' → t.At i o' ∧ (pu (i0 + i) = true → Pure (t.o i) ∧ ∀ w, exL ex (i0 + i) = some w → (t.o i).r = w)) ∧ K (t.f (r.length + 1)) (t.b (r.length + 1)) ⟨t.n (r.length + 1), nn.tk⟩ ∧ okLog ops (lg.reverse ++ (List.range (r.length + 1)).map t.lg) = true ∧ okCr (lg.reverse ++ (List.range (r.length + 1)).map t.lg) = true := by
      intro out f1 hl hd hset hcr hway hpu hrest
      obtain ⟨t, e1, e2, e3, e4, e5, e6, e7⟩ := drx_tr hT hS r (i0 + 1) _ f1 _ _ hrest
      let t' : Tr P w0 F0 N ops := ⟨fun i => match i with | 0 => f | i + 1 => t.f i, fun i => match i with | 0 => bl | i + 1 => t.b i, fun i => match i with | 0 => nn.n | i + 1 => t.n i, fun i => match i with | 0 => out | i + 1 => t.o i⟩
      have hlg : (List.range (r.length + 1)).map t'.lg = ⟨out.rd ++ efW bl.length out.ef, efW bl.length out.ef, out.q, out.cr⟩ :: (List.range r.length).map t.lg := by
        rw [List.range_succ_eq_map, List.map_cons, List.map_map]
        rfl
      refine ⟨t', rfl, rfl, rfl, fun i o' hi => ?_, e5, ?_, ?_⟩
      · cases i with
        | zero =>
          have : o = o' := by simpa using hi
          subst this
          refine ⟨⟨fun u => ?_, hd, ?_, ?_, hset, hcr, hway⟩, hpu⟩
          · show look (t.f 0) u = _
            rw [e1]; exact hl u
          · show t.b 0 = _
            rw [e2]
          · show t.n 0 = _
            rw [e3]
        | succ i =>
          obtain ⟨this, h9⟩ := e4 i o' (by simpa using hi)
          refine ⟨⟨this.look, this.dst, this.bl, this.nn, this.set, this.cr, this.way⟩, ?_⟩
          rw [show i0 + (i + 1) = i0 + 1 + i from by omega]
          exact h9
      · rw [hlg]
        rw [List.reverse_cons, List.append_assoc] at e6
        exact e6
      · rw [hlg]
        rw [List.reverse_cons, List.append_assoc] at e7
        exact e7
    rcases guardK_all h with ⟨hw, f', hy, hlk⟩ | ⟨hw, f', hno, hlk⟩
    · obtain ⟨out, hk, hd⟩ := opK_sound (w0 := w0) (F0 := F0) hT hS hy
      have hk : chkK pu ex i0 out.r out.ef out.q out.cr (efK bl out.ef fun bl' => lenK bl 0 fun n => putK N o.dst out.r f' fun f'' => addK nn out.cr out.m fun nn' => drxK T S N ops (ops.map (·.dst)) pu ex (i0 + 1) r (⟨out.rd ++ efW n out.ef, efW n out.ef, out.q, out.cr⟩ :: lg) f'' bl' nn' K) := by
        cases out; exact hk
      obtain ⟨hk, hpu⟩ := chkK_sound hk
      have hset : ∀ j y, out.ef = .set j y → j < bl.length := fun j y hj => by
        rw [hj] at hk
        exact (setB_elim _ _ _ _ hk).2
      have hk := lenK_elim _ _ _ (efK_elim hk)
      rw [Nat.add_zero] at hk
      obtain ⟨f1, hk1, hl1, hd1⟩ := putK_look hk
      have hk2 : drxK T S N ops (ops.map (·.dst)) pu ex (i0 + 1) r (⟨out.rd ++ efW bl.length out.ef, efW bl.length out.ef, out.q, out.cr⟩ :: lg) f1 (efB bl out.ef) ⟨nn.n + out.m, nn.tk⟩ K := by
        cases hc : out.cr with
        | true => simp only [hc, addK] at hk1; exact hk1
        | false =>
          simp only [hc, addK] at hk1
          rw [hd.1 hc, Nat.add_zero]
          exact hk1
      refine shift out f1 (fun u => by rw [hl1 u, hlk u]) hd1 hset hd.1 (Or.inl ⟨hw, hd.congr hlk⟩) (fun hp => ?_) hk2
      obtain ⟨⟨g1, g2, g3⟩, g4⟩ := hpu hp
      exact ⟨⟨g1, hd.1 g3, g2, g3⟩, g4⟩
    · obtain ⟨hno, hpu⟩ := chkK_sound hno
      obtain ⟨f1, hk1, hl1, hd1⟩ := putK_look hno
      exact shift ⟨und, .none, 0, [], false, false⟩ f1 (fun u => by rw [hl1 u, hlk u]) hd1 (fun j y hj => by cases hj) (fun _ => rfl) (Or.inr ⟨hw, rfl⟩) (fun hp => ⟨⟨rfl, rfl, rfl, rfl⟩, (hpu hp).2⟩) hk1
end

section
variable {P : Program} {w0 : World} {F0 : Old} {N : Nat} {ops : List Oper} {t : Tr P w0 F0 N ops}
/-- At the beginning. -/
theorem dinv_init {f : Fr} {bl : List V} {nn : NS} {c : Cx} {a : Act} (e1 : t.f 0 = f) (e2 : t.b 0 = bl) (e3 : t.n 0 = nn.n) (hr : Real w0 F0 bl nn c) (hf : FR N c f a) : DInv t nn.tk (fun _ => false) a c := by
  refine ⟨hr.wf, hr.tk, fun b => ?_, fun n => ?_, fun b v hx hc => ?_, hf.size, hf.defers, fun k u _ hD => (by cases hD), fun u s _ hs => ?_⟩
  · show c.XA b ↔ _
    rw [hr.XA, e2]
    constructor
    · exact Or.inl
    · rintro (h1 | ⟨k, _, hD, _⟩)
      · exact h1
      · cases hD
  · show c.XB n ↔ _
    rw [hr.XB, e3]
    constructor
    · exact Or.inl
    · rintro (h1 | ⟨k, _, hD, _⟩)
      · exact h1
      · cases hD
  · rcases hc with ⟨k, _, hD, _⟩ | ⟨_, hc⟩
    · cases hD
    · rw [e2] at hc
      exact ⟨hr.ty b v hc, (hr.blk b v hc).1, (hr.blk b v hc).2⟩
  · rw [e1] at hs
    exact ⟨(hf.get u s hs).1, (hf.get u s hs).2⟩
theorem Pure.wr {k b : Nat} (h : Pure (t.o k)) : ¬ t.wr k b := by
  unfold Tr.wr
  rw [h.ef]
  simp [efW]
theorem Pure.isNew {k : Nat} (h : Pure (t.o k)) : ¬ t.isNew k := by
  rintro ⟨y, hy⟩
  rw [h.ef] at hy
  cases hy
/-- One that only reads was done ahead. -/
theorem dinv_early {tk : List (Hd × Nat)} {D : Nat → Bool} {a : Act} {c : Cx} (h : DInv t tk D a c) {e : Nat} (hp : Pure (t.o e)) (hs : ∀ u, dstOf ops e = some u → a.tmps[u]? = some ((t.o e).r.val c.E) ∧ (t.o e).r.ok c) : DInv t tk (setD D e) a c := by
  have hD1 : ∀ k, D k = true → setD D e k = true := fun k hk => by simp [setD, hk]
  have hD2 : ∀ k, setD D e k = true → k = e ∨ D k = true := fun k hk => by simpa [setD] using hk
  refine ⟨h.wf, h.tok, fun b => ?_, fun n => ?_, fun b v hx hc => h.blk b v hx ?_, h.size, h.defers, fun k u hk hD hd => ?_, fun u s hno hs => h.init u s (fun k hk hD => hno k hk (hD1 k hD)) hs⟩
  · rw [h.XA]
    constructor
    · rintro (h1 | ⟨k, h1, h2, h3⟩)
      · exact Or.inl h1
      · exact Or.inr ⟨k, h1, hD1 k h2, h3⟩
    · rintro (h1 | ⟨k, h1, h2, h3, h4⟩)
      · exact Or.inl h1
      · rcases hD2 k h2 with rfl | h2
        · exact absurd h3 hp.isNew
        · exact Or.inr ⟨k, h1, h2, h3, h4⟩
  · rw [h.XB]
    constructor
    · rintro (h1 | ⟨k, h1, h2, h3⟩)
      · exact Or.inl h1
      · exact Or.inr ⟨k, h1, hD1 k h2, h3⟩
    · rintro (h1 | ⟨k, h1, h2, h3, h4⟩)
      · exact Or.inl h1
      · rcases hD2 k h2 with rfl | h2
        · rw [hp.m] at h4; omega
        · exact Or.inr ⟨k, h1, h2, h3, h4⟩
  · rcases hc with ⟨k, h1, h2, h3, h4, h5⟩ | ⟨h1, h2⟩
    · rcases hD2 k h2 with rfl | h2
      · exact absurd h3 hp.wr
      · exact Or.inl ⟨k, h1, h2, h3, fun k' hk' hD' => h4 k' hk' (hD1 k' hD'), h5⟩
    · exact Or.inr ⟨fun k hk hD => h1 k hk (hD1 k hD), h2⟩
  · rcases hD2 k hD with rfl | hD
    · exact hs u hd
    · exact h.done k u hk hD hd
/-- What is not done only reads. -/
theorem dinv_mid (hAt : ∀ i o, ops[i]? = some o → t.At i o) (hok : okRegion ops = true) {tk : List (Hd × Nat)} {D : Nat → Bool} {a : Act} {c : Cx} (h : DInv t tk D a c) (hD : ∀ i, i < ops.length → D i = true ∨ Pure (t.o i)) {g : Fr}
    (hg : ∀ u s, look g u = some s → look (t.f ops.length) u = some s ∧ ∀ i, i < ops.length → dstOf ops i = some u → D i = true) : Real w0 F0 (t.b ops.length) ⟨t.n ops.length, tk⟩ c ∧ FR N c g a := by
  have hnew : ∀ i, i < ops.length → t.isNew i → D i = true := fun i hi hn => by
    rcases hD i hi with h1 | h1
    · exact h1
    · exact absurd hn h1.isNew
  have hwr : ∀ i b, i < ops.length → t.wr i b → D i = true := fun i b hi hw => by
    rcases hD i hi with h1 | h1
    · exact h1
    · exact absurd hw h1.wr
  have hxa : ∀ i, c.XA i ↔ i < (t.b ops.length).length := fun i => by
    rw [h.XA]
    constructor
    · rintro (h1 | ⟨k, hk, _, h2, h3⟩)
      · have := len_mono hAt (i := 0) (j := ops.length) (by omega) (by omega); omega
      · have h1 := len_mono hAt (i := k + 1) (j := ops.length) (by omega) (by omega)
        rcases len_step hAt (i := k) hk with ⟨h4, _⟩ | ⟨_, h4⟩
        · omega
        · exact absurd h2 h4
    · intro hlt
      rcases made hAt ops.length (Nat.le_refl _) hlt with h1 | ⟨k, h1, h2⟩
      · exact Or.inl h1
      · exact Or.inr ⟨k, h1, hnew k h1 h2.1, h2⟩
  have hcont : ∀ i v, (t.b ops.length)[i]? = some v → Cont t D i v := fun i v hv => by
    rcases lastw hAt i ops.length (Nat.le_refl _) with ⟨k, h1, h2, h3, h4⟩ | ⟨h1, h2⟩
    · exact Or.inl ⟨k, h1, hwr k i h1 h2, h2, fun k' hk' _ => h3 k' hk', by rw [h4]; exact hv⟩
    · exact Or.inr ⟨fun k hk _ => h1 k hk, by rw [h2]; exact hv⟩
  refine ⟨⟨h.wf, hxa, fun n => ?_, fun i v hv => (h.blk i v ((hxa i).2 (lt_of_get hv)) (hcont i v hv)).1, fun i v hv => (h.blk i v ((hxa i).2 (lt_of_get hv)) (hcont i v hv)).2, h.tok⟩, ⟨h.size, h.defers, fun u s hs => ?_⟩⟩
  · show c.XB n ↔ n < t.n ops.length
    rw [h.XB, names hAt n ops.length (Nat.le_refl _)]
    constructor
    · rintro (h1 | ⟨k, h1, _, h2⟩)
      · exact Or.inl h1
      · exact Or.inr ⟨k, h1, h2⟩
    · rintro (h1 | ⟨k', h1, h2, h3⟩)
      · exact Or.inl h1
      · refine Or.inr ⟨k', h1, ?_, h2, h3⟩
        rcases hD k' h1 with h4 | h4
        · exact h4
        · have := h4.m
          omega
  · obtain ⟨hs, hno⟩ := hg u s hs
    rcases slots hAt hok u ops.length (Nat.le_refl _) with ⟨k', h1, h2, h3⟩ | ⟨h1, h2⟩
    · rw [h3] at hs
      cases hs
      exact h.done k' u h1 (hno k' h1 h2) h2
    · rw [h2] at hs
      exact h.init u s (fun k hk _ => h1 k hk) hs
/-- One operation of them. -/
theorem dinv_go (hAt : ∀ i o, ops[i]? = some o → t.At i o) (hok : okRegion ops = true) (hlog : okLog ops ((List.range ops.length).map t.lg) = true) (hcr : okCr ((List.range ops.length).map t.lg) = true) {tk : List (Hd × Nat)} {i : Nat} {o : Oper} (ho : ops[i]? = some o) {D : Nat → Bool} {a : Act} {c : Cx} (hadm : Adm ops i D) (hI : DInv t tk D a c) :
    if Region.wanted o (yielded ops.toArray a.tmps) = true then upon4 P (fun v x' => ∃ c', DInv t tk (setD D i) (a.put o.dst v) c' ∧ c'.x = x') ((execOp a.eval o).run P c.x) else ∃ c', DInv t tk (setD D i) (a.put o.dst undef) c' ∧ c'.x = c.x := by
  have hi : i < ops.length := lt_of_get ho
  have ha := hAt i o ho
  have hsl : ∀ u s, u ∈ o.looksAt ops.toArray → look (t.f i) u = some s → a.tmps[u]? = some (s.val c.E) ∧ s.ok c := fun u s hu hs => dinv_slot hAt hok hI ho hadm hu hs
  rcases ha.way with ⟨hw, hd⟩ | ⟨hw, ho'⟩
  · rw [if_pos (hw c.E a fun u s hu hs => (hsl u s hu hs).1)]
    have hdo := hd.2 c a.eval hI.wf (fun y hy s hs => ?_) (fun b hb v hv => ?_) (fun hn hx => ?_) (fun hq n => ?_)
    · generalize (execOp a.eval o).run P c.x = res at hdo
      have step : ∀ v x', (∃ E, Post w0 F0 c (t.o i) (t.b i).length (t.n i) v x' E) → ∃ c', DInv t tk (setD D i) (a.put o.dst v) c' ∧ c'.x = x' := fun v x' ⟨E, hp⟩ => ⟨_, dinv_step hAt hok hlog hI ho hadm hp, rfl⟩
      cases res with
      | ok nx w' =>
        cases nx <;> simp only [upon4] at hdo ⊢
        case value u => exact step _ _ hdo
        case skip => exact step _ _ hdo
        case enter g args => exact hdo.mono fun e x' ⟨u, he, hu⟩ => ⟨u, he, step _ _ hu⟩
      | halt q w' => simp only [upon4] at hdo
    · cases y with
      | tmp u =>
        have hu : u ∈ o.looksAt ops.toArray := by
          unfold Oper.looksAt
          simp only [List.mem_append, List.mem_filterMap]
          exact Or.inl ⟨.tmp u, by simpa using hy, rfl⟩
        obtain ⟨h1, h2⟩ := hsl u s hu hs
        exact ⟨by simp only [Act.eval, Array.getD_eq_getD_getElem?, h1]; rfl, h2⟩
      | const v => cases hs; exact ⟨(constA_val _ v).symm, constA_ok _ v⟩
      | func g => cases hs; exact ⟨rfl, fun q hq => by cases hq⟩
      | global g => cases hs
    · have hbt : b ∈ (t.lg i).t := by
        show b ∈ (t.o i).rd ++ efW (t.b i).length (t.o i).ef
        rcases hb with hb | ⟨y, hy⟩
        · exact List.mem_append.2 (Or.inl hb)
        · exact List.mem_append.2 (Or.inr (by rw [hy]; simp [efW]))
      have hxa : c.XA b := by
        rw [hI.XA]
        rcases made hAt i (by omega) (lt_of_get hv) with h1 | ⟨k, h1, h2, h3⟩
        · exact Or.inl h1
        · have hwr : t.wr k b := by
            obtain ⟨y, hy⟩ := h2
            unfold Tr.wr
            rw [hy, h3]; simp [efW]
          exact Or.inr ⟨k, by omega, (dinv_touch hlog hi hadm hbt (by omega) hwr).1 h1, h2, h3⟩
      exact ⟨hxa, hI.blk b v hxa (dinv_cont hAt hlog hi hadm hbt hv)⟩
    · rcases (hI.XA _).1 hx with h1 | ⟨k, hk, hD, hnk, hb⟩
      · have := len_mono hAt (i := 0) (j := i) (by omega) (by omega); omega
      · have hki : k ≠ i := fun e => by subst e; rw [hadm.un] at hD; cases hD
        rcases Nat.lt_or_gt_of_ne hki with hlt | hlt
        · have h1 := len_mono hAt (i := k + 1) (j := i) (by omega) (by omega)
          rcases len_step hAt (i := k) hk with ⟨h2, _⟩ | ⟨_, h2⟩
          · omega
          · exact h2 hnk
        · have h1 := len_mono hAt (i := i + 1) (j := k) (by omega) (by omega)
          rcases len_step hAt (i := i) hi with ⟨h2, _⟩ | ⟨_, h2⟩
          · omega
          · exact h2 hn
    · rw [hI.XB, names hAt n i (by omega)]
      have hcrk : ∀ k, k < ops.length → t.n k ≤ n → n < t.n k + (t.o k).m → (t.o k).cr = true := fun k hk h1 h2 => by
        obtain ⟨o', _, ha'⟩ := at_of hAt hk
        cases hc : (t.o k).cr with
        | true => rfl
        | false => have := ha'.cr hc; omega
      have hclash : ∀ k, k < ops.length → (t.o k).cr = true → clash (t.lg k) (t.lg i) = true ∧ clash (t.lg i) (t.lg k) = true := fun k hk hc => by
        have hqk := cr_q hcr hk hc
        unfold clash
        have h1 : (t.lg k).q = true := hqk
        have h2 : (t.lg i).q = true := hq
        have h3 : (t.lg k).cr = true := hc
        rw [h1, h2, h3]
        simp
      constructor
      · rintro (h1 | ⟨k, h1, h2, h3, h4⟩)
        · exact Or.inl h1
        · refine Or.inr ⟨k, ?_, h3, h4⟩
          have hc := hcrk k h1 h3 h4
          rcases Nat.lt_trichotomy k i with h | h | h
          · exact h
          · subst h; rw [hadm.un] at h2; cases h2
          · exfalso
            have := hadm.behindT (log_waits hlog h h1 (hclash k h1 hc).2)
            rw [this] at h2; cases h2
      · rintro (h1 | ⟨k, h1, h3, h4⟩)
        · exact Or.inl h1
        · have hk : k < ops.length := by omega
          have hc := hcrk k hk h3 h4
          exact Or.inr ⟨k, hk, hadm.aheadT (log_waits hlog h1 hi (hclash k hk hc).1), h3, h4⟩
  · rw [if_neg (by rw [hw c.E a fun u s hu hs => (hsl u s hu hs).1]; exact Bool.false_ne_true)]
    have hp : Post w0 F0 c (t.o i) (t.b i).length (t.n i) undef c.x c.E := by
      rw [ho']
      exact post_val hI.wf (und_ok c)
    exact ⟨_, dinv_step hAt hok hlog hI ho hadm hp, rfl⟩
end

def dropK : List Nat → Fr → (Fr → Prop) → Prop
  | _, [], k => k []
  | ts, (t, s) :: r, k => match inN ts t with
    | true => dropK ts r k
    | false => dropK ts r fun g => k ((t, s) :: g)
theorem dropK_elim (ts : List Nat) : ∀ (f : Fr) (k : Fr → Prop), dropK ts f k → ∃ g, k g ∧ ∀ u s, look g u = some s → inN ts u = false ∧ look f u = some s
  | [], k, h => ⟨[], h, fun u s hu => by cases hu⟩
  | (t, s) :: r, k, h => by
    unfold dropK at h
    split at h
    · rename_i hin
      obtain ⟨g, h1, h2⟩ := dropK_elim ts r k h
      refine ⟨g, h1, fun u v hu => ?_⟩
      obtain ⟨h3, h4⟩ := h2 u v hu
      exact ⟨h3, by rw [look_ne (fun e => by rw [e, hin] at h3; cases h3)]; exact h4⟩
    · rename_i hin
      obtain ⟨g, h1, h2⟩ := dropK_elim ts r _ h
      refine ⟨_, h1, fun u v hu => ?_⟩
      by_cases hut : u = t
      · subst hut
        have e : ∀ (r : Fr), look ((u, s) :: r) u = some s := fun r => by
          show (match Nat.beq u u with | true => some s | false => look r u) = some s
          rw [Nat.beq_refl]
        rw [e] at hu
        cases hu
        exact ⟨hin, e r⟩
      · rw [look_ne hut] at hu
        obtain ⟨h3, h4⟩ := h2 u v hu
        exact ⟨h3, by rw [look_ne hut]; exact h4⟩
def exK (ds : List (Option Tmp)) (f : Fr) : List Nat → (Ex → List Nat → Prop) → Prop
  | [], k => k [] []
  | e :: r, k => match nthT ds e with
    | some u => match look f u with
      | some v => exK ds f r fun x ts => k ((e, v) :: x) (u :: ts)
      | none => False
    | none => False
theorem exK_elim {ops : List Oper} {f : Fr} : ∀ (fl : List Nat) (k : Ex → List Nat → Prop), exK (ops.map (·.dst)) f fl k → ∃ x ts, k x ts ∧ (∀ e v, exL x e = some v → e ∈ fl ∧ ∃ u, dstOf ops e = some u ∧ look f u = some v) ∧ (∀ e, e ∈ fl → ∃ v, exL x e = some v) ∧ ∀ e, e ∈ fl → ∀ u, dstOf ops e = some u → inN ts u = true
  | [], k, h => ⟨[], [], h, fun e v he => (by cases he), fun e he => (by cases he), fun e he => (by cases he)⟩
  | e :: r, k, h => by
    unfold exK at h
    split at h
    · rename_i u hu
      split at h
      · rename_i v hv
        obtain ⟨x, ts, h1, h2, h3, h4⟩ := exK_elim r _ h
        have hd : dstOf ops e = some u := by
          rw [nthT_eq, List.getElem?_map] at hu
          unfold dstOf
          cases ho : ops[e]? with
          | none => rw [ho] at hu; cases hu
          | some o => rw [ho] at hu; simpa using hu
        refine ⟨_, _, h1, fun e' v' he => ?_, fun e' he => ?_, fun e' he u' hu' => ?_⟩
        · unfold exL at he
          split at he
          · rename_i hb
            have := Nat.eq_of_beq_eq_true hb
            subst this
            cases he
            exact ⟨by simp, u, hd, hv⟩
          · obtain ⟨g1, g2⟩ := h2 e' v' he
            exact ⟨List.mem_cons_of_mem _ g1, g2⟩
        · unfold exL
          split
          · exact ⟨v, rfl⟩
          · rename_i hb
            rcases List.mem_cons.1 he with rfl | he
            · simp at hb
            · exact h3 e' he
        · unfold inN
          split
          · rfl
          · rename_i hb
            rcases List.mem_cons.1 he with rfl | he
            · rw [hd] at hu'
              cases hu'
              simp at hb
            · exact h4 e' he u' hu'
      · exact h.elim
    · exact h.elim
def inX (ex : Ex) (i : Nat) : Bool := match exL ex i with | some _ => true | none => false
theorem inX_of {ex : Ex} {i : Nat} {v : SV} (h : exL ex i = some v) : inX ex i = true := by unfold inX; rw [h]
def keepA (s : Nat) (xs : List Nat) (i : Nat) : Bool := Nat.ble s i || inN xs i
def keepB (s : Nat) (xs : List Nat) (k : Nat) (fl : List Nat) (i : Nat) : Bool := (Nat.ble s i && Nat.ble (i + 1) k) || (inN fl i || inN xs i)
def grdX (keep : Nat → Bool) (ops : List Oper) : Bool := (List.range ops.length).all fun i => !keep i || (match ops[i]? with | some o => (match o.guard with | none => true | some (j, _) => keep j) | none => true)
/-- s: all ahead of it are done, but for xs. -/
def segXok (ops : List Oper) : Nat → List Nat → List (Nat × List Nat) → Bool
  | s, xs, [] => okRegion (partL (keepA s xs) 0 ops) && grdX (keepA s xs) ops
  | s, xs, (k, fl) :: cs => okRegion (partL (keepB s xs k fl) 0 ops) && (grdX (keepB s xs k fl) ops && (Nat.ble s k && (Nat.ble (k + 1) ops.length && ((List.range ops.length).all (fun i => inN fl i || (!((Nat.ble s i && Nat.ble (i + 1) k) || inN xs i) || waitsD ops k i)) && ((List.range ops.length).all (fun j => Nat.ble j k || (inN fl j || waitsD ops j k)) &&
      ((!inN fl k && !inN xs k) && (fl.all (fun j => Nat.ble s j || inN xs j) && (xs.all (fun j => Nat.ble (j + 1) k || inN fl j) && segXok ops (k + 1) fl cs))))))))
def segX (T : Tab) (S : List (Nat × Spec)) (N : Nat) (ops : List Oper) : Nat → List Nat → Ex → List (Nat × List Nat) → Fr → List V → NS → (Fr → List V → NS → Prop) → Prop
  | s, xs, ex, [], f, bl, nn, K => drxK T S N (partL (keepA s xs) 0 ops) ((partL (keepA s xs) 0 ops).map (·.dst)) (fun i => !keepA s xs i || inN xs i) ex 0 (partL (keepA s xs) 0 ops) [] f bl nn K
  | s, xs, ex, (k, fl) :: cs, f, bl, nn, K => drxK T S N (partL (keepB s xs k fl) 0 ops) ((partL (keepB s xs k fl) 0 ops).map (·.dst)) (fun i => !keepB s xs k fl i || (inN fl i || inN xs i)) ex 0 (partL (keepB s xs k fl) 0 ops) [] f bl nn fun f bl nn =>
      match ops[k]? with
      | some o => exK (ops.map (·.dst)) f fl fun ex' ts => dropK ts f fun g => guardK (ops.map (·.dst)) o.guard g
          (fun g => match leOp T S o g with
            | true => oneK T S N o g bl nn fun f bl nn => segX T S N ops (k + 1) fl ex' cs f bl nn K
            | false => False)
          (fun g => putK N o.dst und g fun f => segX T S N ops (k + 1) fl ex' cs f bl nn K)
      | none => False

section
variable {P : Program} {T : Tab} {S : List (Nat × Spec)} {w0 : World} {F0 : Old} {N : Nat} {ops : List Oper}
theorem inN_iff {l : List Nat} {n : Nat} : inN l n = true ↔ n ∈ l := ⟨mem_inN l n, fun h => by
  cases hb : inN l n with
  | true => rfl
  | false => exact absurd h (inN_mem l n hb)⟩
theorem partL_dst {keep : Nat → Bool} {i u : Nat} (h : dstOf (partL keep 0 ops) i = some u) : keep i = true ∧ dstOf ops i = some u := by
  unfold dstOf at h ⊢
  rw [partL_get, Nat.zero_add] at h
  cases ho : ops[i]? with
  | none => rw [ho] at h; cases h
  | some o =>
    rw [ho] at h
    simp only [Option.map_some, Option.bind_some] at h ⊢
    split at h
    · rename_i hk
      exact ⟨hk, h⟩
    · cases h
theorem partL_dst' {keep : Nat → Bool} {i u : Nat} (hk : keep i = true) (h : dstOf ops i = some u) : dstOf (partL keep 0 ops) i = some u := by
  unfold dstOf at h ⊢
  rw [partL_get, Nat.zero_add]
  cases ho : ops[i]? with
  | none => rw [ho] at h; cases h
  | some o =>
    rw [ho] at h
    simp only [Option.map_some, Option.bind_some] at h ⊢
    rw [if_pos hk]
    exact h
theorem dinv_set {t : Tr P w0 F0 N ops} {tk : List (Hd × Nat)} {D : Nat → Bool} {a : Act} {c : Cx} (h : DInv t tk (fun _ => false) a c) (hp : ∀ e, e < ops.length → D e = true → Pure (t.o e) ∧ ∀ u, dstOf ops e = some u → a.tmps[u]? = some ((t.o e).r.val c.E) ∧ (t.o e).r.ok c) : DInv t tk D a c := by
  refine ⟨h.wf, h.tok, fun b => ?_, fun n => ?_, fun b v hx hc => h.blk b v hx ?_, h.size, h.defers, fun k u hk hD hd => (hp k hk hD).2 u hd, fun u s _ hs => h.init u s (fun k _ hD => by cases hD) hs⟩
  · rw [h.XA]
    constructor
    · rintro (h1 | ⟨k, _, hD, _⟩)
      · exact Or.inl h1
      · cases hD
    · rintro (h1 | ⟨k, h1, h2, h3, _⟩)
      · exact Or.inl h1
      · exact absurd h3 (hp k h1 h2).1.isNew
  · rw [h.XB]
    constructor
    · rintro (h1 | ⟨k, _, hD, _⟩)
      · exact Or.inl h1
      · cases hD
    · rintro (h1 | ⟨k, h1, h2, h3, h4⟩)
      · exact Or.inl h1
      · have := (hp k h1 h2).1.m
        omega
  · rcases hc with ⟨k, h1, h2, h3, _⟩ | ⟨_, h2⟩
    · exact absurd h3 (hp k h1 h2).1.wr
    · exact Or.inr ⟨fun k _ hD => (by cases hD), h2⟩
theorem wanted_keep {keep : Nat → Bool} (hg : grdX keep ops = true) {i : Nat} {o : Oper} (ho : ops[i]? = some o) (hk : keep i = true) (tmps : Array Value) : Region.wanted o (yielded (partL keep 0 ops).toArray tmps) = Region.wanted o (yielded ops.toArray tmps) := by
  unfold Region.wanted
  cases h : o.guard with
  | none => rfl
  | some q =>
    obtain ⟨j, w⟩ := q
    have hi : i < ops.length := lt_of_get ho
    have h1 := List.all_eq_true.1 hg i (List.mem_range.2 hi)
    rw [hk, ho] at h1
    simp only [h, Bool.not_true, Bool.false_or] at h1
    have : yielded (partL keep 0 ops).toArray tmps j = yielded ops.toArray tmps j := by
      unfold yielded
      have e : (partL keep 0 ops).toArray[j]? = ops.toArray[j]? := by
        simp only [List.getElem?_toArray]
        rw [partL_get, Nat.zero_add, h1]
        cases ops[j]? with
        | none => rfl
        | some o => simp
      rw [e]
    simp only [this]
theorem Adm.part {keep : Nat → Bool} {i : Nat} {D : Nat → Bool} (h : Adm ops i D) : Adm (partL keep 0 ops) i D :=
  ⟨h.un, fun k hk => h.ahead k (by rw [← partL_waits keep]; exact hk), fun k hk => h.behind k (by rw [← partL_waits keep]; exact hk), fun k j hk hj => h.closed k j hk (by rw [← partL_waits keep]; exact hj)⟩
/-- What goes on in a part. -/
theorem part_go {keep : Nat → Bool} {t : Tr P w0 F0 N (partL keep 0 ops)} (hAt : ∀ i o, (partL keep 0 ops)[i]? = some o → t.At i o) (hok : okRegion (partL keep 0 ops) = true) (hgr : grdX keep ops = true) (hlog : okLog (partL keep 0 ops) ((List.range (partL keep 0 ops).length).map t.lg) = true) (hcr : okCr ((List.range (partL keep 0 ops).length).map t.lg) = true) {tk : List (Hd × Nat)}
    {i : Nat} {o : Oper} (ho : ops[i]? = some o) (hk : keep i = true) {D : Nat → Bool} {a : Act} {x : World} (hadm : Adm ops i D) (hI : ∃ c, DInv t tk D a c ∧ c.x = x) :
    if Region.wanted o (yielded ops.toArray a.tmps) = true then upon4 P (fun v x' => ∃ c', DInv t tk (setD D i) (a.put o.dst v) c' ∧ c'.x = x') ((execOp a.eval o).run P x) else ∃ c', DInv t tk (setD D i) (a.put o.dst undef) c' ∧ c'.x = x := by
  obtain ⟨c, hI, rfl⟩ := hI
  have ho' : (partL keep 0 ops)[i]? = some o := by
    rw [partL_get, ho, Nat.zero_add]
    simp [hk]
  have := dinv_go hAt hok hlog hcr ho' hadm.part hI
  rw [wanted_keep hgr ho hk] at this
  exact this

/-- What goes on, when so much is done. -/
structure GoesX (P : Program) (ops : List Oper) (s : Nat) (xs : List Nat) (Q : Act → World → Prop) (Inv : (Nat → Bool) → Act → World → Prop) : Prop where
  step : ∀ (i : Nat) (o : Oper), ops[i]? = some o → ∀ D a x, Adm ops i D → (∀ j, j < s → inN xs j = false → D j = true) → Inv D a x →
    if Region.wanted o (yielded ops.toArray a.tmps) = true then upon4 P (fun v x' => Inv (setD D i) (a.put o.dst v) x') ((execOp a.eval o).run P x) else Inv (setD D i) (a.put o.dst undef) x
  fin : ∀ D a x, (∀ k, k < ops.length → D k = true) → Inv D a x → Q a x
theorem segX_sound (hT : TabOk P T) (hS : SpecsOk P S) (htop : T.top = true → ∀ b e, F0.c.E.F b e → b < w0.heap.size) (hokO : okRegion ops = true) {K : Fr → List V → NS → Prop} {Q : Act → World → Prop} (hQ : ∀ a x, Sat w0 F0 N K a x → Q a x) :
    ∀ (cs : List (Nat × List Nat)) (s : Nat) (xs : List Nat) (ex : Ex) (f : Fr) (bl : List V) (nn : NS) (c : Cx) (a : Act), s ≤ ops.length → segXok ops s xs cs = true → (∀ e v, exL ex e = some v → e ∈ xs) → segX T S N ops s xs ex cs f bl nn K → Real w0 F0 bl nn c → FR N c f a →
      ∃ Inv, GoesX P ops s xs Q Inv ∧ ∀ E : Nat → Bool, (∀ e, E e = true → ∃ v, exL ex e = some v ∧ ∀ u, dstOf ops e = some u → a.tmps[u]? = some (v.val c.E) ∧ v.ok c) → Inv (fun i => (decide (i < s) && !inN xs i) || E i) a c.x
  | [], s, xs, ex, f, bl, nn, c, a, hsl, hok, hxs, h, hr, hf => by
    unfold segXok at hok
    rw [Bool.and_eq_true] at hok
    unfold segX at h
    obtain ⟨t, e1, e2, e3, hAt, hK, hlog, hcr⟩ := drx_tr (w0 := w0) (F0 := F0) hT hS _ 0 [] f bl nn h
    rw [List.reverse_nil, List.nil_append] at hlog hcr
    have hA : ∀ i o, (partL (keepA s xs) 0 ops)[i]? = some o → t.At i o := fun i o ho => (hAt i o ho).1
    have hlen := partL_len (keepA s xs) 0 ops
    have hget : ∀ i, i < ops.length → ∃ o, (partL (keepA s xs) 0 ops)[i]? = some o := fun i hi => ⟨_, List.getElem?_eq_getElem (by rw [hlen]; exact hi)⟩
    have hpu : ∀ i, i < ops.length → (!keepA s xs i || inN xs i) = true → Pure (t.o i) ∧ ∀ w, exL ex i = some w → (t.o i).r = w := fun i hi hp => by
      obtain ⟨o, ho⟩ := hget i hi
      have := (hAt i o ho).2
      rw [Nat.zero_add] at this
      exact this hp
    refine ⟨fun D a x => ∃ c, DInv t nn.tk D a c ∧ c.x = x, ⟨fun i o ho D a x hadm hD hI => ?_, fun D a x hD hI => ?_⟩, fun E hE => ⟨c, dinv_set (dinv_init e1 e2 e3 hr hf) (fun e he hDe => ?_), rfl⟩⟩
    · have hsi : keepA s xs i = true := by
        unfold keepA
        rcases Nat.lt_or_ge i s with h1 | h1
        · cases hb : inN xs i with
          | true => rw [Bool.or_true]
          | false =>
            have := hD i h1 hb
            rw [hadm.un] at this
            cases this
        · rw [Nat.ble_eq_true_of_le h1]; rfl
      exact part_go hA hok.1 hok.2 hlog hcr ho hsi hadm hI
    · obtain ⟨c', hI, rfl⟩ := hI
      obtain ⟨r1, r2⟩ := dinv_mid hA hok.1 hI (fun i hi => Or.inl (hD i (by rw [← hlen]; exact hi))) (g := t.f (partL (keepA s xs) 0 ops).length) (fun u v hu => ⟨hu, fun i hi _ => hD i (by rw [← hlen]; exact hi)⟩)
      exact hQ a _ ⟨_, _, _, c', hK, r1, r2, rfl⟩
    · rw [hlen] at he
      rw [Bool.or_eq_true, Bool.and_eq_true] at hDe
      have hkn : (e < s ∧ inN xs e = false) → keepA s xs e = false := fun ⟨h1, h2⟩ => by
        unfold keepA
        rw [h2, Bool.or_false]
        cases hb : Nat.ble s e with
        | false => rfl
        | true => have := Nat.le_of_ble_eq_true hb; omega
      have hc : (e < s ∧ inN xs e = false) ∨ E e = true := by
        rcases hDe with ⟨h1, h2⟩ | h1
        · exact Or.inl ⟨of_decide_eq_true h1, by simpa using h2⟩
        · exact Or.inr h1
      have hpe : (!keepA s xs e || inN xs e) = true := by
        rcases hc with h1 | h1
        · rw [hkn h1]; rfl
        · obtain ⟨v, hv, _⟩ := hE e h1
          rw [inN_iff.2 (hxs e v hv), Bool.or_true]
      obtain ⟨p1, p2⟩ := hpu e he hpe
      refine ⟨p1, fun u hu => ?_⟩
      obtain ⟨g1, g2⟩ := partL_dst hu
      rcases hc with h1 | h1
      · rw [hkn h1] at g1
        cases g1
      · obtain ⟨v, hv, hs⟩ := hE e h1
        rw [p2 v hv]
        exact hs u g2
  | (k, fl) :: cs, s, xs, ex, f, bl, nn, c, a, hsl, hok, hxs, h, hr, hf => by
    unfold segXok at hok
    simp only [Bool.and_eq_true] at hok
    obtain ⟨ok1, ok2, ok3, ok4, ok5, ok6, ⟨ok7, ok7'⟩, ok10, ok8, ok9⟩ := hok
    have hsk := Nat.le_of_ble_eq_true ok3
    have hkl : k < ops.length := Nat.le_of_ble_eq_true ok4
    have hkf : inN fl k = false := by simpa using ok7
    have hkx : inN xs k = false := by simpa using ok7'
    have hxk : ∀ j, inN xs j = true → j < k ∨ inN fl j = true := fun j hj => by
      have := List.all_eq_true.1 ok8 j (inN_iff.1 hj)
      rw [Bool.or_eq_true] at this
      rcases this with h1 | h1
      · exact Or.inl (Nat.le_of_ble_eq_true h1)
      · exact Or.inr h1
    have hw1 : ∀ i, i < ops.length → inN fl i = false → ((s ≤ i ∧ i < k) ∨ inN xs i = true) → waitsT ops ops.length k i = true := fun i hi hn hc => by
      have := List.all_eq_true.1 ok5 i (List.mem_range.2 hi)
      rw [hn, Bool.false_or] at this
      have hb : ((Nat.ble s i && Nat.ble (i + 1) k) || inN xs i) = true := by
        rcases hc with ⟨h1, h2⟩ | h1
        · rw [Nat.ble_eq_true_of_le h1, Nat.ble_eq_true_of_le (show i + 1 ≤ k from h2)]; rfl
        · rw [h1, Bool.or_true]
      rw [hb, Bool.not_true, Bool.false_or] at this
      exact waitsD_T this
    have hw2 : ∀ j, j < ops.length → k < j → inN fl j = false → waitsT ops ops.length j k = true := fun j hj hkj hn => by
      have := List.all_eq_true.1 ok6 j (List.mem_range.2 hj)
      rw [hn, Bool.false_or, Bool.or_eq_true] at this
      rcases this with h1 | h1
      · have := Nat.le_of_ble_eq_true h1; omega
      · exact waitsD_T h1
    unfold segX at h
    obtain ⟨t, e1, e2, e3, hAt, hK, hlog, hcr⟩ := drx_tr (w0 := w0) (F0 := F0) hT hS _ 0 [] f bl nn h
    rw [List.reverse_nil, List.nil_append] at hlog hcr
    have hA : ∀ i o, (partL (keepB s xs k fl) 0 ops)[i]? = some o → t.At i o := fun i o ho => (hAt i o ho).1
    have hlen := partL_len (keepB s xs k fl) 0 ops
    have hget : ∀ i, i < ops.length → ∃ o, (partL (keepB s xs k fl) 0 ops)[i]? = some o := fun i hi => ⟨_, List.getElem?_eq_getElem (by rw [hlen]; exact hi)⟩
    have hpu : ∀ i, i < ops.length → (!keepB s xs k fl i || (inN fl i || inN xs i)) = true → Pure (t.o i) ∧ ∀ w, exL ex i = some w → (t.o i).r = w := fun i hi hp => by
      obtain ⟨o, ho⟩ := hget i hi
      have := (hAt i o ho).2
      rw [Nat.zero_add] at this
      exact this hp
    have hkc : ∀ i, keepB s xs k fl i = true → (s ≤ i ∧ i < k) ∨ inN fl i = true ∨ inN xs i = true := fun i hi => by
      unfold keepB at hi
      rw [Bool.or_eq_true, Bool.or_eq_true, Bool.and_eq_true] at hi
      rcases hi with ⟨h1, h2⟩ | h1 | h1
      · exact Or.inl ⟨Nat.le_of_ble_eq_true h1, Nat.le_of_ble_eq_true h2⟩
      · exact Or.inr (Or.inl h1)
      · exact Or.inr (Or.inr h1)
    obtain ⟨o, ho⟩ : ∃ o, ops[k]? = some o := ⟨_, List.getElem?_eq_getElem hkl⟩
    rw [ho] at hK
    simp only at hK
    obtain ⟨ex', ts, hK, x1, x2, x3⟩ := exK_elim fl _ hK
    obtain ⟨g, hK, hgl⟩ := dropK_elim ts _ _ hK
    refine ⟨fun D a x => (D k = false ∧ (∀ j, D j = true → (j < s ∧ inN xs j = false) ∨ keepB s xs k fl j = true) ∧ ∃ c, DInv t nn.tk D a c ∧ c.x = x) ∨ (∀ j, j < k + 1 → inN fl j = false → D j = true) ∧ ∃ Inv', GoesX P ops (k + 1) fl Q Inv' ∧ Inv' D a x, ⟨?_, ?_⟩, fun E hE => Or.inl ⟨?_, fun j hD => ?_, c, dinv_set (dinv_init e1 e2 e3 hr hf) (fun e he hDe => ?_), rfl⟩⟩
    · intro i oi hoi D a x hadm hD hI
      rcases hI with ⟨hno, hfD, hI⟩ | ⟨hyes, Inv', hG, hI⟩
      · have hi : i < ops.length := lt_of_get hoi
        by_cases hik : i = k
        · subst hik
          rw [ho] at hoi
          cases hoi
          have hahead : ∀ j, j < ops.length → inN fl j = false → ((s ≤ j ∧ j < i) ∨ inN xs j = true) → D j = true := fun j hj h1 h2 => hadm.aheadT (hw1 j hj h1 h2)
          have hDl : ∀ j, j < i + 1 → inN fl j = false → j ≠ i → D j = true := fun j hj h1 hne => by
            by_cases hx : inN xs j = true
            · exact hahead j (by omega) h1 (Or.inr hx)
            · rcases Nat.lt_or_ge j s with h2 | h2
              · exact hD j h2 (by simpa using hx)
              · exact hahead j (by omega) h1 (Or.inl ⟨h2, by omega⟩)
          obtain ⟨c1, hI, rfl⟩ := hI
          obtain ⟨r1, r2⟩ := dinv_mid hA ok1 hI (fun j hj => by
              rw [hlen] at hj
              cases hb : keepB s xs i fl j with
              | false => exact Or.inr (hpu j hj (by rw [hb]; rfl)).1
              | true =>
                cases hf1 : inN fl j with
                | true => exact Or.inr (hpu j hj (by rw [hf1]; simp)).1
                | false =>
                  rcases hkc j hb with h1 | h1 | h1
                  · exact Or.inl (hahead j hj hf1 (Or.inl h1))
                  · rw [hf1] at h1; cases h1
                  · exact Or.inl (hahead j hj hf1 (Or.inr h1))) (g := g) (fun u v hu => by
              obtain ⟨h1, h2⟩ := hgl u v hu
              refine ⟨h2, fun j hj hd => ?_⟩
              rw [hlen] at hj
              obtain ⟨d1, d2⟩ := partL_dst hd
              cases hf1 : inN fl j with
              | true =>
                rw [x3 j (inN_iff.1 hf1) u d2] at h1
                cases h1
              | false =>
                rcases hkc j d1 with h3 | h3 | h3
                · exact hahead j hj hf1 (Or.inl h3)
                · rw [hf1] at h3; cases h3
                · exact hahead j hj hf1 (Or.inr h3))
          have next : ∀ (v : Value) (f2 : Fr) (bl2 : List V) (nn2 : NS) (c2 : Cx), segX T S N ops (i + 1) fl ex' cs f2 bl2 nn2 K → Real w0 F0 bl2 nn2 c2 → FR N c2 f2 (a.put o.dst v) → c1.Le c2 →
              (setD D i i = false ∧ (∀ j, setD D i j = true → (j < s ∧ inN xs j = false) ∨ keepB s xs i fl j = true) ∧ ∃ c, DInv t nn.tk (setD D i) (a.put o.dst v) c ∧ c.x = c2.x) ∨ (∀ j, j < i + 1 → inN fl j = false → setD D i j = true) ∧ ∃ Inv', GoesX P ops (i + 1) fl Q Inv' ∧ Inv' (setD D i) (a.put o.dst v) c2.x := by
            intro v f2 bl2 nn2 c2 k1 k2 k3 hle2
            obtain ⟨Inv', hG, hI'⟩ := segX_sound hT hS htop hokO hQ cs (i + 1) fl ex' f2 bl2 nn2 c2 (a.put o.dst v) hkl ok9 (fun e v he => (x1 e v he).1) k1 k2 k3
            refine Or.inr ⟨fun j hj hjf => ?_, Inv', hG, ?_⟩
            · unfold setD
              by_cases h1 : j = i
              · subst h1; simp
              · rw [hDl j hj hjf h1, Bool.or_true]
            · have hDeq : setD D i = fun j => (decide (j < i + 1) && !inN fl j) || (D j && inN fl j) := by
                funext j
                unfold setD
                cases hf1 : inN fl j with
                | true =>
                  have hb : (j == i) = false := by rw [beq_eq_false_iff_ne]; intro e0; rw [e0, hkf] at hf1; cases hf1
                  rw [hb]
                  simp
                | false =>
                  simp only [Bool.not_false, Bool.and_true, Bool.and_false, Bool.or_false]
                  rcases Nat.lt_trichotomy j i with h1 | h1 | h1
                  · rw [hDl j (by omega) hf1 (by omega), Bool.or_true, decide_eq_true (show j < i + 1 by omega)]
                  · subst h1
                    simp
                  · have hb : (j == i) = false := by rw [beq_eq_false_iff_ne]; omega
                    rw [hb, Bool.false_or, decide_eq_false (show ¬ j < i + 1 by omega)]
                    cases hDj : D j with
                    | false => rfl
                    | true =>
                      exfalso
                      rcases hfD j hDj with ⟨h2, _⟩ | h2
                      · omega
                      · rcases hkc j h2 with h3 | h3 | h3
                        · omega
                        · rw [hf1] at h3; cases h3
                        · rcases hxk j h3 with h4 | h4
                          · omega
                          · rw [hf1] at h4; cases h4
              rw [hDeq]
              refine hI' _ fun e he => ?_
              rw [Bool.and_eq_true] at he
              have hef : e ∈ fl := inN_iff.1 he.2
              obtain ⟨w, hw⟩ := x2 e hef
              refine ⟨w, hw, fun u hu => ?_⟩
              obtain ⟨_, u', d1, d2⟩ := x1 e w hw
              rw [hu] at d1
              cases d1
              have hke : keepB s xs i fl e = true := by unfold keepB; rw [he.2]; simp
              have hdL := partL_dst' hke hu
              have heL : e < (partL (keepB s xs i fl) 0 ops).length := by
                rw [hlen]
                unfold dstOf at hu
                cases hoe : ops[e]? with
                | none => rw [hoe] at hu; cases hu
                | some q => exact lt_of_get hoe
              have hres : (t.o e).r = w := by
                rcases slots hA ok1 u _ (Nat.le_refl _) with ⟨k', h1, h2, h3⟩ | ⟨h1, _⟩
                · have : k' = e := by
                    by_cases hke' : k' = e
                    · exact hke'
                    · exfalso
                      obtain ⟨q, hq⟩ := hget k' (by rw [← hlen]; exact h1)
                      have h4 := (ok_slots ok1 hq hdL).1 (Ne.symm hke')
                      apply h4
                      unfold dstOf at h2
                      rw [hq] at h2
                      exact h2
                  subst this
                  rw [h3] at d2
                  exact Option.some.inj d2
                · exact absurd hdL (h1 e heL)
              obtain ⟨s1, s2⟩ := hI.done e u heL he.1 hdL
              rw [hres] at s1 s2
              refine ⟨?_, SV.ok_mono hle2 s2⟩
              rw [SV.val_mono hle2 s2, ← s1]
              cases hd' : o.dst with
              | none => rfl
              | some d =>
                have hne : d ≠ u := fun e0 => by
                  subst e0
                  have hke2 : e ≠ i := fun e1 => by rw [e1, hkf] at he; cases he.2
                  exact (ok_slots hokO ho hu).1 hke2 hd'
                simp only [Act.put, Array.getElem?_setIfInBounds_ne hne]
          rcases guardK_sound (ops := ops) hK r2 with ⟨hw, f3, h3, hf3⟩ | ⟨hw, f3, h3, hf3⟩
          · rw [if_pos hw]
            split at h3
            · rename_i hle
              refine upon4_mono (fun v x' hs => ?_) (oneK_soundL hT hS h3 r1 hf3 htop)
              obtain ⟨f2, bl2, nn2, c2, k1, k2, k3, k4, k5⟩ := hs
              subst k4
              exact next v f2 bl2 nn2 c2 k1 k2 k3 (k5 hle)
            · exact h3.elim
          · rw [if_neg (by rw [hw]; decide)]
            obtain ⟨f4, h4, hf4⟩ := putK_sound h3 hf3 (und_ok c1)
            exact next undef f4 _ _ c1 h4 r1 hf4 (Cx.Le.refl _)
        · have hkeep : keepB s xs k fl i = true := by
            cases hb : keepB s xs k fl i with
            | true => rfl
            | false =>
              exfalso
              unfold keepB at hb
              rw [Bool.or_eq_false_iff, Bool.or_eq_false_iff] at hb
              obtain ⟨b1, b2, b3⟩ := hb
              have hsi : s ≤ i := by
                rcases Nat.lt_or_ge i s with h1 | h1
                · have := hD i h1 b3
                  rw [hadm.un] at this
                  cases this
                · exact h1
              have hki : k < i := by
                rcases Nat.lt_trichotomy i k with h1 | h1 | h1
                · rw [Nat.ble_eq_true_of_le hsi, Nat.ble_eq_true_of_le (show i + 1 ≤ k from h1)] at b1
                  cases b1
                · exact absurd h1 hik
                · exact h1
              have h2 := hadm.aheadT (hw2 i hi hki b2)
              rw [hno] at h2
              cases h2
          have hst := part_go hA ok1 ok2 hlog hcr hoi hkeep hadm hI
          have hsD : setD D i k = false := by
            unfold setD
            rw [hno, Bool.or_false, beq_eq_false_iff_ne]
            omega
          have hfD' : ∀ j, setD D i j = true → (j < s ∧ inN xs j = false) ∨ keepB s xs k fl j = true := fun j hDj => by
            unfold setD at hDj
            rw [Bool.or_eq_true] at hDj
            rcases hDj with h1 | h1
            · have : j = i := by simpa using h1
              subst this
              exact Or.inr hkeep
            · exact hfD j h1
          split at hst
          · rename_i hw
            rw [if_pos hw]
            exact upon4_mono (fun v x' h => Or.inl ⟨hsD, hfD', h⟩) hst
          · rename_i hw
            rw [if_neg hw]
            exact Or.inl ⟨hsD, hfD', hst⟩
      · have hst := hG.step i oi hoi D a x hadm hyes hI
        have hsD : ∀ j, j < k + 1 → inN fl j = false → setD D i j = true := fun j hj hjf => by
          unfold setD
          rw [hyes j hj hjf, Bool.or_true]
        split at hst
        · rename_i hw
          rw [if_pos hw]
          exact upon4_mono (fun v x' h => Or.inr ⟨hsD, Inv', hG, h⟩) hst
        · rename_i hw
          rw [if_neg hw]
          exact Or.inr ⟨hsD, Inv', hG, hst⟩
    · intro D a x hD hI
      rcases hI with ⟨hno, _⟩ | ⟨hyes, Inv', hG, hI⟩
      · have h1 := hD k hkl
        rw [hno] at h1
        cases h1
      · exact hG.fin D a x hD hI
    · have h1 : decide (k < s) = false := decide_eq_false (by omega)
      show ((decide (k < s) && !inN xs k) || E k) = false
      rw [h1, Bool.false_and, Bool.false_or]
      cases hEk : E k with
      | false => rfl
      | true =>
        obtain ⟨v, hv, _⟩ := hE k hEk
        rw [inN_iff.2 (hxs k v hv)] at hkx
        cases hkx
    · have hD : ((decide (j < s) && !inN xs j) || E j) = true := hD
      rw [Bool.or_eq_true, Bool.and_eq_true] at hD
      rcases hD with ⟨h1, h2⟩ | h1
      · exact Or.inl ⟨of_decide_eq_true h1, by simpa using h2⟩
      · obtain ⟨v, hv, _⟩ := hE j h1
        refine Or.inr ?_
        unfold keepB
        rw [inN_iff.2 (hxs j v hv)]
        simp
    · rw [hlen] at he
      rw [Bool.or_eq_true, Bool.and_eq_true] at hDe
      by_cases hEe : E e = true
      · obtain ⟨v, hv, hs⟩ := hE e hEe
        obtain ⟨p1, p2⟩ := hpu e he (by rw [inN_iff.2 (hxs e v hv)]; simp)
        refine ⟨p1, fun u hu => ?_⟩
        rw [p2 v hv]
        exact hs u (partL_dst hu).2
      · obtain ⟨h1, h2⟩ : e < s ∧ inN xs e = false := by
          rcases hDe with ⟨h1, h2⟩ | h1
          · exact ⟨of_decide_eq_true h1, by simpa using h2⟩
          · exact absurd h1 hEe
        have hkn : keepB s xs k fl e = false := by
          unfold keepB
          rw [h2, Bool.or_false]
          have h3 : Nat.ble s e = false := by
            cases hb : Nat.ble s e with
            | false => rfl
            | true => have := Nat.le_of_ble_eq_true hb; omega
          rw [h3, Bool.false_and, Bool.false_or]
          have := List.all_eq_true.1 ok10 e
          cases hb : inN fl e with
          | false => rfl
          | true =>
            have h4 := this (inN_iff.1 hb)
            rw [Bool.or_eq_true] at h4
            rcases h4 with h4 | h4
            · have := Nat.le_of_ble_eq_true h4; omega
            · rw [h2] at h4; cases h4
        obtain ⟨p1, p2⟩ := hpu e he (by rw [hkn]; rfl)
        refine ⟨p1, fun u hu => ?_⟩
        obtain ⟨g1, g2⟩ := partL_dst hu
        rw [hkn] at g1
        cases g1

theorem draw_segX (hT : TabOk P T) (hS : SpecsOk P S) (htop : T.top = true → ∀ b e, F0.c.E.F b e → b < w0.heap.size) {id : Nat} {cs : List (Nat × List Nat)} {f : Fr} {bl : List V} {nn : NS} {K : Fr → List V → NS → Prop} {c : Cx} {a : Act} (hok : (okRegion ops && segXok ops 0 [] cs) = true) (h : segX T S N ops 0 [] [] cs f bl nn K) (hr : Real w0 F0 bl nn c) (hf : FR N c f a)
    {Q : Exit → Act → World → Prop} (hQ : ∀ a x, Sat w0 F0 N K a x → Q .normal a x) : (Code.region id ops.toArray true).wp P Q a c.x := by
  rw [Bool.and_eq_true] at hok
  obtain ⟨r1, l1⟩ := real_drew hr
  obtain ⟨Inv, hG, h0⟩ := segX_sound (Q := fun a x => Q .normal a x) hT hS htop hok.1 hQ cs 0 [] [] f bl nn _ a (Nat.zero_le _) hok.2 (fun e v he => by cases he) h r1 (hf.mono l1)
  have h1 := h0 (fun _ => false) (fun e he => by cases he)
  refine wp_region_inv Inv hT.mix hok.1 ?_ (fun i o ho D a x hadm hI => hG.step i o ho D a x hadm (fun j hj => absurd hj (Nat.not_lt_zero _)) hI) hG.fin
  have e : (fun i : Nat => (decide (i < 0) && !inN [] i) || false) = fun _ => false := by funext i; simp
  rw [e] at h1
  exact h1
end
end Go.Proofs.Ytjbbgpacijageab.M

/- A region that draws its order, with appends onto lists of one's own. No program is named here. -/
namespace Go.Proofs.Ytjbbgpacijageab.M
open Go.RowKit
set_option linter.unusedVariables false
set_option linter.unusedSimpArgs false

/-- What there is, of blocks of which one knows. -/
structure RealR (w0 : World) (F0 : Old) (Q : Nat → Prop) (R : Nat → V → Prop) (nn : NS) (c : Cx) : Prop where
  wf : c.Wf w0 F0
  XA : ∀ i, c.XA i ↔ Q i
  XB : ∀ n, c.XB n ↔ n < nn.n
  ty : ∀ i v, R i v → Q i ∧ c.ty i = some v.ty
  blk : ∀ i v, R i v → (∃ e, HB c.x (c.E.A i) (v.cells c.E.B).toArray e) ∧ v.okc c
  tk : Toks w0 c nn.tk
section
variable {P : Program} {T : Tab} {S : List (Nat × Spec)} {w0 : World} {F0 : Old} {N : Nat}
theorem grownR {Q : Nat → Prop} {R : Nat → V → Prop} {nn : NS} {c : Cx} (hr : RealR w0 F0 Q R nn c) {x' : World} {e : Ty} {zs : List e.D} {i : Nat} {h : Hd} (hi : nn.tk[i]? = some (h, e.sz)) {b o cap : Nat} {C : Array Value} {t : TypeId}
    (hsame : Same c.x x' (fun k => k = b)) (hb0 : w0.heap.size ≤ b) (hsz1 : 1 ≤ e.sz) (hb1 : ∀ i, c.XA i → c.E.A i ≠ b) (hB : HB x' b C t) (hl : zs.length ≤ cap) (hc : cap ≤ maxLen) (hC : o + cap * e.sz ≤ C.size)
    (hF : ∀ e', c.E.F b e' → e' ≤ o + zs.length * e.sz) (hK : ∀ e', c.E.F b e' → ∀ j, j < e' → x'.cell? ⟨b, j, none⟩ = c.x.cell? ⟨b, j, none⟩) (hnm : ∀ es k, c.x.heap[b]? ≠ some (.map es k))
    (hoth : ∀ q s' j, j ≠ i → nn.tk[j]? = some (q, s') → ∀ o' l' k', q.val c.E.B = .slice (some ⟨b, o', none⟩) l' k' → (0 < s' → 0 < k' → False) ∧ (i < j → s' = 0 → l' = 0))
    (hz : ∀ (q : Nat) z, zs[q]? = some z → (∀ j, j < e.sz → x'.cell? ⟨b, o + q * e.sz + j, none⟩ = (flat c.E.B e z)[j]?) ∧ wokc c e z) :
    ∃ c', RealR w0 F0 Q R ⟨nn.n + 1, nn.tk.set i (.nm nn.n, e.sz)⟩ c' ∧ c.Le c' ∧ c'.E.B nn.n = .slice (some ⟨b, o, none⟩) zs.length cap ∧ wokc c' (.lst e) (.nm nn.n, zs) ∧ c'.x = x' := by
  have hX := hr.XB
  let E' : Env := ⟨c.E.A, fun n => if n = nn.n then .slice (some ⟨b, o, none⟩) zs.length cap else c.E.B n, fun d k => c.E.F d k ∨ (d = b ∧ k = o + zs.length * e.sz)⟩
  let c' : Cx := { XA := c.XA, XB := fun n => n < nn.n + 1, ty := c.ty, E := E', x := x' }
  have hBn : E'.B nn.n = .slice (some ⟨b, o, none⟩) zs.length cap := if_pos rfl
  have hBo : ∀ n, c.XB n → E'.B n = c.E.B n := fun n hn => if_neg (by have := (hX n).1 hn; omega)
  have hle : c.Le c' := by
    refine ⟨fun i hi => ⟨hi, rfl, rfl⟩, fun n hn => ⟨Nat.lt_succ_of_lt ((hX n).1 hn), hBo n hn⟩, fun _ _ h => Or.inl h, fun d k hd j hj => ?_, hsame.size⟩
    by_cases hdb : d = b
    · subst hdb
      exact hK k hd j hj
    · exact World.cell?_of_block (hsame.block d (hr.wf.fhi d k hd) hdb)
  have hbx : b < x'.heap.size := hB.lt
  have hwf : c'.Wf w0 F0 := by
    refine ⟨hr.wf.below.trans (hsame.below hr.wf.below.size fun k hk hkb => ?_), hr.wf.lo, fun i hi => Nat.lt_of_lt_of_le (hr.wf.hi i hi) hsame.size, hr.wf.inj, fun d k hd => ?_, fun i hi k hk => ?_, fun d k hd => ?_, fun n hn => ⟨Nat.lt_succ_of_lt ((hX n).1 (hr.wf.oldB n hn).1), (hBo n (hr.wf.oldB n hn).1).trans (hr.wf.oldB n hn).2⟩, hr.wf.le.trans hle⟩
    · omega
    · rcases hd with hd | ⟨rfl, _⟩
      · exact Nat.lt_of_lt_of_le (hr.wf.fhi d k hd) hsame.size
      · exact hbx
    · rcases hk with hk | ⟨hk, _⟩
      · exact hr.wf.own i hi k hk
      · exact hb1 i hi hk
    · constructor
      · rintro (h1 | ⟨h1, _⟩)
        · exact (hr.wf.old d k hd).1 h1
        · omega
      · exact fun h1 => Or.inl ((hr.wf.old d k hd).2 h1)
  have hval : ∀ q : Hd, q.ok c.XB → q.val E'.B = q.val c.E.B := fun q hq => hdVal_congr hBo hq
  refine ⟨c', ⟨hwf, hr.XA, fun n => Iff.rfl, hr.ty, fun j v hv => ?_, ?_⟩, hle, hBn, ⟨Nat.lt_succ_self _, ?_⟩, rfl⟩
  · obtain ⟨⟨t', h1⟩, h2⟩ := hr.blk j v hv
    have hXA := (hr.XA j).2 (hr.ty j v hv).1
    refine ⟨⟨t', ?_⟩, V.okc_mono hle h2⟩
    have hcells : v.cells E'.B = v.cells c.E.B := V.cellsc hle h2
    show HB x' (c.E.A j) (v.cells E'.B).toArray t'
    rw [hcells]
    unfold HB
    rw [hsame.block _ h1.lt (hb1 j hXA)]
    exact h1
  · have htok : ∀ q s', (q, s') ∈ nn.tk → TokOk w0 c q s' := fun q s' hq => hr.tk.ok (q, s') hq
    have hilt : i < nn.tk.length := (List.getElem?_eq_some_iff.1 hi).1
    have hme : TokOk w0 c' (.nm nn.n) e.sz := ⟨Nat.lt_succ_self _, fun _ => Or.inr (Or.inl ⟨b, o, zs.length, cap, C, t, hBn, hb0, hb1, hB, hl, hc, hC, fun e' he' => by
      rcases he' with he' | ⟨_, he'⟩
      · exact hF e' he'
      · omega⟩), fun h => by omega⟩
    have hot : ∀ j q s', j ≠ i → nn.tk[j]? = some (q, s') → TokOk w0 c' q s' := fun j q s' hj hq => by
      obtain ⟨g0, g, g'⟩ := htok q s' (List.mem_of_getElem? hq)
      refine ⟨?_, fun hs => ?_, fun hs => (g' hs).val (hval q g0) hsame.size⟩
      · cases q with
        | conc u => trivial
        | nm k => exact Nat.lt_succ_of_lt ((hX k).1 g0)
      rcases g hs with ⟨ad, g⟩ | ⟨b', o', len', cap', C', t', g1, g2, g3, g4, g5, g6, g7, g8⟩ | ⟨ms, gm, gk⟩
      · exact Or.inl ⟨ad, (hval q g0).trans g⟩
      rotate_left
      · refine Or.inr (Or.inr ⟨ms, gm, gk.mono (fun n hn => Nat.lt_succ_of_lt ((hX n).1 hn)) hBo (fun r _ g3 => g3) (fun r es k hr g3 g4 => ?_)⟩)
        show x'.heap[r]? = _
        rw [hsame.block r (Array.getElem?_eq_some_iff.1 g4).1 (fun hb => by subst hb; exact hnm es k g4)]
        exact g4
      · rcases Nat.eq_zero_or_pos cap' with h0 | h0
        · subst h0
          obtain rfl : len' = 0 := by omega
          exact Or.inl ⟨_, (hval q g0).trans g1⟩
        have hne : b' ≠ b := fun hbb => by
          subst hbb
          exact (hoth q s' j hj hq o' len' cap' g1).1 hs h0
        refine Or.inr (Or.inl ⟨b', o', len', cap', C', t', (hval q g0).trans g1, g2, g3, ?_, g5, g6, g7, fun e' he' => ?_⟩)
        · show x'.heap[b']? = _
          rw [hsame.block b' g4.lt hne]
          exact g4
        · rcases he' with he' | ⟨he', _⟩
          · exact g8 e' he'
          · exact absurd he' hne
    refine ⟨fun p hp => ?_, ?_⟩
    · obtain ⟨j, hj⟩ := List.getElem?_of_mem hp
      have hj : (nn.tk.set i (.nm nn.n, e.sz))[j]? = some p := hj
      rw [List.getElem?_set] at hj
      split at hj
      · cases hj
        exact hme
      · rename_i hne
        exact hot j p.1 p.2 (Ne.symm hne) hj
    · have hap : ∀ j q s', j ≠ i → nn.tk[j]? = some (q, s') → (i < j → Apart E'.B (.nm nn.n, e.sz) (q, s')) ∧ Apart E'.B (q, s') (.nm nn.n, e.sz) := fun j q s' hj hq => by
        have g0 := (htok q s' (List.mem_of_getElem? hq)).1
        constructor
        · intro hij _ b1 o1 l1 k1 o2 l2 k2 h1 h2 _
          have e1 : E'.B nn.n = .slice (some ⟨b1, o1, none⟩) l1 k1 := h1
          rw [hBn] at e1
          cases e1
          have e2 : q.val E'.B = .slice (some ⟨b, o2, none⟩) l2 k2 := h2
          rw [hval q g0] at e2
          obtain ⟨k3, k4⟩ := hoth q s' j hj hq _ _ _ e2
          exact ⟨k3, k4 hij⟩
        · intro z1 b1 o1 l1 k1 o2 l2 k2 h1 h2 h3
          have e1 : E'.B nn.n = .slice (some ⟨b1, o2, none⟩) l2 k2 := h2
          rw [hBn] at e1
          cases e1
          have e2 : q.val E'.B = .slice (some ⟨b, o1, none⟩) l1 k1 := h1
          rw [hval q g0] at e2
          exact ((hoth q s' j hj hq _ _ _ e2).1 z1 h3).elim
      show (nn.tk.set i (.nm nn.n, e.sz)).Pairwise (Apart E'.B)
      rw [List.pairwise_iff_getElem]
      intro j k hj hk hjk
      rw [List.length_set] at hj hk
      have hgj : nn.tk[j]? = some nn.tk[j] := List.getElem?_eq_getElem hj
      have hgk : nn.tk[k]? = some nn.tk[k] := List.getElem?_eq_getElem hk
      rw [List.getElem_set, List.getElem_set]
      by_cases hij : i = j
      · rw [if_pos hij, if_neg (by omega)]
        exact (hap k nn.tk[k].1 nn.tk[k].2 (by omega) hgk).1 (by omega)
      · rw [if_neg hij]
        by_cases hik : i = k
        · rw [if_pos hik]
          exact (hap j nn.tk[j].1 nn.tk[j].2 (by omega) hgj).2
        · rw [if_neg hik]
          have h0 := (List.pairwise_iff_getElem.1 hr.tk.ne) j k hj hk hjk
          intro z1 b1 o1 l1 k1 o2 l2 k2 h1 h2 h3
          exact h0 z1 b1 o1 l1 k1 o2 l2 k2 ((hval _ (htok _ _ (List.mem_of_getElem? hgj)).1).symm.trans h1) ((hval _ (htok _ _ (List.mem_of_getElem? hgk)).1).symm.trans h2) h3
  · refine Or.inr ⟨b, o, cap, hBn, hl, hc, hbx, ⟨_, Nat.le_refl _, Or.inr ⟨rfl, rfl⟩⟩, fun q z hq => ?_⟩
    obtain ⟨g1, g2⟩ := hz q z hq
    refine ⟨fun j hj => ?_, wokc_mono hle g2⟩
    rw [show flat c'.E.B e z = flat c.E.B e z from flat_congr hBo e z g2]
    exact g1 j hj
theorem grown0R {Q : Nat → Prop} {R : Nat → V → Prop} {nn : NS} {c : Cx} (hr : RealR w0 F0 Q R nn c) {e : Ty} {i : Nat} {h : Hd} (hi : nn.tk[i]? = some (h, e.sz)) (ad : Option Addr) :
    ∃ c', RealR w0 F0 Q R ⟨nn.n + 1, nn.tk.set i (.nm nn.n, e.sz)⟩ c' ∧ c.Le c' ∧ c'.E.B nn.n = .slice ad 0 0 ∧ wokc c' (.lst e) (.nm nn.n, []) ∧ c'.x = c.x := by
  have hX := hr.XB
  let E' : Env := ⟨c.E.A, fun n => if n = nn.n then .slice ad 0 0 else c.E.B n, c.E.F⟩
  let c' : Cx := { XA := c.XA, XB := fun n => n < nn.n + 1, ty := c.ty, E := E', x := c.x }
  have hBn : E'.B nn.n = .slice ad 0 0 := if_pos rfl
  have hBo : ∀ n, c.XB n → E'.B n = c.E.B n := fun n hn => if_neg (by have := (hX n).1 hn; omega)
  have hle : c.Le c' := ⟨fun i hi => ⟨hi, rfl, rfl⟩, fun n hn => ⟨Nat.lt_succ_of_lt ((hX n).1 hn), hBo n hn⟩, fun _ _ h => h, fun d k hd j hj => rfl, Nat.le_refl _⟩
  have hval : ∀ q : Hd, q.ok c.XB → q.val E'.B = q.val c.E.B := fun q hq => hdVal_congr hBo hq
  have hwf : c'.Wf w0 F0 := ⟨hr.wf.below, hr.wf.lo, hr.wf.hi, hr.wf.inj, hr.wf.fhi, hr.wf.own, hr.wf.old, fun n hn => ⟨Nat.lt_succ_of_lt ((hX n).1 (hr.wf.oldB n hn).1), (hBo n (hr.wf.oldB n hn).1).trans (hr.wf.oldB n hn).2⟩, hr.wf.le.trans hle⟩
  refine ⟨c', ⟨hwf, hr.XA, fun n => Iff.rfl, hr.ty, fun j v hv => ?_, ?_⟩, hle, hBn, ⟨Nat.lt_succ_self _, Or.inl ⟨rfl, ad, 0, hBn⟩⟩, rfl⟩
  · obtain ⟨⟨t', h1⟩, h2⟩ := hr.blk j v hv
    refine ⟨⟨t', ?_⟩, V.okc_mono hle h2⟩
    have hcells : v.cells E'.B = v.cells c.E.B := V.cellsc hle h2
    show HB c.x (c.E.A j) (v.cells E'.B).toArray t'
    rw [hcells]
    exact h1
  · have htok : ∀ q s', (q, s') ∈ nn.tk → TokOk w0 c q s' := fun q s' hq => hr.tk.ok (q, s') hq
    have hilt : i < nn.tk.length := (List.getElem?_eq_some_iff.1 hi).1
    refine ⟨fun p hp => ?_, ?_⟩
    · obtain ⟨j, hj⟩ := List.getElem?_of_mem hp
      have hj : (nn.tk.set i (.nm nn.n, e.sz))[j]? = some p := hj
      rw [List.getElem?_set] at hj
      split at hj
      · cases hj
        exact ⟨Nat.lt_succ_self _, fun _ => Or.inl ⟨ad, hBn⟩, fun _ => ⟨ad, 0, 0, hBn, Or.inl rfl⟩⟩
      · obtain ⟨g0, g, g'⟩ := htok p.1 p.2 (List.mem_of_getElem? hj)
        refine ⟨?_, fun hs => ?_, fun hs => (g' hs).val (hval _ g0) (Nat.le_refl _)⟩
        · cases hp1 : p.1 with
          | conc u => trivial
          | nm k => rw [hp1] at g0; exact Nat.lt_succ_of_lt ((hX k).1 g0)
        rcases g hs with ⟨ad', g⟩ | ⟨b', o', len', cap', C', t', g1, g2⟩ | ⟨ms, gm, gk⟩
        · exact Or.inl ⟨ad', (hval _ g0).trans g⟩
        · exact Or.inr (Or.inl ⟨b', o', len', cap', C', t', (hval _ g0).trans g1, g2⟩)
        · exact Or.inr (Or.inr ⟨ms, gm, gk.mono (fun n hn => Nat.lt_succ_of_lt ((hX n).1 hn)) hBo (fun r _ g3 => g3) (fun _ _ _ _ _ h => h)⟩)
    · show (nn.tk.set i (.nm nn.n, e.sz)).Pairwise (Apart E'.B)
      rw [List.pairwise_iff_getElem]
      intro j k hj hk hjk
      rw [List.length_set] at hj hk
      have hgj : nn.tk[j]? = some nn.tk[j] := List.getElem?_eq_getElem hj
      have hgk : nn.tk[k]? = some nn.tk[k] := List.getElem?_eq_getElem hk
      rw [List.getElem_set, List.getElem_set]
      intro z1 b1 o1 l1 k1 o2 l2 k2 h1 h2 h3
      by_cases hij : i = j
      · rw [if_pos hij] at h1
        have e1 : E'.B nn.n = .slice (some ⟨b1, o1, none⟩) l1 k1 := h1
        rw [hBn] at e1
        cases e1
        omega
      · rw [if_neg hij] at h1
        by_cases hik : i = k
        · rw [if_pos hik] at h2
          have e1 : E'.B nn.n = .slice (some ⟨b1, o2, none⟩) l2 k2 := h2
          rw [hBn] at e1
          cases e1
          exact ⟨fun _ h0 => absurd h0 (Nat.lt_irrefl _), fun _ => rfl⟩
        · rw [if_neg hik] at h2
          rw [if_neg hik]
          rw [if_neg hij] at z1
          have h0 := (List.pairwise_iff_getElem.1 hr.tk.ne) j k hj hk hjk
          exact h0 z1 b1 o1 l1 k1 o2 l2 k2 ((hval _ (htok _ _ (List.mem_of_getElem? hgj)).1).symm.trans h1) ((hval _ (htok _ _ (List.mem_of_getElem? hgk)).1).symm.trans h2) h3
theorem app_runR {Q : Nat → Prop} {R : Nat → V → Prop} {nn : NS} {c : Cx} (hr : RealR w0 F0 Q R nn c) {T : Tab} (hT : TabOk P T) {t : TypeId} {e : Ty} {n0 : Nat} (hty : tyL T.ty t = some (.lst e, n0)) {hd : Hd} {xs ys : List e.D} {vx vy : Value} (ty' : TypeId)
    (hx : (vx = hd.val c.E.B ∧ wokc c (.lst e) (hd, xs)) ∨ (hd = nilH ∧ xs = [] ∧ ∃ ad, vx = .slice ad 0 0)) {h' : Hd} (hy : vy = h'.val c.E.B) (hyw : wokc c (.lst e) (h', ys)) {k : SV → NS → Prop} (h : AppW e hd xs ys nn k) :
    ∃ v x', (Builtin.append_ #[t, t] ty' #[vx, vy]).run P c.x = .ok v x' ∧ ∃ r nn' c', k r nn' ∧ v = r.val c'.E ∧ r.ok c' ∧ RealR w0 F0 Q R nn' c' ∧ c.Le c' ∧ c'.x = x' := by
  obtain ⟨i, hi, ⟨hlen, hby⟩, hk⟩ := h
  obtain ⟨el, inf, z, u1, u2, u3, u4, u5, u6, u7⟩ := lst_info (tyB_lst (hT.ty.at hty))
  have hsrc := src_of (P := P) (u := t) u1 u4 hyw
  rw [← hy, ← u3] at hsrc
  have htok : OwnOk w0 c hd e.sz := (hr.tk.ok _ (List.mem_of_getElem? hi)).2.1 u4
  have hfl : ∀ (l : List e.D), ∀ e' ∈ l, (flat c.E.B e e').length = e.sz := fun _ e' _ => flat_len _ _ _
  have hzs : z.cells.size = e.sz := by
    obtain ⟨v, v1, v2⟩ := zero_run u6 c.E.B c.x
    have : v = z := by
      unfold zeroValue at v1
      simp only [typeInfo, Sem.run_bind, run_program, Result.andThen_ok, u2, Sem.run_pure, u5] at v1
      cases v1
      rfl
    rw [← this, v2]
    simp [flat_len]
  have hyel : ∀ (q : Nat) e', ys[q]? = some e' → wokc c e e' := fun q e' hq => by
    rcases hyw.2 with ⟨h1, _⟩ | ⟨_, _, _, _, _, _, _, _, h1⟩
    · have h1 : ys = [] := h1
      rw [h1] at hq; simp at hq
    · exact (h1 q e' hq).2
  -- the shape of what is appended to
  have hshape : ∃ ad cap, vx = .slice ad xs.length cap ∧ xs.length ≤ cap ∧ (∀ (q : Nat) e', xs[q]? = some e' → wokc c e e') ∧
      (cap = 0 ∨ ∃ b o C t', ad = some ⟨b, o, none⟩ ∧ w0.heap.size ≤ b ∧ (∀ i, c.XA i → c.E.A i ≠ b) ∧ HB c.x b C t' ∧ cap ≤ maxLen ∧ o + cap * e.sz ≤ C.size ∧ (∀ e', c.E.F b e' → e' ≤ o + xs.length * e.sz) ∧
        (∀ q s' j, j ≠ i → nn.tk[j]? = some (q, s') → ∀ o' l' k', q.val c.E.B = .slice (some ⟨b, o', none⟩) l' k' → (0 < s' → 0 < k' → False) ∧ (i < j → s' = 0 → l' = 0))) ∧
      (xs = [] ∨ ∃ b o, ad = some ⟨b, o, none⟩ ∧ ∀ (q : Nat) e', xs[q]? = some e' → ∀ j, j < e.sz → c.x.cell? ⟨b, o + q * e.sz + j, none⟩ = (flat c.E.B e e')[j]?) := by
    rcases hx with ⟨hv, hw⟩ | ⟨_, rfl, ad, hv⟩
    rotate_left
    · exact ⟨ad, 0, hv, Nat.le_refl _, fun q e' hq => by simp at hq, Or.inl rfl, Or.inl rfl⟩
    obtain ⟨_, hd2⟩ := hw
    rcases htok with ⟨ad, ht⟩ | ⟨b, o, len, cap, C, t', g1, g2, g3, g4, g5, g6, g7, g8⟩ | ⟨ms, gm, gk⟩
    rotate_left 2
    · exfalso
      rcases hd2 with ⟨_, ad, cap, h2⟩ | ⟨b, o', cap, h1, h2, _⟩
      · have h2 : hd.val c.E.B = .slice ad 0 cap := h2
        rw [gm] at h2
        cases h2
      · have h1 : hd.val c.E.B = .slice (some ⟨b, o', none⟩) xs.length cap := h1
        rw [gm] at h1
        cases h1
    · have hnil : xs = [] := by
        rcases hd2 with ⟨h1, _⟩ | ⟨b, o', cap, h1, h2, _⟩
        · exact h1
        · have h1 : hd.val c.E.B = .slice (some ⟨b, o', none⟩) xs.length cap := h1
          rw [ht] at h1
          obtain ⟨_, h3, h4⟩ := Value.slice.inj h1
          exact List.length_eq_zero_iff.1 h3.symm
      subst hnil
      exact ⟨ad, 0, hv.trans ht, Nat.le_refl _, fun q e' hq => by simp at hq, Or.inl rfl, Or.inl rfl⟩
    · have hlx : len = xs.length := by
        rcases hd2 with ⟨h1, ad, cap', h2⟩ | ⟨b', o', cap', h1, h2, _⟩
        · have h1 : xs = [] := h1
          have h2 : hd.val c.E.B = .slice ad 0 cap' := h2
          rw [g1] at h2
          cases h2
          rw [h1]; rfl
        · have h1 : hd.val c.E.B = .slice (some ⟨b', o', none⟩) xs.length cap' := h1
          rw [g1] at h1
          cases h1
          rfl
      subst hlx
      have hap : cap = 0 ∨ (∀ q s' j, j ≠ i → nn.tk[j]? = some (q, s') → ∀ o' l' k', q.val c.E.B = .slice (some ⟨b, o', none⟩) l' k' → (0 < s' → 0 < k' → False) ∧ (i < j → s' = 0 → l' = 0)) := by
        rcases Nat.eq_zero_or_pos cap with h0 | h0
        · exact Or.inl h0
        refine Or.inr fun q s' j hj hq o' l' k' hv' => ?_
        have hjl : j < nn.tk.length := (List.getElem?_eq_some_iff.1 hq).1
        have hil : i < nn.tk.length := (List.getElem?_eq_some_iff.1 hi).1
        have hjv : nn.tk[j] = (q, s') := (List.getElem?_eq_some_iff.1 hq).2
        have hiv : nn.tk[i] = (hd, e.sz) := (List.getElem?_eq_some_iff.1 hi).2
        have hp := List.pairwise_iff_getElem.1 hr.tk.ne
        rcases Nat.lt_or_gt_of_ne hj with hlt | hlt
        · have := hp j i hjl hil hlt
          rw [hjv, hiv] at this
          exact ⟨fun hs' hk' => (this hs' _ _ _ _ _ _ _ hv' g1 hk').1 u4 h0, fun hij => by omega⟩
        · have := hp i j hil hjl hlt
          rw [hjv, hiv] at this
          have := this u4 _ _ _ _ _ _ _ g1 hv' h0
          exact ⟨this.1, fun _ => this.2⟩
      refine ⟨some ⟨b, o, none⟩, cap, hv.trans g1, g5, fun q e' hq => ?_, ?_, ?_⟩
      · rcases hd2 with ⟨h1, _⟩ | ⟨_, _, _, _, _, _, _, _, h1⟩
        · have h1 : xs = [] := h1
          rw [h1] at hq; simp at hq
        · exact (h1 q e' hq).2
      · rcases hap with h0 | hap
        · exact Or.inl h0
        · exact Or.inr ⟨b, o, C, t', rfl, g2, g3, g4, g6, g7, g8, hap⟩
      · rcases hd2 with ⟨h1, _⟩ | ⟨b', o', cap', h1, _, _, _, _, h2⟩
        · exact Or.inl h1
        · have h1 : hd.val c.E.B = .slice (some ⟨b', o', none⟩) xs.length cap' := h1
          rw [g1] at h1
          cases h1
          exact Or.inr ⟨_, _, rfl, fun q e' hq j hj => (h2 q e' hq).1 j hj⟩
  obtain ⟨ad, cap, hvx, hcap, hxel, hown, hcont⟩ := hshape
  subst hvx
  have hall : ∀ (q : Nat) e', (xs ++ ys)[q]? = some e' → wokc c e e' := fun q e' hq => by
    rw [List.getElem?_append] at hq
    split at hq
    · exact hxel q e' hq
    · exact hyel _ e' hq
  by_cases hroom : xs.length + ys.length ≤ cap
  · rcases Nat.eq_zero_or_pos cap with h0 | h0
    · -- nothing onto nothing
      subst h0
      have hx0 : xs = [] := List.length_eq_zero_iff.1 (by omega)
      have hy0 : ys = [] := List.length_eq_zero_iff.1 (by omega)
      subst hx0
      subst hy0
      obtain ⟨c', k1, k2, k3, k4, k5⟩ := grown0R hr hi ad
      refine ⟨_, _, run_append_nothing c.x t t ty' el inf u1 u2 ad 0 0 (Nat.le_refl _) vy hsrc, _, _, c', hk, ?_, k4, k1, k2, k5⟩
      exact k3.symm
    · -- there is room
      rcases hown with h1 | ⟨b, o, C, t', rfl, g2, g3, g4, g6, g7, g8, hap⟩
      · omega
      have hlN : (ys.flatMap (flat c.E.B e)).length = ys.length * e.sz := flatMap_len _ (hfl ys)
      have hmul : xs.length * e.sz + ys.length * e.sz ≤ cap * e.sz := by rw [← Nat.add_mul]; exact Nat.mul_le_mul_right _ hroom
      have hrun := run_append_room_src (P := P) c.x t t ty' el inf u1 u2 b o xs.length cap vy ys.length _ hsrc hroom (fun j hj => by
        rw [g4.cell]
        rw [hlN] at hj
        have : o + xs.length * inf.size + j < C.size := by rw [u3]; omega
        simp [this]) (fun j hj => g4.frozen _)
      rw [setCells_putB _ _ g4, u3] at hrun
      have hsz : (sets C (o + xs.length * e.sz) (ys.flatMap (flat c.E.B e))).size = C.size := sets_size _ _ _
      have hB' := g4.put (sets C (o + xs.length * e.sz) (ys.flatMap (flat c.E.B e)))
      have hout : ∀ j, j < o + xs.length * e.sz → (putB c.x b (sets C (o + xs.length * e.sz) (ys.flatMap (flat c.E.B e)))).cell? ⟨b, j, none⟩ = c.x.cell? ⟨b, j, none⟩ := fun j hj => by
        rw [hB'.cell, g4.cell, sets_out _ _ _ _ (Or.inl hj)]
      have hz : ∀ (q : Nat) e', (xs ++ ys)[q]? = some e' → ∀ j, j < e.sz → (putB c.x b (sets C (o + xs.length * e.sz) (ys.flatMap (flat c.E.B e)))).cell? ⟨b, o + q * e.sz + j, none⟩ = (flat c.E.B e e')[j]? := fun q e' hq j hj => by
        rw [List.getElem?_append] at hq
        split at hq
        · rename_i hlt
          rcases hcont with h1 | ⟨b1, o1, h1, h2⟩
          · rw [h1] at hlt; simp at hlt
          · cases h1
            have hle : q * e.sz + e.sz ≤ xs.length * e.sz := by rw [← Nat.succ_mul]; exact Nat.mul_le_mul_right _ hlt
            rw [hout _ (by omega)]
            exact h2 q e' hq j hj
        · rename_i hge
          have hq' : q - xs.length < ys.length := (List.getElem?_eq_some_iff.1 hq).1
          have hle : (q - xs.length) * e.sz + e.sz ≤ ys.length * e.sz := by rw [← Nat.succ_mul]; exact Nat.mul_le_mul_right _ hq'
          have hqe : q * e.sz = xs.length * e.sz + (q - xs.length) * e.sz := by rw [← Nat.add_mul]; congr 1; omega
          have hidx : o + q * e.sz + j = (o + xs.length * e.sz) + ((q - xs.length) * e.sz + j) := by omega
          rw [hB'.cell, hidx, sets_in _ _ _ _ (by rw [hlN]; omega) (by rw [hlN]; omega), flatMap_get _ (hfl ys) _ _ hj, hq]
          rfl
      obtain ⟨c', k1, k2, k3, k4, k5⟩ := grownR (e := e) (zs := xs ++ ys) hr hi (x' := putB c.x b (sets C (o + xs.length * e.sz) (ys.flatMap (flat c.E.B e)))) (b := b) (o := o) (cap := cap)
        ⟨rfl, rfl, rfl, by rw [putB_size]; exact Nat.le_refl _, fun k _ hkb => putB_ne _ _ _ hkb⟩ g2 u4 g3 hB' (by rw [List.length_append]; exact hroom) g6 (by rw [hsz]; exact g7)
        (fun e' he' => by have := g8 e' he'; rw [List.length_append, Nat.add_mul]; omega) (fun e' he' j hj => hout j (by have := g8 e' he'; omega)) (fun es k hm => by unfold HB at g4; rw [g4] at hm; cases hm) hap (fun q e' hq => ⟨fun j hj => hz q e' hq j hj, hall q e' hq⟩)
      refine ⟨_, _, hrun, _, _, c', hk, ?_, k4, k1, k2, k5⟩
      show _ = c'.E.B nn.n
      rw [k3, List.length_append]
  · -- a new block
    have hlX : (xs.flatMap (flat c.E.B e)).length = xs.length * e.sz := flatMap_len _ (hfl xs)
    have hlN : (ys.flatMap (flat c.E.B e)).length = ys.length * e.sz := flatMap_len _ (hfl ys)
    have hlA : ((xs ++ ys).flatMap (flat c.E.B e)).length = (xs ++ ys).length * e.sz := flatMap_len _ (hfl _)
    have hold : (Builtin.firstCells inf.size xs.length (.slice ad xs.length cap)).run P c.x.drew = .ok (xs.flatMap (flat c.E.B e)).toArray c.x.drew := by
      rcases hcont with h1 | ⟨b, o, rfl, h2⟩
      · subst h1
        cases ad with
        | none => exact run_firstCells_none _ _ _ _ _
        | some a => exact run_firstCells_some _ _ _ _ _ _ _ (by simp) (by simp)
      · refine run_firstCells_some _ _ _ _ _ _ _ (by rw [hlX, u3]) (fun j w hj => ?_)
        have hj' : j = (j / e.sz) * e.sz + j % e.sz := by rw [Nat.mul_comm]; exact (Nat.div_add_mod j e.sz).symm
        have hm : j % e.sz < e.sz := Nat.mod_lt _ (by omega)
        rw [hj', flatMap_get _ (hfl xs) _ _ hm] at hj
        cases hq : xs[j / e.sz]? with
        | none => rw [hq] at hj; cases hj
        | some q =>
          rw [hq] at hj
          have := h2 _ q hq _ hm
          have h3 : c.x.drew.cell? ((⟨b, o, none⟩ : Addr).add j) = c.x.cell? ((⟨b, o, none⟩ : Addr).add j) := rfl
          rw [h3, Addr.add_mid, hj', ← Nat.add_assoc, this]
          exact hj
    have hbyt : (xs.length + ys.length) * inf.bytes ≤ 140737488355328 := Nat.le_trans (Nat.mul_le_mul_left _ u7) hby
    have hrun := run_append_grow_src (P := P) c.x t t ty' el inf z u1 u2 u5 ad xs.length cap _ hold vy ys.length _ hsrc (by omega) (by omega) (growslice_fits (by omega) hbyt)
    rw [← List.flatMap_append] at hrun
    let g := grownCap c.x (xs.length + ys.length) cap el
    have hge : xs.length + ys.length ≤ g := grownCap_ge _ _ _ _
    have hsz : (((xs ++ ys).flatMap (flat c.E.B e)).toArray ++ Builtin.zeroCells z.cells (g - (xs.length + ys.length))).size = g * e.sz := by
      rw [Array.size_append, zeroCells_len, hzs]
      have h1 : ((xs ++ ys).flatMap (flat c.E.B e)).toArray.size = (xs.length + ys.length) * e.sz := by simpa using hlA
      rw [h1, ← Nat.add_mul]
      congr 1
      omega
    have hB' : HB (c.x.drew.alloc (.cells (((xs ++ ys).flatMap (flat c.E.B e)).toArray ++ Builtin.zeroCells z.cells (g - (xs.length + ys.length))) el)) c.x.heap.size (((xs ++ ys).flatMap (flat c.E.B e)).toArray ++ Builtin.zeroCells z.cells (g - (xs.length + ys.length))) el := heap_alloc_at c.x.drew _
    have hnoF : ∀ e', ¬ c.E.F c.x.heap.size e' := fun e' he' => Nat.lt_irrefl _ (hr.wf.fhi _ _ he')
    have hap : ∀ q s' j, j ≠ i → nn.tk[j]? = some (q, s') → ∀ o' l' k', q.val c.E.B = .slice (some ⟨c.x.heap.size, o', none⟩) l' k' → (0 < s' → 0 < k' → False) ∧ (i < j → s' = 0 → l' = 0) := fun q s' j hj hq o' l' k' hv' => by
      obtain ⟨_, g, g'⟩ := hr.tk.ok _ (List.mem_of_getElem? hq)
      constructor
      · intro hs' hk'
        rcases g hs' with ⟨ad', g⟩ | ⟨b', _, _, _, _, _, g1, _, _, g4, _⟩ | ⟨ms, gm, _⟩
        rotate_left 2
        · have gm : q = .conc (encM ms) := gm
          rw [gm] at hv'
          cases hv'
        · have g : q.val c.E.B = .slice ad' 0 0 := g
          rw [hv'] at g
          obtain ⟨_, _, h3⟩ := Value.slice.inj g
          omega
        · have g1 : q.val c.E.B = _ := g1
          rw [hv'] at g1
          cases g1
          exact Nat.lt_irrefl _ g4.lt
      · intro _ hs'
        obtain ⟨ad', len', cap', g1, g2⟩ := g' hs'
        have g1 : q.val c.E.B = .slice ad' len' cap' := g1
        rw [hv'] at g1
        cases g1
        rcases g2 with g2 | ⟨b', o'', g2, g3⟩
        · exact g2
        · cases g2
          exact absurd g3 (Nat.lt_irrefl _)
    have hz : ∀ (q : Nat) e', (xs ++ ys)[q]? = some e' → ∀ j, j < e.sz → (c.x.drew.alloc (.cells (((xs ++ ys).flatMap (flat c.E.B e)).toArray ++ Builtin.zeroCells z.cells (g - (xs.length + ys.length))) el)).cell? ⟨c.x.heap.size, 0 + q * e.sz + j, none⟩ = (flat c.E.B e e')[j]? := fun q e' hq j hj => by
      have hlt : q < (xs ++ ys).length := (List.getElem?_eq_some_iff.1 hq).1
      have hle : q * e.sz + e.sz ≤ (xs ++ ys).length * e.sz := by rw [← Nat.succ_mul]; exact Nat.mul_le_mul_right _ hlt
      rw [hB'.cell, Nat.zero_add, Array.getElem?_append_left (by simp only [List.size_toArray, hlA]; omega)]
      simp only [List.getElem?_toArray]
      rw [flatMap_get _ (hfl _) _ _ hj, hq]
      rfl
    obtain ⟨c', k1, k2, k3, k4, k5⟩ := grownR (e := e) (zs := xs ++ ys) hr hi (x' := c.x.drew.alloc (.cells (((xs ++ ys).flatMap (flat c.E.B e)).toArray ++ Builtin.zeroCells z.cells (g - (xs.length + ys.length))) el)) (b := c.x.heap.size) (o := 0) (cap := g)
      ⟨rfl, rfl, rfl, by rw [size_alloc']; exact Nat.le_succ _, fun k hk _ => Below.heap_alloc _ _ _ hk⟩ hr.wf.below.size u4 (fun i hi => Nat.ne_of_lt (hr.wf.hi i hi)) hB' (by rw [List.length_append]; exact hge) (grownCap_le_maxLen _ _ _ _ (by unfold maxLen; omega)) (by rw [hsz]; omega)
      (fun e' he' => absurd he' (hnoF e')) (fun e' he' => absurd he' (hnoF e')) (fun es k hm => Nat.lt_irrefl _ (Array.getElem?_eq_some_iff.1 hm).1) hap (fun q e' hq => ⟨fun j hj => hz q e' hq j hj, hall q e' hq⟩)
    refine ⟨_, _, hrun, _, _, c', hk, ?_, k4, k1, k2, k5⟩
    show _ = c'.E.B nn.n
    rw [k3, List.length_append]
theorem own_soundR (hT : TabOk P T) {o : Oper} {f : Fr} {nn : NS} {k : SV → NS → Prop} (h : ownK T o f nn k) :
    ∃ r nn', k r nn' ∧ nn'.n = nn.n + 1 ∧ ∀ (Q : Nat → Prop) (R : Nat → V → Prop) (c : Cx) (ρ : Operand → Value), RealR w0 F0 Q R nn c → (∀ y ∈ o.op.operands, ∀ s, evS f y = some s → ρ y = s.val c.E ∧ s.ok c) →
      ∃ v x', (execOp ρ o).run P c.x = .ok (.value v) x' ∧ ∃ c', v = r.val c'.E ∧ r.ok c' ∧ RealR w0 F0 Q R nn' c' ∧ c.Le c' ∧ c'.x = x' := by
  unfold ownK at h
  split at h <;> first | exact h.elim | skip
  rename_i cl ho
  split at h <;> first | exact h.elim | skip
  rename_i hc
  split at h <;> first | exact h.elim | skip
  rename_i x y hxy
  split at h <;> first | exact h.elim | skip
  rename_i t u htu
  split at h <;> first | exact h.elim | skip
  rename_i e n0 hty
  split at h <;> first | exact h.elim | skip
  rename_i hu0
  obtain rfl : u = t := Nat.eq_of_beq_eq_true hu0
  split at h <;> first | exact h.elim | skip
  rename_i s hs
  obtain ⟨hd, xs, h1, h2⟩ := lstA_sound h
  have hargs : cl.args = #[x, y] := by apply Array.toList_inj.1; rw [hxy]
  have hats : cl.argTypes = #[u, u] := by apply Array.toList_inj.1; rw [htu]
  have hexec : ∀ (ρ : Operand → Value) (c : Cx) (v' : Value) (x' : World), (Builtin.append_ #[u, u] o.type #[ρ x, ρ y]).run P c.x = .ok v' x' → (execOp ρ o).run P c.x = .ok (.value v') x' := fun ρ c v' x' hrun => by
    unfold execOp
    simp only [ho, resolve, hc, invoke, builtin, Sem.run_bind, Sem.run_pure, Result.andThen_ok, hargs, hats, List.map_toArray, List.map_cons, List.map_nil, hrun]
  have hin : x ∈ o.op.operands ∧ y ∈ o.op.operands := by
    rw [ho]
    constructor <;> simp [Op.operands, Call.operands, hargs, hc]
  have key : ∀ (ys : List e.D) (k : SV → NS → Prop), AppW e hd xs ys nn k → (∀ (c : Cx) (ρ : Operand → Value), (∀ y ∈ o.op.operands, ∀ s, evS f y = some s → ρ y = s.val c.E ∧ s.ok c) → ∃ h', ρ y = Hd.val c.E.B h' ∧ wokc c (.lst e) (h', ys)) →
      ∃ r nn', k r nn' ∧ nn'.n = nn.n + 1 ∧ ∀ (Q : Nat → Prop) (R : Nat → V → Prop) (c : Cx) (ρ : Operand → Value), RealR w0 F0 Q R nn c → (∀ y ∈ o.op.operands, ∀ s, evS f y = some s → ρ y = s.val c.E ∧ s.ok c) →
        ∃ v x', (execOp ρ o).run P c.x = .ok (.value v) x' ∧ ∃ c', v = r.val c'.E ∧ r.ok c' ∧ RealR w0 F0 Q R nn' c' ∧ c.Le c' ∧ c'.x = x' := fun ys k hA hy => by
    obtain ⟨i, hi, hb, hk⟩ := hA.ex
    refine ⟨_, _, hk, rfl, fun Q R c ρ hr hev => ?_⟩
    obtain ⟨h', e3, e4⟩ := hy c ρ hev
    obtain ⟨e1, e2⟩ := hev x hin.1 _ hs
    have e1 : ρ x = s.val c.E := e1
    obtain ⟨v', x', hrun, r, nn', c', ⟨rfl, rfl⟩, q1, q2, q3, q4, q5⟩ := app_runR (P := P) hr hT hty (vx := ρ x) (vy := ρ y) o.type (by rw [e1]; exact h2 c e2) (h' := h') e3 e4 (k := fun r n' => r = _ ∧ n' = _) ⟨i, hi, hb, rfl, rfl⟩
    exact ⟨v', x', hexec ρ c _ _ hrun, c', q1, q2, q3, q4, q5⟩
  split at h1
  · rename_i v hv
    obtain ⟨d, g1, g2, g3, g4⟩ := denK_sound v (.lst e) _ h1
    refine key d.2 k g1 fun c ρ hev => ?_
    obtain ⟨e3, e4⟩ := hev y hin.2 _ hv
    exact ⟨d.1, e3.trans (val_leaf g2 (g3 c.E.B)), g4 _ _ _ _ e4⟩
  · rename_i hv
    refine key [] k h1 fun c ρ hev => ?_
    obtain ⟨e3, e4⟩ := hev y hin.2 _ hv
    exact ⟨nilH, e3, ⟨trivial, Or.inl ⟨rfl, none, 0, rfl⟩⟩⟩
  · exact h1.elim
end
/-- What it does. -/
def OwnDoes (P : Program) (w0 : World) (F0 : Old) (o : Oper) (f : Fr) (n : Nat) (tk tk' : List (Hd × Nat)) (out : Out) : Prop :=
  ∀ (Q : Nat → Prop) (R : Nat → V → Prop) (c : Cx) (ρ : Operand → Value), RealR w0 F0 Q R ⟨n, tk⟩ c → (∀ y ∈ o.op.operands, ∀ s, evS f y = some s → ρ y = s.val c.E ∧ s.ok c) →
    ∃ v x', (execOp ρ o).run P c.x = .ok (.value v) x' ∧ ∃ c', v = out.r.val c'.E ∧ out.r.ok c' ∧ RealR w0 F0 Q R ⟨n + 1, tk'⟩ c' ∧ c.Le c' ∧ c'.x = x'
structure Tr.AtF {P : Program} {w0 : World} {F0 : Old} {N : Nat} {ops : List Oper} (T : Tr P w0 F0 N ops) (i : Nat) (o : Oper) : Prop where
  look : ∀ u, look (T.f (i + 1)) u = if o.dst = some u then some (T.o i).r else M.look (T.f i) u
  dst : ∀ d, o.dst = some d → d < N
  bl : T.b (i + 1) = efB (T.b i) (T.o i).ef
  nn : T.n (i + 1) = T.n i + (T.o i).m
  set : ∀ j y, (T.o i).ef = .set j y → j < (T.b i).length
  cr : (T.o i).cr = false → (T.o i).m = 0
section
variable {P : Program} {w0 : World} {F0 : Old} {N : Nat} {ops : List Oper} {t : Tr P w0 F0 N ops}
section
variable (hAt : ∀ i o, ops[i]? = some o → t.AtF i o)
include hAt
theorem at_ofFz {i : Nat} (hi : i < ops.length) : ∃ o, ops[i]? = some o ∧ t.AtF i o := ⟨ops[i], by simp [hi], hAt i _ (by simp [hi])⟩
theorem blk_sameFz {i b : Nat} (hi : i < ops.length) (hb : ¬ t.wr i b) : (t.b (i + 1))[b]? = (t.b i)[b]? := by
  obtain ⟨o, _, ha⟩ := at_ofFz hAt hi
  rw [ha.bl]
  unfold Tr.wr at hb
  cases hef : (t.o i).ef with
  | none => rfl
  | set j y =>
    rw [hef] at hb
    simp only [efW, List.mem_singleton] at hb
    simp only [efB, List.getElem?_set]
    rw [if_neg (Ne.symm hb)]
  | new y =>
    rw [hef] at hb
    simp only [efW, List.mem_singleton] at hb
    simp only [efB]
    rw [List.getElem?_append]
    split
    · rfl
    · rename_i hlt
      rw [List.getElem?_eq_none (by simp; omega), List.getElem?_eq_none (by omega)]
theorem len_stepFz {i : Nat} (hi : i < ops.length) : ((t.b (i + 1)).length = (t.b i).length + 1 ∧ t.isNew i) ∨ ((t.b (i + 1)).length = (t.b i).length ∧ ¬ t.isNew i) := by
  obtain ⟨o, _, ha⟩ := at_ofFz hAt hi
  rw [ha.bl]
  unfold Tr.isNew
  cases hef : (t.o i).ef with
  | none => exact Or.inr ⟨rfl, fun ⟨y, hy⟩ => by cases hy⟩
  | set j y => exact Or.inr ⟨by simp [efB], fun ⟨y, hy⟩ => by cases hy⟩
  | new y => exact Or.inl ⟨by simp [efB], y, rfl⟩
theorem len_monoFz {i j : Nat} (hij : i ≤ j) (hj : j ≤ ops.length) : (t.b i).length ≤ (t.b j).length := by
  induction j with
  | zero => have : i = 0 := by omega
            subst this; exact Nat.le_refl _
  | succ j ih =>
    by_cases h : i = j + 1
    · subst h; exact Nat.le_refl _
    · have := ih (by omega) (by omega)
      rcases len_stepFz hAt (i := j) (by omega) with ⟨h1, _⟩ | ⟨h1, _⟩ <;> omega
theorem madeFz {b : Nat} : ∀ i, i ≤ ops.length → b < (t.b i).length → b < (t.b 0).length ∨ ∃ k, k < i ∧ t.isNew k ∧ b = (t.b k).length
  | 0, _, h => Or.inl h
  | i + 1, hi, h => by
    by_cases hb : b < (t.b i).length
    · rcases madeFz i (by omega) hb with h1 | ⟨k, h1, h2⟩
      · exact Or.inl h1
      · exact Or.inr ⟨k, by omega, h2⟩
    · rcases len_stepFz hAt (i := i) (by omega) with ⟨h1, h2⟩ | ⟨h1, _⟩
      · exact Or.inr ⟨i, by omega, h2, by omega⟩
      · omega
theorem lastwFz (b : Nat) : ∀ i, i ≤ ops.length → (∃ k, k < i ∧ t.wr k b ∧ (∀ k', k' < i → t.wr k' b → k' ≤ k) ∧ (t.b (k + 1))[b]? = (t.b i)[b]?) ∨ ((∀ k, k < i → ¬ t.wr k b) ∧ (t.b 0)[b]? = (t.b i)[b]?)
  | 0, _ => Or.inr ⟨fun k hk => by omega, rfl⟩
  | i + 1, hi => by
    by_cases hw : t.wr i b
    · exact Or.inl ⟨i, by omega, hw, fun k' hk' _ => by omega, rfl⟩
    · have hs := blk_sameFz hAt (i := i) (by omega) hw
      rcases lastwFz b i (by omega) with ⟨k, h1, h2, h3, h4⟩ | ⟨h1, h2⟩
      · refine Or.inl ⟨k, by omega, h2, fun k' hk' hw' => ?_, by rw [hs]; exact h4⟩
        by_cases hk : k' = i
        · subst hk; exact absurd hw' hw
        · exact h3 k' (by omega) hw'
      · refine Or.inr ⟨fun k hk hw' => ?_, by rw [hs]; exact h2⟩
        by_cases hk' : k = i
        · subst hk'; exact hw hw'
        · exact h1 k (by omega) hw'
theorem namesFz (n : Nat) : ∀ i, i ≤ ops.length → (n < t.n i ↔ n < t.n 0 ∨ ∃ k, k < i ∧ t.n k ≤ n ∧ n < t.n k + (t.o k).m)
  | 0, _ => ⟨Or.inl, fun h => by
      rcases h with h | ⟨k, hk, _⟩
      · exact h
      · omega⟩
  | i + 1, hi => by
    obtain ⟨o, _, ha⟩ := at_ofFz hAt (i := i) (by omega)
    rw [ha.nn]
    have ih := namesFz n i (by omega)
    constructor
    · intro h
      by_cases hn : n < t.n i
      · rcases ih.1 hn with h1 | ⟨k, h1, h2⟩
        · exact Or.inl h1
        · exact Or.inr ⟨k, by omega, h2⟩
      · exact Or.inr ⟨i, by omega, by omega, h⟩
    · intro h
      rcases h with h | ⟨k, h1, h2, h3⟩
      · have := ih.2 (Or.inl h); omega
      · by_cases hk : k = i
        · subst hk; omega
        · have := ih.2 (Or.inr ⟨k, by omega, h2, h3⟩); omega
theorem slotsFz (hok : okRegion ops = true) (u : Nat) : ∀ i, i ≤ ops.length → (∃ k, k < i ∧ dstOf ops k = some u ∧ look (t.f i) u = some (t.o k).r) ∨ ((∀ k, k < i → dstOf ops k ≠ some u) ∧ look (t.f i) u = look (t.f 0) u)
  | 0, _ => Or.inr ⟨fun k hk => by omega, rfl⟩
  | i + 1, hi => by
    obtain ⟨o, ho, ha⟩ := at_ofFz hAt (i := i) (by omega)
    have hd : dstOf ops i = o.dst := by simp [dstOf, ho]
    by_cases hu : o.dst = some u
    · exact Or.inl ⟨i, by omega, by rw [hd]; exact hu, by rw [ha.look, if_pos hu]⟩
    · rcases slotsFz hok u i (by omega) with ⟨k, h1, h2, h3⟩ | ⟨h1, h2⟩
      · exact Or.inl ⟨k, by omega, h2, by rw [ha.look, if_neg hu]; exact h3⟩
      · refine Or.inr ⟨fun k hk hk' => ?_, by rw [ha.look, if_neg hu]; exact h2⟩
        by_cases hki : k = i
        · subst hki; rw [hd] at hk'; exact hu hk'
        · exact h1 k (by omega) hk'
end
theorem dinv_slotFz (hAt : ∀ i o, ops[i]? = some o → t.AtF i o) (hok : okRegion ops = true) {tk : List (Hd × Nat)} {D : Nat → Bool} {a : Act} {c : Cx} (h : DInv t tk D a c) {i : Nat} {o : Oper} (ho : ops[i]? = some o) (hadm : Adm ops i D) {u : Nat} (hu : u ∈ o.looksAt ops.toArray) {s : SV} (hs : look (t.f i) u = some s) : a.tmps[u]? = some (s.val c.E) ∧ s.ok c := by
  have hi : i < ops.length := lt_of_get ho
  rcases slotsFz hAt hok u i (by omega) with ⟨k, h1, h2, h3⟩ | ⟨h1, h2⟩
  · rw [h3] at hs
    cases hs
    refine h.done k u (by omega) (hadm.ahead k ?_) h2
    rcases (ok_slots hok ho h2).2 hu with h4 | ⟨_, h4⟩ | ⟨h4, _⟩
    · omega
    · exact h4
    · omega
  · rw [h2] at hs
    refine h.init u s (fun k hk hD hd => ?_) hs
    rcases (ok_slots hok ho hd).2 hu with h4 | ⟨h4, _⟩ | ⟨_, h4⟩
    · subst h4; rw [hadm.un] at hD; cases hD
    · exact h1 k h4 hd
    · rw [hadm.behind k h4] at hD; cases hD
theorem dinv_contFz (hAt : ∀ i o, ops[i]? = some o → t.AtF i o) (hlog : okLog ops ((List.range ops.length).map t.lg) = true) {D : Nat → Bool} {i : Nat} (hi : i < ops.length) (hadm : Adm ops i D) {b : Nat} (hb : b ∈ (t.lg i).t) {v : V} (hv : (t.b i)[b]? = some v) : Cont t D b v := by
  rcases lastwFz hAt b i (by omega) with ⟨k, h1, h2, h3, h4⟩ | ⟨h1, h2⟩
  · have hk : k < ops.length := by omega
    refine Or.inl ⟨k, hk, (dinv_touch hlog hi hadm hb hk h2).1 h1, h2, fun k' hk' hD' hw' => h3 k' ((dinv_touch hlog hi hadm hb hk' hw').2 hD') hw', by rw [h4]; exact hv⟩
  · exact Or.inr ⟨fun k hk hD hw => h1 k ((dinv_touch hlog hi hadm hb hk hw).2 hD) hw, by rw [h2]; exact hv⟩
theorem dinv_stepFz (hAt : ∀ i o, ops[i]? = some o → t.AtF i o) (hok : okRegion ops = true) (hlog : okLog ops ((List.range ops.length).map t.lg) = true) {tk : List (Hd × Nat)} {D : Nat → Bool} {a : Act} {c : Cx} (h : DInv t tk D a c) {i : Nat} {o : Oper} (ho : ops[i]? = some o) (hadm : Adm ops i D) {v : Value} {x' : World} {E : Env}
    (hp : Post w0 F0 c (t.o i) (t.b i).length (t.n i) v x' E) : DInv t tk (setD D i) (a.put o.dst v) (c.ext (t.o i) (t.b i).length (t.n i) E x') := by
  have hi : i < ops.length := lt_of_get ho
  have ha := hAt i o ho
  have hdst : dstOf ops i = o.dst := by simp [dstOf, ho]
  have hnew : (∃ y, (t.o i).ef = .new y) → ¬ c.XA (t.b i).length := fun hn hx => by
    rcases (h.XA _).1 hx with h1 | ⟨k, hk, hD, hnk, hb⟩
    · have := len_monoFz hAt (i := 0) (j := i) (by omega) (by omega); omega
    · have hki : k ≠ i := fun e => by subst e; rw [hadm.un] at hD; cases hD
      rcases Nat.lt_or_gt_of_ne hki with hlt | hlt
      · have h1 := len_monoFz hAt (i := k + 1) (j := i) (by omega) (by omega)
        rcases len_stepFz hAt (i := k) hk with ⟨h2, _⟩ | ⟨_, h2⟩
        · omega
        · exact h2 hnk
      · have h1 := len_monoFz hAt (i := i + 1) (j := k) (by omega) (by omega)
        rcases len_stepFz hAt (i := i) hi with ⟨h2, _⟩ | ⟨_, h2⟩
        · omega
        · exact h2 hn
  have hle := hp.le h.wf hnew
  have hwf := hp.wf h.wf hnew
  have hDi : setD D i i = true := by simp [setD]
  have hDk : ∀ k, D k = true → setD D i k = true := fun k hk => by simp [setD, hk]
  have hDk' : ∀ k, setD D i k = true → k = i ∨ D k = true := fun k hk => by simpa [setD] using hk
  refine ⟨hwf, h.tok.step h.wf hnew hp, fun b => ?_, fun n => ?_, fun b u hx hcont => ?_, ?_, ?_, fun k u hk hD hd => ?_, fun u s hno hs => ?_⟩
  · show (c.XA b ∨ (b = (t.b i).length ∧ ∃ y, (t.o i).ef = .new y)) ↔ _
    rw [h.XA]
    constructor
    · rintro ((h1 | ⟨k, h1, h2, h3⟩) | ⟨h1, h2⟩)
      · exact Or.inl h1
      · exact Or.inr ⟨k, h1, hDk k h2, h3⟩
      · exact Or.inr ⟨i, hi, hDi, h2, h1⟩
    · rintro (h1 | ⟨k, h1, h2, h3, h4⟩)
      · exact Or.inl (Or.inl h1)
      · rcases hDk' k h2 with rfl | h2
        · exact Or.inr ⟨h4, h3⟩
        · exact Or.inl (Or.inr ⟨k, h1, h2, h3, h4⟩)
  · show (c.XB n ∨ (t.n i ≤ n ∧ n < t.n i + (t.o i).m)) ↔ _
    rw [h.XB]
    constructor
    · rintro ((h1 | ⟨k, h1, h2, h3⟩) | h1)
      · exact Or.inl h1
      · exact Or.inr ⟨k, h1, hDk k h2, h3⟩
      · exact Or.inr ⟨i, hi, hDi, h1⟩
    · rintro (h1 | ⟨k, h1, h2, h3⟩)
      · exact Or.inl (Or.inl h1)
      · rcases hDk' k h2 with rfl | h2
        · exact Or.inr h3
        · exact Or.inl (Or.inr ⟨k, h1, h2, h3⟩)
  · by_cases hw : t.wr i b
    · -- it was written just now
      have hbt : b ∈ (t.lg i).t := List.mem_append.2 (Or.inr hw)
      have hval : (t.b (i + 1))[b]? = some u := by
        rcases hcont with ⟨k, h1, h2, h3, h4, h5⟩ | ⟨h1, _⟩
        · have hik := h4 i hi hDi hw
          rcases hDk' k h2 with rfl | h2
          · exact h5
          · have := (dinv_touch hlog hi hadm hbt h1 h3).2 h2
            omega
        · exact absurd hw (h1 i hi hDi)
      rw [ha.bl] at hval
      unfold Tr.wr at hw
      cases hef : (t.o i).ef with
      | none => rw [hef] at hw; simp [efW] at hw
      | set j y =>
        rw [hef] at hw hval
        simp only [efW, List.mem_singleton] at hw
        subst hw
        obtain ⟨p1, p2, p3, p4⟩ := hp.set b y hef
        simp only [efB, List.getElem?_set, if_true, ha.set b y hef] at hval
        cases hval
        refine ⟨?_, p3, p4⟩
        rw [(hle.A b p1).2.2]; exact p2
      | new y =>
        rw [hef] at hw hval
        simp only [efW, List.mem_singleton] at hw
        subst hw
        obtain ⟨p1, p2, p3, p4, p5⟩ := hp.new y hef
        simp [efB] at hval
        subst hval
        refine ⟨?_, p4, p5⟩
        show (match (t.o i).ef with | .new y => if (t.b i).length = (t.b i).length then some y.ty else c.ty _ | _ => c.ty _) = some y.ty
        rw [hef]
        simp
    · have hcont' : Cont t D b u := by
        rcases hcont with ⟨k, h1, h2, h3, h4, h5⟩ | ⟨h1, h2⟩
        · rcases hDk' k h2 with rfl | h2
          · exact absurd h3 hw
          · exact Or.inl ⟨k, h1, h2, h3, fun k' hk' hD' => h4 k' hk' (hDk k' hD'), h5⟩
        · exact Or.inr ⟨fun k hk hD => h1 k hk (hDk k hD), h2⟩
      have hxa : c.XA b := by
        rcases hx with hx | ⟨hx, y, hy⟩
        · exact hx
        · exact absurd (by unfold Tr.wr; rw [hy, hx]; simp [efW]) hw
      obtain ⟨p1, ⟨e, p2⟩, p3⟩ := h.blk b u hxa hcont'
      refine ⟨by rw [(hle.A b hxa).2.2]; exact p1, ⟨e, ?_⟩, V.okc_mono hle p3⟩
      have hcells : u.cells E.B = u.cells c.E.B := V.cellsc hle p3
      show HB x' (E.A b) (u.cells E.B).toArray e
      rw [hcells, hp.A b hxa]
      unfold HB
      rw [hp.same.block _ p2.lt (by
        rintro ⟨j, y, hy, hj⟩
        have : b = j := h.wf.inj b j hxa (hp.set j y hy).1 hj
        subst this
        exact hw (by unfold Tr.wr; rw [hy]; simp [efW]))]
      exact p2
  · show (a.put o.dst v).tmps.size = N
    cases o.dst <;> simp [Act.put, h.size]
  · cases o.dst <;> simp [Act.put, h.defers]
  · have hne : ∀ {d}, o.dst = some d → k ≠ i → d ≠ u := fun hd' hki e => by
      subst e
      exact (ok_slots hok ho hd).1 hki hd'
    rcases hDk' k hD with rfl | hD'
    · rw [hdst] at hd
      rw [hd]
      have hlt := ha.dst u hd
      refine ⟨?_, hp.ok⟩
      simp only [Act.put]
      rw [hp.val]
      simp [h.size, hlt]
      rfl
    · have hki : k ≠ i := fun e => by subst e; rw [hadm.un] at hD'; cases hD'
      obtain ⟨p1, p2⟩ := h.done k u hk hD' hd
      refine ⟨?_, SV.ok_mono hle p2⟩
      rw [SV.val_mono hle p2, ← p1]
      cases hd' : o.dst with
      | none => rfl
      | some d => simp only [Act.put, Array.getElem?_setIfInBounds_ne (hne hd' hki)]
  · obtain ⟨p1, p2⟩ := h.init u s (fun k hk hD => hno k hk (hDk k hD)) hs
    refine ⟨?_, SV.ok_mono hle p2⟩
    rw [SV.val_mono hle p2, ← p1]
    cases hd' : o.dst with
    | none => rfl
    | some d =>
      have : d ≠ u := fun e => by
        subst e
        exact hno i hi hDi (by rw [hdst]; exact hd')
      simp only [Act.put, Array.getElem?_setIfInBounds_ne this]
theorem dinv_midF (hAt : ∀ i o, ops[i]? = some o → t.AtF i o) (hok : okRegion ops = true) {tk : List (Hd × Nat)} {D : Nat → Bool} {a : Act} {c : Cx} (h : DInv t tk D a c) (hD : ∀ i, i < ops.length → D i = true ∨ Pure (t.o i)) {g : Fr}
    (hg : ∀ u s, look g u = some s → look (t.f ops.length) u = some s ∧ ∀ i, i < ops.length → dstOf ops i = some u → D i = true) : Real w0 F0 (t.b ops.length) ⟨t.n ops.length, tk⟩ c ∧ FR N c g a := by
  have hnew : ∀ i, i < ops.length → t.isNew i → D i = true := fun i hi hn => by
    rcases hD i hi with h1 | h1
    · exact h1
    · exact absurd hn h1.isNew
  have hwr : ∀ i b, i < ops.length → t.wr i b → D i = true := fun i b hi hw => by
    rcases hD i hi with h1 | h1
    · exact h1
    · exact absurd hw h1.wr
  have hxa : ∀ i, c.XA i ↔ i < (t.b ops.length).length := fun i => by
    rw [h.XA]
    constructor
    · rintro (h1 | ⟨k, hk, _, h2, h3⟩)
      · have := len_monoFz hAt (i := 0) (j := ops.length) (by omega) (by omega); omega
      · have h1 := len_monoFz hAt (i := k + 1) (j := ops.length) (by omega) (by omega)
        rcases len_stepFz hAt (i := k) hk with ⟨h4, _⟩ | ⟨_, h4⟩
        · omega
        · exact absurd h2 h4
    · intro hlt
      rcases madeFz hAt ops.length (Nat.le_refl _) hlt with h1 | ⟨k, h1, h2⟩
      · exact Or.inl h1
      · exact Or.inr ⟨k, h1, hnew k h1 h2.1, h2⟩
  have hcont : ∀ i v, (t.b ops.length)[i]? = some v → Cont t D i v := fun i v hv => by
    rcases lastwFz hAt i ops.length (Nat.le_refl _) with ⟨k, h1, h2, h3, h4⟩ | ⟨h1, h2⟩
    · exact Or.inl ⟨k, h1, hwr k i h1 h2, h2, fun k' hk' _ => h3 k' hk', by rw [h4]; exact hv⟩
    · exact Or.inr ⟨fun k hk _ => h1 k hk, by rw [h2]; exact hv⟩
  refine ⟨⟨h.wf, hxa, fun n => ?_, fun i v hv => (h.blk i v ((hxa i).2 (lt_of_get hv)) (hcont i v hv)).1, fun i v hv => (h.blk i v ((hxa i).2 (lt_of_get hv)) (hcont i v hv)).2, h.tok⟩, ⟨h.size, h.defers, fun u s hs => ?_⟩⟩
  · show c.XB n ↔ n < t.n ops.length
    rw [h.XB, namesFz hAt n ops.length (Nat.le_refl _)]
    constructor
    · rintro (h1 | ⟨k, h1, _, h2⟩)
      · exact Or.inl h1
      · exact Or.inr ⟨k, h1, h2⟩
    · rintro (h1 | ⟨k', h1, h2, h3⟩)
      · exact Or.inl h1
      · refine Or.inr ⟨k', h1, ?_, h2, h3⟩
        rcases hD k' h1 with h4 | h4
        · exact h4
        · have := h4.m
          omega
  · obtain ⟨hs, hno⟩ := hg u s hs
    rcases slotsFz hAt hok u ops.length (Nat.le_refl _) with ⟨k', h1, h2, h3⟩ | ⟨h1, h2⟩
    · rw [h3] at hs
      cases hs
      exact h.done k' u h1 (hno k' h1 h2) h2
    · rw [h2] at hs
      exact h.init u s (fun k hk _ => h1 k hk) hs
theorem dinv_goF (hAt : ∀ i o, ops[i]? = some o → t.AtF i o) (hok : okRegion ops = true) (hlog : okLog ops ((List.range ops.length).map t.lg) = true) (hcr : okCr ((List.range ops.length).map t.lg) = true) {tk : List (Hd × Nat)} {i : Nat} {o : Oper} (ho : ops[i]? = some o) {D : Nat → Bool} {a : Act} {c : Cx} (hadm : Adm ops i D) (hI : DInv t tk D a c) (hway : ((∀ (E : Env) (a : Act), (∀ u s, u ∈ o.looksAt ops.toArray → look (t.f i) u = some s → a.tmps[u]? = some (s.val E)) → Region.wanted o (yielded ops.toArray a.tmps) = true) ∧ Does P w0 F0 o (t.f i) (fun j => (t.b i)[j]?) (t.b i).length (t.n i) (t.o i)) ∨ ((∀ (E : Env) (a : Act), (∀ u s, u ∈ o.looksAt ops.toArray → look (t.f i) u = some s → a.tmps[u]? = some (s.val E)) → Region.wanted o (yielded ops.toArray a.tmps) = false) ∧ t.o i = ⟨und, .none, 0, [], false, false⟩)) :
    if Region.wanted o (yielded ops.toArray a.tmps) = true then upon4 P (fun v x' => ∃ c', DInv t tk (setD D i) (a.put o.dst v) c' ∧ c'.x = x') ((execOp a.eval o).run P c.x) else ∃ c', DInv t tk (setD D i) (a.put o.dst undef) c' ∧ c'.x = c.x := by
  have hi : i < ops.length := lt_of_get ho
  have ha := hAt i o ho
  have hsl : ∀ u s, u ∈ o.looksAt ops.toArray → look (t.f i) u = some s → a.tmps[u]? = some (s.val c.E) ∧ s.ok c := fun u s hu hs => dinv_slotFz hAt hok hI ho hadm hu hs
  rcases hway with ⟨hw, hd⟩ | ⟨hw, ho'⟩
  · rw [if_pos (hw c.E a fun u s hu hs => (hsl u s hu hs).1)]
    have hdo := hd.2 c a.eval hI.wf (fun y hy s hs => ?_) (fun b hb v hv => ?_) (fun hn hx => ?_) (fun hq n => ?_)
    · generalize (execOp a.eval o).run P c.x = res at hdo
      have step : ∀ v x', (∃ E, Post w0 F0 c (t.o i) (t.b i).length (t.n i) v x' E) → ∃ c', DInv t tk (setD D i) (a.put o.dst v) c' ∧ c'.x = x' := fun v x' ⟨E, hp⟩ => ⟨_, dinv_stepFz hAt hok hlog hI ho hadm hp, rfl⟩
      cases res with
      | ok nx w' =>
        cases nx <;> simp only [upon4] at hdo ⊢
        case value u => exact step _ _ hdo
        case skip => exact step _ _ hdo
        case enter g args => exact hdo.mono fun e x' ⟨u, he, hu⟩ => ⟨u, he, step _ _ hu⟩
      | halt q w' => simp only [upon4] at hdo
    · cases y with
      | tmp u =>
        have hu : u ∈ o.looksAt ops.toArray := by
          unfold Oper.looksAt
          simp only [List.mem_append, List.mem_filterMap]
          exact Or.inl ⟨.tmp u, by simpa using hy, rfl⟩
        obtain ⟨h1, h2⟩ := hsl u s hu hs
        exact ⟨by simp only [Act.eval, Array.getD_eq_getD_getElem?, h1]; rfl, h2⟩
      | const v => cases hs; exact ⟨(constA_val _ v).symm, constA_ok _ v⟩
      | func g => cases hs; exact ⟨rfl, fun q hq => by cases hq⟩
      | global g => cases hs
    · have hbt : b ∈ (t.lg i).t := by
        show b ∈ (t.o i).rd ++ efW (t.b i).length (t.o i).ef
        rcases hb with hb | ⟨y, hy⟩
        · exact List.mem_append.2 (Or.inl hb)
        · exact List.mem_append.2 (Or.inr (by rw [hy]; simp [efW]))
      have hxa : c.XA b := by
        rw [hI.XA]
        rcases madeFz hAt i (by omega) (lt_of_get hv) with h1 | ⟨k, h1, h2, h3⟩
        · exact Or.inl h1
        · have hwr : t.wr k b := by
            obtain ⟨y, hy⟩ := h2
            unfold Tr.wr
            rw [hy, h3]; simp [efW]
          exact Or.inr ⟨k, by omega, (dinv_touch hlog hi hadm hbt (by omega) hwr).1 h1, h2, h3⟩
      exact ⟨hxa, hI.blk b v hxa (dinv_contFz hAt hlog hi hadm hbt hv)⟩
    · rcases (hI.XA _).1 hx with h1 | ⟨k, hk, hD, hnk, hb⟩
      · have := len_monoFz hAt (i := 0) (j := i) (by omega) (by omega); omega
      · have hki : k ≠ i := fun e => by subst e; rw [hadm.un] at hD; cases hD
        rcases Nat.lt_or_gt_of_ne hki with hlt | hlt
        · have h1 := len_monoFz hAt (i := k + 1) (j := i) (by omega) (by omega)
          rcases len_stepFz hAt (i := k) hk with ⟨h2, _⟩ | ⟨_, h2⟩
          · omega
          · exact h2 hnk
        · have h1 := len_monoFz hAt (i := i + 1) (j := k) (by omega) (by omega)
          rcases len_stepFz hAt (i := i) hi with ⟨h2, _⟩ | ⟨_, h2⟩
          · omega
          · exact h2 hn
    · rw [hI.XB, namesFz hAt n i (by omega)]
      have hcrk : ∀ k, k < ops.length → t.n k ≤ n → n < t.n k + (t.o k).m → (t.o k).cr = true := fun k hk h1 h2 => by
        obtain ⟨o', _, ha'⟩ := at_ofFz hAt hk
        cases hc : (t.o k).cr with
        | true => rfl
        | false => have := ha'.cr hc; omega
      have hclash : ∀ k, k < ops.length → (t.o k).cr = true → clash (t.lg k) (t.lg i) = true ∧ clash (t.lg i) (t.lg k) = true := fun k hk hc => by
        have hqk := cr_q hcr hk hc
        unfold clash
        have h1 : (t.lg k).q = true := hqk
        have h2 : (t.lg i).q = true := hq
        have h3 : (t.lg k).cr = true := hc
        rw [h1, h2, h3]
        simp
      constructor
      · rintro (h1 | ⟨k, h1, h2, h3, h4⟩)
        · exact Or.inl h1
        · refine Or.inr ⟨k, ?_, h3, h4⟩
          have hc := hcrk k h1 h3 h4
          rcases Nat.lt_trichotomy k i with h | h | h
          · exact h
          · subst h; rw [hadm.un] at h2; cases h2
          · exfalso
            have := hadm.behindT (log_waits hlog h h1 (hclash k h1 hc).2)
            rw [this] at h2; cases h2
      · rintro (h1 | ⟨k, h1, h3, h4⟩)
        · exact Or.inl h1
        · have hk : k < ops.length := by omega
          have hc := hcrk k hk h3 h4
          exact Or.inr ⟨k, hk, hadm.aheadT (log_waits hlog h1 hi (hclash k hk hc).1), h3, h4⟩
  · rw [if_neg (by rw [hw c.E a fun u s hu hs => (hsl u s hu hs).1]; exact Bool.false_ne_true)]
    have hp : Post w0 F0 c (t.o i) (t.b i).length (t.n i) undef c.x c.E := by
      rw [ho']
      exact post_val hI.wf (und_ok c)
    exact ⟨_, dinv_stepFz hAt hok hlog hI ho hadm hp, rfl⟩
theorem xb_exact (hAt : ∀ i o, ops[i]? = some o → t.AtF i o) (hlog : okLog ops ((List.range ops.length).map t.lg) = true) (hcr : okCr ((List.range ops.length).map t.lg) = true) {tk : List (Hd × Nat)} {i : Nat} (hi : i < ops.length) {D : Nat → Bool} {a : Act} {c : Cx} (hadm : Adm ops i D) (hI : DInv t tk D a c) (hq : (t.o i).q = true) : ∀ n, c.XB n ↔ n < t.n i := by
  intro n
  rw [hI.XB, namesFz hAt n i (by omega)]
  have hcrk : ∀ k, k < ops.length → t.n k ≤ n → n < t.n k + (t.o k).m → (t.o k).cr = true := fun k hk h1 h2 => by
    obtain ⟨o', _, ha'⟩ := at_ofFz hAt hk
    cases hc : (t.o k).cr with
    | true => rfl
    | false => have := ha'.cr hc; omega
  have hclash : ∀ k, k < ops.length → (t.o k).cr = true → clash (t.lg k) (t.lg i) = true ∧ clash (t.lg i) (t.lg k) = true := fun k hk hc => by
    have hqk := cr_q hcr hk hc
    unfold clash
    have h1 : (t.lg k).q = true := hqk
    have h2 : (t.lg i).q = true := hq
    have h3 : (t.lg k).cr = true := hc
    rw [h1, h2, h3]
    simp
  constructor
  · rintro (h1 | ⟨k, h1, h2, h3, h4⟩)
    · exact Or.inl h1
    · refine Or.inr ⟨k, ?_, h3, h4⟩
      have hc := hcrk k h1 h3 h4
      rcases Nat.lt_trichotomy k i with h | h | h
      · exact h
      · subst h; rw [hadm.un] at h2; cases h2
      · exfalso
        have := hadm.behindT (log_waits hlog h h1 (hclash k h1 hc).2)
        rw [this] at h2; cases h2
  · rintro (h1 | ⟨k, h1, h3, h4⟩)
    · exact Or.inl h1
    · have hk : k < ops.length := by omega
      have hc := hcrk k hk h3 h4
      exact Or.inr ⟨k, hk, hadm.aheadT (log_waits hlog h1 hi (hclash k hk hc).1), h3, h4⟩
theorem dinv_own (hAt : ∀ i o, ops[i]? = some o → t.AtF i o) (hok : okRegion ops = true) (hlog : okLog ops ((List.range ops.length).map t.lg) = true) (hcr : okCr ((List.range ops.length).map t.lg) = true) {tk tk' : List (Hd × Nat)} {i : Nat} {o : Oper} (ho : ops[i]? = some o) {D : Nat → Bool} {a : Act} {c : Cx} (hadm : Adm ops i D) (hI : DInv t tk D a c) {r : SV} (hout : t.o i = ⟨r, .none, 1, [], true, true⟩) (hd : OwnDoes P w0 F0 o (t.f i) (t.n i) tk tk' (t.o i)) :
    ∃ v x', (execOp a.eval o).run P c.x = .ok (.value v) x' ∧ ∃ c', DInv t tk' (setD D i) (a.put o.dst v) c' ∧ c'.x = x' := by
  have hi : i < ops.length := lt_of_get ho
  have ha := hAt i o ho
  have hdst : dstOf ops i = o.dst := by simp [dstOf, ho]
  have hsl : ∀ u s, u ∈ o.looksAt ops.toArray → look (t.f i) u = some s → a.tmps[u]? = some (s.val c.E) ∧ s.ok c := fun u s hu hs => dinv_slotFz hAt hok hI ho hadm hu hs
  have hxb := xb_exact hAt hlog hcr hi hadm hI (by rw [hout])
  have hm : (t.o i).m = 1 := by rw [hout]
  have hR : RealR w0 F0 c.XA (fun b v => c.XA b ∧ Cont t D b v) ⟨t.n i, tk⟩ c := ⟨hI.wf, fun _ => Iff.rfl, hxb, fun b v h => ⟨h.1, (hI.blk b v h.1 h.2).1⟩, fun b v h => (hI.blk b v h.1 h.2).2, hI.tok⟩
  obtain ⟨v, x', hrun, c', hv, hrok, hR', hle, hx⟩ := hd _ _ c a.eval hR (fun y hy s hs => by
    cases y with
    | tmp u =>
      have hu : u ∈ o.looksAt ops.toArray := by
        unfold Oper.looksAt
        simp only [List.mem_append, List.mem_filterMap]
        exact Or.inl ⟨.tmp u, by simpa using hy, rfl⟩
      obtain ⟨h1, h2⟩ := hsl u s hu hs
      exact ⟨by simp only [Act.eval, Array.getD_eq_getD_getElem?, h1]; rfl, h2⟩
    | const v => cases hs; exact ⟨(constA_val _ v).symm, constA_ok _ v⟩
    | func g => cases hs; exact ⟨rfl, fun q hq => by cases hq⟩
    | global g => cases hs)
  have nowr : ∀ b, ¬ t.wr i b := fun b hb => by
    unfold Tr.wr at hb
    rw [hout] at hb
    simp [efW] at hb
  have nonew : ¬ t.isNew i := by
    rintro ⟨y, hy⟩
    rw [hout] at hy
    cases hy
  have hDi : setD D i i = true := by simp [setD]
  have hDk : ∀ k, D k = true → setD D i k = true := fun k hk => by simp [setD, hk]
  have hDk' : ∀ k, setD D i k = true → k = i ∨ D k = true := fun k hk => by simpa [setD] using hk
  refine ⟨v, x', hrun, c', ⟨hR'.wf, hR'.tk, fun b => ?_, fun n => ?_, fun b u hx' hc => ?_, ?_, ?_, fun k u hk hD hd' => ?_, fun u s hno hs => ?_⟩, hx⟩
  · rw [hR'.XA, hI.XA]
    constructor
    · rintro (h1 | ⟨k, h1, h2, h3⟩)
      · exact Or.inl h1
      · exact Or.inr ⟨k, h1, hDk k h2, h3⟩
    · rintro (h1 | ⟨k, h1, h2, h3, h4⟩)
      · exact Or.inl h1
      · rcases hDk' k h2 with rfl | h2
        · exact absurd h3 nonew
        · exact Or.inr ⟨k, h1, h2, h3, h4⟩
  · rw [hR'.XB]
    constructor
    · intro h
      have h : n < t.n i + 1 := h
      rcases Nat.lt_or_ge n (t.n i) with h1 | h1
      · rcases (hI.XB n).1 ((hxb n).2 h1) with h2 | ⟨k, h2, h3, h4⟩
        · exact Or.inl h2
        · exact Or.inr ⟨k, h2, hDk k h3, h4⟩
      · exact Or.inr ⟨i, hi, hDi, h1, by omega⟩
    · intro h
      show n < t.n i + 1
      rcases h with h1 | ⟨k, h1, h2, h3, h4⟩
      · have := (hxb n).1 ((hI.XB n).2 (Or.inl h1))
        omega
      · rcases hDk' k h2 with rfl | h2
        · omega
        · have := (hxb n).1 ((hI.XB n).2 (Or.inr ⟨k, h1, h2, h3, h4⟩))
          omega
  · have hxa : c.XA b := (hR'.XA b).1 hx'
    have hc' : Cont t D b u := by
      rcases hc with ⟨k, h1, h2, h3, h4, h5⟩ | ⟨h1, h2⟩
      · rcases hDk' k h2 with rfl | h2
        · exact absurd h3 (nowr b)
        · exact Or.inl ⟨k, h1, h2, h3, fun k' hk' hD' => h4 k' hk' (hDk k' hD'), h5⟩
      · exact Or.inr ⟨fun k hk hD => h1 k hk (hDk k hD), h2⟩
    exact ⟨(hR'.ty b u ⟨hxa, hc'⟩).2, hR'.blk b u ⟨hxa, hc'⟩⟩
  · show (a.put o.dst v).tmps.size = N
    cases o.dst <;> simp [Act.put, hI.size]
  · cases o.dst <;> simp [Act.put, hI.defers]
  · have hne : ∀ {d}, o.dst = some d → k ≠ i → d ≠ u := fun hd'' hki e => by
      subst e
      exact (ok_slots hok ho hd').1 hki hd''
    rcases hDk' k hD with rfl | hD'
    · rw [hdst] at hd'
      rw [hd']
      have hlt := ha.dst u hd'
      refine ⟨?_, hrok⟩
      simp only [Act.put]
      rw [hv]
      simp [hI.size, hlt]
    · have hki : k ≠ i := fun e => by subst e; rw [hadm.un] at hD'; cases hD'
      obtain ⟨p1, p2⟩ := hI.done k u hk hD' hd'
      refine ⟨?_, SV.ok_mono hle p2⟩
      rw [SV.val_mono hle p2, ← p1]
      cases hd'' : o.dst with
      | none => rfl
      | some d => simp only [Act.put, Array.getElem?_setIfInBounds_ne (hne hd'' hki)]
  · obtain ⟨p1, p2⟩ := hI.init u s (fun k hk hD => hno k hk (hDk k hD)) hs
    refine ⟨?_, SV.ok_mono hle p2⟩
    rw [SV.val_mono hle p2, ← p1]
    cases hd'' : o.dst with
    | none => rfl
    | some d =>
      have : d ≠ u := fun e => by
        subst e
        exact hno i hi hDi (by rw [hdst]; exact hd'')
      simp only [Act.put, Array.getElem?_setIfInBounds_ne this]
end

def drwO (T : Tab) (S : List (Nat × Spec)) (N : Nat) (ops : List Oper) (ds : List (Option Tmp)) : List Oper → List Lg → Fr → List V → NS → (Fr → List V → NS → Prop) → Prop
  | [], lg, f, bl, nn, K => Need ((okLog ops lg.reverse && okCr lg) = true) (K f bl nn)
  | o :: r, lg, f, bl, nn, K => match isOwn T o with
    | true => match o.guard with
      | none => ownK T o f nn fun v nn' => putK N o.dst v f fun f' => drwO T S N ops ds r (⟨[], [], true, true⟩ :: lg) f' bl nn' K
      | some _ => False
    | false => guardK ds o.guard f
      (fun f => opK T S o f bl nn.n fun
        | ⟨v, ef, m, rd, q, cr⟩ => efK bl ef fun bl' => lenK bl 0 fun n => putK N o.dst v f fun f' => addK nn cr m fun nn' => drwO T S N ops ds r (⟨rd ++ efW n ef, efW n ef, q, cr⟩ :: lg) f' bl' nn' K)
      (fun f => putK N o.dst und f fun f' => drwO T S N ops ds r (⟨[], [], false, false⟩ :: lg) f' bl nn K)
structure Tr.AtO {P : Program} {w0 : World} {F0 : Old} {N : Nat} {ops : List Oper} (t : Tr P w0 F0 N ops) (tks : Nat → List (Hd × Nat)) (i : Nat) (o : Oper) : Prop where
  f : t.AtF i o
  way : (tks (i + 1) = tks i ∧ (((∀ (E : Env) (a : Act), (∀ u s, u ∈ o.looksAt ops.toArray → look (t.f i) u = some s → a.tmps[u]? = some (s.val E)) → Region.wanted o (yielded ops.toArray a.tmps) = true) ∧ Does P w0 F0 o (t.f i) (fun j => (t.b i)[j]?) (t.b i).length (t.n i) (t.o i)) ∨ ((∀ (E : Env) (a : Act), (∀ u s, u ∈ o.looksAt ops.toArray → look (t.f i) u = some s → a.tmps[u]? = some (s.val E)) → Region.wanted o (yielded ops.toArray a.tmps) = false) ∧ t.o i = ⟨und, .none, 0, [], false, false⟩))) ∨
    ((∀ (E : Env) (a : Act), (∀ u s, u ∈ o.looksAt ops.toArray → look (t.f i) u = some s → a.tmps[u]? = some (s.val E)) → Region.wanted o (yielded ops.toArray a.tmps) = true) ∧ (∃ r, t.o i = ⟨r, .none, 1, [], true, true⟩) ∧ OwnDoes P w0 F0 o (t.f i) (t.n i) (tks i) (tks (i + 1)) (t.o i))
section
variable {P : Program} {T : Tab} {S : List (Nat × Spec)} {w0 : World} {F0 : Old} {N : Nat}
theorem dro_tr (hT : TabOk P T) (hS : SpecsOk P S) {ops : List Oper} {K : Fr → List V → NS → Prop} : ∀ (l : List Oper) (lg : List Lg) (f : Fr) (bl : List V) (nn : NS), drwO T S N ops (ops.map (·.dst)) l lg f bl nn K →
    ∃ (t : Tr P w0 F0 N ops) (tks : Nat → List (Hd × Nat)), t.f 0 = f ∧ t.b 0 = bl ∧ t.n 0 = nn.n ∧ tks 0 = nn.tk ∧ (∀ i o, l[i]? = some o → t.AtO tks i o) ∧ K (t.f l.length) (t.b l.length) ⟨t.n l.length, tks l.length⟩ ∧ okLog ops (lg.reverse ++ (List.range l.length).map t.lg) = true ∧ okCr (lg.reverse ++ (List.range l.length).map t.lg) = true
  | [], lg, f, bl, nn, h => by
    obtain ⟨h1, h2⟩ := h
    rw [Bool.and_eq_true] at h1
    exact ⟨⟨fun _ => f, fun _ => bl, fun _ => nn.n, fun _ => ⟨und, .none, 0, [], false, false⟩⟩, fun _ => nn.tk, rfl, rfl, rfl, rfl, fun i o hi => by simp at hi, h2, by simpa using h1.1, by simpa [okCr] using h1.2⟩
  | o :: r, lg, f, bl, nn, h => by
    unfold drwO at h
    have shift : ∀ (out : Out) (f1 : Fr) (tk1 : List (Hd × Nat)), (∀ u, look f1 u = if o.dst = some u then some out.r else look f u) → (∀ d, o.dst = some d → d < N) → (∀ j y, out.ef = .set j y → j < bl.length) → (out.cr = false → out.m = 0) →
        ((tk1 = nn.tk ∧ (((∀ (E : Env) (a : Act), (∀ u s, u ∈ o.looksAt ops.toArray → look f u = some s → a.tmps[u]? = some (s.val E)) → Region.wanted o (yielded ops.toArray a.tmps) = true) ∧ Does P w0 F0 o f (fun j => bl[j]?) bl.length nn.n out) ∨
          ((∀ (E : Env) (a : Act), (∀ u s, u ∈ o.looksAt ops.toArray → look f u = some s → a.tmps[u]? = some (s.val E)) → Region.wanted o (yielded ops.toArray a.tmps) = false) ∧ out = ⟨und, .none, 0, [], false, false⟩))) ∨ ((∀ (E : Env) (a : Act), (∀ u s, u ∈ o.looksAt ops.toArray → look f u = some s → a.tmps[u]? = some (s.val E)) → Region.wanted o (yielded ops.toArray a.tmps) = true) ∧ (∃ r, out = ⟨r, .none, 1, [], true, true⟩) ∧ OwnDoes P w0 F0 o f nn.n nn.tk tk1 out)) →
        drwO T S N ops (ops.map (·.dst)) r (⟨out.rd ++ efW bl.length out.ef, efW bl.length out.ef, out.q, out.cr⟩ :: lg) f1 (efB bl out.ef) ⟨nn.n + out.m, tk1⟩ K →
        ∃ (t : Tr P w0 F0 N ops) (tks : Nat → List (Hd × Nat)), t.f 0 = f ∧ t.b 0 = bl ∧ t.n 0 = nn.n ∧ tks 0 = nn.tk ∧ (∀ i o', (o :: r)[i]? = some o' → t.AtO tks i o') ∧ K (t.f (r.length + 1)) (t.b (r.length + 1)) ⟨t.n (r.length + 1), tks (r.length + 1)⟩ ∧ okLog ops (lg.reverse ++ (List.range (r.length + 1)).map t.lg) = true ∧ okCr (lg.reverse ++ (List.range (r.length + 1)).map t.lg) = true := by
      intro out f1 tk1 hl hd hset hcr hway hrest
      obtain ⟨t, tks, e1, e2, e3, e3', e4, e5, e6, e7⟩ := dro_tr hT hS r _ f1 _ _ hrest
      let t' : Tr P w0 F0 N ops := ⟨fun i => match i with | 0 => f | i + 1 => t.f i, fun i => match i with | 0 => bl | i + 1 => t.b i, fun i => match i with | 0 => nn.n | i + 1 => t.n i, fun i => match i with | 0 => out | i + 1 => t.o i⟩
      let tks' : Nat → List (Hd × Nat) := fun i => match i with | 0 => nn.tk | i + 1 => tks i
      have hlg : (List.range (r.length + 1)).map t'.lg = ⟨out.rd ++ efW bl.length out.ef, efW bl.length out.ef, out.q, out.cr⟩ :: (List.range r.length).map t.lg := by
        rw [List.range_succ_eq_map, List.map_cons, List.map_map]
        rfl
      refine ⟨t', tks', rfl, rfl, rfl, rfl, fun i o' hi => ?_, e5, ?_, ?_⟩
      · cases i with
        | zero =>
          have : o = o' := by simpa using hi
          subst this
          refine ⟨⟨fun u => ?_, hd, ?_, ?_, hset, hcr⟩, ?_⟩
          · show look (t.f 0) u = _
            rw [e1]; exact hl u
          · show t.b 0 = _
            rw [e2]
          · show t.n 0 = _
            rw [e3]
          · show (tks 0 = nn.tk ∧ _) ∨ (_ ∧ _ ∧ OwnDoes P w0 F0 o f nn.n nn.tk (tks 0) out)
            rw [e3']
            exact hway
        | succ i =>
          have := e4 i o' (by simpa using hi)
          exact ⟨⟨this.f.look, this.f.dst, this.f.bl, this.f.nn, this.f.set, this.f.cr⟩, this.way⟩
      · rw [hlg]
        rw [List.reverse_cons, List.append_assoc] at e6
        exact e6
      · rw [hlg]
        rw [List.reverse_cons, List.append_assoc] at e7
        exact e7
    split at h
    · split at h
      · rename_i hg
        obtain ⟨r0, nn', hk, hn', hd⟩ := own_soundR (P := P) (w0 := w0) (F0 := F0) hT h
        obtain ⟨f1, hk1, hl1, hd1⟩ := putK_look hk
        have e : nn' = ⟨nn.n + 1, nn'.tk⟩ := by cases nn'; cases hn'; rfl
        refine shift ⟨r0, .none, 1, [], true, true⟩ f1 nn'.tk hl1 hd1 (fun j y hj => by cases hj) (fun hc => by cases hc) (Or.inr ⟨fun E a _ => ?_, ⟨r0, rfl⟩, fun Q R c ρ hr hev => ?_⟩) ?_
        · unfold Region.wanted
          rw [hg]
        · have := hd Q R c ρ hr hev
          rw [e] at this
          exact this
        · rw [e] at hk1
          exact hk1
      · exact h.elim
    rcases guardK_all h with ⟨hw, f', hy, hlk⟩ | ⟨hw, f', hno, hlk⟩
    · obtain ⟨out, hk, hd⟩ := opK_sound (w0 := w0) (F0 := F0) hT hS hy
      have hk : efK bl out.ef fun bl' => lenK bl 0 fun n => putK N o.dst out.r f' fun f'' => addK nn out.cr out.m fun nn' => drwO T S N ops (ops.map (·.dst)) r (⟨out.rd ++ efW n out.ef, efW n out.ef, out.q, out.cr⟩ :: lg) f'' bl' nn' K := by
        cases out; exact hk
      have hset : ∀ j y, out.ef = .set j y → j < bl.length := fun j y hj => by
        rw [hj] at hk
        exact (setB_elim _ _ _ _ hk).2
      have hk := lenK_elim _ _ _ (efK_elim hk)
      rw [Nat.add_zero] at hk
      obtain ⟨f1, hk1, hl1, hd1⟩ := putK_look hk
      have hk2 : drwO T S N ops (ops.map (·.dst)) r (⟨out.rd ++ efW bl.length out.ef, efW bl.length out.ef, out.q, out.cr⟩ :: lg) f1 (efB bl out.ef) ⟨nn.n + out.m, nn.tk⟩ K := by
        cases hc : out.cr with
        | true => simp only [hc, addK] at hk1; exact hk1
        | false =>
          simp only [hc, addK] at hk1
          rw [hd.1 hc, Nat.add_zero]
          exact hk1
      exact shift out f1 nn.tk (fun u => by rw [hl1 u, hlk u]) hd1 hset hd.1 (Or.inl ⟨rfl, Or.inl ⟨hw, hd.congr hlk⟩⟩) hk2
    · obtain ⟨f1, hk1, hl1, hd1⟩ := putK_look hno
      exact shift ⟨und, .none, 0, [], false, false⟩ f1 nn.tk (fun u => by rw [hl1 u, hlk u]) hd1 (fun j y hj => by cases hj) (fun _ => rfl) (Or.inl ⟨rfl, Or.inr ⟨hw, rfl⟩⟩) hk1
theorem tks_same {tks : Nat → List (Hd × Nat)} {i : Nat} : ∀ (d : Nat), (∀ k, i ≤ k → k < i + d → tks (k + 1) = tks k) → tks (i + d) = tks i
  | 0, _ => rfl
  | d + 1, h => by
    rw [show i + (d + 1) = (i + d) + 1 from by omega, h (i + d) (by omega) (by omega)]
    exact tks_same d fun k h1 h2 => h k h1 (by omega)
theorem draw_own {id : Nat} {ops : List Oper} (hT : TabOk P T) (hS : SpecsOk P S) {f : Fr} {bl : List V} {nn : NS} {K : Fr → List V → NS → Prop} {c : Cx} {a : Act} (hok : okRegion ops = true) (h : drwO T S N ops (ops.map (·.dst)) ops [] f bl nn K) (hr : Real w0 F0 bl nn c) (hf : FR N c f a)
    {Q : Exit → Act → World → Prop} (hQ : ∀ a x, Sat w0 F0 N K a x → Q .normal a x) : (Code.region id ops.toArray true).wp P Q a c.x := by
  obtain ⟨r1, l1⟩ := real_drew hr
  obtain ⟨t, tks, e1, e2, e3, e3', hAt, hK, hlog, hcr⟩ := dro_tr (w0 := w0) (F0 := F0) hT hS ops [] f bl nn h
  rw [List.reverse_nil, List.nil_append] at hlog hcr
  have hAF : ∀ i o, ops[i]? = some o → t.AtF i o := fun i o ho => (hAt i o ho).f
  have hcl : ∀ i k, i < ops.length → k < ops.length → (∃ r, t.o i = ⟨r, .none, 1, [], true, true⟩) → tks (k + 1) ≠ tks k → clash (t.lg i) (t.lg k) = true ∧ clash (t.lg k) (t.lg i) = true := fun i k hi hk hoi hne => by
    obtain ⟨r, hr⟩ := hoi
    obtain ⟨o', ho'⟩ : ∃ o', ops[k]? = some o' := ⟨ops[k], by simp [hk]⟩
    rcases (hAt k o' ho').way with ⟨h1, _⟩ | ⟨_, ⟨r', h2⟩, _⟩
    · exact absurd h1 hne
    · unfold clash Tr.lg
      rw [hr, h2]
      simp
  refine wp_region_inv (fun D a x => ∃ c j, (j ≤ ops.length ∧ ∀ k, k < ops.length → tks (k + 1) ≠ tks k → (D k = true ↔ k < j)) ∧ DInv t (tks j) D a c ∧ c.x = x) hT.mix hok ?_ ?_ ?_
  · refine ⟨{ c with x := { c.x with drawn := c.x.drawn + 1 } }, 0, ⟨Nat.zero_le _, fun k _ _ => ⟨(fun h => by cases h), (fun h => by omega)⟩⟩, ?_, rfl⟩
    rw [e3']
    exact dinv_init (nn := nn) e1 e2 e3 r1 (hf.mono l1)
  · rintro i o ho D a x hadm ⟨c, j, ⟨hj, hD⟩, hI, rfl⟩
    have hi : i < ops.length := lt_of_get ho
    rcases (hAt i o ho).way with ⟨hs, hway⟩ | ⟨hw, hoi, hd⟩
    · have hstep := dinv_goF hAF hok hlog hcr ho hadm hI hway
      have hD' : ∀ k, k < ops.length → tks (k + 1) ≠ tks k → (setD D i k = true ↔ k < j) := fun k hk hne => by
        have hki : k ≠ i := fun e => by subst e; exact hne hs
        rw [← hD k hk hne]
        simp [setD, hki]
      split at hstep
      · rename_i hw
        rw [if_pos hw]
        revert hstep
        generalize (execOp a.eval o).run P c.x = res
        intro hstep
        cases res with
        | ok nx w' =>
          cases nx <;> simp only [upon4] at hstep ⊢
          case value u => obtain ⟨c', h1, h2⟩ := hstep; exact ⟨c', j, ⟨hj, hD'⟩, h1, h2⟩
          case skip => obtain ⟨c', h1, h2⟩ := hstep; exact ⟨c', j, ⟨hj, hD'⟩, h1, h2⟩
          case enter g args => exact hstep.mono fun e x' ⟨u, he, c', h1, h2⟩ => ⟨u, he, c', j, ⟨hj, hD'⟩, h1, h2⟩
        | halt q w' => simp only [upon4] at hstep
      · rename_i hw
        rw [if_neg hw]
        obtain ⟨c', h1, h2⟩ := hstep
        exact ⟨c', j, ⟨hj, hD'⟩, h1, h2⟩
    · have hlo : ∀ k, k < i → tks (k + 1) ≠ tks k → D k = true := fun k hk hne => hadm.aheadT (log_waits hlog hk hi (hcl i k hi (by omega) hoi hne).2)
      have hhi : ∀ k, i < k → k < ops.length → tks (k + 1) ≠ tks k → D k = false := fun k hk hk' hne => hadm.behindT (log_waits hlog hk hk' (hcl i k hi hk' hoi hne).1)
      have htk : tks j = tks i := by
        rcases Nat.le_total j i with hji | hji
        · have := tks_same (tks := tks) (i := j) (i - j) fun k h1 h2 => by
            refine Classical.byContradiction fun hne => ?_
            have := (hD k (by omega) hne).1 (hlo k (by omega) hne)
            omega
          rw [show j + (i - j) = i from by omega] at this
          exact this.symm
        · have := tks_same (tks := tks) (i := i) (j - i) fun k h1 h2 => by
            refine Classical.byContradiction fun hne => ?_
            have h3 := (hD k (by omega) hne).2 (by omega)
            rcases Nat.eq_or_lt_of_le h1 with h4 | h4
            · subst h4; rw [hadm.un] at h3; cases h3
            · rw [hhi k h4 (by omega) hne] at h3; cases h3
          rw [show i + (j - i) = j from by omega] at this
          exact this
      rw [htk] at hI
      obtain ⟨r, hout⟩ := hoi
      obtain ⟨v, x', hrun, c', hI', hx⟩ := dinv_own hAF hok hlog hcr ho hadm hI hout hd
      rw [if_pos (hw c.E a fun u s hu hs => (dinv_slotFz hAF hok hI ho hadm hu hs).1), hrun]
      refine ⟨c', i + 1, ⟨by omega, fun k hk hne => ?_⟩, hI', hx⟩
      rcases Nat.lt_trichotomy k i with h1 | h1 | h1
      · exact ⟨fun _ => by omega, fun _ => by simp [setD, hlo k h1 hne]⟩
      · subst h1; exact ⟨fun _ => by omega, fun _ => by simp [setD]⟩
      · refine ⟨fun h2 => ?_, fun h2 => by omega⟩
        have hki : k ≠ i := by omega
        have : D k = true := by simpa [setD, hki] using h2
        rw [hhi k h1 hk hne] at this
        cases this
  · rintro D a x hall ⟨c, j, ⟨hj, hD⟩, hI, rfl⟩
    have htk : tks ops.length = tks j := by
      have := tks_same (tks := tks) (i := j) (ops.length - j) fun k h1 h2 => by
        refine Classical.byContradiction fun hne => ?_
        have := (hD k (by omega) hne).1 (hall k (by omega))
        omega
      rw [show j + (ops.length - j) = ops.length from by omega] at this
      exact this
    obtain ⟨q1, q2⟩ := dinv_midF hAF hok hI (fun i hi => Or.inl (hall i hi)) (g := t.f ops.length) (fun u s hs => ⟨hs, fun i hi _ => hall i hi⟩)
    rw [← htk] at q1
    exact hQ _ _ ⟨_, _, _, c, hK, q1, q2, rfl⟩
end
end Go.Proofs.Ytjbbgpacijageab.M
