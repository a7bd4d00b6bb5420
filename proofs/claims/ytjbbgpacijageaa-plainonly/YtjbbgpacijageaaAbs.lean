/- A region that draws its order, of operations that read, call, and store each into a block of its own: one walk in the order of the text serves every order. No program is named here. -/
import Derived.Orders
import Derived.Still
import Derived.Below
import Derived.WalkKit
namespace Go.Proofs.Ytjbbgpacijageaa
open Go.RowKit

/-- What an operation does: the value that it yields, and the block that it stores into with what it then holds. -/
abbrev Eff := Value × Option (Nat × Array Value × TypeId)

section
variable {P : Program} {ops : List Oper} {Base : World → Prop} {Q : Exit → Act → World → Prop}

/-- It yields v in the world that it got; or it calls what gives back v and leaves all that there was. -/
def absUpon (P : Program) (w : World) (v : Value) : Result Next → Prop
  | .ok (.value u) w' => u = v ∧ w' = w
  | .ok .skip w' => v = undef ∧ w' = w
  | .ok (.enter f args) w' => w' = w ∧ Calls P f args w fun e w'' => e = .returned v ∧ Below w.heap.size w w''
  | _ => False

/-- In every world of the class the operation does just this. -/
def okEff (P : Program) (ops : List Oper) (Base : World → Prop) (o : Oper) (a : Act) (e : Eff) : Prop :=
  if Region.wanted o (yielded ops.toArray a.tmps) = true then
    match e.2 with
    | none => ∀ w, Base w → absUpon P w e.1 ((execOp a.eval o).run P w)
    | some x => e.1 = undef ∧ ∀ w, Base w → ∃ w', (execOp a.eval o).run P w = .ok .skip w' ∧ Base w' ∧ w'.heap[x.1]? = some (.cells x.2.1 x.2.2) ∧ ∀ b, b ≠ x.1 → w'.heap[b]? = w.heap[b]?
  else e = (undef, none)

/-- The walk in the order of the text. -/
def absWalk (P : Program) (ops : List Oper) (Base : World → Prop) (Q : Exit → Act → World → Prop) : List Oper → Act → List (Nat × Array Value × TypeId) → Prop
  | [], a, st => ∀ w, Base w → (∀ s ∈ st, w.heap[s.1]? = some (.cells s.2.1 s.2.2)) → Q .normal a w
  | o :: rest, a, st => ∃ e : Eff, okEff P ops Base o a e ∧ (∀ s ∈ st, ∀ x, e.2 = some x → s.1 ≠ x.1) ∧ absWalk P ops Base Q rest (a.put o.dst e.1) (e.2.toList ++ st)

/-- The same with what each operation does written down. -/
def absFacts (P : Program) (ops : List Oper) (Base : World → Prop) (Q : Exit → Act → World → Prop) : List Oper → List Eff → Act → List (Nat × Array Value × TypeId) → Prop
  | [], [], a, st => ∀ w, Base w → (∀ s ∈ st, w.heap[s.1]? = some (.cells s.2.1 s.2.2)) → Q .normal a w
  | o :: rest, e :: es, a, st => okEff P ops Base o a e ∧ (∀ s ∈ st, ∀ x, e.2 = some x → s.1 ≠ x.1) ∧ absFacts P ops Base Q rest es (a.put o.dst e.1) (e.2.toList ++ st)
  | _, _, _, _ => False

theorem facts_of_walk : ∀ (rest : List Oper) (a : Act) (st : List (Nat × Array Value × TypeId)), absWalk P ops Base Q rest a st → ∃ es, es.length = rest.length ∧ absFacts P ops Base Q rest es a st
  | [], _, _, h => ⟨[], rfl, h⟩
  | o :: rest, a, st, ⟨e, h1, h2, h3⟩ => by
    obtain ⟨es, hl, hf⟩ := facts_of_walk rest _ _ h3
    exact ⟨e :: es, by simp [hl], h1, h2, hf⟩

/-- The slot that operation k writes; the value that it yields. -/
def dstOf (ops : List Oper) (k : Nat) : Option Tmp := (ops[k]?).bind (·.dst)
def valOf (es : List Eff) (k : Nat) : Value := ((es[k]?).map (·.1)).getD undef

/-- The frame behind those of the operations l that F picks. -/
def foldP (ops : List Oper) (es : List Eff) (F : Nat → Bool) (l : List Nat) (a : Act) : Act := l.foldl (fun a k => if F k = true then a.put (dstOf ops k) (valOf es k) else a) a

/-- Every edge that binds leads back; no two operations write one slot; who looks at a slot that another one writes waits for it. -/
def okRegion (ops : List Oper) : Bool :=
  Region.noSelect ops.toArray && (List.range ops.length).all fun i =>
    match ops[i]? with
    | none => true
    | some o =>
      o.after.toList.all (fun e => !Region.binds .any e || decide (e.on < i)) &&
      (List.range ops.length).all fun k =>
        match dstOf ops k with
        | none => true
        | some d => (k == i || o.dst != some d) && (!(o.looksAt ops.toArray).contains d || (decide (k < i) && o.after.toList.any fun e => Region.binds .any e && e.on == k))

variable {es : List Eff}

theorem foldP_push {F : Nat → Bool} {x : Option Tmp} {v : Value} : ∀ (l : List Nat) (a : Act), (∀ k ∈ l, ∀ d, x = some d → dstOf ops k ≠ some d) → (foldP ops es F l a).put x v = foldP ops es F l (a.put x v)
  | [], _, _ => rfl
  | k :: l, a, h => by
    have h1 := foldP_push (F := F) (x := x) (v := v) l (if F k = true then a.put (dstOf ops k) (valOf es k) else a) (fun k' hk' => h k' (by simp [hk']))
    have h2 : (if F k = true then a.put (dstOf ops k) (valOf es k) else a).put x v = if F k = true then (a.put x v).put (dstOf ops k) (valOf es k) else a.put x v := by
      split
      · exact (Act.put_comm a v (valOf es k) (fun d hd => h k (by simp) d hd)).symm
      · rfl
    show (foldP ops es F l _).put x v = foldP ops es F l _
    rw [h1, h2]

theorem foldP_congr {F G : Nat → Bool} : ∀ (l : List Nat) (a : Act), (∀ k ∈ l, F k = G k) → foldP ops es F l a = foldP ops es G l a
  | [], _, _ => rfl
  | k :: l, a, h => by
    show foldP ops es F l (if F k = true then a.put (dstOf ops k) (valOf es k) else a) = foldP ops es G l (if G k = true then a.put (dstOf ops k) (valOf es k) else a)
    rw [h k (by simp)]
    exact foldP_congr l _ (fun k' hk' => h k' (by simp [hk']))

/-- One more of them. -/
theorem foldP_set {F G : Nat → Bool} {i : Nat} (hF : F i = false) (hG : G i = true) (hFG : ∀ k, k ≠ i → F k = G k) : ∀ (l : List Nat) (a : Act), l.Nodup → i ∈ l → (∀ k ∈ l, k ≠ i → ∀ d, dstOf ops i = some d → dstOf ops k ≠ some d) →
    (foldP ops es F l a).put (dstOf ops i) (valOf es i) = foldP ops es G l a
  | [], _, _, hi, _ => by simp at hi
  | k :: l, a, hn, hi, hd => by
    have hn' := List.nodup_cons.1 hn
    show (foldP ops es F l (if F k = true then _ else a)).put _ _ = foldP ops es G l (if G k = true then _ else a)
    by_cases hk : k = i
    · subst hk
      rw [hF, hG]
      simp only [Bool.false_eq_true, if_false, if_true]
      rw [foldP_push l a (fun k' hk' d hd' => hd k' (by simp [hk']) (fun e => hn'.1 (e ▸ hk')) d hd')]
      exact foldP_congr l _ (fun k' hk' => hFG k' (fun e => hn'.1 (e ▸ hk')))
    · rw [hFG k hk]
      have hi' : i ∈ l := by
        rcases List.mem_cons.1 hi with h | h
        · exact absurd h.symm hk
        · exact h
      exact foldP_set hF hG hFG l _ hn'.2 hi' (fun k' hk' hne => hd k' (by simp [hk']) hne)

/-- Two frames agree on what an operation looks at. -/
def Ag (ops : List Oper) (o : Oper) (a a' : Act) : Prop := a.tmps.size = a'.tmps.size ∧ ∀ d ∈ o.looksAt ops.toArray, a.tmps[d]? = a'.tmps[d]?

theorem Ag.refl {o : Oper} (a : Act) : Ag ops o a a := ⟨rfl, fun _ _ => rfl⟩

theorem Ag.put {o : Oper} {a a' : Act} (h : Ag ops o a a') (x : Option Tmp) (v : Value) : Ag ops o (a.put x v) (a'.put x v) := by
  cases x with
  | none => exact h
  | some d =>
    refine ⟨by simp [Act.put, h.1], fun d' hd' => ?_⟩
    simp only [Act.put, Array.getElem?_setIfInBounds, h.1]
    split
    · rfl
    · exact h.2 d' hd'

theorem Ag.left {o : Oper} {a a' : Act} (h : Ag ops o a a') {x : Option Tmp} {v : Value} (hx : ∀ d, x = some d → d ∉ o.looksAt ops.toArray) : Ag ops o (a.put x v) a' := by
  cases x with
  | none => exact h
  | some d =>
    refine ⟨by simp [Act.put, h.1], fun d' hd' => ?_⟩
    have hne : d ≠ d' := fun e => hx d rfl (e ▸ hd')
    simp only [Act.put, Array.getElem?_setIfInBounds_ne hne]
    exact h.2 d' hd'

theorem Ag.symm {o : Oper} {a a' : Act} (h : Ag ops o a a') : Ag ops o a' a := ⟨h.1.symm, fun d hd => (h.2 d hd).symm⟩

theorem Ag.exec {o : Oper} {a a' : Act} (h : Ag ops o a a') (hs : ∀ cs b, o.op ≠ .select cs b) : execOp a.eval o = execOp a'.eval o := by
  refine execOp_congr o hs fun x hx => ?_
  cases x with
  | tmp t =>
    have ht : t ∈ o.looksAt ops.toArray := List.mem_append_left _ (List.mem_filterMap.2 ⟨.tmp t, by simpa using hx, rfl⟩)
    have := h.2 t ht
    simp only [Act.eval, Array.getD_eq_getD_getElem?, this]
  | _ => rfl

theorem Ag.wanted {o : Oper} {a a' : Act} (h : Ag ops o a a') : Region.wanted o (yielded ops.toArray a.tmps) = Region.wanted o (yielded ops.toArray a'.tmps) := by
  unfold Region.wanted
  cases hg : o.guard with
  | none => rfl
  | some gw =>
    obtain ⟨g, want⟩ := gw
    have hy : yielded ops.toArray a.tmps g = yielded ops.toArray a'.tmps g := by
      unfold yielded
      cases ht : (ops.toArray[g]?).bind (·.dst) with
      | none => rfl
      | some t =>
        have hm : t ∈ o.looksAt ops.toArray := by
          unfold Oper.looksAt
          rw [hg]
          refine List.mem_append_right _ ?_
          show t ∈ ((ops.toArray[g]?).bind (·.dst)).toList
          rw [ht]
          simp
        have := h.2 t hm
        simp [this]
    simp only [hy]

theorem foldP_ag {o : Oper} {F G : Nat → Bool} : ∀ (l : List Nat) (a a' : Act), Ag ops o a a' → (∀ k ∈ l, ∀ d, dstOf ops k = some d → d ∈ o.looksAt ops.toArray → F k = G k) → Ag ops o (foldP ops es F l a) (foldP ops es G l a')
  | [], _, _, h, _ => h
  | k :: l, a, a', h, hk => by
    show Ag ops o (foldP ops es F l (if F k = true then a.put (dstOf ops k) (valOf es k) else a)) (foldP ops es G l (if G k = true then a'.put (dstOf ops k) (valOf es k) else a'))
    refine foldP_ag l _ _ ?_ (fun k' hk' => hk k' (by simp [hk']))
    by_cases hr : ∃ d, dstOf ops k = some d ∧ d ∈ o.looksAt ops.toArray
    · obtain ⟨d, h1, h2⟩ := hr
      rw [hk k (by simp) d h1 h2]
      split
      · exact h.put _ _
      · exact h
    · have hx : ∀ d, dstOf ops k = some d → d ∉ o.looksAt ops.toArray := fun d h1 h2 => hr ⟨d, h1, h2⟩
      have h1 : Ag ops o (if F k = true then a.put (dstOf ops k) (valOf es k) else a) a' := by
        split
        · exact h.left hx
        · exact h
      have h2 : Ag ops o (if G k = true then a'.put (dstOf ops k) (valOf es k) else a') (if F k = true then a.put (dstOf ops k) (valOf es k) else a) := by
        by_cases hG : G k = true
        · rw [if_pos hG]; exact h1.symm.left hx
        · rw [if_neg hG]; exact h1.symm
      exact h2.symm

theorem okRegion_edges {i : Nat} {o : Oper} (h : okRegion ops = true) (ho : ops[i]? = some o) : ∀ e ∈ o.after, Region.binds .any e = true → e.on < i := by
  simp only [okRegion, Bool.and_eq_true, List.all_eq_true, List.mem_range] at h
  have hi : i < ops.length := (List.getElem?_eq_some_iff.1 ho).1
  have h1 := h.2 i hi
  rw [ho] at h1
  simp only [Bool.and_eq_true, List.all_eq_true, Bool.or_eq_true, Bool.not_eq_true', decide_eq_true_iff] at h1
  intro e he hb
  rcases h1.1 e (by simpa using he) with h2 | h2
  · rw [hb] at h2; cases h2
  · exact h2

theorem okRegion_slots {i k d : Nat} {o : Oper} (h : okRegion ops = true) (ho : ops[i]? = some o) (hk : dstOf ops k = some d) :
    (k ≠ i → o.dst ≠ some d) ∧ (d ∈ o.looksAt ops.toArray → k < i ∧ ∃ e ∈ o.after, Region.binds .any e = true ∧ e.on = k) := by
  simp only [okRegion, Bool.and_eq_true, List.all_eq_true, List.mem_range] at h
  have hi : i < ops.length := (List.getElem?_eq_some_iff.1 ho).1
  have hk' : k < ops.length := by
    rcases Nat.lt_or_ge k ops.length with h' | h'
    · exact h'
    · simp [dstOf, List.getElem?_eq_none h'] at hk
  have h1 := h.2 i hi
  rw [ho] at h1
  simp only [Bool.and_eq_true, List.all_eq_true, List.mem_range] at h1
  have h2 := h1.2 k hk'
  rw [hk] at h2
  simp only [Bool.and_eq_true, Bool.or_eq_true, beq_iff_eq, bne_iff_ne, ne_eq, Bool.not_eq_true', List.any_eq_true, decide_eq_true_iff] at h2
  refine ⟨fun hne => ?_, fun hd => ?_⟩
  · rcases h2.1 with h3 | h3
    · exact absurd h3 hne
    · exact h3
  · rcases h2.2 with h3 | h3
    · have : (o.looksAt ops.toArray).contains d = true := by simpa using hd
      rw [this] at h3; cases h3
    · obtain ⟨h4, e, he, hb, hon⟩ := h3
      exact ⟨h4, e, by simpa using he, hb, hon⟩

/-- The frame ahead of operation i in the order of the text. -/
theorem facts_at : ∀ (rest : List Oper) (es' : List Eff) (a : Act) (st : List (Nat × Array Value × TypeId)) (f : Nat → Act), absFacts P ops Base Q rest es' a st → f 0 = a →
    (∀ (j : Nat) (o : Oper) (e : Eff), rest[j]? = some o → es'[j]? = some e → f (j + 1) = (f j).put o.dst e.1) → ∀ j o e, rest[j]? = some o → es'[j]? = some e → okEff P ops Base o (f j) e
  | [], _, _, _, _, _, _, _, j, o, e, ho, _ => by simp at ho
  | o :: rest, [], _, _, _, h, _, _, _, _, _, _, _ => by simp [absFacts] at h
  | o :: rest, e :: es', a, st, f, h, h0, hf, j, o', e', ho, he => by
    obtain ⟨h1, _, h3⟩ := h
    cases j with
    | zero => simp at ho he; subst ho; subst he; rw [h0]; exact h1
    | succ j =>
      refine facts_at rest es' _ _ (fun j => f (j + 1)) h3 ?_ ?_ j o' e' (by simpa using ho) (by simpa using he)
      · have := hf 0 o e rfl rfl
        rw [h0] at this
        exact this
      · intro j' o'' e'' ho' he'
        exact hf (j' + 1) o'' e'' (by simpa using ho') (by simpa using he')

/-- What stands at the end; and no two store into one block. -/
theorem facts_end : ∀ (rest : List Oper) (es' : List Eff) (a : Act) (st : List (Nat × Array Value × TypeId)) (f : Nat → Act), absFacts P ops Base Q rest es' a st → f 0 = a →
    (∀ (j : Nat) (o : Oper) (e : Eff), rest[j]? = some o → es'[j]? = some e → f (j + 1) = (f j).put o.dst e.1) →
    (∀ w, Base w → (∀ s ∈ st, w.heap[s.1]? = some (.cells s.2.1 s.2.2)) → (∀ (j : Nat) (e : Eff) (x : Nat × Array Value × TypeId), es'[j]? = some e → e.2 = some x → w.heap[x.1]? = some (.cells x.2.1 x.2.2)) → Q .normal (f rest.length) w) ∧
    (∀ (j : Nat) (e : Eff) (x s : Nat × Array Value × TypeId), es'[j]? = some e → e.2 = some x → s ∈ st → s.1 ≠ x.1) ∧ (∀ (j k : Nat) (e e' : Eff) (x y : Nat × Array Value × TypeId), j < k → es'[j]? = some e → es'[k]? = some e' → e.2 = some x → e'.2 = some y → x.1 ≠ y.1)
  | [], [], a, st, f, h, h0, _ => by
    refine ⟨fun w hw hs _ => ?_, fun j e x s he => by simp at he, fun j k e e' x y _ he => by simp at he⟩
    show Q .normal (f 0) w
    rw [h0]
    exact h w hw hs
  | [], _ :: _, _, _, _, h, _, _ => by simp [absFacts] at h
  | o :: rest, [], _, _, _, h, _, _ => by simp [absFacts] at h
  | o :: rest, e :: es', a, st, f, h, h0, hf => by
    obtain ⟨h1, h2, h3⟩ := h
    have hf0 : f 1 = a.put o.dst e.1 := by
      have := hf 0 o e rfl rfl
      rw [h0] at this
      exact this
    obtain ⟨g1, g2, g3⟩ := facts_end rest es' _ _ (fun j => f (j + 1)) h3 hf0 (fun j' o'' e'' ho' he' => hf (j' + 1) o'' e'' (by simpa using ho') (by simpa using he'))
    refine ⟨fun w hw hs he => ?_, fun j e' x s he' hx hs => ?_, fun j k e1 e2 x y hjk he1 he2 hx hy => ?_⟩
    · refine g1 w hw (fun s hs' => ?_) (fun j e' x he' hx => he (j + 1) e' x (by simpa using he') hx)
      rcases List.mem_append.1 hs' with h' | h'
      · exact he 0 e s rfl (by simpa using h')
      · exact hs s h'
    · cases j with
      | zero => simp at he'; subst he'; exact h2 s hs x hx
      | succ j => exact g2 j e' x s (by simpa using he') hx (List.mem_append_right _ hs)
    · cases k with
      | zero => omega
      | succ k =>
        cases j with
        | zero =>
          simp at he1; subst he1
          exact g2 k e2 y x (by simpa using he2) hy (List.mem_append_left _ (by simp [hx]))
        | succ j => exact g3 j k e1 e2 x y (by omega) (by simpa using he1) (by simpa using he2) hx hy

theorem foldP_none {F : Nat → Bool} : ∀ (l : List Nat) (a : Act), (∀ k ∈ l, F k = false) → foldP ops es F l a = a
  | [], _, _ => rfl
  | k :: l, a, h => by
    show foldP ops es F l (if F k = true then a.put (dstOf ops k) (valOf es k) else a) = a
    rw [h k (by simp)]
    exact foldP_none l a (fun k' hk' => h k' (by simp [hk']))

theorem filter_set {F G : Nat → Bool} {i : Nat} (hF : F i = false) (hG : G i = true) (hFG : ∀ k, k ≠ i → F k = G k) : ∀ (l : List Nat), l.Nodup → i ∈ l → (l.filter G).length = (l.filter F).length + 1
  | [], _, hi => by simp at hi
  | k :: l, hn, hi => by
    have hn' := List.nodup_cons.1 hn
    by_cases hk : k = i
    · subst hk
      have : l.filter G = l.filter F := List.filter_congr (fun k' hk' => (hFG k' (fun e => hn'.1 (e ▸ hk'))).symm)
      simp [hF, hG, this]
    · have hi' : i ∈ l := by
        rcases List.mem_cons.1 hi with h | h
        · exact absurd h.symm hk
        · exact h
      have ih := filter_set hF hG hFG l hn'.2 hi'
      rw [List.filter_cons, List.filter_cons, hFG k hk]
      split <;> simp [ih]

/-- **One walk in the order of the text serves every order.** -/
theorem wp_region_abs {id : Nat} {a0 : Act} {w0 : World} (hm : P.follows .mixedOrders = true) (hok : okRegion ops = true) (hB : ∀ w w', Base w → Below w.heap.size w w' → Base w')
    (h0 : Base { w0 with drawn := w0.drawn + 1 }) (h : absWalk P ops Base Q ops a0 []) : (Code.region id ops.toArray true).wp P Q a0 w0 := by
  obtain ⟨es, hl, hf⟩ := facts_of_walk ops a0 [] h
  have hsel : ∀ (j : Nat) (o : Oper) cs b, ops.toArray[j]? = some o → o.op ≠ .select cs b := fun j o cs b ho => by
    simp only [okRegion, Bool.and_eq_true] at hok
    exact Region.noSelect_spec hok.1 j o cs b ho
  -- the frames in the order of the text
  have hdis : ∀ i o, ops[i]? = some o → ∀ k, k ≠ i → ∀ d, dstOf ops i = some d → dstOf ops k ≠ some d := fun i o ho k hk d hd hkd => by
    have h1 := (okRegion_slots hok ho hkd).1 hk
    apply h1
    simpa [dstOf, ho] using hd
  have hlex : ∀ (j : Nat) (o : Oper) (e : Eff), ops[j]? = some o → es[j]? = some e → foldP ops es (fun k => decide (k < j + 1)) (List.range ops.length) a0 = (foldP ops es (fun k => decide (k < j)) (List.range ops.length) a0).put o.dst e.1 := fun j o e ho he => by
    have hj : j < ops.length := (List.getElem?_eq_some_iff.1 ho).1
    have := foldP_set (ops := ops) (es := es) (F := fun k => decide (k < j)) (G := fun k => decide (k < j + 1)) (i := j) (by simp) (by simp) (fun k hk => by
      have : (k < j) ↔ (k < j + 1) := by omega
      simp [this]) (List.range ops.length) a0 List.nodup_range (by simpa using hj) (fun k _ hk => hdis j o ho k hk)
    rw [← this]
    simp [dstOf, valOf, ho, he]
  have hlex0 : foldP ops es (fun k => decide (k < 0)) (List.range ops.length) a0 = a0 := foldP_none _ _ (fun k _ => by simp)
  have hat := facts_at ops es a0 [] (fun j => foldP ops es (fun k => decide (k < j)) (List.range ops.length) a0) hf hlex0 hlex
  obtain ⟨hend, _, hapart⟩ := facts_end ops es a0 [] (fun j => foldP ops es (fun k => decide (k < j)) (List.range ops.length) a0) hf hlex0 hlex
  -- whatever order
  have main : ∀ (fuel : Nat) (L : Array Bool) (w : World), L.size = ops.length → ops.length ≤ ((List.range ops.length).filter (fun k => L.getD k false)).length + fuel → Base w →
      (∀ (j : Nat) (e : Eff) (x : Nat × Array Value × TypeId), es[j]? = some e → e.2 = some x → L.getD j false = true → w.heap[x.1]? = some (.cells x.2.1 x.2.2)) →
      wpAny P .any ops.toArray Q fuel L (foldP ops es (fun k => L.getD k false) (List.range ops.length) a0) w := by
    have allDone : ∀ (L : Array Bool) (w : World), L.size = ops.length → Base w → (∀ (j : Nat) (e : Eff) (x : Nat × Array Value × TypeId), es[j]? = some e → e.2 = some x → L.getD j false = true → w.heap[x.1]? = some (.cells x.2.1 x.2.2)) →
        (∀ k, k < ops.length → L.getD k false = true) → Q .normal (foldP ops es (fun k => L.getD k false) (List.range ops.length) a0) w := fun L w hL hw hs hall => by
      have e1 : foldP ops es (fun k => L.getD k false) (List.range ops.length) a0 = foldP ops es (fun k => decide (k < ops.length)) (List.range ops.length) a0 :=
        foldP_congr _ _ (fun k hk => by
          have hk' : k < ops.length := by simpa using hk
          rw [hall k hk']; simp [hk'])
      rw [e1]
      refine hend w hw (fun s hs' => by simp at hs') (fun j e x he hx => hs j e x he hx (hall j ?_))
      have := (List.getElem?_eq_some_iff.1 he).1
      omega
    have fromReady : ∀ (L : Array Bool), L.size = ops.length → Region.ready .any ops.toArray L = [] → ∀ k, k < ops.length → L.getD k false = true := fun L hL hr k => by
      induction k using Nat.strongRecOn with
      | ind k ih =>
        intro hk
        cases hc : L.getD k false with
        | true => rfl
        | false =>
          exfalso
          have hmem : k ∈ Region.ready .any ops.toArray L := by
            rw [mem_ready]
            refine ⟨?_, ops[k], by simp, fun e he hb => ?_⟩
            · have : k < L.size := by omega
              simp [this] at hc ⊢
              exact hc
            · have hlt := okRegion_edges hok (i := k) (o := ops[k]) (by simp) e he hb
              exact ih e.on hlt (by omega)
          rw [hr] at hmem
          cases hmem
    intro fuel
    induction fuel with
    | zero =>
      intro L w hL hc hw hs
      have hfull : ∀ k, k < ops.length → L.getD k false = true := fun k hk => by
        have hle := List.length_filter_le (fun k => L.getD k false) (List.range ops.length)
        have heq : ((List.range ops.length).filter (fun k => L.getD k false)).length = (List.range ops.length).length := by simp at hle hc ⊢; omega
        have := List.length_filter_eq_length_iff.1 heq k (by simpa using hk)
        simpa using this
      refine ⟨?_, allDone L w hL hw hs hfull⟩
      rw [List.eq_nil_iff_forall_not_mem]
      intro k hk
      obtain ⟨h1, o, ho, _⟩ := mem_ready.1 hk
      have hk' : k < ops.length := by simpa using (Array.getElem?_eq_some_iff.1 ho).1
      have h2 := hfull k hk'
      have : k < L.size := by omega
      simp [this] at h1 h2
      rw [h2] at h1
      cases h1
    | succ fuel ih =>
      intro L w hL hc hw hs
      refine ⟨fun hr => allDone L w hL hw hs (fromReady L hL hr), fun i hi => ?_⟩
      obtain ⟨hun, o, ho', hwait⟩ := mem_ready.1 hi
      have ho : ops[i]? = some o := by simpa using ho'
      have hin : i < ops.length := (List.getElem?_eq_some_iff.1 ho).1
      have hiL : i < L.size := by omega
      have hunF : L.getD i false = false := by simp [hiL] at hun ⊢; exact hun
      obtain ⟨e, he⟩ : ∃ e, es[i]? = some e := ⟨es[i]'(by omega), by simp⟩
      have hsetG : (L.setIfInBounds i true).getD i false = true := by simp [hiL]
      have hsetFG : ∀ k, k ≠ i → L.getD k false = (L.setIfInBounds i true).getD k false := fun k hk => (getD_set_ne false (Ne.symm hk)).symm
      have hL' : (L.setIfInBounds i true).size = ops.length := by simp [hL]
      have hcnt : ops.length ≤ ((List.range ops.length).filter (fun k => (L.setIfInBounds i true).getD k false)).length + fuel := by
        rw [filter_set (F := fun k => L.getD k false) (G := fun k => (L.setIfInBounds i true).getD k false) hunF hsetG hsetFG _ List.nodup_range (by simpa using hin)]
        omega
      have hput : ∀ v, v = e.1 → (foldP ops es (fun k => L.getD k false) (List.range ops.length) a0).put o.dst v = foldP ops es (fun k => (L.setIfInBounds i true).getD k false) (List.range ops.length) a0 := fun v hv => by
        have := foldP_set (ops := ops) (es := es) (F := fun k => L.getD k false) (G := fun k => (L.setIfInBounds i true).getD k false) (i := i) hunF hsetG hsetFG (List.range ops.length) a0 List.nodup_range (by simpa using hin) (fun k _ hk => hdis i o ho k hk)
        rw [← this, hv]
        simp [dstOf, valOf, ho, he]
      -- the operation looks at what it looks at in the order of the text
      have hag : Ag ops o (foldP ops es (fun k => L.getD k false) (List.range ops.length) a0) (foldP ops es (fun k => decide (k < i)) (List.range ops.length) a0) :=
        foldP_ag _ _ _ (Ag.refl a0) (fun k _ d hd hlook => by
          obtain ⟨hki, e', he', hb', hon⟩ := (okRegion_slots hok ho hd).2 hlook
          have := hwait e' he' hb'
          rw [hon] at this
          rw [this]
          simp [hki])
      have hok' := hat i o e ho he
      unfold okEff at hok'
      unfold wpOp
      rw [ho']
      simp only []
      rw [hag.wanted]
      split
      · rename_i hwant
        rw [if_pos hwant] at hok'
        refine Or.inl ?_
        unfold Oper.wp
        rw [hag.exec (fun cs b => hsel i o cs b ho')]
        cases hx : e.2 with
        | none =>
          simp only [hx] at hok'
          have h1 := hok' w hw
          have hkeep : ∀ w'', Below w.heap.size w w'' → wpAny P .any ops.toArray Q fuel (L.setIfInBounds i true) ((foldP ops es (fun k => L.getD k false) (List.range ops.length) a0).put o.dst e.1) w'' := fun w'' hb => by
            rw [hput e.1 rfl]
            refine ih _ _ hL' hcnt (hB w w'' hw hb) (fun j e' x hj hx' hlj => ?_)
            have hji : j ≠ i := fun h' => by subst h'; rw [he] at hj; cases hj; rw [hx] at hx'; cases hx'
            have hold := hs j e' x hj hx' (by rw [hsetFG j hji]; exact hlj)
            have hblt : x.1 < w.heap.size := by
              rcases Nat.lt_or_ge x.1 w.heap.size with h' | h'
              · exact h'
              · rw [Array.getElem?_eq_none h'] at hold; cases hold
            rw [hb.block x.1 hblt]
            exact hold
          generalize (execOp (foldP ops es (fun k => decide (k < i)) (List.range ops.length) a0).eval o).run P w = res at h1
          cases res with
          | ok nx w' =>
            cases nx <;> simp only [absUpon] at h1 <;> simp only [Oper.upon]
            case value u => obtain ⟨rfl, rfl⟩ := h1; exact hkeep _ (Below.refl _ _)
            case skip => obtain ⟨h2, rfl⟩ := h1; rw [← h2]; exact hkeep _ (Below.refl _ _)
            case enter f args =>
              obtain ⟨rfl, h2⟩ := h1
              exact h2.mono fun en w'' ⟨hen, hb⟩ => by subst hen; exact hkeep _ hb
          | halt x w' => simp only [absUpon] at h1
        | some x =>
          simp only [hx] at hok'
          obtain ⟨hv, h1⟩ := hok'
          obtain ⟨w', hrun, hbase, hblk, hoth⟩ := h1 w hw
          rw [hrun]
          show wpAny P .any ops.toArray Q fuel (L.setIfInBounds i true) ((foldP ops es (fun k => L.getD k false) (List.range ops.length) a0).put o.dst undef) w'
          rw [hput undef hv.symm]
          refine ih _ _ hL' hcnt hbase (fun j e' y hj hy hlj => ?_)
          by_cases hji : j = i
          · subst hji; rw [he] at hj; cases hj; rw [hx] at hy; cases hy; exact hblk
          · have hold := hs j e' y hj hy (by rw [hsetFG j hji]; exact hlj)
            have hne : y.1 ≠ x.1 := by
              rcases Nat.lt_or_gt_of_ne hji with h' | h'
              · exact hapart j i e' e y x h' hj he hy hx
              · exact fun h'' => hapart i j e e' x y h' he hj hx hy h''.symm
            rw [hoth y.1 hne]
            exact hold
      · rename_i hwant
        rw [if_neg hwant] at hok'
        have hv : e.1 = undef := by rw [hok']
        have hn : e.2 = none := by rw [hok']
        rw [hput undef hv.symm]
        refine ih _ _ hL' hcnt hw (fun j e' y hj hy hlj => ?_)
        have hji : j ≠ i := fun h' => by subst h'; rw [he] at hj; cases hj; rw [hn] at hy; cases hy
        exact hs j e' y hj hy (by rw [hsetFG j hji]; exact hlj)
  refine wp_region_any hm ?_
  have hz : foldP ops es (fun k => (Array.replicate ops.length false).getD k false) (List.range ops.length) a0 = a0 := foldP_none _ _ (fun k _ => by
    simp [Array.getElem?_replicate]
    split <;> rfl)
  have := main ops.length (Array.replicate ops.length false) { w0 with drawn := w0.drawn + 1 } (by simp) (by omega) h0 (fun j e x hj hx hlj => by
    exfalso
    simp [Array.getElem?_replicate] at hlj
    split at hlj <;> simp at hlj)
  rw [hz] at this
  simpa using this

end
end Go.Proofs.Ytjbbgpacijageaa
