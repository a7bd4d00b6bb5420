/- Regions of a function, without worlds. No program is named here. -/
import Derived.Test.YtjbbgpacijageaaSym3
namespace Go.Proofs.Ytjbbgpacijageaa
open Go.RowKit
set_option linter.unusedVariables false
set_option linter.unusedSimpArgs false

/-- Does a piece fit a type? -/
def fits (T : Tab) (t : TypeId) (v : LV) (l : List Seg) : Bool :=
  match tyL T.ty t with
  | some .sc => match v with | .v _ => Nat.beq (sz l) 1 | .a _ => false
  | some (.ag n) => match v with | .a _ => Nat.beq (sz l) n | .v _ => false
  | none => false

def sop (P : Program) (T : Tab) (w0 : World) (o : Oper) (f : Fr) (σ : St) (k : SV → St → Prop) : Prop :=
  match o.op with
  | .box t x => match evS f x with
    | some (.l v) => match v.segs with | some l => withLen σ (fun n => forceS (σ ++ [(l, t)]) (fun σ' => k (.ptr n 0) σ')) | none => False
    | _ => False
  | .alloc t => match zeL T.ze t with | some l => withLen σ (fun n => forceS (σ ++ [(l, t)]) (fun σ' => k (.ptr n 0) σ')) | none => False
  | .buildSlice t len parts => match partsV f parts.toList with
    | some vs => ∃ (l : List Seg) (e : TypeId), (∀ x : World, (Instr.buildSlice t len vs.toArray).run P x = .ok (.slice (some ⟨x.heap.size, 0, none⟩) len len) (x.alloc (.cells (cat l) e))) ∧ withLen σ (fun n => forceS (σ ++ [(l, e)]) (fun σ' => k (.slc n len len) σ'))
    | none => False
  | .store t x y => match evS f x with
    | some (.ptr i off) => match evS f y with
      | some (.l v) => match v.segs with
        | some l => match fits T t v l with
          | true => match nth σ i with
            | some b => match putS b.1 off l with | some l' => forceS (setN σ i l') (fun σ' => k (.l (.v undef)) σ') | none => False
            | none => False
          | false => False
        | none => False
      | _ => False
    | some (.pix i off j) => match evS f y with
      | some (.l (.v (.int .i64 z))) => match tyL T.ty t with
        | some .sc => match nth σ i with
          | some b => match memPut b.1 off j z with | some l' => j < 32 ∧ forceS (setN σ i l') (fun σ' => k (.l (.v undef)) σ') | none => False
          | none => False
        | _ => False
      | _ => False
    | _ => False
  | _ => sval P T w0 [] o f σ (fun s => k s σ)

section
variable {P : Program} {T : Tab} {w0 : World} {N : Nat}

theorem putS_size {l new r : List Seg} {off : Nat} (h : putS l off new = some r) : sz r = sz l := by
  obtain ⟨h1, h2⟩ := putS_sound _ _ _ _ h
  have := congrArg List.length h1
  simp only [List.length_append, List.length_take, List.length_drop, cl_length] at this
  omega
theorem memPut_size {l r : List Seg} {off k : Nat} {z : Int} (h : memPut l off k z = some r) (hk : k < 32) : sz r = sz l := by
  obtain ⟨h1, h2⟩ := memPut_sound _ _ _ _ _ h hk
  have := congrArg List.length h1
  simpa only [List.length_set, cl_length] using this

theorem store_runC (hT : TabOk P T) {t u : TypeId} {v : LV} {l : List Seg} {C : Array Value} (hv : v.segs = some l) (hfit : fits T t v l = true) {off : Nat} (hle : off + sz l ≤ C.size) {x : World} {b : Nat} (hB : HB x b C u) :
    (storeVar t ⟨b, off, none⟩ v.val).run P x = .ok () (putB x b (sets C off (cat l).toList)) := by
  unfold fits at hfit
  split at hfit
  · rename_i ht
    split at hfit
    · rename_i y
      have hz := Nat.eq_of_beq_eq_true hfit
      have hcells := LV.segs_cells hv
      have hone : ∃ q, cat l = #[q] := by
        have : (cat l).size = 1 := by rw [cat_size, hz]
        exact ⟨(cat l)[0], by
          apply Array.ext
          · simp [this]
          · intro i h1 h2
            have : i = 0 := by simp at h2; exact h2
            subst this; rfl⟩
      obtain ⟨q, hq⟩ := hone
      have hy : y.cells = #[y] ∧ y = q := by
        rw [hq] at hcells
        have hc1 := cat_one l
        rw [hq] at hc1
        cases y with
        | agg cs =>
          have h0 : LV.segs (.v (.agg cs)) = none := rfl
          rw [h0] at hv
          cases hv
        | _ => exact ⟨rfl, by simpa [LV.val, Value.cells] using hcells⟩
      obtain ⟨hy1, hy2⟩ := hy
      have h1 : y.oneCell' = true := by
        have := cat_one l
        rw [hq, ← hy2] at this
        simpa using this
      have := storeVar_one hB (scB_size (hT.sc ht)) (k := off) (by omega) hy1 h1
      show (storeVar t ⟨b, off, none⟩ y).run P x = _
      rw [this, hq, ← hy2]
      rfl
    · cases hfit
  · rename_i n ht
    split at hfit
    · rename_i q
      have hz := Nat.eq_of_beq_eq_true hfit
      cases hv
      have := storeVar_blk hB (hT.ag ht) off (cat l) (by rw [cat_size, hz]) (by omega) (cat_one l)
      show (storeVar t ⟨b, off, none⟩ (.agg (cat l))).run P x = _
      rw [this]
    · cases hfit
  · cases hfit

theorem store_run (hT : TabOk P T) {t u : TypeId} {v : LV} {l c c' : List Seg} (hv : v.segs = some l) (hfit : fits T t v l = true) {off : Nat} (hp : putS c off l = some c') {x : World} {b : Nat} (hB : HB x b (cat c) u) :
    (storeVar t ⟨b, off, none⟩ v.val).run P x = .ok () (putB x b (cat c')) := by
  rw [store_runC hT hv hfit (by rw [cat_size]; exact (putS_sound _ _ _ _ hp).2) hB, putS_cat hp]

theorem mem_store_run (hT : TabOk P T) {t u : TypeId} {c c' : List Seg} {off j : Nat} {z : Int} (ht : tyL T.ty t = some .sc) (hp : memPut c off j z = some c') (hj : j < 32) {x : World} {b : Nat} (hB : HB x b (cat c) u) :
    (storeVar t ⟨b, off + j, none⟩ (.int .i64 z)).run P x = .ok () (putB x b (cat c')) := by
  obtain ⟨_, hle⟩ := memPut_sound _ _ _ _ _ hp hj
  rw [storeVar_one hB (scB_size (hT.sc ht)) (k := off + j) (by rw [cat_size]; exact hle) rfl rfl, memPut_cat hp hj]

theorem upon_of_abs {o : Oper} {a : Act} {x : World} {v : Value} {next : Act → World → Prop} {Q : Exit → Act → World → Prop} {r : Result Next} (h : absUpon P x v r) (hn : ∀ x', Below x.heap.size x x' → next (a.put o.dst v) x') : o.upon P a next Q r := by
  cases r with
  | ok nx w' =>
    cases nx with
    | value u => obtain ⟨rfl, rfl⟩ := h; exact hn _ (Below.refl _ _)
    | skip => obtain ⟨rfl, rfl⟩ := h; exact hn _ (Below.refl _ _)
    | enter g args =>
      obtain ⟨rfl, hc⟩ := h
      refine hc.mono fun e w'' he => ?_
      obtain ⟨rfl, hb⟩ := he
      exact hn _ hb
    | _ => exact h.elim
  | halt => exact h.elim

theorem zero_run (hT : TabOk P T) {t : TypeId} {l : List Seg} (h : zeL T.ze t = some l) (x : World) : ∃ v : Value, (zeroValue t).run P x = .ok v x ∧ v.cells = cat l := by
  have hz := hT.ze _ (zeL_mem _ _ _ h)
  unfold zeroIs at hz
  cases hi : P.info? t with
  | none => rw [hi] at hz; simp at hz
  | some i =>
    cases hv : i.zero with
    | none => rw [hi] at hz; simp [hv] at hz
    | some v =>
      refine ⟨v, ?_, by simpa [hi, hv] using hz⟩
      unfold zeroValue
      simp [typeInfo, hi, hv]

theorem sop_sound (hT : TabOk P T) {o : Oper} {f : Fr} {σ : St} {k : SV → St → Prop} (h : sop P T w0 o f σ k) {A : Nat → Nat} {x : World} {a : Act} (hr : Real w0 [] σ A x) (hf : FR N σ.length A f a) {next : Act → World → Prop} {Q : Exit → Act → World → Prop}
    (hn : ∀ s σ' A' x', k s σ' → Real w0 [] σ' A' x' → FR N σ'.length A' f a → s.ok σ'.length → next (a.put o.dst (s.val A')) x') : o.wp P a x next Q := by
  have fresh : ∀ (l : List Seg) (t : TypeId) (v : Value), v.cells = cat l → k (.ptr σ.length 0) (σ ++ [(l, t)]) → next (a.put o.dst (.pointer (some ⟨x.heap.size, 0, none⟩))) (x.alloc (.cells v.cells t)) := fun l t v hv hk => by
    have hF := hf.newA (b := x.heap.size)
    have := hn _ _ (newA A σ.length x.heap.size) (x.alloc (.cells (cat l) t)) hk (hr.new l t) (by rw [List.length_append]; exact hF) (by simp [SV.ok])
    rw [show SV.val (newA A σ.length x.heap.size) (.ptr σ.length 0) = .pointer (some ⟨x.heap.size, 0, none⟩) from by simp only [SV.val, newA_new]] at this
    rw [hv]
    exact this
  unfold sop at h
  split at h
  · rename_i t y ho
    split at h
    · rename_i v hv
      split at h
      · rename_i l hl
        have h1 := (evS_sound hf hv).1
        unfold Oper.wp execOp
        simp only [ho, h1, Instr.box, newVar, newRow, Sem.run_bind, Sem.run_pure, Result.andThen_ok, run_newObj_alloc, Oper.upon]
        exact fresh l t _ (LV.segs_cells hl) (forceS_elim _ _ (withLen_elim _ _ h))
      · exact h.elim
    · exact h.elim
  · rename_i t ho
    split at h
    · rename_i l hl
      obtain ⟨v, hv, hc⟩ := zero_run hT hl x
      unfold Oper.wp execOp
      simp only [ho, Instr.alloc, newVar, newRow, Sem.run_bind, Sem.run_pure, hv, Result.andThen_ok, run_newObj_alloc, Oper.upon]
      exact fresh l t _ hc (forceS_elim _ _ (withLen_elim _ _ h))
    · exact h.elim
  · rename_i t len parts ho
    split at h
    · rename_i vs hvs
      obtain ⟨l, e, hl, hk0⟩ := h
      have hk := forceS_elim _ _ (withLen_elim _ _ hk0)
      have ha := partsV_sound hf _ _ hvs
      have hp : (parts.map fun e => (e.1, a.eval e.2)) = vs.toArray := by
        apply Array.toList_inj.1
        rw [Array.toList_map, ha]
      have hF := hf.newA (b := x.heap.size)
      have := hn _ _ (newA A σ.length x.heap.size) (x.alloc (.cells (cat l) e)) hk (hr.new l e) (by rw [List.length_append]; exact hF) (by simp [SV.ok])
      rw [show SV.val (newA A σ.length x.heap.size) (.slc σ.length len len) = .slice (some ⟨x.heap.size, 0, none⟩) len len from by simp only [SV.val, newA_new]] at this
      unfold Oper.wp execOp
      simp only [ho, Sem.run_bind]
      rw [show (parts.map fun (i, x) => (i, a.eval x)) = vs.toArray from hp, hl]
      exact this
    · exact h.elim
  · rename_i t y z ho
    split at h
    · rename_i i off hy
      split at h
      · rename_i v hz
        split at h
        · rename_i l hl
          split at h
          · rename_i hfit
            split at h
            · rename_i b hb
              split at h
              · rename_i l' hp
                rw [nth_eq] at hb
                have hB := hr.blk i b.1 b.2 hb rfl
                have h1 := (evS_sound hf hy).1
                have h2 := (evS_sound hf hz).1
                unfold Oper.wp execOp
                simp only [ho, h1, h2, SV.val, Instr.storeAt, Instr.sureAddr, Sem.run_bind, Sem.run_pure, Result.andThen_ok, store_run hT hl hfit hp hB, Oper.upon]
                exact hn _ _ A _ (forceS_elim _ _ h) (hr.put hb (putS_size hp)) (by rw [setN_len]; exact hf) trivial
              · exact h.elim
            · exact h.elim
          · exact h.elim
        · exact h.elim
      · exact h.elim
    · rename_i i off j hy
      split at h
      · rename_i q hz
        split at h
        · rename_i ht
          split at h
          · rename_i b hb
            split at h
            · rename_i l' hp
              obtain ⟨hj, hk⟩ := h
              rw [nth_eq] at hb
              have hB := hr.blk i b.1 b.2 hb rfl
              have h1 := (evS_sound hf hy).1
              have h2 := (evS_sound hf hz).1
              unfold Oper.wp execOp
              simp only [ho, h1, h2, SV.val, LV.val, Instr.storeAt, Instr.sureAddr, Sem.run_bind, Sem.run_pure, Result.andThen_ok, mem_store_run hT ht hp hj hB, Oper.upon]
              exact hn _ _ A _ (forceS_elim _ _ hk) (hr.put hb (memPut_size hp hj)) (by rw [setN_len]; exact hf) trivial
            · exact h.elim
          · exact h.elim
        · exact h.elim
      · exact h.elim
    · exact h.elim
  · obtain ⟨s, hk, hs, hx⟩ := sval_sound hT h ⟨A, x, a, hr, hf⟩
    exact upon_of_abs (hx A x a hr hf) fun x' hb => hn s σ A x' hk (hr.up hb) hf hs

/-- The frame behind an operation. -/
def putF (N : Nat) (d : Option Tmp) (s : SV) (f : Fr) (k : Fr → Prop) : Prop :=
  match d with
  | some d => match Nat.ble (d + 1) N with | true => k ((d, s) :: f) | false => False
  | none => k f
theorem putF_sound {d : Option Tmp} {s : SV} {f : Fr} {k : Fr → Prop} (h : putF N d s f k) {n : Nat} {A : Nat → Nat} {a : Act} (hf : FR N n A f a) (hs : s.ok n) : ∃ f', k f' ∧ FR N n A f' (a.put d (s.val A)) := by
  unfold putF at h
  split at h
  · split at h
    · rename_i hd
      exact ⟨_, h, hf.put (Nat.le_of_ble_eq_true hd) hs⟩
    · exact h.elim
  · exact ⟨f, h, hf⟩

/-- Is it wanted? -/
def guardS (ops : Array Oper) (g : Option (Nat × Bool)) (f : Fr) (yes no : Prop) : Prop :=
  match g with
  | none => yes
  | some (j, want) => match (ops[j]?).bind (·.dst) with
    | some t => match look f t with
      | some (.l (.v (.bool b))) => (match b, want with | true, true => yes | false, false => yes | _, _ => no)
      | some (.l (.v (.tuple _))) => no
      | _ => False
    | none => False
theorem guard_sound {ops : Array Oper} {o : Oper} {f : Fr} {yes no : Prop} (h : guardS ops o.guard f yes no) {n : Nat} {A : Nat → Nat} {a : Act} (hf : FR N n A f a) :
    (Region.wanted o (yielded ops a.tmps) = true ∧ yes) ∨ (Region.wanted o (yielded ops a.tmps) = false ∧ no) := by
  unfold guardS at h
  split at h
  · rename_i hg
    exact Or.inl ⟨by unfold Region.wanted; rw [hg], h⟩
  · rename_i j want hg
    split at h
    · rename_i t ht
      split at h
      · rename_i b hb
        have h1 := (hf.get t _ hb).1
        have hy : yielded ops a.tmps j = some b := by unfold yielded; rw [ht]; simp [h1, SV.val, LV.val]
        have hw : Region.wanted o (yielded ops a.tmps) = (b == want) := by
          unfold Region.wanted
          rw [hg]
          simp [hy]
        rw [hw]
        cases b <;> cases want <;> simp_all
      · rename_i q hb
        have h1 := (hf.get t _ hb).1
        have hy : yielded ops a.tmps j = none := by unfold yielded; rw [ht]; simp [h1, SV.val, LV.val]
        refine Or.inr ⟨?_, h⟩
        unfold Region.wanted
        rw [hg]
        simp [hy]
      · exact h.elim
    · exact h.elim

def sops (P : Program) (T : Tab) (w0 : World) (N : Nat) (ops : Array Oper) : List Oper → (Fr → St → Prop) → Fr → St → Prop
  | [], K, f, σ => K f σ
  | o :: r, K, f, σ => guardS ops o.guard f (sop P T w0 o f σ (fun s σ' => putF N o.dst s f (fun f' => sops P T w0 N ops r K f' σ'))) (putF N o.dst (.l (.v undef)) f (fun f' => sops P T w0 N ops r K f' σ))

/-- The worlds and frames that belong to what K holds. -/
def Sat (w0 : World) (N : Nat) (K : Fr → St → Prop) (a : Act) (x : World) : Prop := ∃ f σ A, K f σ ∧ Real w0 [] σ A x ∧ FR N σ.length A f a

theorem sops_sound (hT : TabOk P T) {ops : Array Oper} {Q : Exit → Act → World → Prop} {K : Fr → St → Prop} (hQ : ∀ a x, Sat w0 N K a x → Q .normal a x) : ∀ (l : List Oper) (f : Fr) (σ : St) (A : Nat → Nat) (a : Act) (x : World), sops P T w0 N ops l K f σ → Real w0 [] σ A x → FR N σ.length A f a → wpList P ops Q l a x
  | [], f, σ, A, a, x, h, hr, hf => hQ a x ⟨f, σ, A, h, hr, hf⟩
  | o :: r, f, σ, A, a, x, h, hr, hf => by
    unfold sops at h
    unfold wpList
    rcases guard_sound h hf with ⟨hw, hy⟩ | ⟨hw, hno⟩
    · rw [if_pos hw]
      refine Or.inl (sop_sound hT hy hr hf fun s σ' A' x' hk hr' hf' hs => ?_)
      obtain ⟨f', hk', hf''⟩ := putF_sound hk hf' hs
      exact sops_sound hT hQ r f' σ' A' _ x' hk' hr' hf''
    · rw [if_neg (by rw [hw]; exact Bool.false_ne_true)]
      obtain ⟨f', hk', hf''⟩ := putF_sound hno hf trivial
      exact sops_sound hT hQ r f' σ A _ x hk' hr hf''

end
end Go.Proofs.Ytjbbgpacijageaa
