/- One walk in the order of the text serves every order. No program is named here. -/
import Derived.Test.YtjbbgpacijageaaT11
namespace Go.Proofs.Ytjbbgpacijageaa.M
open Go.RowKit
set_option linter.unusedVariables false
set_option linter.unusedSimpArgs false

section
variable {P : Program} {w0 : World} {F0 : Old} {N : Nat} {ops : List Oper}

theorem meet_of {a b : List Nat} {x : Nat} (ha : x ∈ a) (hb : x ∈ b) : meet a b = true := by
  induction a with
  | nil => cases ha
  | cons y r ih =>
    unfold meet
    rcases List.mem_cons.1 ha with rfl | ha
    · simp [hb]
    · rw [ih ha]; simp

variable (t : Tr P w0 F0 N ops)
def Tr.wr (k b : Nat) : Prop := b ∈ efW (t.b k).length (t.o k).ef
def Tr.isNew (k : Nat) : Prop := ∃ y, (t.o k).ef = .new y

variable {t}
section
variable (hAt : ∀ i o, ops[i]? = some o → t.At i o) (hlog : okLog ops ((List.range ops.length).map t.lg) = true) (hcr : okCr ((List.range ops.length).map t.lg) = true)
include hAt
theorem at_of {i : Nat} (hi : i < ops.length) : ∃ o, ops[i]? = some o ∧ t.At i o := ⟨ops[i], by simp [hi], hAt i _ (by simp [hi])⟩
theorem blk_same {i b : Nat} (hi : i < ops.length) (hb : ¬ t.wr i b) : (t.b (i + 1))[b]? = (t.b i)[b]? := by
  obtain ⟨o, _, ha⟩ := at_of hAt hi
  rw [ha.bl]
  unfold Tr.wr at hb
  cases hef : (t.o i).ef with
  | none => rfl
  | set j y =>
    rw [hef] at hb
    simp only [efW, List.mem_singleton] at hb
    simp only [efB, List.getElem?_set]
    rw [if_neg (Ne.symm hb)]
  | new y =>
    rw [hef] at hb
    simp only [efW, List.mem_singleton] at hb
    simp only [efB]
    rw [List.getElem?_append]
    split
    · rfl
    · rename_i hlt
      rw [List.getElem?_eq_none (by simp; omega), List.getElem?_eq_none (by omega)]
theorem len_step {i : Nat} (hi : i < ops.length) : ((t.b (i + 1)).length = (t.b i).length + 1 ∧ t.isNew i) ∨ ((t.b (i + 1)).length = (t.b i).length ∧ ¬ t.isNew i) := by
  obtain ⟨o, _, ha⟩ := at_of hAt hi
  rw [ha.bl]
  unfold Tr.isNew
  cases hef : (t.o i).ef with
  | none => exact Or.inr ⟨rfl, fun ⟨y, hy⟩ => by cases hy⟩
  | set j y => exact Or.inr ⟨by simp [efB], fun ⟨y, hy⟩ => by cases hy⟩
  | new y => exact Or.inl ⟨by simp [efB], y, rfl⟩
theorem len_mono {i j : Nat} (hij : i ≤ j) (hj : j ≤ ops.length) : (t.b i).length ≤ (t.b j).length := by
  induction j with
  | zero => have : i = 0 := by omega
            subst this; exact Nat.le_refl _
  | succ j ih =>
    by_cases h : i = j + 1
    · subst h; exact Nat.le_refl _
    · have := ih (by omega) (by omega)
      rcases len_step hAt (i := j) (by omega) with ⟨h1, _⟩ | ⟨h1, _⟩ <;> omega
theorem made {b : Nat} : ∀ i, i ≤ ops.length → b < (t.b i).length → b < (t.b 0).length ∨ ∃ k, k < i ∧ t.isNew k ∧ b = (t.b k).length
  | 0, _, h => Or.inl h
  | i + 1, hi, h => by
    by_cases hb : b < (t.b i).length
    · rcases made i (by omega) hb with h1 | ⟨k, h1, h2⟩
      · exact Or.inl h1
      · exact Or.inr ⟨k, by omega, h2⟩
    · rcases len_step hAt (i := i) (by omega) with ⟨h1, h2⟩ | ⟨h1, _⟩
      · exact Or.inr ⟨i, by omega, h2, by omega⟩
      · omega
theorem lastw (b : Nat) : ∀ i, i ≤ ops.length → (∃ k, k < i ∧ t.wr k b ∧ (∀ k', k' < i → t.wr k' b → k' ≤ k) ∧ (t.b (k + 1))[b]? = (t.b i)[b]?) ∨ ((∀ k, k < i → ¬ t.wr k b) ∧ (t.b 0)[b]? = (t.b i)[b]?)
  | 0, _ => Or.inr ⟨fun k hk => by omega, rfl⟩
  | i + 1, hi => by
    by_cases hw : t.wr i b
    · exact Or.inl ⟨i, by omega, hw, fun k' hk' _ => by omega, rfl⟩
    · have hs := blk_same hAt (i := i) (by omega) hw
      rcases lastw b i (by omega) with ⟨k, h1, h2, h3, h4⟩ | ⟨h1, h2⟩
      · refine Or.inl ⟨k, by omega, h2, fun k' hk' hw' => ?_, by rw [hs]; exact h4⟩
        by_cases hk : k' = i
        · subst hk; exact absurd hw' hw
        · exact h3 k' (by omega) hw'
      · refine Or.inr ⟨fun k hk hw' => ?_, by rw [hs]; exact h2⟩
        by_cases hk' : k = i
        · subst hk'; exact hw hw'
        · exact h1 k (by omega) hw'
theorem names (n : Nat) : ∀ i, i ≤ ops.length → (n < t.n i ↔ n < t.n 0 ∨ ∃ k, k < i ∧ t.n k ≤ n ∧ n < t.n k + (t.o k).m)
  | 0, _ => ⟨Or.inl, fun h => by
      rcases h with h | ⟨k, hk, _⟩
      · exact h
      · omega⟩
  | i + 1, hi => by
    obtain ⟨o, _, ha⟩ := at_of hAt (i := i) (by omega)
    rw [ha.nn]
    have ih := names n i (by omega)
    constructor
    · intro h
      by_cases hn : n < t.n i
      · rcases ih.1 hn with h1 | ⟨k, h1, h2⟩
        · exact Or.inl h1
        · exact Or.inr ⟨k, by omega, h2⟩
      · exact Or.inr ⟨i, by omega, by omega, h⟩
    · intro h
      rcases h with h | ⟨k, h1, h2, h3⟩
      · have := ih.2 (Or.inl h); omega
      · by_cases hk : k = i
        · subst hk; omega
        · have := ih.2 (Or.inr ⟨k, by omega, h2, h3⟩); omega
theorem slots (hok : okRegion ops = true) (u : Nat) : ∀ i, i ≤ ops.length → (∃ k, k < i ∧ dstOf ops k = some u ∧ look (t.f i) u = some (t.o k).r) ∨ ((∀ k, k < i → dstOf ops k ≠ some u) ∧ look (t.f i) u = look (t.f 0) u)
  | 0, _ => Or.inr ⟨fun k hk => by omega, rfl⟩
  | i + 1, hi => by
    obtain ⟨o, ho, ha⟩ := at_of hAt (i := i) (by omega)
    have hd : dstOf ops i = o.dst := by simp [dstOf, ho]
    by_cases hu : o.dst = some u
    · exact Or.inl ⟨i, by omega, by rw [hd]; exact hu, by rw [ha.look, if_pos hu]⟩
    · rcases slots hok u i (by omega) with ⟨k, h1, h2, h3⟩ | ⟨h1, h2⟩
      · exact Or.inl ⟨k, by omega, h2, by rw [ha.look, if_neg hu]; exact h3⟩
      · refine Or.inr ⟨fun k hk hk' => ?_, by rw [ha.look, if_neg hu]; exact h2⟩
        by_cases hki : k = i
        · subst hki; rw [hd] at hk'; exact hu hk'
        · exact h1 k (by omega) hk'
end

theorem log_waits (hlog : okLog ops ((List.range ops.length).map t.lg) = true) {i j : Nat} (hij : i < j) (hj : j < ops.length) (hc : clash (t.lg i) (t.lg j) = true) : waitsT ops ops.length j i = true := by
  simp only [okLog, List.all_eq_true, List.mem_range, List.length_map, List.length_range] at hlog
  have h1 := hlog j hj i hij
  have hi : i < ops.length := by omega
  simp only [List.getElem?_map, List.getElem?_range hi, List.getElem?_range hj, Option.map_some, Bool.or_eq_true, Bool.not_eq_true'] at h1
  rcases h1 with h1 | h1
  · rw [hc] at h1; cases h1
  · exact h1
theorem cr_q (hcr : okCr ((List.range ops.length).map t.lg) = true) {i : Nat} (hi : i < ops.length) (h : (t.o i).cr = true) : (t.o i).q = true := by
  simp only [okCr, List.all_eq_true, List.mem_map, List.mem_range] at hcr
  have := hcr (t.lg i) ⟨i, hi, rfl⟩
  simp only [Tr.lg, h, Bool.not_true, Bool.false_or] at this
  exact this

/-- What a block holds, when D is done. -/
def Cont (t : Tr P w0 F0 N ops) (D : Nat → Bool) (b : Nat) (v : V) : Prop :=
  (∃ k, k < ops.length ∧ D k = true ∧ t.wr k b ∧ (∀ k', k' < ops.length → D k' = true → t.wr k' b → k' ≤ k) ∧ (t.b (k + 1))[b]? = some v) ∨ ((∀ k, k < ops.length → D k = true → ¬ t.wr k b) ∧ (t.b 0)[b]? = some v)

structure DInv (t : Tr P w0 F0 N ops) (tk : List (Hd × Nat)) (D : Nat → Bool) (a : Act) (c : Cx) : Prop where
  wf : c.Wf w0 F0
  tok : Toks w0 c tk
  XA : ∀ b, c.XA b ↔ (b < (t.b 0).length ∨ ∃ k, k < ops.length ∧ D k = true ∧ t.isNew k ∧ b = (t.b k).length)
  XB : ∀ n, c.XB n ↔ (n < t.n 0 ∨ ∃ k, k < ops.length ∧ D k = true ∧ t.n k ≤ n ∧ n < t.n k + (t.o k).m)
  blk : ∀ b v, c.XA b → Cont t D b v → c.ty b = some v.ty ∧ (∃ e, HB c.x (c.E.A b) (v.cells c.E.B).toArray e) ∧ v.okc c
  size : a.tmps.size = N
  defers : a.defers = []
  done : ∀ k u, k < ops.length → D k = true → dstOf ops k = some u → a.tmps[u]? = some ((t.o k).r.val c.E) ∧ (t.o k).r.ok c
  init : ∀ u s, (∀ k, k < ops.length → D k = true → dstOf ops k ≠ some u) → look (t.f 0) u = some s → a.tmps[u]? = some (s.val c.E) ∧ s.ok c

theorem dinv_slot (hAt : ∀ i o, ops[i]? = some o → t.At i o) (hok : okRegion ops = true) {tk : List (Hd × Nat)} {D : Nat → Bool} {a : Act} {c : Cx} (h : DInv t tk D a c) {i : Nat} {o : Oper} (ho : ops[i]? = some o) (hadm : Adm ops i D) {u : Nat} (hu : u ∈ o.looksAt ops.toArray) {s : SV} (hs : look (t.f i) u = some s) : a.tmps[u]? = some (s.val c.E) ∧ s.ok c := by
  have hi : i < ops.length := lt_of_get ho
  rcases slots hAt hok u i (by omega) with ⟨k, h1, h2, h3⟩ | ⟨h1, h2⟩
  · rw [h3] at hs
    cases hs
    refine h.done k u (by omega) (hadm.ahead k ?_) h2
    rcases (ok_slots hok ho h2).2 hu with h4 | ⟨_, h4⟩ | ⟨h4, _⟩
    · omega
    · exact h4
    · omega
  · rw [h2] at hs
    refine h.init u s (fun k hk hD hd => ?_) hs
    rcases (ok_slots hok ho hd).2 hu with h4 | ⟨h4, _⟩ | ⟨_, h4⟩
    · subst h4; rw [hadm.un] at hD; cases hD
    · exact h1 k h4 hd
    · rw [hadm.behind k h4] at hD; cases hD

theorem dinv_touch (hlog : okLog ops ((List.range ops.length).map t.lg) = true) {D : Nat → Bool} {i : Nat} (hi : i < ops.length) (hadm : Adm ops i D) {b : Nat} (hb : b ∈ (t.lg i).t) {k : Nat} (hk : k < ops.length) (hw : t.wr k b) : (k < i → D k = true) ∧ (D k = true → k < i) := by
  have hwt : b ∈ (t.lg k).w := hw
  have hww : b ∈ (t.lg k).t := List.mem_append.2 (Or.inr hw)
  refine ⟨fun hlt => hadm.aheadT (log_waits hlog hlt hi ?_), fun hD => ?_⟩
  · unfold clash; rw [meet_of hwt hb]; simp
  · rcases Nat.lt_trichotomy k i with h | h | h
    · exact h
    · subst h; rw [hadm.un] at hD; cases hD
    · exfalso
      have := hadm.behindT (log_waits hlog h hk (by unfold clash; rw [meet_of hb hwt]; simp))
      rw [this] at hD; cases hD

theorem dinv_cont (hAt : ∀ i o, ops[i]? = some o → t.At i o) (hlog : okLog ops ((List.range ops.length).map t.lg) = true) {D : Nat → Bool} {i : Nat} (hi : i < ops.length) (hadm : Adm ops i D) {b : Nat} (hb : b ∈ (t.lg i).t) {v : V} (hv : (t.b i)[b]? = some v) : Cont t D b v := by
  rcases lastw hAt b i (by omega) with ⟨k, h1, h2, h3, h4⟩ | ⟨h1, h2⟩
  · have hk : k < ops.length := by omega
    refine Or.inl ⟨k, hk, (dinv_touch hlog hi hadm hb hk h2).1 h1, h2, fun k' hk' hD' hw' => h3 k' ((dinv_touch hlog hi hadm hb hk' hw').2 hD') hw', by rw [h4]; exact hv⟩
  · exact Or.inr ⟨fun k hk hD hw => h1 k ((dinv_touch hlog hi hadm hb hk hw).2 hD) hw, by rw [h2]; exact hv⟩

theorem dinv_step (hAt : ∀ i o, ops[i]? = some o → t.At i o) (hok : okRegion ops = true) (hlog : okLog ops ((List.range ops.length).map t.lg) = true) {tk : List (Hd × Nat)} {D : Nat → Bool} {a : Act} {c : Cx} (h : DInv t tk D a c) {i : Nat} {o : Oper} (ho : ops[i]? = some o) (hadm : Adm ops i D) {v : Value} {x' : World} {E : Env}
    (hp : Post w0 F0 c (t.o i) (t.b i).length (t.n i) v x' E) : DInv t tk (setD D i) (a.put o.dst v) (c.ext (t.o i) (t.b i).length (t.n i) E x') := by
  have hi : i < ops.length := lt_of_get ho
  have ha := hAt i o ho
  have hdst : dstOf ops i = o.dst := by simp [dstOf, ho]
  have hnew : (∃ y, (t.o i).ef = .new y) → ¬ c.XA (t.b i).length := fun hn hx => by
    rcases (h.XA _).1 hx with h1 | ⟨k, hk, hD, hnk, hb⟩
    · have := len_mono hAt (i := 0) (j := i) (by omega) (by omega); omega
    · have hki : k ≠ i := fun e => by subst e; rw [hadm.un] at hD; cases hD
      rcases Nat.lt_or_gt_of_ne hki with hlt | hlt
      · have h1 := len_mono hAt (i := k + 1) (j := i) (by omega) (by omega)
        rcases len_step hAt (i := k) hk with ⟨h2, _⟩ | ⟨_, h2⟩
        · omega
        · exact h2 hnk
      · have h1 := len_mono hAt (i := i + 1) (j := k) (by omega) (by omega)
        rcases len_step hAt (i := i) hi with ⟨h2, _⟩ | ⟨_, h2⟩
        · omega
        · exact h2 hn
  have hle := hp.le h.wf hnew
  have hwf := hp.wf h.wf hnew
  have hDi : setD D i i = true := by simp [setD]
  have hDk : ∀ k, D k = true → setD D i k = true := fun k hk => by simp [setD, hk]
  have hDk' : ∀ k, setD D i k = true → k = i ∨ D k = true := fun k hk => by simpa [setD] using hk
  refine ⟨hwf, h.tok.step h.wf hnew hp, fun b => ?_, fun n => ?_, fun b u hx hcont => ?_, ?_, ?_, fun k u hk hD hd => ?_, fun u s hno hs => ?_⟩
  · show (c.XA b ∨ (b = (t.b i).length ∧ ∃ y, (t.o i).ef = .new y)) ↔ _
    rw [h.XA]
    constructor
    · rintro ((h1 | ⟨k, h1, h2, h3⟩) | ⟨h1, h2⟩)
      · exact Or.inl h1
      · exact Or.inr ⟨k, h1, hDk k h2, h3⟩
      · exact Or.inr ⟨i, hi, hDi, h2, h1⟩
    · rintro (h1 | ⟨k, h1, h2, h3, h4⟩)
      · exact Or.inl (Or.inl h1)
      · rcases hDk' k h2 with rfl | h2
        · exact Or.inr ⟨h4, h3⟩
        · exact Or.inl (Or.inr ⟨k, h1, h2, h3, h4⟩)
  · show (c.XB n ∨ (t.n i ≤ n ∧ n < t.n i + (t.o i).m)) ↔ _
    rw [h.XB]
    constructor
    · rintro ((h1 | ⟨k, h1, h2, h3⟩) | h1)
      · exact Or.inl h1
      · exact Or.inr ⟨k, h1, hDk k h2, h3⟩
      · exact Or.inr ⟨i, hi, hDi, h1⟩
    · rintro (h1 | ⟨k, h1, h2, h3⟩)
      · exact Or.inl (Or.inl h1)
      · rcases hDk' k h2 with rfl | h2
        · exact Or.inr h3
        · exact Or.inl (Or.inr ⟨k, h1, h2, h3⟩)
  · by_cases hw : t.wr i b
    · -- it was written just now
      have hbt : b ∈ (t.lg i).t := List.mem_append.2 (Or.inr hw)
      have hval : (t.b (i + 1))[b]? = some u := by
        rcases hcont with ⟨k, h1, h2, h3, h4, h5⟩ | ⟨h1, _⟩
        · have hik := h4 i hi hDi hw
          rcases hDk' k h2 with rfl | h2
          · exact h5
          · have := (dinv_touch hlog hi hadm hbt h1 h3).2 h2
            omega
        · exact absurd hw (h1 i hi hDi)
      rw [ha.bl] at hval
      unfold Tr.wr at hw
      cases hef : (t.o i).ef with
      | none => rw [hef] at hw; simp [efW] at hw
      | set j y =>
        rw [hef] at hw hval
        simp only [efW, List.mem_singleton] at hw
        subst hw
        obtain ⟨p1, p2, p3, p4⟩ := hp.set b y hef
        simp only [efB, List.getElem?_set, if_true, ha.set b y hef] at hval
        cases hval
        refine ⟨?_, p3, p4⟩
        rw [(hle.A b p1).2.2]; exact p2
      | new y =>
        rw [hef] at hw hval
        simp only [efW, List.mem_singleton] at hw
        subst hw
        obtain ⟨p1, p2, p3, p4, p5⟩ := hp.new y hef
        simp [efB] at hval
        subst hval
        refine ⟨?_, p4, p5⟩
        show (match (t.o i).ef with | .new y => if (t.b i).length = (t.b i).length then some y.ty else c.ty _ | _ => c.ty _) = some y.ty
        rw [hef]
        simp
    · have hcont' : Cont t D b u := by
        rcases hcont with ⟨k, h1, h2, h3, h4, h5⟩ | ⟨h1, h2⟩
        · rcases hDk' k h2 with rfl | h2
          · exact absurd h3 hw
          · exact Or.inl ⟨k, h1, h2, h3, fun k' hk' hD' => h4 k' hk' (hDk k' hD'), h5⟩
        · exact Or.inr ⟨fun k hk hD => h1 k hk (hDk k hD), h2⟩
      have hxa : c.XA b := by
        rcases hx with hx | ⟨hx, y, hy⟩
        · exact hx
        · exact absurd (by unfold Tr.wr; rw [hy, hx]; simp [efW]) hw
      obtain ⟨p1, ⟨e, p2⟩, p3⟩ := h.blk b u hxa hcont'
      refine ⟨by rw [(hle.A b hxa).2.2]; exact p1, ⟨e, ?_⟩, V.okc_mono hle p3⟩
      have hcells : u.cells E.B = u.cells c.E.B := V.cellsc hle p3
      show HB x' (E.A b) (u.cells E.B).toArray e
      rw [hcells, hp.A b hxa]
      unfold HB
      rw [hp.same.block _ p2.lt (by
        rintro ⟨j, y, hy, hj⟩
        have : b = j := h.wf.inj b j hxa (hp.set j y hy).1 hj
        subst this
        exact hw (by unfold Tr.wr; rw [hy]; simp [efW]))]
      exact p2
  · show (a.put o.dst v).tmps.size = N
    cases o.dst <;> simp [Act.put, h.size]
  · cases o.dst <;> simp [Act.put, h.defers]
  · have hne : ∀ {d}, o.dst = some d → k ≠ i → d ≠ u := fun hd' hki e => by
      subst e
      exact (ok_slots hok ho hd).1 hki hd'
    rcases hDk' k hD with rfl | hD'
    · rw [hdst] at hd
      rw [hd]
      have hlt := ha.dst u hd
      refine ⟨?_, hp.ok⟩
      simp only [Act.put]
      rw [hp.val]
      simp [h.size, hlt]
      rfl
    · have hki : k ≠ i := fun e => by subst e; rw [hadm.un] at hD'; cases hD'
      obtain ⟨p1, p2⟩ := h.done k u hk hD' hd
      refine ⟨?_, SV.ok_mono hle p2⟩
      rw [SV.val_mono hle p2, ← p1]
      cases hd' : o.dst with
      | none => rfl
      | some d => simp only [Act.put, Array.getElem?_setIfInBounds_ne (hne hd' hki)]
  · obtain ⟨p1, p2⟩ := h.init u s (fun k hk hD => hno k hk (hDk k hD)) hs
    refine ⟨?_, SV.ok_mono hle p2⟩
    rw [SV.val_mono hle p2, ← p1]
    cases hd' : o.dst with
    | none => rfl
    | some d =>
      have : d ≠ u := fun e => by
        subst e
        exact hno i hi hDi (by rw [hdst]; exact hd')
      simp only [Act.put, Array.getElem?_setIfInBounds_ne this]

theorem draw_inv {T : Tab} {S : List (Nat × Spec)} (hT : TabOk P T) (hS : SpecsOk P S) {f : Fr} {bl : List V} {nn : NS} {K : Fr → List V → NS → Prop} {c : Cx} {a : Act} (hok : okRegion ops = true) (h : drwK T S N ops (ops.map (·.dst)) ops [] f bl nn K) (hr : Real w0 F0 bl nn c) (hf : FR N c f a) :
    ∃ Inv : (Nat → Bool) → Act → World → Prop, Inv (fun _ => false) a { c.x with drawn := c.x.drawn + 1 } ∧
    (∀ (i : Nat) (o : Oper), ops[i]? = some o → ∀ D a x, Adm ops i D → Inv D a x →
      if Region.wanted o (yielded ops.toArray a.tmps) = true then upon4 P (fun v x' => Inv (setD D i) (a.put o.dst v) x') ((execOp a.eval o).run P x) else Inv (setD D i) (a.put o.dst undef) x) ∧
    (∀ D a x, (∀ k, k < ops.length → D k = true) → Inv D a x → Sat w0 F0 N K a x) := by
  obtain ⟨t, e1, e2, e3, hAt, hK, hlog, hcr⟩ := drw_tr (w0 := w0) (F0 := F0) hT hS ops [] f bl nn h
  rw [List.reverse_nil, List.nil_append] at hlog hcr
  refine ⟨fun D a x => ∃ c, DInv t nn.tk D a c ∧ c.x = x, ?_, ?_, ?_⟩
  · have hle1 : c.Le { c with x := { c.x with drawn := c.x.drawn + 1 } } := ⟨fun i hi => ⟨hi, rfl, rfl⟩, fun n hn => ⟨hn, rfl⟩, fun _ _ h => h, fun _ _ _ _ _ => rfl, Nat.le_refl _⟩
    refine ⟨{ c with x := { c.x with drawn := c.x.drawn + 1 } }, ⟨⟨hr.wf.below.drew, hr.wf.lo, hr.wf.hi, hr.wf.inj, hr.wf.fhi, hr.wf.own, hr.wf.old, hr.wf.oldB, hr.wf.le.trans hle1⟩, hr.tk.drew, fun b => ?_, fun n => ?_, fun b v hx hc => ?_, hf.size, hf.defers, fun k u _ hD => (by cases hD), fun u s _ hs => ?_⟩, rfl⟩
    · show c.XA b ↔ _
      rw [hr.XA, e2]
      constructor
      · exact Or.inl
      · rintro (h1 | ⟨k, _, hD, _⟩)
        · exact h1
        · cases hD
    · show c.XB n ↔ _
      rw [hr.XB, e3]
      constructor
      · exact Or.inl
      · rintro (h1 | ⟨k, _, hD, _⟩)
        · exact h1
        · cases hD
    · rcases hc with ⟨k, _, hD, _⟩ | ⟨_, hc⟩
      · cases hD
      · rw [e2] at hc
        exact ⟨hr.ty b v hc, (hr.blk b v hc).1, V.okc_mono hle1 (hr.blk b v hc).2⟩
    · rw [e1] at hs
      exact ⟨(hf.get u s hs).1, SV.ok_mono hle1 (hf.get u s hs).2⟩
  · rintro i o ho D a x hadm ⟨c, hI, rfl⟩
    have hi : i < ops.length := lt_of_get ho
    have ha := hAt i o ho
    have hsl : ∀ u s, u ∈ o.looksAt ops.toArray → look (t.f i) u = some s → a.tmps[u]? = some (s.val c.E) ∧ s.ok c := fun u s hu hs => dinv_slot hAt hok hI ho hadm hu hs
    rcases ha.way with ⟨hw, hd⟩ | ⟨hw, ho'⟩
    · rw [if_pos (hw c.E a fun u s hu hs => (hsl u s hu hs).1)]
      have hdo := hd.2 c a.eval hI.wf (fun y hy s hs => ?_) (fun b hb v hv => ?_) (fun hn hx => ?_) (fun hq n => ?_)
      · generalize (execOp a.eval o).run P c.x = res at hdo
        have step : ∀ v x', (∃ E, Post w0 F0 c (t.o i) (t.b i).length (t.n i) v x' E) → ∃ c', DInv t nn.tk (setD D i) (a.put o.dst v) c' ∧ c'.x = x' := fun v x' ⟨E, hp⟩ => ⟨_, dinv_step hAt hok hlog hI ho hadm hp, rfl⟩
        cases res with
        | ok nx w' =>
          cases nx <;> simp only [upon4] at hdo ⊢
          case value u => exact step _ _ hdo
          case skip => exact step _ _ hdo
          case enter g args => exact hdo.mono fun e x' ⟨u, he, hu⟩ => ⟨u, he, step _ _ hu⟩
        | halt q w' => simp only [upon4] at hdo
      · cases y with
        | tmp u =>
          have hu : u ∈ o.looksAt ops.toArray := by
            unfold Oper.looksAt
            simp only [List.mem_append, List.mem_filterMap]
            exact Or.inl ⟨.tmp u, by simpa using hy, rfl⟩
          obtain ⟨h1, h2⟩ := hsl u s hu hs
          exact ⟨by simp only [Act.eval, Array.getD_eq_getD_getElem?, h1]; rfl, h2⟩
        | const v => cases hs; exact ⟨(constA_val _ v).symm, constA_ok _ v⟩
        | func g => cases hs; exact ⟨rfl, fun q hq => by cases hq⟩
        | global g => cases hs
      · have hbt : b ∈ (t.lg i).t := by
          show b ∈ (t.o i).rd ++ efW (t.b i).length (t.o i).ef
          rcases hb with hb | ⟨y, hy⟩
          · exact List.mem_append.2 (Or.inl hb)
          · exact List.mem_append.2 (Or.inr (by rw [hy]; simp [efW]))
        have hxa : c.XA b := by
          rw [hI.XA]
          rcases made hAt i (by omega) (lt_of_get hv) with h1 | ⟨k, h1, h2, h3⟩
          · exact Or.inl h1
          · have hwr : t.wr k b := by
              obtain ⟨y, hy⟩ := h2
              unfold Tr.wr
              rw [hy, h3]; simp [efW]
            exact Or.inr ⟨k, by omega, (dinv_touch hlog hi hadm hbt (by omega) hwr).1 h1, h2, h3⟩
        exact ⟨hxa, hI.blk b v hxa (dinv_cont hAt hlog hi hadm hbt hv)⟩
      · rcases (hI.XA _).1 hx with h1 | ⟨k, hk, hD, hnk, hb⟩
        · have := len_mono hAt (i := 0) (j := i) (by omega) (by omega); omega
        · have hki : k ≠ i := fun e => by subst e; rw [hadm.un] at hD; cases hD
          rcases Nat.lt_or_gt_of_ne hki with hlt | hlt
          · have h1 := len_mono hAt (i := k + 1) (j := i) (by omega) (by omega)
            rcases len_step hAt (i := k) hk with ⟨h2, _⟩ | ⟨_, h2⟩
            · omega
            · exact h2 hnk
          · have h1 := len_mono hAt (i := i + 1) (j := k) (by omega) (by omega)
            rcases len_step hAt (i := i) hi with ⟨h2, _⟩ | ⟨_, h2⟩
            · omega
            · exact h2 hn
      · rw [hI.XB, names hAt n i (by omega)]
        have hcrk : ∀ k, k < ops.length → t.n k ≤ n → n < t.n k + (t.o k).m → (t.o k).cr = true := fun k hk h1 h2 => by
          obtain ⟨o', _, ha'⟩ := at_of hAt hk
          cases hc : (t.o k).cr with
          | true => rfl
          | false => have := ha'.cr hc; omega
        have hclash : ∀ k, k < ops.length → (t.o k).cr = true → clash (t.lg k) (t.lg i) = true ∧ clash (t.lg i) (t.lg k) = true := fun k hk hc => by
          have hqk := cr_q hcr hk hc
          unfold clash
          have h1 : (t.lg k).q = true := hqk
          have h2 : (t.lg i).q = true := hq
          have h3 : (t.lg k).cr = true := hc
          rw [h1, h2, h3]
          simp
        constructor
        · rintro (h1 | ⟨k, h1, h2, h3, h4⟩)
          · exact Or.inl h1
          · refine Or.inr ⟨k, ?_, h3, h4⟩
            have hc := hcrk k h1 h3 h4
            rcases Nat.lt_trichotomy k i with h | h | h
            · exact h
            · subst h; rw [hadm.un] at h2; cases h2
            · exfalso
              have := hadm.behindT (log_waits hlog h h1 (hclash k h1 hc).2)
              rw [this] at h2; cases h2
        · rintro (h1 | ⟨k, h1, h3, h4⟩)
          · exact Or.inl h1
          · have hk : k < ops.length := by omega
            have hc := hcrk k hk h3 h4
            exact Or.inr ⟨k, hk, hadm.aheadT (log_waits hlog h1 hi (hclash k hk hc).1), h3, h4⟩
    · rw [if_neg (by rw [hw c.E a fun u s hu hs => (hsl u s hu hs).1]; exact Bool.false_ne_true)]
      have hp : Post w0 F0 c (t.o i) (t.b i).length (t.n i) undef c.x c.E := by
        rw [ho']
        exact post_val hI.wf (und_ok c)
      exact ⟨_, dinv_step hAt hok hlog hI ho hadm hp, rfl⟩
  · rintro D a x hall ⟨c, hI, rfl⟩
    refine ⟨_, _, _, c, hK, ⟨hI.wf, fun i => ?_, fun n => ?_, fun i v hv => ?_, fun i v hv => ?_, hI.tok⟩, ⟨hI.size, hI.defers, fun u s hs => ?_⟩, rfl⟩
    · rw [hI.XA]
      constructor
      · rintro (h1 | ⟨k, hk, _, h2, h3⟩)
        · have := len_mono hAt (i := 0) (j := ops.length) (by omega) (by omega); omega
        · have h1 := len_mono hAt (i := k + 1) (j := ops.length) (by omega) (by omega)
          rcases len_step hAt (i := k) hk with ⟨h4, _⟩ | ⟨_, h4⟩
          · omega
          · exact absurd h2 h4
      · intro hlt
        rcases made hAt ops.length (Nat.le_refl _) hlt with h1 | ⟨k, h1, h2⟩
        · exact Or.inl h1
        · exact Or.inr ⟨k, h1, hall k h1, h2⟩
    · show c.XB n ↔ n < t.n ops.length
      rw [hI.XB, names hAt n ops.length (Nat.le_refl _)]
      constructor
      · rintro (h1 | ⟨k, h1, _, h2⟩)
        · exact Or.inl h1
        · exact Or.inr ⟨k, h1, h2⟩
      · rintro (h1 | ⟨k, h1, h2⟩)
        · exact Or.inl h1
        · exact Or.inr ⟨k, h1, hall k h1, h2⟩
    all_goals first
      | (have hxa : c.XA i := by
          rw [hI.XA]
          rcases made hAt ops.length (Nat.le_refl _) (lt_of_get hv) with h1 | ⟨k, h1, h2⟩
          · exact Or.inl h1
          · exact Or.inr ⟨k, h1, hall k h1, h2⟩
         have hc : Cont t D i v := by
          rcases lastw hAt i ops.length (Nat.le_refl _) with ⟨k, h1, h2, h3, h4⟩ | ⟨h1, h2⟩
          · exact Or.inl ⟨k, h1, hall k h1, h2, fun k' hk' _ => h3 k' hk', by rw [h4]; exact hv⟩
          · exact Or.inr ⟨fun k hk _ => h1 k hk, by rw [h2]; exact hv⟩
         first | exact (hI.blk i v hxa hc).1 | exact (hI.blk i v hxa hc).2)
      | skip
    rcases slots hAt hok u ops.length (Nat.le_refl _) with ⟨k, h1, h2, h3⟩ | ⟨h1, h2⟩
    · rw [h3] at hs
      cases hs
      exact hI.done k u h1 (hall k h1) h2
    · rw [h2] at hs
      exact hI.init u s (fun k hk _ => h1 k hk) hs
theorem draw_sound {T : Tab} {S : List (Nat × Spec)} (hT : TabOk P T) (hS : SpecsOk P S) {id : Nat} {f : Fr} {bl : List V} {nn : NS} {K : Fr → List V → NS → Prop} {c : Cx} {a : Act} (hok : okRegion ops = true) (h : drwK T S N ops (ops.map (·.dst)) ops [] f bl nn K) (hr : Real w0 F0 bl nn c) (hf : FR N c f a)
    {Q : Exit → Act → World → Prop} (hQ : ∀ a x, Sat w0 F0 N K a x → Q .normal a x) : (Code.region id ops.toArray true).wp P Q a c.x := by
  obtain ⟨Inv, h0, hs, he⟩ := draw_inv hT hS hok h hr hf
  exact wp_region_inv Inv hT.mix hok h0 hs fun D a x hD hI => hQ a x (he D a x hD hI)

end

end Go.Proofs.Ytjbbgpacijageaa.M
