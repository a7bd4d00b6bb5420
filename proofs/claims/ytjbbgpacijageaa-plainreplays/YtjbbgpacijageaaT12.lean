/- Whole functions. No program is named here. -/
import Derived.Test.YtjbbgpacijageaaT11c
namespace Go.Proofs.Ytjbbgpacijageaa.M
open Go.RowKit
set_option linter.unusedVariables false
set_option linter.unusedSimpArgs false

/-- What is still to be done. -/
inductive It where
  | code (c : Code)
  | block (id : Nat)
  | inv (I : Fr → List V → NS → Prop)
  | fin (rs : List ResultVar) (ts : List Ty) (K : DL ts → List V → NS → Prop)
  | finA (rs : List ResultVar) (K : List AV → List V → NS → Prop)

def popB (id : Nat) : List It → Option (List It)
  | [] => none
  | .block id' :: k => match Nat.beq id id' with | true => some k | false => popB id k
  | .fin _ _ _ :: _ => none
  | .finA _ _ :: _ => none
  | _ :: k => popB id k
def popR : List It → Option (List It)
  | [] => none
  | .fin rs ts K :: k => some (.fin rs ts K :: k)
  | .finA rs K :: k => some (.finA rs K :: k)
  | _ :: k => popR k

/-- A slot's value as one of a type. -/
def slotK (s : AV) (t : Ty) (k : t.D → Prop) : Prop :=
  match s with
  | .of v => denK v t k
  | .raw (.slice none 0 0) => match t, k with
    | .lst _, k => k (nilH, [])
    | _, _ => False
  | _ => False
def resK (T : Tab) (f : Fr) (bl : List V) : List ResultVar → (ts : List Ty) → (DL ts → Prop) → Prop
  | [], [], k => k ()
  | .tmp t :: r, ty :: ts, k => match look f t with
    | some (.a s) => slotK s ty fun d => resK T f bl r ts fun ds => k (d, ds)
    | _ => False
  | .cell b id :: r, ty :: ts, k => match look f b with
    | some (.a (.ptr i off p u)) => match tyL T.ty id with
      | some (ty', _) => match decEq u ty' with
        | .isTrue _ => match nthB bl i with
          | some v => match getV v p with
            | some y => denK y ty fun d => resK T f bl r ts fun ds => k (d, ds)
            | none => False
          | none => False
        | .isFalse _ => False
      | none => False
    | _ => False
  | _, _, _ => False

/-- What is handed back, whatever it is. -/
def resA (T : Tab) (f : Fr) (bl : List V) : List ResultVar → (List AV → Prop) → Prop
  | [], k => k []
  | .tmp t :: r, k => match look f t with
    | some (.a s) => resA T f bl r fun l => k (s :: l)
    | _ => False
  | .cell b id :: r, k => match look f b with
    | some (.a (.ptr i off p u)) => match tyL T.ty id with
      | some (ty', _) => match decEq u ty' with
        | .isTrue _ => match nthB bl i with
          | some v => match getV v p with
            | some y => resA T f bl r fun l => k (.of y :: l)
            | none => False
          | none => False
        | .isFalse _ => False
      | none => False
    | _ => False
/-- A tree as one value. -/
def V.dn : (v : V) → v.ty.D
  | .leaf _ v => v
  | .one x => x.dn
  | .node x y => (x.dn, y.dn)
def V.norm (v : V) : V := .leaf v.ty v.dn
theorem V.dn_flat (B : Nat → Value) : ∀ v : V, flat B v.ty v.dn = v.cells B
  | .leaf _ _ => rfl
  | .one x => V.dn_flat B x
  | .node x y => by
    show flat B x.ty x.dn ++ flat B y.ty y.dn = x.cells B ++ y.cells B
    rw [V.dn_flat B x, V.dn_flat B y]
theorem V.dn_ok {XB : Nat → Prop} {B : Nat → Value} {F : Nat → Nat → Prop} {w : World} : ∀ v : V, v.ok XB B F w → wok XB B F w v.ty v.dn
  | .leaf _ _, h => h
  | .one x, h => V.dn_ok x h
  | .node x y, h => ⟨V.dn_ok x h.1, V.dn_ok y h.2⟩
/-- Is all that g has in f? -/
def subF : Fr → Fr → Prop
  | [], _ => True
  | (t, s) :: r, f => look f t = some s ∧ subF r f
/-- No pointer of it leads beyond the first k blocks. -/
def AV.lt (k : Nat) : AV → Bool
  | .of _ => true
  | .ptr i _ _ _ => Nat.ble (i + 1) k
  | .elt _ _ _ _ _ _ _ => true
  | .slc i _ _ _ _ _ _ _ => Nat.ble (i + 1) k
  | .clo _ cs => cs.all fun c => Nat.ble (c.1 + 1) k
  | .emp _ => true
  | .raw _ => true
def SV.lt (k : Nat) : SV → Bool
  | .a x => x.lt k
  | .tup l => l.all fun x => x.lt k
def okF (k : Nat) : Fr → Bool
  | [] => true
  | (_, s) :: r => s.lt k && okF k r
/-- Part of what there is. -/
structure Ent (base : Nat) (I : Fr → List V → NS → Prop) (f : Fr) (bl : List V) (nn : NS) : Prop where
  ex : ∃ g b, base ≤ b ∧ subF g f ∧ b ≤ bl.length ∧ okF b g = true ∧ I g ((bl.take b).map V.norm) nn

/-- So many rounds at most. -/
def rounds (R : (Fr → List V → NS → Prop) → Fr → List V → NS → Prop) : Nat → Fr → List V → NS → Prop
  | 0, _, _, _ => False
  | n + 1, f, bl, nn => R (rounds R n) f bl nn

def run (T : Tab) (S : List (Nat × Spec)) (N : Nat) : Nat → List It → Fr → List V → NS → Prop
  | 0, _, _, _, _ => False
  | _ + 1, [], _, _, _ => False
  | n + 1, .block _ :: k, f, bl, nn => run T S N n k f bl nn
  | _ + 1, .inv I :: _, f, bl, nn => I f bl nn
  | _ + 1, .fin rs ts K :: _, f, bl, nn => resK T f bl rs ts fun d => K d bl nn
  | _ + 1, .finA rs K :: _, f, bl, nn => resA T f bl rs fun l => K l bl nn
  | n + 1, .code c :: k, f, bl, nn => match c with
    | .skip => run T S N n k f bl nn
    | .region _ ops draw => match draw with
      | false => dstK ops.toList fun ds => seqK T S N ds ops.toList f bl nn (run T S N n k)
      | true => Need (okRegion ops.toList = true) (dstK ops.toList fun ds => drwK T S N ops.toList ds ops.toList [] f bl nn (run T S N n k)) ∨
          ∃ m, tailOk ops.toList m = true ∧ drwK T S N (ops.toList.take m) ((ops.toList.take m).map (·.dst)) (ops.toList.take m) [] f bl nn fun f bl nn => seqK T S N (ops.toList.map (·.dst)) (ops.toList.drop m) f bl nn (run T S N n k)
    | .seq a b => run T S N n (.code a :: .code b :: k) f bl nn
    | .cond c a b => match evS f c with
      | some (.a (.of (.leaf .bool t))) => Way t (run T S N n (.code a :: k) f bl nn) (run T S N n (.code b :: k) f bl nn)
      | _ => False
    | .block id a => run T S N n (.code a :: .block id :: k) f bl nn
    | .loop a => (∃ m, rounds (fun I => run T S N n (.code a :: .inv I :: k)) m f bl nn) ∨
        ∃ I : Nat → Fr → List V → NS → Prop, (∃ j, Ent T.base (I j) f bl nn) ∧ ∀ j f bl nn, I j f bl nn → run T S N n (.code a :: .inv (fun f' bl' nn' => ∃ j', j' < j ∧ Ent T.base (I j') f' bl' nn') :: k) f bl nn
    | .exit id => match popB id k with | some k' => run T S N n k' f bl nn | none => False
    | .ret => match popR k with | some k' => run T S N n k' f bl nn | none => False
    | _ => False

section
variable {P : Program} {T : Tab} {S : List (Nat × Spec)} {w0 : World} {F0 : Old} {N : Nat}

/-- What holds when a function is at its end. -/
def Fin (P : Program) (T : Tab) (w0 : World) (F0 : Old) (N : Nat) (rs : List ResultVar) (ts : List Ty) (K : DL ts → List V → NS → Prop) (a : Act) (x : World) : Prop := Sat w0 F0 N (fun f bl nn => resK T f bl rs ts fun d => K d bl nn) a x

def FinA (P : Program) (T : Tab) (w0 : World) (F0 : Old) (N : Nat) (rs : List ResultVar) (K : List AV → List V → NS → Prop) (a : Act) (x : World) : Prop := Sat w0 F0 N (fun f bl nn => resA T f bl rs fun l => K l bl nn) a x

def SQ (P : Program) (T : Tab) (w0 : World) (F0 : Old) (N : Nat) : List It → Exit → Act → World → Prop
  | [], _, _, _ => False
  | .code c :: k, e, a, x => match e with | .normal => c.wp P (SQ P T w0 F0 N k) a x | e => SQ P T w0 F0 N k e a x
  | .block id :: k, e, a, x => match e with | .exit id' => if id' = id then SQ P T w0 F0 N k .normal a x else SQ P T w0 F0 N k (.exit id') a x | e => SQ P T w0 F0 N k e a x
  | .inv I :: k, e, a, x => match e with | .normal => Sat w0 F0 N I a x | e => SQ P T w0 F0 N k e a x
  | .fin rs ts K :: _, e, a, x => match e with | .normal => Fin P T w0 F0 N rs ts K a x | .ret => Fin P T w0 F0 N rs ts K a x | _ => False
  | .finA rs K :: _, e, a, x => match e with | .normal => FinA P T w0 F0 N rs K a x | .ret => FinA P T w0 F0 N rs K a x | _ => False

theorem popB_sound {id : Nat} : ∀ (k k' : List It), popB id k = some k' → ∀ a x, SQ P T w0 F0 N k' .normal a x → SQ P T w0 F0 N k (.exit id) a x
  | [], _, h, _, _, _ => by cases h
  | .block id' :: k, k', h, a, x, hs => by
    unfold popB at h
    show (if id = id' then SQ P T w0 F0 N k .normal a x else SQ P T w0 F0 N k (.exit id) a x)
    split at h
    · rename_i hb
      cases h
      rw [if_pos (Nat.eq_of_beq_eq_true hb)]
      exact hs
    · rename_i hb
      rw [if_neg (fun h => by subst h; simp at hb)]
      exact popB_sound k k' h a x hs
  | .fin _ _ _ :: _, _, h, _, _, _ => by cases h
  | .finA _ _ :: _, _, h, _, _, _ => by cases h
  | .code c :: k, k', h, a, x, hs => popB_sound k k' h a x hs
  | .inv I :: k, k', h, a, x, hs => popB_sound k k' h a x hs
theorem popR_sound : ∀ (k k' : List It), popR k = some k' → ∀ a x, SQ P T w0 F0 N k' .normal a x → SQ P T w0 F0 N k .ret a x
  | [], _, h, _, _, _ => by cases h
  | .fin rs ts K :: k, k', h, a, x, hs => by
    have : some (It.fin rs ts K :: k) = some k' := h
    cases this
    exact hs
  | .finA rs K :: k, k', h, a, x, hs => by
    have : some (It.finA rs K :: k) = some k' := h
    cases this
    exact hs
  | .block id' :: k, k', h, a, x, hs => popR_sound k k' h a x hs
  | .code c :: k, k', h, a, x, hs => popR_sound k k' h a x hs
  | .inv I :: k, k', h, a, x, hs => popR_sound k k' h a x hs

theorem subF_look : ∀ (g f : Fr), subF g f → ∀ t s, look g t = some s → look f t = some s
  | [], _, _, t, s, h => by cases h
  | (t', s') :: r, f, hs, t, s, h => by
    unfold look at h
    split at h
    · rename_i hb
      have := Nat.eq_of_beq_eq_true hb
      subst this; cases h
      exact hs.1
    · exact subF_look r f hs.2 t s h
theorem okF_look {k : Nat} : ∀ (f : Fr), okF k f = true → ∀ t s, look f t = some s → s.lt k = true
  | [], _, t, s, h => by cases h
  | (t', s') :: r, hk, t, s, h => by
    simp only [okF, Bool.and_eq_true] at hk
    unfold look at h
    split at h
    · cases h; exact hk.1
    · exact okF_look r hk.2 t s h

/-- The context with the first blocks alone. -/
def Cx.cut (c : Cx) (k : Nat) : Cx := { c with XA := fun i => c.XA i ∧ i < k }
theorem V.okc_cut {c : Cx} {k : Nat} (v : V) (h : v.okc c) : v.okc (c.cut k) := h
theorem AV.ok_cut {c : Cx} {k : Nat} {s : AV} (h : s.ok c) (hk : s.lt k = true) : s.ok (c.cut k) := by
  cases s with
  | of v => exact h
  | ptr i off p u => exact ⟨⟨h.1, Nat.le_of_ble_eq_true hk⟩, h.2⟩
  | elt t hd xs j off p u => exact h
  | slc i off p n t lo len cap => exact ⟨⟨h.1, Nat.le_of_ble_eq_true hk⟩, h.2⟩
  | clo g cs =>
    intro q hq
    simp only [AV.lt, List.all_eq_true] at hk
    exact ⟨⟨(h q hq).1, Nat.le_of_ble_eq_true (hk q hq)⟩, (h q hq).2⟩
  | emp hd => exact h
  | raw v => trivial
theorem SV.ok_cut {c : Cx} {k : Nat} {s : SV} (h : s.ok c) (hk : s.lt k = true) : s.ok (c.cut k) := by
  cases s with
  | a x => exact AV.ok_cut h hk
  | tup l =>
    simp only [SV.lt, List.all_eq_true] at hk
    exact fun y hy => AV.ok_cut (h y hy) (hk y hy)
theorem Real.cut {bl : List V} {nn : NS} {c : Cx} (h : Real w0 F0 bl nn c) (k : Nat) (hk : ∀ i, F0.c.XA i → i < k) : Real w0 F0 (bl.take k) nn (c.cut k) := by
  have hg : ∀ (i : Nat) (v : V), (bl.take k)[i]? = some v → bl[i]? = some v := fun i v hi => by
    rw [List.getElem?_take] at hi
    split at hi
    · exact hi
    · cases hi
  refine ⟨⟨h.wf.below, fun i hi => h.wf.lo i hi.1, fun i hi => h.wf.hi i hi.1, fun i j hi hj => h.wf.inj i j hi.1 hj.1, h.wf.fhi, fun i hi => h.wf.own i hi.1, h.wf.old, h.wf.oldB, ⟨fun i hi => ⟨⟨(h.wf.le.A i hi).1, hk i hi⟩, (h.wf.le.A i hi).2⟩, h.wf.le.B, h.wf.le.F, h.wf.le.K, h.wf.le.S⟩⟩, fun i => ?_, h.XB, fun i v hi => h.ty i v (hg i v hi), fun i v hi => h.blk i v (hg i v hi), h.tk.cut (fun i hi => hi.1)⟩
  · show (c.XA i ∧ i < k) ↔ _
    rw [h.XA, List.length_take]
    omega
theorem Real.norm {bl : List V} {nn : NS} {c : Cx} (h : Real w0 F0 bl nn c) : Real w0 F0 (bl.map V.norm) nn c := by
  have hg : ∀ (i : Nat) (v : V), (bl.map V.norm)[i]? = some v → ∃ u, bl[i]? = some u ∧ v = u.norm := fun i v hi => by
    rw [List.getElem?_map] at hi
    cases hb : bl[i]? with
    | none => rw [hb] at hi; cases hi
    | some u => rw [hb] at hi; exact ⟨u, rfl, (Option.some.inj hi).symm⟩
  refine ⟨h.wf, fun i => by rw [List.length_map]; exact h.XA i, h.XB, fun i v hi => ?_, fun i v hi => ?_, h.tk⟩
  · obtain ⟨u, hu, rfl⟩ := hg i v hi
    exact h.ty i u hu
  · obtain ⟨u, hu, rfl⟩ := hg i v hi
    obtain ⟨⟨e, h1⟩, h2⟩ := h.blk i u hu
    refine ⟨⟨e, ?_⟩, V.dn_ok u h2⟩
    have : u.norm.cells c.E.B = u.cells c.E.B := V.dn_flat c.E.B u
    rw [this]
    exact h1
theorem Sat.ent {base : Nat} (hb : ∀ i, F0.c.XA i → i < base) {I : Fr → List V → NS → Prop} {a : Act} {x : World} (h : Sat w0 F0 N (Ent base I) a x) : Sat w0 F0 N I a x := by
  obtain ⟨f, bl, nn, c, ⟨g, b, h0, h1, h2, h3, h4⟩, hr, hf, rfl⟩ := h
  exact ⟨g, _, nn, c.cut b, h4, (hr.cut b (fun i hi => Nat.lt_of_lt_of_le (hb i hi) h0)).norm, ⟨hf.size, hf.defers, fun t s ht => by
    obtain ⟨e1, e2⟩ := hf.get t s (subF_look g f h1 t s ht)
    exact ⟨e1, SV.ok_cut e2 (okF_look g h3 t s ht)⟩⟩, rfl⟩

theorem least {p : Nat → Prop} (h : ∃ n, p n) : ∃ n, p n ∧ ∀ m, p m → n ≤ m := by
  obtain ⟨n, hn⟩ := h
  induction n using Nat.strongRecOn with
  | ind n ih =>
    by_cases hm : ∃ m, m < n ∧ p m
    · obtain ⟨m, hlt, hp⟩ := hm
      exact ih m hlt hp
    · exact ⟨n, hn, fun m hp => Nat.le_of_not_lt fun hlt => hm ⟨m, hlt, hp⟩⟩

open Classical in
theorem loop_sound {c : Code} {Q : Exit → Act → World → Prop} (J : Nat → Act → World → Prop) (hround : ∀ j a x, J j a x → c.wp P (fun e a' x' => match e with | .normal => ∃ j', j' < j ∧ J j' a' x' | e => Q e a' x') a x) {j : Nat} {a : Act} {x : World} (h : J j a x) : (Code.loop c).wp P Q a x := by
  let μ : Act → World → Nat := fun a x => if h : ∃ n, J n a x then Classical.choose (least h) else 0
  have hμ : ∀ a x, (∃ n, J n a x) → J (μ a x) a x ∧ ∀ m, J m a x → μ a x ≤ m := fun a x h => by
    have : μ a x = Classical.choose (least h) := dif_pos h
    rw [this]
    exact Classical.choose_spec (least h)
  refine wp_loop (fun a x => ∃ n, J n a x) μ ⟨j, h⟩ fun a x hJ => ?_
  obtain ⟨hm, hleast⟩ := hμ a x hJ
  refine wp_mono (hround _ a x hm) fun e a' x' hs => ?_
  cases e with
  | normal =>
    obtain ⟨n', hlt, hJ'⟩ := hs
    exact ⟨⟨n', hJ'⟩, Nat.lt_of_le_of_lt ((hμ a' x' ⟨n', hJ'⟩).2 n' hJ') hlt⟩
  | _ => exact hs

theorem run_sound (hT : TabOk P T) (hS : SpecsOk P S) (hb : ∀ i, F0.c.XA i → i < T.base) (htop : T.top = true → ∀ b e, F0.c.E.F b e → b < w0.heap.size) : ∀ (n : Nat) (k : List It) (f : Fr) (bl : List V) (nn : NS), run T S N n k f bl nn → ∀ (c : Cx) (a : Act), Real w0 F0 bl nn c → FR N c f a → SQ P T w0 F0 N k .normal a c.x
  | 0, _, _, _, _, h, _, _, _, _ => h.elim
  | _ + 1, [], _, _, _, h, _, _, _, _ => h.elim
  | n + 1, .block _ :: k, f, bl, nn, h, c, a, hr, hf => run_sound hT hS hb htop n k f bl nn h c a hr hf
  | _ + 1, .inv I :: _, f, bl, nn, h, c, a, hr, hf => ⟨f, bl, nn, c, h, hr, hf, rfl⟩
  | _ + 1, .fin rs ts K :: _, f, bl, nn, h, c, a, hr, hf => ⟨f, bl, nn, c, h, hr, hf, rfl⟩
  | _ + 1, .finA rs K :: _, f, bl, nn, h, c, a, hr, hf => ⟨f, bl, nn, c, h, hr, hf, rfl⟩
  | n + 1, .code cd :: k, f, bl, nn, h, c, a, hr, hf => by
    have ih := run_sound hT hS hb htop n
    have hsat : ∀ k a x, Sat w0 F0 N (run T S N n k) a x → SQ P T w0 F0 N k .normal a x := fun k a x ⟨f, bl, nn, c, hk, hr, hf, hx⟩ => by
      subst hx
      exact ih k f bl nn hk c a hr hf
    show cd.wp P (SQ P T w0 F0 N k) a c.x
    unfold run at h
    split at h
    · exact wp_skip (ih k f bl nn h c a hr hf)
    · rename_i id ops draw
      split at h
      · have := seqK_sound (Q := SQ P T w0 F0 N k) hT hS htop (fun a x hs => hsat k a x hs) _ f bl nn c a (dstK_elim _ _ h) hr hf
        exact wp_region_list (by simpa using this)
      · rcases h with ⟨hok, hd⟩ | ⟨m, hok, hd⟩
        rotate_left
        · have := draw_tail (Q := SQ P T w0 F0 N k) (id := id) hT hS hok hd hr hf htop (fun a x hs => hsat k a x hs)
          simpa using this
        have := draw_sound (Q := SQ P T w0 F0 N k) (id := id) hT hS hok (dstK_elim _ _ hd) hr hf (fun a x hs => hsat k a x hs)
        simpa using this
    · rename_i p q
      refine wp_seq (wp_mono (ih _ f bl nn h c a hr hf) fun e a' x' hs => ?_)
      cases e <;> exact hs
    · rename_i cc p q
      split at h
      · rename_i t ht
        have h1 := (evS_sound hf ht).1
        refine wp_cond_split (t := t) h1 (fun htt => ?_) (fun htt => ?_)
        · exact ih _ f bl nn (h.t htt) c a hr hf
        · exact ih _ f bl nn (h.f htt) c a hr hf
      · exact h.elim
    · rename_i id p
      refine wp_block (wp_mono (ih _ f bl nn h c a hr hf) fun e a' x' hs => ?_)
      cases e <;> exact hs
    · rename_i p
      rcases h with ⟨m, hm⟩ | ⟨I, ⟨j, hj⟩, hround⟩
      · refine loop_sound (J := fun j a x => Sat w0 F0 N (rounds (fun I => run T S N n (.code p :: .inv I :: k)) j) a x) (fun j a x hJ => ?_) (j := m) ⟨f, bl, nn, c, hm, hr, hf, rfl⟩
        obtain ⟨f, bl, nn, c, hk, hr, hf, rfl⟩ := hJ
        cases j with
        | zero => exact hk.elim
        | succ j =>
          refine wp_mono (ih _ f bl nn hk c a hr hf) fun e a' x' hs => ?_
          cases e with
          | normal => exact ⟨j, Nat.lt_succ_self _, hs⟩
          | _ => exact hs
      · refine loop_sound (J := fun j a x => Sat w0 F0 N (I j) a x) (fun j a x hJ => ?_) (j := j) (Sat.ent hb ⟨f, bl, nn, c, hj, hr, hf, rfl⟩)
        obtain ⟨f, bl, nn, c, hk, hr, hf, rfl⟩ := hJ
        refine wp_mono (ih _ f bl nn (hround j f bl nn hk) c a hr hf) fun e a' x' hs => ?_
        cases e with
        | normal =>
          obtain ⟨f', bl', nn', c', ⟨j', hlt, hk'⟩, hr', hf', hx'⟩ := hs
          exact ⟨j', hlt, Sat.ent hb ⟨f', bl', nn', c', hk', hr', hf', hx'⟩⟩
        | _ => exact hs
    · split at h
      · rename_i k' hk'
        exact wp_exit (popB_sound _ _ hk' _ _ (ih _ f bl nn h c a hr hf))
      · exact h.elim
    · split at h
      · rename_i k' hk'
        exact wp_ret (popR_sound _ _ hk' _ _ (ih _ f bl nn h c a hr hf))
      · exact h.elim
    · exact h.elim
end

end Go.Proofs.Ytjbbgpacijageaa.M
