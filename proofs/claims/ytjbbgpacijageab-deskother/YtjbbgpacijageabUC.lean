/- Several texts in one. -/
import Derived.Test.YtjbbgpacijageabUV
/- Whole functions. No program is named here. -/
namespace Go.Proofs.Ytjbbgpacijageab.M
open Go.RowKit
set_option linter.unusedVariables false
set_option linter.unusedSimpArgs false

/-- What is still to be done. -/
inductive It where
  | code (c : Code)
  | block (id : Nat)
  | inv (I : Fr → List V → NS → Prop)
  | fin (rs : List ResultVar) (ts : List Ty) (K : DL ts → List V → NS → Prop)
  | finA (rs : List ResultVar) (K : List AV → List V → NS → Prop)

def popB (id : Nat) : List It → Option (List It)
  | [] => none
  | .block id' :: k => match Nat.beq id id' with | true => some k | false => popB id k
  | .fin _ _ _ :: _ => none
  | .finA _ _ :: _ => none
  | _ :: k => popB id k
def popR : List It → Option (List It)
  | [] => none
  | .fin rs ts K :: k => some (.fin rs ts K :: k)
  | .finA rs K :: k => some (.finA rs K :: k)
  | _ :: k => popR k

/-- A slot's value as one of a type. -/
def slotK (s : AV) (t : Ty) (k : t.D → Prop) : Prop :=
  match s with
  | .of v => denK v t k
  | .raw (.slice none 0 0) => match t, k with
    | .lst _, k => k (nilH, [])
    | _, _ => False
  | _ => False
def resK (T : Tab) (f : Fr) (bl : List V) : List ResultVar → (ts : List Ty) → (DL ts → Prop) → Prop
  | [], [], k => k ()
  | .tmp t :: r, ty :: ts, k => match look f t with
    | some (.a s) => slotK s ty fun d => resK T f bl r ts fun ds => k (d, ds)
    | _ => False
  | .cell b id :: r, ty :: ts, k => match look f b with
    | some (.a (.ptr i off p u)) => match tyL T.ty id with
      | some (ty', _) => match decEq u ty' with
        | .isTrue _ => match nthB bl i with
          | some v => match getV v p with
            | some y => denK y ty fun d => resK T f bl r ts fun ds => k (d, ds)
            | none => False
          | none => False
        | .isFalse _ => False
      | none => False
    | _ => False
  | _, _, _ => False

/-- What is handed back, whatever it is. -/
def resA (T : Tab) (f : Fr) (bl : List V) : List ResultVar → (List AV → Prop) → Prop
  | [], k => k []
  | .tmp t :: r, k => match look f t with
    | some (.a s) => resA T f bl r fun l => k (s :: l)
    | _ => False
  | .cell b id :: r, k => match look f b with
    | some (.a (.ptr i off p u)) => match tyL T.ty id with
      | some (ty', _) => match decEq u ty' with
        | .isTrue _ => match nthB bl i with
          | some v => match getV v p with
            | some y => resA T f bl r fun l => k (.of y :: l)
            | none => False
          | none => False
        | .isFalse _ => False
      | none => False
    | _ => False
/-- A tree as one value. -/
def V.dn : (v : V) → v.ty.D
  | .leaf _ v => v
  | .one x => x.dn
  | .node x y => (x.dn, y.dn)
def V.norm (v : V) : V := .leaf v.ty v.dn
theorem V.dn_flat (B : Nat → Value) : ∀ v : V, flat B v.ty v.dn = v.cells B
  | .leaf _ _ => rfl
  | .one x => V.dn_flat B x
  | .node x y => by
    show flat B x.ty x.dn ++ flat B y.ty y.dn = x.cells B ++ y.cells B
    rw [V.dn_flat B x, V.dn_flat B y]
theorem V.dn_ok {XB : Nat → Prop} {B : Nat → Value} {F : Nat → Nat → Prop} {w : World} : ∀ v : V, v.ok XB B F w → wok XB B F w v.ty v.dn
  | .leaf _ _, h => h
  | .one x, h => V.dn_ok x h
  | .node x y, h => ⟨V.dn_ok x h.1, V.dn_ok y h.2⟩
/-- Is all that g has in f? -/
def subF : Fr → Fr → Prop
  | [], _ => True
  | (t, s) :: r, f => look f t = some s ∧ subF r f
/-- No pointer of it leads beyond the first k blocks. -/
def AV.lt (k : Nat) : AV → Bool
  | .of _ => true
  | .ptr i _ _ _ => Nat.ble (i + 1) k
  | .elt _ _ _ _ _ _ _ => true
  | .slc i _ _ _ _ _ _ _ => Nat.ble (i + 1) k
  | .clo _ cs => cs.all fun c => Nat.ble (c.1 + 1) k
  | .emp _ => true
  | .sub _ _ _ _ _ => true
  | .raw _ => true
def SV.lt (k : Nat) : SV → Bool
  | .a x => x.lt k
  | .tup l => l.all fun x => x.lt k
def okF (k : Nat) : Fr → Bool
  | [] => true
  | (_, s) :: r => s.lt k && okF k r
/-- Part of what there is. -/
structure Ent (base : Nat) (I : Fr → List V → NS → Prop) (f : Fr) (bl : List V) (nn : NS) : Prop where
  ex : ∃ g b, base ≤ b ∧ subF g f ∧ b ≤ bl.length ∧ okF b g = true ∧ I g ((bl.take b).map V.norm) nn

/-- So many rounds at most. -/
def rounds (R : (Fr → List V → NS → Prop) → Fr → List V → NS → Prop) : Nat → Fr → List V → NS → Prop
  | 0, _, _, _ => False
  | n + 1, f, bl, nn => R (rounds R n) f bl nn

def run (T : Tab) (S : List (Nat × Spec)) (N : Nat) : Nat → List It → Fr → List V → NS → Prop
  | 0, _, _, _, _ => False
  | _ + 1, [], _, _, _ => False
  | n + 1, .block _ :: k, f, bl, nn => run T S N n k f bl nn
  | _ + 1, .inv I :: _, f, bl, nn => I f bl nn
  | _ + 1, .fin rs ts K :: _, f, bl, nn => resK T f bl rs ts fun d => K d bl nn
  | _ + 1, .finA rs K :: _, f, bl, nn => resA T f bl rs fun l => K l bl nn
  | n + 1, .code c :: k, f, bl, nn => match c with
    | .skip => run T S N n k f bl nn
    | .region _ ops draw => match draw with
      | false => dstK ops.toList fun ds => seqK T S N ds ops.toList f bl nn (run T S N n k)
      | true => Need (okRegion ops.toList = true) (dstK ops.toList fun ds => drwK T S N ops.toList ds ops.toList [] f bl nn (run T S N n k)) ∨
          (∃ m, tailOk ops.toList m = true ∧ drwK T S N (ops.toList.take m) ((ops.toList.take m).map (·.dst)) (ops.toList.take m) [] f bl nn fun f bl nn => seqK T S N (ops.toList.map (·.dst)) (ops.toList.drop m) f bl nn (run T S N n k)) ∨
          (∃ cs, (okRegion ops.toList && segOk ops.toList 0 cs) = true ∧ segK T S N ops.toList 0 cs f bl nn (run T S N n k)) ∨
          (∃ cs, (okRegion ops.toList && segXok ops.toList 0 [] cs) = true ∧ segX T S N ops.toList 0 [] [] cs f bl nn (run T S N n k)) ∨
          Need (okRegion ops.toList = true) (dstK ops.toList fun ds => drwO T S N ops.toList ds ops.toList [] f bl nn (run T S N n k))
    | .seq a b => run T S N n (.code a :: .code b :: k) f bl nn
    | .cond c a b => match evS f c with
      | some (.a (.of (.leaf .bool t))) => Way t (run T S N n (.code a :: k) f bl nn) (run T S N n (.code b :: k) f bl nn)
      | _ => False
    | .block id a => run T S N n (.code a :: .block id :: k) f bl nn
    | .loop a => (∃ m, rounds (fun I => run T S N n (.code a :: .inv I :: k)) m f bl nn) ∨
        ∃ I : Nat → Fr → List V → NS → Prop, (∃ j, Ent T.base (I j) f bl nn) ∧ ∀ j f bl nn, I j f bl nn → run T S N n (.code a :: .inv (fun f' bl' nn' => ∃ j', j' < j ∧ Ent T.base (I j') f' bl' nn') :: k) f bl nn
    | .exit id => match popB id k with | some k' => run T S N n k' f bl nn | none => False
    | .ret => match popR k with | some k' => run T S N n k' f bl nn | none => False
    | _ => False

section
variable {P : Program} {T : Tab} {S : List (Nat × Spec)} {w0 : World} {F0 : Old} {N : Nat}

/-- What holds when a function is at its end. -/
def Fin (P : Program) (T : Tab) (w0 : World) (F0 : Old) (N : Nat) (rs : List ResultVar) (ts : List Ty) (K : DL ts → List V → NS → Prop) (a : Act) (x : World) : Prop := Sat w0 F0 N (fun f bl nn => resK T f bl rs ts fun d => K d bl nn) a x

def FinA (P : Program) (T : Tab) (w0 : World) (F0 : Old) (N : Nat) (rs : List ResultVar) (K : List AV → List V → NS → Prop) (a : Act) (x : World) : Prop := Sat w0 F0 N (fun f bl nn => resA T f bl rs fun l => K l bl nn) a x

def SQ (P : Program) (T : Tab) (w0 : World) (F0 : Old) (N : Nat) : List It → Exit → Act → World → Prop
  | [], _, _, _ => False
  | .code c :: k, e, a, x => match e with | .normal => c.wp P (SQ P T w0 F0 N k) a x | e => SQ P T w0 F0 N k e a x
  | .block id :: k, e, a, x => match e with | .exit id' => if id' = id then SQ P T w0 F0 N k .normal a x else SQ P T w0 F0 N k (.exit id') a x | e => SQ P T w0 F0 N k e a x
  | .inv I :: k, e, a, x => match e with | .normal => Sat w0 F0 N I a x | e => SQ P T w0 F0 N k e a x
  | .fin rs ts K :: _, e, a, x => match e with | .normal => Fin P T w0 F0 N rs ts K a x | .ret => Fin P T w0 F0 N rs ts K a x | _ => False
  | .finA rs K :: _, e, a, x => match e with | .normal => FinA P T w0 F0 N rs K a x | .ret => FinA P T w0 F0 N rs K a x | _ => False

theorem popB_sound {id : Nat} : ∀ (k k' : List It), popB id k = some k' → ∀ a x, SQ P T w0 F0 N k' .normal a x → SQ P T w0 F0 N k (.exit id) a x
  | [], _, h, _, _, _ => by cases h
  | .block id' :: k, k', h, a, x, hs => by
    unfold popB at h
    show (if id = id' then SQ P T w0 F0 N k .normal a x else SQ P T w0 F0 N k (.exit id) a x)
    split at h
    · rename_i hb
      cases h
      rw [if_pos (Nat.eq_of_beq_eq_true hb)]
      exact hs
    · rename_i hb
      rw [if_neg (fun h => by subst h; simp at hb)]
      exact popB_sound k k' h a x hs
  | .fin _ _ _ :: _, _, h, _, _, _ => by cases h
  | .finA _ _ :: _, _, h, _, _, _ => by cases h
  | .code c :: k, k', h, a, x, hs => popB_sound k k' h a x hs
  | .inv I :: k, k', h, a, x, hs => popB_sound k k' h a x hs
theorem popR_sound : ∀ (k k' : List It), popR k = some k' → ∀ a x, SQ P T w0 F0 N k' .normal a x → SQ P T w0 F0 N k .ret a x
  | [], _, h, _, _, _ => by cases h
  | .fin rs ts K :: k, k', h, a, x, hs => by
    have : some (It.fin rs ts K :: k) = some k' := h
    cases this
    exact hs
  | .finA rs K :: k, k', h, a, x, hs => by
    have : some (It.finA rs K :: k) = some k' := h
    cases this
    exact hs
  | .block id' :: k, k', h, a, x, hs => popR_sound k k' h a x hs
  | .code c :: k, k', h, a, x, hs => popR_sound k k' h a x hs
  | .inv I :: k, k', h, a, x, hs => popR_sound k k' h a x hs

theorem subF_look : ∀ (g f : Fr), subF g f → ∀ t s, look g t = some s → look f t = some s
  | [], _, _, t, s, h => by cases h
  | (t', s') :: r, f, hs, t, s, h => by
    unfold look at h
    split at h
    · rename_i hb
      have := Nat.eq_of_beq_eq_true hb
      subst this; cases h
      exact hs.1
    · exact subF_look r f hs.2 t s h
theorem okF_look {k : Nat} : ∀ (f : Fr), okF k f = true → ∀ t s, look f t = some s → s.lt k = true
  | [], _, t, s, h => by cases h
  | (t', s') :: r, hk, t, s, h => by
    simp only [okF, Bool.and_eq_true] at hk
    unfold look at h
    split at h
    · cases h; exact hk.1
    · exact okF_look r hk.2 t s h

/-- The context with the first blocks alone. -/
def Cx.cut (c : Cx) (k : Nat) : Cx := { c with XA := fun i => c.XA i ∧ i < k }
theorem V.okc_cut {c : Cx} {k : Nat} (v : V) (h : v.okc c) : v.okc (c.cut k) := h
theorem AV.ok_cut {c : Cx} {k : Nat} {s : AV} (h : s.ok c) (hk : s.lt k = true) : s.ok (c.cut k) := by
  cases s with
  | of v => exact h
  | ptr i off p u => exact ⟨⟨h.1, Nat.le_of_ble_eq_true hk⟩, h.2⟩
  | elt t hd xs j off p u => exact h
  | slc i off p n t lo len cap => exact ⟨⟨h.1, Nat.le_of_ble_eq_true hk⟩, h.2⟩
  | clo g cs =>
    intro q hq
    simp only [AV.lt, List.all_eq_true] at hk
    exact ⟨⟨(h q hq).1, Nat.le_of_ble_eq_true (hk q hq)⟩, (h q hq).2⟩
  | emp hd => exact h
  | sub t hd xs lo hi => exact h
  | raw v => trivial
theorem SV.ok_cut {c : Cx} {k : Nat} {s : SV} (h : s.ok c) (hk : s.lt k = true) : s.ok (c.cut k) := by
  cases s with
  | a x => exact AV.ok_cut h hk
  | tup l =>
    simp only [SV.lt, List.all_eq_true] at hk
    exact fun y hy => AV.ok_cut (h y hy) (hk y hy)
theorem Real.cut {bl : List V} {nn : NS} {c : Cx} (h : Real w0 F0 bl nn c) (k : Nat) (hk : ∀ i, F0.c.XA i → i < k) : Real w0 F0 (bl.take k) nn (c.cut k) := by
  have hg : ∀ (i : Nat) (v : V), (bl.take k)[i]? = some v → bl[i]? = some v := fun i v hi => by
    rw [List.getElem?_take] at hi
    split at hi
    · exact hi
    · cases hi
  refine ⟨⟨h.wf.below, fun i hi => h.wf.lo i hi.1, fun i hi => h.wf.hi i hi.1, fun i j hi hj => h.wf.inj i j hi.1 hj.1, h.wf.fhi, fun i hi => h.wf.own i hi.1, h.wf.old, h.wf.oldB, ⟨fun i hi => ⟨⟨(h.wf.le.A i hi).1, hk i hi⟩, (h.wf.le.A i hi).2⟩, h.wf.le.B, h.wf.le.F, h.wf.le.K, h.wf.le.S⟩⟩, fun i => ?_, h.XB, fun i v hi => h.ty i v (hg i v hi), fun i v hi => h.blk i v (hg i v hi), h.tk.cut (fun i hi => hi.1)⟩
  · show (c.XA i ∧ i < k) ↔ _
    rw [h.XA, List.length_take]
    omega
theorem Real.norm {bl : List V} {nn : NS} {c : Cx} (h : Real w0 F0 bl nn c) : Real w0 F0 (bl.map V.norm) nn c := by
  have hg : ∀ (i : Nat) (v : V), (bl.map V.norm)[i]? = some v → ∃ u, bl[i]? = some u ∧ v = u.norm := fun i v hi => by
    rw [List.getElem?_map] at hi
    cases hb : bl[i]? with
    | none => rw [hb] at hi; cases hi
    | some u => rw [hb] at hi; exact ⟨u, rfl, (Option.some.inj hi).symm⟩
  refine ⟨h.wf, fun i => by rw [List.length_map]; exact h.XA i, h.XB, fun i v hi => ?_, fun i v hi => ?_, h.tk⟩
  · obtain ⟨u, hu, rfl⟩ := hg i v hi
    exact h.ty i u hu
  · obtain ⟨u, hu, rfl⟩ := hg i v hi
    obtain ⟨⟨e, h1⟩, h2⟩ := h.blk i u hu
    refine ⟨⟨e, ?_⟩, V.dn_ok u h2⟩
    have : u.norm.cells c.E.B = u.cells c.E.B := V.dn_flat c.E.B u
    rw [this]
    exact h1
theorem Sat.ent {base : Nat} (hb : ∀ i, F0.c.XA i → i < base) {I : Fr → List V → NS → Prop} {a : Act} {x : World} (h : Sat w0 F0 N (Ent base I) a x) : Sat w0 F0 N I a x := by
  obtain ⟨f, bl, nn, c, ⟨g, b, h0, h1, h2, h3, h4⟩, hr, hf, rfl⟩ := h
  exact ⟨g, _, nn, c.cut b, h4, (hr.cut b (fun i hi => Nat.lt_of_lt_of_le (hb i hi) h0)).norm, ⟨hf.size, hf.defers, fun t s ht => by
    obtain ⟨e1, e2⟩ := hf.get t s (subF_look g f h1 t s ht)
    exact ⟨e1, SV.ok_cut e2 (okF_look g h3 t s ht)⟩⟩, rfl⟩

theorem least {p : Nat → Prop} (h : ∃ n, p n) : ∃ n, p n ∧ ∀ m, p m → n ≤ m := by
  obtain ⟨n, hn⟩ := h
  induction n using Nat.strongRecOn with
  | ind n ih =>
    by_cases hm : ∃ m, m < n ∧ p m
    · obtain ⟨m, hlt, hp⟩ := hm
      exact ih m hlt hp
    · exact ⟨n, hn, fun m hp => Nat.le_of_not_lt fun hlt => hm ⟨m, hlt, hp⟩⟩

open Classical in
theorem loop_sound {c : Code} {Q : Exit → Act → World → Prop} (J : Nat → Act → World → Prop) (hround : ∀ j a x, J j a x → c.wp P (fun e a' x' => match e with | .normal => ∃ j', j' < j ∧ J j' a' x' | e => Q e a' x') a x) {j : Nat} {a : Act} {x : World} (h : J j a x) : (Code.loop c).wp P Q a x := by
  let μ : Act → World → Nat := fun a x => if h : ∃ n, J n a x then Classical.choose (least h) else 0
  have hμ : ∀ a x, (∃ n, J n a x) → J (μ a x) a x ∧ ∀ m, J m a x → μ a x ≤ m := fun a x h => by
    have : μ a x = Classical.choose (least h) := dif_pos h
    rw [this]
    exact Classical.choose_spec (least h)
  refine wp_loop (fun a x => ∃ n, J n a x) μ ⟨j, h⟩ fun a x hJ => ?_
  obtain ⟨hm, hleast⟩ := hμ a x hJ
  refine wp_mono (hround _ a x hm) fun e a' x' hs => ?_
  cases e with
  | normal =>
    obtain ⟨n', hlt, hJ'⟩ := hs
    exact ⟨⟨n', hJ'⟩, Nat.lt_of_le_of_lt ((hμ a' x' ⟨n', hJ'⟩).2 n' hJ') hlt⟩
  | _ => exact hs

theorem run_sound (hT : TabOk P T) (hS : SpecsOk P S) (hb : ∀ i, F0.c.XA i → i < T.base) (htop : T.top = true → ∀ b e, F0.c.E.F b e → b < w0.heap.size) : ∀ (n : Nat) (k : List It) (f : Fr) (bl : List V) (nn : NS), run T S N n k f bl nn → ∀ (c : Cx) (a : Act), Real w0 F0 bl nn c → FR N c f a → SQ P T w0 F0 N k .normal a c.x
  | 0, _, _, _, _, h, _, _, _, _ => h.elim
  | _ + 1, [], _, _, _, h, _, _, _, _ => h.elim
  | n + 1, .block _ :: k, f, bl, nn, h, c, a, hr, hf => run_sound hT hS hb htop n k f bl nn h c a hr hf
  | _ + 1, .inv I :: _, f, bl, nn, h, c, a, hr, hf => ⟨f, bl, nn, c, h, hr, hf, rfl⟩
  | _ + 1, .fin rs ts K :: _, f, bl, nn, h, c, a, hr, hf => ⟨f, bl, nn, c, h, hr, hf, rfl⟩
  | _ + 1, .finA rs K :: _, f, bl, nn, h, c, a, hr, hf => ⟨f, bl, nn, c, h, hr, hf, rfl⟩
  | n + 1, .code cd :: k, f, bl, nn, h, c, a, hr, hf => by
    have ih := run_sound hT hS hb htop n
    have hsat : ∀ k a x, Sat w0 F0 N (run T S N n k) a x → SQ P T w0 F0 N k .normal a x := fun k a x ⟨f, bl, nn, c, hk, hr, hf, hx⟩ => by
      subst hx
      exact ih k f bl nn hk c a hr hf
    show cd.wp P (SQ P T w0 F0 N k) a c.x
    unfold run at h
    split at h
    · exact wp_skip (ih k f bl nn h c a hr hf)
    · rename_i id ops draw
      split at h
      · have := seqK_sound (Q := SQ P T w0 F0 N k) hT hS htop (fun a x hs => hsat k a x hs) _ f bl nn c a (dstK_elim _ _ h) hr hf
        exact wp_region_list (by simpa using this)
      · rcases h with ⟨hok, hd⟩ | ⟨m, hok, hd⟩ | ⟨cs, hok, hd⟩ | ⟨cs, hok, hd⟩ | ⟨hok, hd⟩
        rotate_left
        · have := draw_tail (Q := SQ P T w0 F0 N k) (id := id) hT hS hok hd hr hf htop (fun a x hs => hsat k a x hs)
          simpa using this
        · have := draw_seg (Q := SQ P T w0 F0 N k) (id := id) hT hS htop hok hd hr hf (fun a x hs => hsat k a x hs)
          simpa using this
        · have := draw_segX (Q := SQ P T w0 F0 N k) (id := id) hT hS htop hok hd hr hf (fun a x hs => hsat k a x hs)
          simpa using this
        · have := draw_own (Q := SQ P T w0 F0 N k) (id := id) hT hS hok (dstK_elim _ _ hd) hr hf (fun a x hs => hsat k a x hs)
          simpa using this
        have := draw_sound (Q := SQ P T w0 F0 N k) (id := id) hT hS hok (dstK_elim _ _ hd) hr hf (fun a x hs => hsat k a x hs)
        simpa using this
    · rename_i p q
      refine wp_seq (wp_mono (ih _ f bl nn h c a hr hf) fun e a' x' hs => ?_)
      cases e <;> exact hs
    · rename_i cc p q
      split at h
      · rename_i t ht
        have h1 := (evS_sound hf ht).1
        refine wp_cond_split (t := t) h1 (fun htt => ?_) (fun htt => ?_)
        · exact ih _ f bl nn (h.t htt) c a hr hf
        · exact ih _ f bl nn (h.f htt) c a hr hf
      · exact h.elim
    · rename_i id p
      refine wp_block (wp_mono (ih _ f bl nn h c a hr hf) fun e a' x' hs => ?_)
      cases e <;> exact hs
    · rename_i p
      rcases h with ⟨m, hm⟩ | ⟨I, ⟨j, hj⟩, hround⟩
      · refine loop_sound (J := fun j a x => Sat w0 F0 N (rounds (fun I => run T S N n (.code p :: .inv I :: k)) j) a x) (fun j a x hJ => ?_) (j := m) ⟨f, bl, nn, c, hm, hr, hf, rfl⟩
        obtain ⟨f, bl, nn, c, hk, hr, hf, rfl⟩ := hJ
        cases j with
        | zero => exact hk.elim
        | succ j =>
          refine wp_mono (ih _ f bl nn hk c a hr hf) fun e a' x' hs => ?_
          cases e with
          | normal => exact ⟨j, Nat.lt_succ_self _, hs⟩
          | _ => exact hs
      · refine loop_sound (J := fun j a x => Sat w0 F0 N (I j) a x) (fun j a x hJ => ?_) (j := j) (Sat.ent hb ⟨f, bl, nn, c, hj, hr, hf, rfl⟩)
        obtain ⟨f, bl, nn, c, hk, hr, hf, rfl⟩ := hJ
        refine wp_mono (ih _ f bl nn (hround j f bl nn hk) c a hr hf) fun e a' x' hs => ?_
        cases e with
        | normal =>
          obtain ⟨f', bl', nn', c', ⟨j', hlt, hk'⟩, hr', hf', hx'⟩ := hs
          exact ⟨j', hlt, Sat.ent hb ⟨f', bl', nn', c', hk', hr', hf', hx'⟩⟩
        | _ => exact hs
    · split at h
      · rename_i k' hk'
        exact wp_exit (popB_sound _ _ hk' _ _ (ih _ f bl nn h c a hr hf))
      · exact h.elim
    · split at h
      · rename_i k' hk'
        exact wp_ret (popR_sound _ _ hk' _ _ (ih _ f bl nn h c a hr hf))
      · exact h.elim
    · exact h.elim
end

end Go.Proofs.Ytjbbgpacijageab.M

/- A function's contract out of a walk. No program is named here. -/
namespace Go.Proofs.Ytjbbgpacijageab.M
open Go.RowKit
set_option linter.unusedVariables false
set_option linter.unusedSimpArgs false

section
variable {P : Program} {T : Tab} {S : List (Nat × Spec)} {w0 : World} {F0 : Old} {N : Nat}

def resOne (tmps : Array Value) : ResultVar → Sem Value
  | .tmp t => pure (tmps.getD t undef)
  | .cell b t => do loadVar t (← asAddr (tmps.getD b undef))

theorem slotK_sound {s : AV} {t : Ty} {k : t.D → Prop} (h : slotK s t k) : ∃ d, k d ∧ ∀ c : Cx, s.ok c → s.val c.E = (V.leaf t d).val c.E.B ∧ wokc c t d := by
  unfold slotK at h
  split at h
  · rename_i v
    obtain ⟨d, h1, h2, h3, h4⟩ := denK_sound v t _ h
    exact ⟨d, h1, fun c hs => ⟨val_leaf h2 (h3 _), h4 _ _ _ _ hs⟩⟩
  · split at h
    · exact ⟨_, h, fun c _ => ⟨rfl, trivial, Or.inl ⟨rfl, none, 0, rfl⟩⟩⟩
    · exact h.elim
  · exact h.elim

theorem resK_sound (hT : TabOk P T) {f : Fr} {bl : List V} : ∀ (rs : List ResultVar) (ts : List Ty) (k : DL ts → Prop), resK T f bl rs ts k → ∃ d, k d ∧ ∀ (nn : NS) (c : Cx) (a : Act), Real w0 F0 bl nn c → FR N c f a →
    (rs.mapM (resOne a.tmps)).run P c.x = .ok ((leafs ts d).map (V.val c.E.B)) c.x ∧ wokL c.XB c.E.B c.E.F c.x ts d
  | [], [], k, h => ⟨(), h, fun nn c a _ _ => ⟨by simp [leafs], trivial⟩⟩
  | .tmp t :: r, ty :: ts, k, h => by
    unfold resK at h
    split at h
    · rename_i s hs
      obtain ⟨d, h1, h2⟩ := slotK_sound h
      obtain ⟨ds, h3, h4⟩ := resK_sound hT r ts _ h1
      refine ⟨(d, ds), h3, fun nn c a hr hf => ?_⟩
      obtain ⟨e1, e2⟩ := hf.get t _ hs
      obtain ⟨e3, e4⟩ := h2 c e2
      obtain ⟨e5, e6⟩ := h4 nn c a hr hf
      refine ⟨?_, e4, e6⟩
      have hv : a.tmps.getD t undef = (V.leaf ty d).val c.E.B := by
        rw [Array.getD_eq_getD_getElem?, e1, ← e3]; rfl
      rw [List.mapM_cons, show resOne a.tmps (.tmp t) = pure ((V.leaf ty d).val c.E.B) from by simp only [resOne, hv]]
      rw [Sem.run_bind, Sem.run_pure, Result.andThen_ok, Sem.run_bind, e5]
      rfl
    · exact h.elim
  | .cell b id :: r, ty :: ts, k, h => by
    unfold resK at h
    split at h
    · rename_i i off p u hs
      split at h
      · rename_i ty' n' hty
        split at h
        · rename_i he _
          subst he
          split at h
          · rename_i v hv
            split at h
            · rename_i y hy
              rw [nthB_eq] at hv
              obtain ⟨d, h1, h2, h3, h4⟩ := denK_sound y ty _ h
              obtain ⟨ds, h5, h6⟩ := resK_sound hT r ts _ h1
              refine ⟨(d, ds), h5, fun nn c a hr hf => ?_⟩
              obtain ⟨e1, e2⟩ := hf.get b _ hs
              obtain ⟨_, t', e3, e4⟩ := e2
              rw [hr.ty i v hv] at e3
              cases e3
              obtain ⟨⟨e, e5⟩, e6⟩ := hr.blk i v hv
              obtain ⟨e7, e8⟩ := h6 nn c a hr hf
              refine ⟨?_, h4 _ _ _ _ (getV_ok p v y off u hy e4 e6), e8⟩
              have hb : a.tmps.getD b undef = .pointer (some ⟨c.E.A i, off, none⟩) := by rw [Array.getD_eq_getD_getElem?, e1]; rfl
              have hl := load_at (tyB_1 (hT.ty.at hty)) hy e4 (B := c.E.B) (x := c.x) (a := c.E.A i) (fun j _ => hb_cell e5 j)
              simp only [Instr.loadAt, Instr.sureAddr, Sem.run_bind, Sem.run_pure, Result.andThen_ok] at hl
              rw [List.mapM_cons]
              rw [show resOne a.tmps (.cell b id) = (do loadVar id (← asAddr (.pointer (some ⟨c.E.A i, off, none⟩)))) from by simp only [resOne, hb]]
              rw [show asAddr (.pointer (some ⟨c.E.A i, off, none⟩)) = pure ⟨c.E.A i, off, none⟩ from rfl, Sem.run_bind, Sem.run_bind, Sem.run_pure, Result.andThen_ok, hl, Result.andThen_ok, Sem.run_bind, e7, val_leaf h2 (h3 _)]
              rfl
            · exact h.elim
          · exact h.elim
        · exact h.elim
      · exact h.elim
    · exact h.elim
  | [], _ :: _, _, h => by unfold resK at h; exact h.elim
  | .tmp _ :: _, [], _, h => by unfold resK at h; exact h.elim
  | .cell _ _ :: _, [], _, h => by unfold resK at h; exact h.elim

theorem results_run {fn : Func} {a : Act} {x : World} {l : List V} {B : Nat → Value} (h : (fn.results.toList.mapM (resOne a.tmps)).run P x = .ok (l.map (V.val B)) x) : (results fn a.tmps).run P x = .ok (retV B l) x := by
  have hops : fn.results = fn.results.toList.toArray := by simp
  rw [show results fn a.tmps = (do let vs ← fn.results.mapM (resOne a.tmps); pure (if h : vs.size = 1 then vs[0] else .tuple vs)) from rfl]
  rw [hops, List.mapM_toArray]
  rw [Sem.run_bind, Sem.run_map, h]
  simp only [Result.andThen_ok, Sem.run_pure]
  match l with
  | [] => rfl
  | [v] => rfl
  | v :: u :: r => simp [retV]

def initK : (ts : List Ty) → DL ts → Nat → (Fr → Prop) → Prop
  | [], _, _, k => k []
  | t :: r, d, n, k => match d with | (a, d) => initK r d (n + 1) fun f => k ((n, .a (.of (.leaf t a))) :: f)
def initF : List V → Nat → Fr
  | [], _ => []
  | v :: r, k => (k, .a (.of v)) :: initF r (k + 1)
theorem initF_look : ∀ (l : List V) (k t : Nat) (s : SV), look (initF l k) t = some s → ∃ v, s = .a (.of v) ∧ k ≤ t ∧ l[t - k]? = some v
  | [], _, _, _, h => by cases h
  | v :: r, k, t, s, h => by
    unfold initF look at h
    split at h
    · rename_i hb
      have := Nat.eq_of_beq_eq_true hb
      subst this; cases h
      exact ⟨v, rfl, Nat.le_refl _, by simp⟩
    · obtain ⟨u, h1, h2, h3⟩ := initF_look r (k + 1) t s h
      refine ⟨u, h1, by omega, ?_⟩
      have : t - k = t - (k + 1) + 1 := by omega
      rw [this]
      simpa using h3

theorem initK_elim : ∀ (ts : List Ty) (d : DL ts) (n : Nat) (k : Fr → Prop), initK ts d n k → k (initF (leafs ts d) n)
  | [], _, _, _, h => h
  | t :: r, d, n, k, h => initK_elim r d.2 (n + 1) _ h
theorem leafs_len : ∀ (ts : List Ty) (d : DL ts), (leafs ts d).length = ts.length
  | [], _ => rfl
  | t :: r, d => by simp only [leafs, List.length_cons, leafs_len r d.2]

/-- Lists are no longer than any may be. -/
def bnd : (t : Ty) → t.D → Prop
  | .int, _ => True
  | .bool, _ => True
  | .ref, _ => True
  | .one t, v => bnd t v
  | .pair a b, v => bnd a v.1 ∧ bnd b v.2
  | .arr n t, f => ∀ i, i < n → bnd t (f i)
  | .lst t, v => v.2.length ≤ 9223372036854775807
def bndL : (ts : List Ty) → DL ts → Prop
  | [], _ => True
  | t :: r, d => bnd t d.1 ∧ bndL r d.2
theorem wok_bnd {XB : Nat → Prop} {B : Nat → Value} {F : Nat → Nat → Prop} {x : World} : ∀ (t : Ty) (v : t.D), wok XB B F x t v → bnd t v
  | .int, _, _ => trivial
  | .bool, _, _ => trivial
  | .ref, _, _ => trivial
  | .one t, v, h => wok_bnd t v h
  | .pair a b, v, h => ⟨wok_bnd a v.1 h.1, wok_bnd b v.2 h.2⟩
  | .arr n t, f, h => fun i hi => wok_bnd t (f i) (h i hi)
  | .lst t, v, h => by
    show v.2.length ≤ 9223372036854775807
    rcases h.2 with ⟨h1, _⟩ | ⟨b, o, cap, _, h2, h3, _⟩
    · rw [h1]; exact Nat.zero_le _
    · unfold maxLen at h3
      omega
theorem wokL_bnd {XB : Nat → Prop} {B : Nat → Value} {F : Nat → Nat → Prop} {x : World} : ∀ (ts : List Ty) (d : DL ts), wokL XB B F x ts d → bndL ts d
  | [], _, _ => trivial
  | t :: r, d, h => ⟨wok_bnd t d.1 h.1, wokL_bnd r d.2 h.2⟩

/-- Alike, as far as it can be seen. -/
def eqv : (t : Ty) → t.D → t.D → Prop
  | .int, a, b => a = b
  | .bool, a, b => a = b
  | .ref, a, b => a = b
  | .one t, a, b => eqv t a b
  | .pair s t, a, b => eqv s a.1 b.1 ∧ eqv t a.2 b.2
  | .arr n t, f, g => ∀ i, i < n → eqv t (f i) (g i)
  | .lst _, a, b => a = b
def eqvL : (ts : List Ty) → DL ts → DL ts → Prop
  | [], _, _ => True
  | t :: r, a, b => eqv t a.1 b.1 ∧ eqvL r a.2 b.2
theorem eqv_refl : ∀ (t : Ty) (a : t.D), eqv t a a
  | .int, _ => rfl
  | .bool, _ => rfl
  | .ref, _ => rfl
  | .one t, a => eqv_refl t a
  | .pair s t, a => ⟨eqv_refl s a.1, eqv_refl t a.2⟩
  | .arr n t, f => fun i _ => eqv_refl t (f i)
  | .lst _, _ => rfl
theorem eqvL_refl : ∀ (ts : List Ty) (a : DL ts), eqvL ts a a
  | [], _ => trivial
  | t :: r, a => ⟨eqv_refl t a.1, eqvL_refl r a.2⟩
theorem eqv_flat (B : Nat → Value) : ∀ (t : Ty) (a b : t.D), eqv t a b → flat B t a = flat B t b
  | .int, _, _, h => by rw [show _ = _ from h]
  | .bool, _, _, h => by rw [show _ = _ from h]
  | .ref, _, _, h => by rw [show _ = _ from h]
  | .one t, a, b, h => eqv_flat B t a b h
  | .pair s t, a, b, h => by simp only [flat]; rw [eqv_flat B s _ _ h.1, eqv_flat B t _ _ h.2]
  | .arr n t, f, g, h => rows_congr n fun i hi => eqv_flat B t _ _ (h i hi)
  | .lst _, _, _, h => by rw [show _ = _ from h]
theorem eqv_wok {XB : Nat → Prop} {B : Nat → Value} {F : Nat → Nat → Prop} {x : World} : ∀ (t : Ty) (a b : t.D), eqv t a b → wok XB B F x t a → wok XB B F x t b
  | .int, _, _, _, _ => trivial
  | .bool, _, _, _, _ => trivial
  | .ref, _, _, h, hw => by rw [← show _ = _ from h]; exact hw
  | .one t, a, b, h, hw => eqv_wok t a b h hw
  | .pair s t, a, b, h, hw => ⟨eqv_wok s _ _ h.1 hw.1, eqv_wok t _ _ h.2 hw.2⟩
  | .arr n t, f, g, h, hw => fun i hi => eqv_wok t _ _ (h i hi) (hw i hi)
  | .lst _, _, _, h, hw => by rw [← show _ = _ from h]; exact hw
theorem eqvL_wok {XB : Nat → Prop} {B : Nat → Value} {F : Nat → Nat → Prop} {x : World} : ∀ (ts : List Ty) (a b : DL ts), eqvL ts a b → wokL XB B F x ts a → wokL XB B F x ts b
  | [], _, _, _, _ => trivial
  | t :: r, a, b, h, hw => ⟨eqv_wok t _ _ h.1 hw.1, eqvL_wok r _ _ h.2 hw.2⟩
theorem eqv_val (B : Nat → Value) (t : Ty) (a b : t.D) (h : eqv t a b) : (V.leaf t a).val B = (V.leaf t b).val B := val_leaf rfl (eqv_flat B t a b h).symm
theorem eqvL_val (B : Nat → Value) : ∀ (ts : List Ty) (a b : DL ts), eqvL ts a b → (leafs ts a).map (V.val B) = (leafs ts b).map (V.val B)
  | [], _, _, _ => rfl
  | t :: r, a, b, h => by simp only [leafs, List.map_cons]; rw [eqv_val B t _ _ h.1, eqvL_val B r _ _ h.2]

/-- The end of a function: what it gives back, and how many names it has used. -/
structure Done (s : Spec) (nn : Nat) (d : s.args |> DL) (r : DL s.res) (nn' : NS) : Prop where
  eq : eqvL s.res r (s.fn nn d)
  nm : nolstL s.res = true ∨ nn'.n ≤ nn + s.m d

theorem Done.of {s : Spec} {nn : Nat} {d : DL s.args} {r : DL s.res} {nn' : NS} (h : r = s.fn nn d) (hn : nolstL s.res = true ∨ nn'.n ≤ nn + s.m d) : Done s nn d r nn' := ⟨by rw [h]; exact eqvL_refl _ _, hn⟩

/-- With a condition of any kind at the end, and tokens. -/
theorem ctr_genT {R : (s : Spec) → (nn : Nat) → DL s.args → DL s.res → NS → Prop}
    (hR : ∀ (s : Spec) (nn : Nat) (d : DL s.args) (r : DL s.res) (nn' : NS), R s nn d r nn' → ∀ (B B0 : Nat → Value) (F : Nat → Nat → Prop) (x : World), (∀ n, n < nn → B n = B0 n) → wokL (· < nn'.n) B F x s.res r → ∃ B', (∀ n, n < nn → B' n = B0 n) ∧ retL B' s.res (s.fn nn d) = retL B s.res r ∧ wokL (· < nn + s.m d) B' F x s.res (s.fn nn d))
    (hT : TabOk P T) (hS : SpecsOk P S) {g : FuncId} {fn : Func} {cd : Code} (hf : P.funcs[g]? = some fn) (hb : fn.body = some cd) (s : Spec) (tkf : DL s.args → List (Hd × Nat)) (htk : ∀ (nn : Nat) (d : DL s.args) (B : Nat → Value) (F : Nat → Nat → Prop) (x : World), wokL (· < nn) B F x s.args d → Toks x { XA := fun _ => False, XB := fun n => n < nn, ty := fun _ => none, E := ⟨fun _ => 0, B, F⟩, x := x } (tkf d)) (hn : s.args.length ≤ fn.ntmps) (nocr : s.cr = false → ∀ d, s.m d = 0)
    (h : ∀ nn d, s.pre d → bndL s.args d → ∃ fuel, initK s.args d 0 fun f => run T S fn.ntmps fuel [.code cd, .fin fn.results.toList s.res fun r _ nn' => R s nn d r nn'] f [] ⟨nn, tkf d⟩) : Ctr P g s := by
  refine ⟨nocr, fun B nn x F d hF hwk hpre => ?_⟩
  obtain ⟨fuel, hrun⟩ := h nn d hpre (wokL_bnd _ _ hwk)
  have hrun := initK_elim _ _ _ _ hrun
  refine calls_of_wp hf hb ?_
  let c0 : Cx := { XA := fun _ => False, XB := fun n => n < nn, ty := fun _ => none, E := ⟨fun _ => 0, B, F⟩, x := x }
  have hRl : Real x ⟨F, B, nn, c0⟩ [] ⟨nn, tkf d⟩ c0 := ⟨⟨Below.refl _ _, fun i hi => hi.elim, fun i hi => hi.elim, fun i j hi => hi.elim, hF, fun i hi => hi.elim, fun b e _ => Iff.rfl, fun n hn => ⟨hn, rfl⟩, Cx.Le.refl _⟩, fun i => by simp [c0], fun n => Iff.rfl, fun i v hi => by simp at hi, fun i v hi => by simp at hi, htk nn d B F x hwk⟩
  have hargs := leafs_len s.args d
  have hFR : FR fn.ntmps c0 (initF (leafs s.args d) 0) { tmps := ((leafs s.args d).map (V.val B)).toArray ++ Array.replicate (fn.ntmps - ((leafs s.args d).map (V.val B)).toArray.size) undef, defers := [] } := by
    refine ⟨by simp [hargs]; omega, rfl, fun t u ht => ?_⟩
    obtain ⟨v, rfl, _, hv⟩ := initF_look _ 0 t u ht
    rw [Nat.sub_zero] at hv
    have hlt := lt_of_get hv
    refine ⟨?_, leafs_ok (c := c0) s.args d hwk v (List.mem_of_getElem? hv)⟩
    simp only []
    rw [Array.getElem?_append_left (by simpa using hlt)]
    simp [hv, SV.val, AV.val, c0]
  have hfin : ∀ a y, Fin P T x ⟨F, B, nn, c0⟩ fn.ntmps fn.results.toList s.res (fun r _ nn' => R s nn d r nn') a y → a.defers = [] ∧ ∃ v, (results fn a.tmps).run P y = .ok v y ∧ ∃ B' F', (∀ n, n < nn → B' n = B n) ∧ (∀ b e, F b e → F' b e) ∧ (∀ b e, b < x.heap.size → F' b e → F b e) ∧ (∀ b e, F' b e → b < y.heap.size) ∧
      Ending.returned v = .returned (retL B' s.res (s.fn nn d)) ∧ wokL (· < nn + s.m d) B' F' y s.res (s.fn nn d) ∧ Below x.heap.size x y := fun a y hs => by
    obtain ⟨f, bl, nn', c, hk, hr, hfr, rfl⟩ := hs
    obtain ⟨r, hd, hres⟩ := resK_sound (w0 := x) (F0 := ⟨F, B, nn, c0⟩) (N := fn.ntmps) hT _ _ _ hk
    obtain ⟨e1, e2⟩ := hres nn' c a hr hfr
    obtain ⟨B', b1, b2, b3⟩ := hR s nn d r nn' hd c.E.B B c.E.F c.x (fun n hn => (hr.wf.oldB n hn).2) (wokL_mono (fun n hn => (hr.XB n).1 hn) (fun _ _ => rfl) (fun _ _ h => h) (fun _ _ _ _ _ => rfl) (Nat.le_refl _) _ _ e2)
    exact ⟨hfr.defers, _, results_run e1, B', c.E.F, b1, fun b e he => (hr.wf.old b e (hF b e he)).2 he, fun b e hb he => (hr.wf.old b e hb).1 he, hr.wf.fhi, by rw [b2]; rfl, b3, hr.wf.below⟩
  have hsq := run_sound (w0 := x) (F0 := ⟨F, B, nn, c0⟩) hT hS (fun i hi => hi.elim) (fun _ b e he => hF b e he) fuel _ _ _ _ hrun c0 _ hRl hFR
  refine wp_mono hsq fun e a y hs => ?_
  cases e with
  | ret => exact hfin a y hs
  | normal => exact hfin a y hs
  | _ => exact hs.elim

/-- With a condition of any kind at the end, and tokens for nil lists. -/
theorem ctr_gen (tk : List Nat) {R : (s : Spec) → (nn : Nat) → DL s.args → DL s.res → NS → Prop}
    (hR : ∀ (s : Spec) (nn : Nat) (d : DL s.args) (r : DL s.res) (nn' : NS), R s nn d r nn' → ∀ (B B0 : Nat → Value) (F : Nat → Nat → Prop) (x : World), (∀ n, n < nn → B n = B0 n) → wokL (· < nn'.n) B F x s.res r → ∃ B', (∀ n, n < nn → B' n = B0 n) ∧ retL B' s.res (s.fn nn d) = retL B s.res r ∧ wokL (· < nn + s.m d) B' F x s.res (s.fn nn d))
    (hT : TabOk P T) (hS : SpecsOk P S) {g : FuncId} {fn : Func} {cd : Code} (hf : P.funcs[g]? = some fn) (hb : fn.body = some cd) (s : Spec) (hn : s.args.length ≤ fn.ntmps) (nocr : s.cr = false → ∀ d, s.m d = 0)
    (h : ∀ nn d, s.pre d → bndL s.args d → ∃ fuel, initK s.args d 0 fun f => run T S fn.ntmps fuel [.code cd, .fin fn.results.toList s.res fun r _ nn' => R s nn d r nn'] f [] ⟨nn, tk.map fun q => (nilH, q)⟩) : Ctr P g s :=
  ctr_genT hR hT hS hf hb s (fun _ => tk.map fun q => (nilH, q)) (fun _ _ _ _ _ _ => Toks.nils _ _ tk) hn nocr h

theorem done_ok (s : Spec) (nn : Nat) (d : DL s.args) (r : DL s.res) (nn' : NS) (h : Done s nn d r nn') (B B0 : Nat → Value) (F : Nat → Nat → Prop) (x : World) (hB : ∀ n, n < nn → B n = B0 n) (hw : wokL (· < nn'.n) B F x s.res r) :
    ∃ B', (∀ n, n < nn → B' n = B0 n) ∧ retL B' s.res (s.fn nn d) = retL B s.res r ∧ wokL (· < nn + s.m d) B' F x s.res (s.fn nn d) := by
  refine ⟨B, hB, ?_, ?_⟩
  · unfold retL
    have h1 := eqvL_val B _ _ _ h.eq
    have key : ∀ (l l' : List V), l.map (V.val B) = l'.map (V.val B) → retV B l = retV B l' := fun l l' hl => by
      match l, l', hl with
      | [], [], _ => rfl
      | [a], [b], hl => simpa [retV] using hl
      | a :: b :: l, c :: d :: l', hl => simp only [retV, hl]
      | [], _ :: _, hl => simp at hl
      | _ :: _, [], hl => simp at hl
      | [a], b :: c :: l, hl => simp at hl
      | b :: c :: l, [a], hl => simp at hl
    exact (key _ _ h1).symm
  · have e2 := eqvL_wok _ _ _ h.eq hw
    rcases h.nm with hd2 | hd2
    · exact wokL_nolst _ _ hd2
    · exact wokL_mono (fun n hn => Nat.lt_of_lt_of_le hn hd2) (fun _ _ => rfl) (fun _ _ h => h) (fun _ _ _ _ _ => rfl) (Nat.le_refl _) _ _ e2
theorem ctr_of (hT : TabOk P T) (hS : SpecsOk P S) {g : FuncId} {fn : Func} {cd : Code} (hf : P.funcs[g]? = some fn) (hb : fn.body = some cd) (s : Spec) (hn : s.args.length ≤ fn.ntmps) (nocr : s.cr = false → ∀ d, s.m d = 0)
    (h : ∀ nn d, s.pre d → bndL s.args d → ∃ fuel, initK s.args d 0 fun f => run T S fn.ntmps fuel [.code cd, .fin fn.results.toList s.res fun r _ nn' => Done s nn d r nn'] f [] ⟨nn, []⟩) : Ctr P g s :=
  ctr_gen [] (R := fun s nn d r nn' => Done s nn d r nn') (fun s nn d r nn' h => done_ok s nn d r nn' h) hT hS hf hb s hn nocr h

def initA : List AV → Nat → Fr
  | [], _ => []
  | s :: r, n => (n, .a s) :: initA r (n + 1)
def initAK : List AV → Nat → (Fr → Prop) → Prop
  | [], _, k => k []
  | s :: r, n, k => initAK r (n + 1) fun f => k ((n, .a s) :: f)
theorem initAK_elim : ∀ (l : List AV) (n : Nat) (k : Fr → Prop), initAK l n k → k (initA l n)
  | [], _, _, h => h
  | s :: r, n, k, h => initAK_elim r (n + 1) _ h
theorem initA_look : ∀ (l : List AV) (k t : Nat) (s : SV), look (initA l k) t = some s → ∃ v, s = .a v ∧ k ≤ t ∧ l[t - k]? = some v
  | [], k, t, s, h => by cases h
  | v :: r, k, t, s, h => by
    unfold initA look at h
    split at h
    · rename_i hb
      have := Nat.eq_of_beq_eq_true hb
      subst this
      cases h
      exact ⟨v, rfl, Nat.le_refl _, by simp⟩
    · rename_i hb
      obtain ⟨u, h1, h2, h3⟩ := initA_look r (k + 1) t s h
      refine ⟨u, h1, by omega, ?_⟩
      rw [show t - k = (t - (k + 1)) + 1 from by omega]
      simpa using h3

/-- A function walked where it is called. -/
structure Inl (T : Tab) (S : List (Nat × Spec)) (fn : Func) (ts : List Ty) (args : List AV) (bl : List V) (nn : NS) (k : SV → List V → NS → Prop) : Prop where
  le : args.length ≤ fn.ntmps
  ex : ∃ cd, fn.body = some cd ∧ ∃ fuel, lenK bl 0 fun b => initAK args 0 fun f => run { T with base := b, top := false } S fn.ntmps fuel [.code cd, .fin fn.results.toList ts fun r bl' nn' => retK ts r fun v => k v bl' nn'] f bl nn

theorem inl_ok (hT : TabOk P T) (hS : SpecsOk P S) {g : FuncId} {fn : Func} (hf : P.funcs[g]? = some fn) (ts : List Ty) : MOk P g (Inl T S fn ts) := by
  intro w0 F0 args bl nn k h c hr hargs
  obtain ⟨hle, cd, hb, fuel, h⟩ := h
  have h := lenK_elim _ _ _ h
  have h := initAK_elim _ _ _ h
  rw [Nat.add_zero] at h
  refine calls_of_wp hf hb ?_
  have hT' : TabOk P { T with base := bl.length, top := false } := ⟨hT.ty, hT.eq, hT.mix, hT.ptr⟩
  have hR : Real w0 { F0 with c := c } bl nn c := ⟨⟨hr.wf.below, hr.wf.lo, hr.wf.hi, hr.wf.inj, hr.wf.fhi, hr.wf.own, hr.wf.old, hr.wf.oldB, Cx.Le.refl _⟩, hr.XA, hr.XB, hr.ty, hr.blk, hr.tk⟩
  have hFR : FR fn.ntmps c (initA args 0) { tmps := (args.map (AV.val c.E)).toArray ++ Array.replicate (fn.ntmps - (args.map (AV.val c.E)).toArray.size) undef, defers := [] } := by
    refine ⟨by simp; omega, rfl, fun t u ht => ?_⟩
    obtain ⟨v, rfl, _, hv⟩ := initA_look _ 0 t u ht
    rw [Nat.sub_zero] at hv
    have hlt := lt_of_get hv
    refine ⟨?_, hargs v (List.mem_of_getElem? hv)⟩
    simp only []
    rw [Array.getElem?_append_left (by simpa using hlt)]
    simp [hv, SV.val]
  have hfin : ∀ a y, Fin P { T with base := bl.length, top := false } w0 { F0 with c := c } fn.ntmps fn.results.toList ts (fun r bl' nn' => retK ts r fun v => k v bl' nn') a y → a.defers = [] ∧ ∃ v, (results fn a.tmps).run P y = .ok v y ∧ ∃ r bl' nn' c', Ending.returned v = .returned (r.val c'.E) ∧ k r bl' nn' ∧ Real w0 F0 bl' nn' c' ∧ c.Le c' ∧ r.ok c' ∧ c'.x = y := fun a y hs => by
    obtain ⟨f, bl', nn', c', hk, hr', hfr, rfl⟩ := hs
    obtain ⟨r, hd, hres⟩ := resK_sound (w0 := w0) (F0 := { F0 with c := c }) (N := fn.ntmps) hT' _ _ _ hk
    obtain ⟨e1, e2⟩ := hres nn' c' a hr' hfr
    refine ⟨hfr.defers, _, results_run e1, retS ts r, bl', nn', c', ?_, retK_elim hd, ?_, hr'.wf.le, ret_ok _ _ e2, rfl⟩
    · rw [ret_val]
      rfl
    · exact ⟨⟨hr'.wf.below, hr'.wf.lo, hr'.wf.hi, hr'.wf.inj, hr'.wf.fhi, hr'.wf.own, hr'.wf.old, hr'.wf.oldB, hr.wf.le.trans hr'.wf.le⟩, hr'.XA, hr'.XB, hr'.ty, hr'.blk, hr'.tk⟩
  have hsq := run_sound (w0 := w0) (F0 := { F0 with c := c }) hT' hS (fun i hi => (hr.XA i).1 hi) (fun h => by cases h) fuel _ _ _ _ h c _ hR hFR
  refine wp_mono hsq fun e a y hs => ?_
  cases e with
  | ret => exact hfin a y hs
  | normal => exact hfin a y hs
  | _ => exact hs.elim
theorem resA_sound (hT : TabOk P T) {f : Fr} {bl : List V} : ∀ (rs : List ResultVar) (k : List AV → Prop), resA T f bl rs k → ∃ l, k l ∧ ∀ (nn : NS) (c : Cx) (a : Act), Real w0 F0 bl nn c → FR N c f a →
    (rs.mapM (resOne a.tmps)).run P c.x = .ok (l.map (AV.val c.E)) c.x ∧ ∀ s ∈ l, s.ok c
  | [], k, h => ⟨[], h, fun nn c a _ _ => ⟨by simp, fun s hs => by cases hs⟩⟩
  | .tmp t :: r, k, h => by
    unfold resA at h
    split at h
    · rename_i s hs
      obtain ⟨l, h3, h4⟩ := resA_sound hT r _ h
      refine ⟨s :: l, h3, fun nn c a hr hf => ?_⟩
      obtain ⟨e1, e2⟩ := hf.get t _ hs
      obtain ⟨e5, e6⟩ := h4 nn c a hr hf
      refine ⟨?_, fun q hq => ?_⟩
      · have hv : a.tmps.getD t undef = s.val c.E := by rw [Array.getD_eq_getD_getElem?, e1]; rfl
        rw [List.mapM_cons, show resOne a.tmps (.tmp t) = pure (s.val c.E) from by simp only [resOne, hv]]
        rw [Sem.run_bind, Sem.run_pure, Result.andThen_ok, Sem.run_bind, e5]
        rfl
      · rcases List.mem_cons.1 hq with rfl | hq
        · exact e2
        · exact e6 q hq
    · exact h.elim
  | .cell b id :: r, k, h => by
    unfold resA at h
    split at h
    · rename_i i off p u hs
      split at h
      · rename_i ty' n' hty
        split at h
        · rename_i he _
          subst he
          split at h
          · rename_i v hv
            split at h
            · rename_i y hy
              rw [nthB_eq] at hv
              obtain ⟨l, h5, h6⟩ := resA_sound hT r _ h
              refine ⟨.of y :: l, h5, fun nn c a hr hf => ?_⟩
              obtain ⟨e1, e2⟩ := hf.get b _ hs
              obtain ⟨_, t', e3, e4⟩ := e2
              rw [hr.ty i v hv] at e3
              cases e3
              obtain ⟨⟨e, e5⟩, e6⟩ := hr.blk i v hv
              obtain ⟨e7, e8⟩ := h6 nn c a hr hf
              refine ⟨?_, fun q hq => ?_⟩
              · have hb : a.tmps.getD b undef = .pointer (some ⟨c.E.A i, off, none⟩) := by rw [Array.getD_eq_getD_getElem?, e1]; rfl
                have hl := load_at (tyB_1 (hT.ty.at hty)) hy e4 (B := c.E.B) (x := c.x) (a := c.E.A i) (fun j _ => hb_cell e5 j)
                simp only [Instr.loadAt, Instr.sureAddr, Sem.run_bind, Sem.run_pure, Result.andThen_ok] at hl
                rw [List.mapM_cons]
                rw [show resOne a.tmps (.cell b id) = (do loadVar id (← asAddr (.pointer (some ⟨c.E.A i, off, none⟩)))) from by simp only [resOne, hb]]
                rw [show asAddr (.pointer (some ⟨c.E.A i, off, none⟩)) = pure ⟨c.E.A i, off, none⟩ from rfl, Sem.run_bind, Sem.run_bind, Sem.run_pure, Result.andThen_ok, hl, Result.andThen_ok, Sem.run_bind, e7]
                rfl
              · rcases List.mem_cons.1 hq with rfl | hq
                · exact getV_ok p v y off u hy e4 e6
                · exact e8 q hq
            · exact h.elim
          · exact h.elim
        · exact h.elim
      · exact h.elim
    · exact h.elim
def retAK (l : List AV) (k : SV → Prop) : Prop := match l with | [s] => k (.a s) | l => k (.tup l)
theorem results_runA {fn : Func} {a : Act} {x : World} {l : List AV} {E : Env} (h : (fn.results.toList.mapM (resOne a.tmps)).run P x = .ok (l.map (AV.val E)) x) {k : SV → Prop} (hk : retAK l k) : ∃ r : SV, k r ∧ (results fn a.tmps).run P x = .ok (r.val E) x ∧ (∀ c : Cx, (∀ s ∈ l, s.ok c) → r.ok c) := by
  have hops : fn.results = fn.results.toList.toArray := by simp
  have hres : results fn a.tmps = (do let vs ← fn.results.mapM (resOne a.tmps); pure (if h : vs.size = 1 then vs[0] else .tuple vs)) := rfl
  unfold retAK at hk
  split at hk
  · rename_i s
    refine ⟨_, hk, ?_, fun c hc => hc s (by simp)⟩
    rw [hres, hops, List.mapM_toArray, Sem.run_bind, Sem.run_map, h]
    simp only [Result.andThen_ok, Sem.run_pure]
    rfl
  · rename_i hne
    refine ⟨_, hk, ?_, fun c hc => hc⟩
    rw [hres, hops, List.mapM_toArray, Sem.run_bind, Sem.run_map, h]
    simp only [Result.andThen_ok, Sem.run_pure]
    rw [dif_neg]
    · rfl
    · intro h1
      match l, hne, h1 with
      | [], _, h1 => simp at h1
      | [s], hne, _ => exact hne s rfl
      | _ :: _ :: _, _, h1 => simp at h1
/-- A function walked where it is called that may store into lists. -/
structure InlT (T : Tab) (S : List (Nat × Spec)) (fn : Func) (ts : List Ty) (args : List AV) (bl : List V) (nn : NS) (k : SV → List V → NS → Prop) : Prop where
  le : args.length ≤ fn.ntmps
  ex : ∃ cd, fn.body = some cd ∧ ∃ fuel, lenK bl 0 fun b => initAK args 0 fun f => run { T with base := b, top := true } S fn.ntmps fuel [.code cd, .fin fn.results.toList ts fun r bl' nn' => retK ts r fun v => k v bl' nn'] f bl nn
theorem inlT_ok (hT : TabOk P T) (hS : SpecsOk P S) {g : FuncId} {fn : Func} (hf : P.funcs[g]? = some fn) (ts : List Ty) : MOkT P g (InlT T S fn ts) := by
  intro w0 F0 args bl nn k h htop c hr hargs
  obtain ⟨hle, cd, hb, fuel, h⟩ := h
  have h := lenK_elim _ _ _ h
  have h := initAK_elim _ _ _ h
  rw [Nat.add_zero] at h
  refine calls_of_wp hf hb ?_
  let cP : Cx := { XA := c.XA, XB := F0.c.XB, ty := c.ty, E := ⟨c.E.A, c.E.B, F0.c.E.F⟩, x := c.x }
  have l1 : F0.c.Le cP := ⟨hr.wf.le.A, fun n hn => ⟨hn, (hr.wf.le.B n hn).2⟩, fun _ _ h => h, hr.wf.le.K, hr.wf.le.S⟩
  have l2 : cP.Le c := ⟨fun i hi => ⟨hi, rfl, rfl⟩, fun n hn => ⟨(hr.wf.le.B n hn).1, rfl⟩, hr.wf.le.F, fun _ _ _ _ _ => rfl, Nat.le_refl _⟩
  have hT' : TabOk P { T with base := bl.length, top := true } := ⟨hT.ty, hT.eq, hT.mix, hT.ptr⟩
  have hR : Real w0 { F0 with c := cP } bl nn c := ⟨⟨hr.wf.below, hr.wf.lo, hr.wf.hi, hr.wf.inj, hr.wf.fhi, hr.wf.own, hr.wf.old, hr.wf.oldB, l2⟩, hr.XA, hr.XB, hr.ty, hr.blk, hr.tk⟩
  have hFR : FR fn.ntmps c (initA args 0) { tmps := (args.map (AV.val c.E)).toArray ++ Array.replicate (fn.ntmps - (args.map (AV.val c.E)).toArray.size) undef, defers := [] } := by
    refine ⟨by simp; omega, rfl, fun t u ht => ?_⟩
    obtain ⟨v, rfl, _, hv⟩ := initA_look _ 0 t u ht
    rw [Nat.sub_zero] at hv
    have hlt := lt_of_get hv
    refine ⟨?_, hargs v (List.mem_of_getElem? hv)⟩
    simp only []
    rw [Array.getElem?_append_left (by simpa using hlt)]
    simp [hv, SV.val]
  have hfin : ∀ a y, Fin P { T with base := bl.length, top := true } w0 { F0 with c := cP } fn.ntmps fn.results.toList ts (fun r bl' nn' => retK ts r fun v => k v bl' nn') a y → a.defers = [] ∧ ∃ v, (results fn a.tmps).run P y = .ok v y ∧ ∃ r bl' nn' c', Ending.returned v = .returned (r.val c'.E) ∧ k r bl' nn' ∧ Real w0 F0 bl' nn' c' ∧ c.LeP c' ∧ r.ok c' ∧ c'.x = y := fun a y hs => by
    obtain ⟨f, bl', nn', c', hk, hr', hfr, rfl⟩ := hs
    obtain ⟨r, hd, hres⟩ := resK_sound (w0 := w0) (F0 := { F0 with c := cP }) (N := fn.ntmps) hT' _ _ _ hk
    obtain ⟨e1, e2⟩ := hres nn' c' a hr' hfr
    refine ⟨hfr.defers, _, results_run e1, retS ts r, bl', nn', c', ?_, retK_elim hd, ?_, fun i hi => hr'.wf.le.A i hi, ret_ok _ _ e2, rfl⟩
    · rw [ret_val]
      rfl
    · exact ⟨⟨hr'.wf.below, hr'.wf.lo, hr'.wf.hi, hr'.wf.inj, hr'.wf.fhi, hr'.wf.own, hr'.wf.old, hr'.wf.oldB, l1.trans hr'.wf.le⟩, hr'.XA, hr'.XB, hr'.ty, hr'.blk, hr'.tk⟩
  have hsq := run_sound (w0 := w0) (F0 := { F0 with c := cP }) hT' hS (fun i hi => (hr.XA i).1 hi) (fun _ => htop) fuel _ _ _ _ h c _ hR hFR
  refine wp_mono hsq fun e a y hs => ?_
  cases e with
  | ret => exact hfin a y hs
  | normal => exact hfin a y hs
  | _ => exact hs.elim
/-- A function walked where it is called; what it hands back may be a pointer. -/
structure InlA (T : Tab) (S : List (Nat × Spec)) (fn : Func) (args : List AV) (bl : List V) (nn : NS) (k : SV → List V → NS → Prop) : Prop where
  le : args.length ≤ fn.ntmps
  ex : ∃ cd, fn.body = some cd ∧ ∃ fuel, lenK bl 0 fun b => initAK args 0 fun f => run { T with base := b, top := false } S fn.ntmps fuel [.code cd, .finA fn.results.toList fun l bl' nn' => retAK l fun v => k v bl' nn'] f bl nn
theorem inlA_ok (hT : TabOk P T) (hS : SpecsOk P S) {g : FuncId} {fn : Func} (hf : P.funcs[g]? = some fn) : MOk P g (InlA T S fn) := by
  intro w0 F0 args bl nn k h c hr hargs
  obtain ⟨hle, cd, hb, fuel, h⟩ := h
  have h := lenK_elim _ _ _ h
  have h := initAK_elim _ _ _ h
  rw [Nat.add_zero] at h
  refine calls_of_wp hf hb ?_
  have hT' : TabOk P { T with base := bl.length, top := false } := ⟨hT.ty, hT.eq, hT.mix, hT.ptr⟩
  have hR : Real w0 { F0 with c := c } bl nn c := ⟨⟨hr.wf.below, hr.wf.lo, hr.wf.hi, hr.wf.inj, hr.wf.fhi, hr.wf.own, hr.wf.old, hr.wf.oldB, Cx.Le.refl _⟩, hr.XA, hr.XB, hr.ty, hr.blk, hr.tk⟩
  have hFR : FR fn.ntmps c (initA args 0) { tmps := (args.map (AV.val c.E)).toArray ++ Array.replicate (fn.ntmps - (args.map (AV.val c.E)).toArray.size) undef, defers := [] } := by
    refine ⟨by simp; omega, rfl, fun t u ht => ?_⟩
    obtain ⟨v, rfl, _, hv⟩ := initA_look _ 0 t u ht
    rw [Nat.sub_zero] at hv
    have hlt := lt_of_get hv
    refine ⟨?_, hargs v (List.mem_of_getElem? hv)⟩
    simp only []
    rw [Array.getElem?_append_left (by simpa using hlt)]
    simp [hv, SV.val]
  have hfin : ∀ a y, FinA P { T with base := bl.length, top := false } w0 { F0 with c := c } fn.ntmps fn.results.toList (fun l bl' nn' => retAK l fun v => k v bl' nn') a y → a.defers = [] ∧ ∃ v, (results fn a.tmps).run P y = .ok v y ∧ ∃ r bl' nn' c', Ending.returned v = .returned (r.val c'.E) ∧ k r bl' nn' ∧ Real w0 F0 bl' nn' c' ∧ c.Le c' ∧ r.ok c' ∧ c'.x = y := fun a y hs => by
    obtain ⟨f, bl', nn', c', hk, hr', hfr, rfl⟩ := hs
    obtain ⟨l, hd, hres⟩ := resA_sound (w0 := w0) (F0 := { F0 with c := c }) (N := fn.ntmps) hT' _ _ hk
    obtain ⟨e1, e2⟩ := hres nn' c' a hr' hfr
    obtain ⟨r, hk', hrun, hok⟩ := results_runA e1 hd
    refine ⟨hfr.defers, _, hrun, r, bl', nn', c', rfl, hk', ?_, hr'.wf.le, hok c' e2, rfl⟩
    exact ⟨⟨hr'.wf.below, hr'.wf.lo, hr'.wf.hi, hr'.wf.inj, hr'.wf.fhi, hr'.wf.own, hr'.wf.old, hr'.wf.oldB, hr.wf.le.trans hr'.wf.le⟩, hr'.XA, hr'.XB, hr'.ty, hr'.blk, hr'.tk⟩
  have hsq := run_sound (w0 := w0) (F0 := { F0 with c := c }) hT' hS (fun i hi => (hr.XA i).1 hi) (fun h => by cases h) fuel _ _ _ _ h c _ hR hFR
  refine wp_mono hsq fun e a y hs => ?_
  cases e with
  | ret => exact hfin a y hs
  | normal => exact hfin a y hs
  | _ => exact hs.elim
end

end Go.Proofs.Ytjbbgpacijageab.M

/- Helps for loops. No program is named here. -/
namespace Go.Proofs.Ytjbbgpacijageab.M
open Go.RowKit
set_option linter.unusedVariables false

/-- The next round begins so. -/
structure Again {ι : Type} (F : ι → Fr) (Bl : ι → List V) (n : ι → NS) (Iv : ι → Prop) (f : Fr) (bl : List V) (nn : NS) (i : ι) : Prop where
  iv : Iv i
  sub : subF (F i) f
  nn : nn = n i
  bl : ∃ b, b ≤ bl.length ∧ okF b (F i) = true ∧ (bl.take b).map V.norm = Bl i

theorem loop_fam {ι : Type} (F : ι → Fr) (Bl : ι → List V) (n : ι → NS) (μ : ι → Nat) (Iv : ι → Prop) {T : Tab} {S : List (Nat × Spec)} {N fuel : Nat} {a : Code} {k : List It} {f : Fr} {bl : List V} {nn : NS}
    (h0 : ∃ i, Again F Bl n Iv f bl nn i)
    (round : ∀ i, Iv i → run T S N fuel (.code a :: .inv (fun f' bl' nn' => ∃ i', μ i' < μ i ∧ Again F Bl n Iv f' bl' nn' i') :: k) (F i) (Bl i) (n i))
    (hbase : ∀ i, T.base ≤ (Bl i).length := by intro _; first | exact Nat.zero_le _ | exact Nat.le_of_ble_eq_true rfl) :
    (∃ m, rounds (fun I => run T S N fuel (.code a :: .inv I :: k)) m f bl nn) ∨
        ∃ I : Nat → Fr → List V → NS → Prop, (∃ j, Ent T.base (I j) f bl nn) ∧ ∀ j f bl nn, I j f bl nn → run T S N fuel (.code a :: .inv (fun f' bl' nn' => ∃ j', j' < j ∧ Ent T.base (I j') f' bl' nn') :: k) f bl nn := by
  right
  have hbl : ∀ (b : Nat) (bl : List V) (i : ι), b ≤ bl.length → (bl.take b).map V.norm = Bl i → T.base ≤ b := fun b bl i hb ht => by
    have h1 := hbase i
    rw [← ht, List.length_map, List.length_take] at h1
    omega
  refine ⟨fun j f bl nn => ∃ i, j = μ i ∧ Iv i ∧ f = F i ∧ bl = Bl i ∧ nn = n i, ?_, ?_⟩
  · obtain ⟨i, h1, h2, h3, b, h4, h5, h6⟩ := h0
    exact ⟨μ i, ⟨F i, b, hbl b bl i h4 h6, h2, h4, h5, i, rfl, h1, rfl, h6, h3⟩⟩
  · rintro j f bl nn ⟨i, rfl, hi, rfl, rfl, rfl⟩
    have key : (fun (f' : Fr) (bl' : List V) (nn' : NS) => ∃ i', μ i' < μ i ∧ Again F Bl n Iv f' bl' nn' i') = fun f' bl' nn' => ∃ j', j' < μ i ∧ Ent T.base (fun f bl nn => ∃ i, j' = μ i ∧ Iv i ∧ f = F i ∧ bl = Bl i ∧ nn = n i) f' bl' nn' := by
      funext f' bl' nn'
      apply propext
      constructor
      · rintro ⟨i', hlt, h1, h2, h3, b, h4, h5, h6⟩
        exact ⟨μ i', hlt, ⟨F i', b, hbl b bl' i' h4 h6, h2, h4, h5, i', rfl, h1, rfl, h6, h3⟩⟩
      · rintro ⟨j', hlt, ⟨g, b, _, h2, h4, h5, i', rfl, h1, rfl, h6, h3⟩⟩
        exact ⟨i', hlt, h1, h2, h3, b, h4, h5, h6⟩
    have := round i hi
    rw [key] at this
    exact this

theorem wrap_id {z : Int} (h : -9223372036854775808 ≤ z ∧ z ≤ 9223372036854775807) : wrap64 z = z := by unfold wrap64; omega
theorem wrap_succ (k : Nat) (h : k < 9223372036854775807) : wrap64 ((k : Int) + 1) = ((k + 1 : Nat) : Int) := by
  rw [wrap_id (by omega)]; omega

end Go.Proofs.Ytjbbgpacijageab.M

/- Steps of a walk, one by one. No program is named here. -/
namespace Go.Proofs.Ytjbbgpacijageab.M
open Go.RowKit
set_option linter.unusedVariables false

/-- To be looked at next. -/
structure Go (p : Prop) : Prop where
  out : p

/-- Two ways of the text. -/
structure Fork (b : Bool) (p q : Prop) : Prop where
  t : b = true → p
  f : b = false → q
theorem Fork.yes {p q : Prop} (h : p) : Fork true p q := Fork.mk (fun _ => h) (fun h => Bool.noConfusion h)
theorem Fork.no {p q : Prop} (h : q) : Fork false p q := Fork.mk (fun h => Bool.noConfusion h) (fun _ => h)
theorem Fork.dec {p : Prop} [i : Decidable p] {x y : Prop} (h : p → x) (k : ¬ p → y) : Fork (decide p) x y := Fork.mk (fun e => h (of_decide_eq_true e)) (fun e => k (of_decide_eq_false e))
theorem Fork.ndec {p : Prop} [i : Decidable p] {x y : Prop} (h : ¬ p → x) (k : p → y) : Fork (!decide p) x y := Fork.mk (fun e => h (by simpa using e)) (fun e => k (by simpa using e))
theorem Way.yesG {p q : Prop} (h : Go p) : Way true p q := Way.yes h.out
theorem Way.noG {p q : Prop} (h : Go q) : Way false p q := Way.no h.out
theorem Way.decG {p : Prop} [i : Decidable p] {x y : Prop} (h : p → Go x) (k : ¬ p → Go y) : Way (decide p) x y := Way.dec (fun e => (h e).out) (fun e => (k e).out)
theorem Way.ndecG {p : Prop} [i : Decidable p] {x y : Prop} (h : ¬ p → Go x) (k : p → Go y) : Way (!decide p) x y := Way.ndec (fun e => (h e).out) (fun e => (k e).out)
theorem Way.mkG {b : Bool} {x y : Prop} (h : b = true → Go x) (k : b = false → Go y) : Way b x y := Way.mk (fun e => (h e).out) (fun e => (k e).out)
theorem Need.mkG {p q : Prop} (h : p) (k : Go q) : Need p q := ⟨h, k.out⟩

/-- The first token is that list's. -/
theorem AppW.go0 {e : Ty} {h : Hd} {xs ys : List e.D} {n : Nat} {tk : List (Hd × Nat)} {k : SV → NS → Prop} (hb : xs.length + ys.length ≤ 140737488355328 ∧ (xs.length + ys.length) * e.byt ≤ 140737488355328) (hk : Go (k (.a (.of (.leaf (.lst e) (.nm n, xs ++ ys)))) ⟨n + 1, (.nm n, e.sz) :: tk⟩)) : AppW e h xs ys ⟨n, (h, e.sz) :: tk⟩ k := ⟨0, rfl, hb, hk.out⟩
theorem NilW.goG {α : Type} {xs : List α} {k : Bool → Prop} (h1 : xs = [] → Go (k true)) (h2 : Go (k false)) : NilW xs k := ⟨fun h => (h1 h).out, h2.out⟩
section
variable {T : Tab} {S : List (Nat × Spec)} {N : Nat}

theorem init_k {ts : List Ty} {d : DL ts} {n : Nat} {k : Fr → Prop} (h : ∀ K1 : Fr → Prop, (∀ f, k f → K1 f) → initK ts d n K1) : initK ts d n k := h _ fun _ h => h

def stepK (T : Tab) (S : List (Nat × Spec)) (N : Nat) (ds : List (Option Tmp)) (o : Oper) (f : Fr) (bl : List V) (nn : NS) (K : Fr → List V → NS → Prop) : Prop :=
  guardK ds o.guard f
      (fun f => oneK T S N o f bl nn K)
      (fun f => putK N o.dst und f fun f' => K f' bl nn)
theorem seq_k {ds : List (Option Tmp)} {o : Oper} {r : List Oper} {f : Fr} {bl : List V} {nn : NS} {K : Fr → List V → NS → Prop}
    (h : ∀ K1 : Fr → List V → NS → Prop, (∀ f bl nn, seqK T S N ds r f bl nn K → K1 f bl nn) → Go (stepK T S N ds o f bl nn K1)) : seqK T S N ds (o :: r) f bl nn K := (h _ fun _ _ _ h => h).out
theorem seq_nil {ds : List (Option Tmp)} {f : Fr} {bl : List V} {nn : NS} {K : Fr → List V → NS → Prop} (h : K f bl nn) : seqK T S N ds [] f bl nn K := h

def dstepK (T : Tab) (S : List (Nat × Spec)) (N : Nat) (ds : List (Option Tmp)) (o : Oper) (lg : List Lg) (f : Fr) (bl : List V) (nn : NS) (K : List Lg → Fr → List V → NS → Prop) : Prop :=
  guardK ds o.guard f
      (fun f => opK T S o f bl nn.n fun
        | ⟨v, ef, m, rd, q, cr⟩ => efK bl ef fun bl' => lenK bl 0 fun n => putK N o.dst v f fun f' => addK nn cr m fun nn' => K (⟨rd ++ efW n ef, efW n ef, q, cr⟩ :: lg) f' bl' nn')
      (fun f => putK N o.dst und f fun f' => K (⟨[], [], false, false⟩ :: lg) f' bl nn)
theorem drw_k {ops : List Oper} {ds : List (Option Tmp)} {o : Oper} {r : List Oper} {lg : List Lg} {f : Fr} {bl : List V} {nn : NS} {K : Fr → List V → NS → Prop}
    (h : ∀ K1 : List Lg → Fr → List V → NS → Prop, (∀ lg f bl nn, drwK T S N ops ds r lg f bl nn K → K1 lg f bl nn) → Go (dstepK T S N ds o lg f bl nn K1)) : drwK T S N ops ds (o :: r) lg f bl nn K := (h _ fun _ _ _ _ h => h).out
theorem drw_nil {ops : List Oper} {ds : List (Option Tmp)} {lg : List Lg} {f : Fr} {bl : List V} {nn : NS} {K : Fr → List V → NS → Prop} (hl : (okLog ops lg.reverse && okCr lg) = true) (h : K f bl nn) : drwK T S N ops ds [] lg f bl nn K := ⟨hl, h⟩

def ostepK (T : Tab) (S : List (Nat × Spec)) (N : Nat) (ds : List (Option Tmp)) (o : Oper) (lg : List Lg) (f : Fr) (bl : List V) (nn : NS) (K : List Lg → Fr → List V → NS → Prop) : Prop :=
  match isOwn T o with
    | true => match o.guard with
      | none => ownK T o f nn fun v nn' => putK N o.dst v f fun f' => K (⟨[], [], true, true⟩ :: lg) f' bl nn'
      | some _ => False
    | false => dstepK T S N ds o lg f bl nn K
theorem dro_k {ops : List Oper} {ds : List (Option Tmp)} {o : Oper} {r : List Oper} {lg : List Lg} {f : Fr} {bl : List V} {nn : NS} {K : Fr → List V → NS → Prop}
    (h : ∀ K1 : List Lg → Fr → List V → NS → Prop, (∀ lg f bl nn, drwO T S N ops ds r lg f bl nn K → K1 lg f bl nn) → Go (ostepK T S N ds o lg f bl nn K1)) : drwO T S N ops ds (o :: r) lg f bl nn K := by
  have := (h _ fun _ _ _ _ h => h).out
  unfold ostepK at this
  unfold drwO
  split
  · rename_i h1
    rw [h1] at this
    exact this
  · rename_i h1
    rw [h1] at this
    exact this
theorem dro_nil {ops : List Oper} {ds : List (Option Tmp)} {lg : List Lg} {f : Fr} {bl : List V} {nn : NS} {K : Fr → List V → NS → Prop} (hl : (okLog ops lg.reverse && okCr lg) = true) (h : K f bl nn) : drwO T S N ops ds [] lg f bl nn K := ⟨hl, h⟩
theorem dstK_intro : ∀ (l : List Oper) (k : List (Option Tmp) → Prop), k (l.map (·.dst)) → dstK l k
  | [], k, h => h
  | o :: r, k, h => by
    unfold dstK
    rw [List.map_cons] at h
    split
    · rename_i t ht
      rw [ht] at h; exact dstK_intro r _ h
    · rename_i ht
      rw [ht] at h; exact dstK_intro r _ h

variable {n : Nat} {k : List It} {f : Fr} {bl : List V} {nn : NS}
theorem run_skip (h : run T S N n k f bl nn) : run T S N (n + 1) (.code .skip :: k) f bl nn := h
theorem run_seq {a b : Code} (h : run T S N n (.code a :: .code b :: k) f bl nn) : run T S N (n + 1) (.code (.seq a b) :: k) f bl nn := h
theorem run_block {id : Nat} {a : Code} (h : run T S N n (.code a :: .block id :: k) f bl nn) : run T S N (n + 1) (.code (.block id a) :: k) f bl nn := h
theorem run_endb {id : Nat} (h : run T S N n k f bl nn) : run T S N (n + 1) (.block id :: k) f bl nn := h
def condK (c : Operand) (f : Fr) (p q : Prop) : Prop := match evS f c with | some (.a (.of (.leaf .bool t))) => Fork t p q | _ => False
theorem run_cond {c : Operand} {a b : Code} (h : Go (condK c f (run T S N n (.code a :: k) f bl nn) (run T S N n (.code b :: k) f bl nn))) : run T S N (n + 1) (.code (.cond c a b) :: k) f bl nn := by
  have h1 := h.out
  show (match evS f c with | some (.a (.of (.leaf .bool t))) => Way t (run T S N n (.code a :: k) f bl nn) (run T S N n (.code b :: k) f bl nn) | _ => False)
  unfold condK at h1
  split at h1
  · exact Way.mk h1.t h1.f
  · exact h1.elim
def exitK (id : Nat) (k : List It) (K : List It → Prop) : Prop := match popB id k with | some k' => K k' | none => False
def leaveK (k : List It) (K : List It → Prop) : Prop := match popR k with | some k' => K k' | none => False
theorem run_exit {id : Nat} (h : ∀ K1 : List It → Prop, (∀ k', run T S N n k' f bl nn → K1 k') → Go (exitK id k K1)) : run T S N (n + 1) (.code (.exit id) :: k) f bl nn := (h _ fun _ h => h).out
theorem run_ret (h : ∀ K1 : List It → Prop, (∀ k', run T S N n k' f bl nn → K1 k') → Go (leaveK k K1)) : run T S N (n + 1) (.code .ret :: k) f bl nn := (h _ fun _ h => h).out
theorem run_fin {rs : List ResultVar} {ts : List Ty} {K : DL ts → List V → NS → Prop} (h : Go (resK T f bl rs ts fun d => K d bl nn)) : run T S N (n + 1) (.fin rs ts K :: k) f bl nn := h.out
theorem run_inv {I : Fr → List V → NS → Prop} (h : Go (I f bl nn)) : run T S N (n + 1) (.inv I :: k) f bl nn := h.out
theorem run_regS {id : Nat} {l : List Oper} (h : seqK T S N (l.map (·.dst)) l f bl nn (run T S N n k)) : run T S N (n + 1) (.code (.region id l.toArray false) :: k) f bl nn := dstK_intro l _ h
/-- No operation is a call that is walked there. -/
def noM (S : List (Nat × Spec)) : List Oper → Bool
  | [] => true
  | o :: r => match o.op with
    | .call c => match c.callee with
      | .value (.func g) => match spL S g with
        | some ⟨_, _, _, _, _, _, some _, _, _⟩ => false
        | _ => noM S r
      | .value _ => false
      | _ => noM S r
    | _ => noM S r
theorem run_regD {id : Nat} {l : List Oper} (hno : noM S l = true) (hok : okRegion l = true) (h : drwK T S N l (l.map (·.dst)) l [] f bl nn (run T S N n k)) : run T S N (n + 1) (.code (.region id l.toArray true) :: k) f bl nn := Or.inl ⟨hok, dstK_intro l _ h⟩
theorem run_regO {id : Nat} {l : List Oper} (hok : okRegion l = true) (h : drwO T S N l (l.map (·.dst)) l [] f bl nn (run T S N n k)) : run T S N (n + 1) (.code (.region id l.toArray true) :: k) f bl nn := Or.inr (Or.inr (Or.inr (Or.inr ⟨hok, dstK_intro l _ h⟩)))
theorem run_regT {id : Nat} {l : List Oper} (p q : List Oper) (hl : p ++ q = l) (hok : tailOk l p.length = true) (h : drwK T S N p (p.map (·.dst)) p [] f bl nn fun f bl nn => seqK T S N (l.map (·.dst)) q f bl nn (run T S N n k)) : run T S N (n + 1) (.code (.region id l.toArray true) :: k) f bl nn := by
  refine Or.inr (Or.inl ⟨p.length, hok, ?_⟩)
  have e1 : l.take p.length = p := by rw [← hl, List.take_left']; rfl
  have e2 : l.drop p.length = q := by rw [← hl, List.drop_left']; rfl
  show drwK T S N (l.take p.length) ((l.take p.length).map (·.dst)) (l.take p.length) [] f bl nn fun f bl nn => seqK T S N (l.map (·.dst)) (l.drop p.length) f bl nn (run T S N n k)
  rw [e1, e2]
  exact h
theorem run_regC {id : Nat} {l : List Oper} (cs : List Nat) (hok : (okRegion l && segOk l 0 cs) = true) (h : segK T S N l 0 cs f bl nn (run T S N n k)) : run T S N (n + 1) (.code (.region id l.toArray true) :: k) f bl nn := Or.inr (Or.inr (Or.inl ⟨cs, hok, h⟩))
theorem run_regX {id : Nat} {l : List Oper} (cs : List (Nat × List Nat)) (hok : (okRegion l && segXok l 0 [] cs) = true) (h : segX T S N l 0 [] [] cs f bl nn (run T S N n k)) : run T S N (n + 1) (.code (.region id l.toArray true) :: k) f bl nn := Or.inr (Or.inr (Or.inr (Or.inl ⟨cs, hok, h⟩)))
theorem seg_cut {ops : List Oper} {s k : Nat} {cs : List Nat} {K : Fr → List V → NS → Prop} (p : List Oper) (o : Oper) (hp : dum s (ops.take k) = p) (ho : ops[k]? = some o) (h : drwK T S N p (p.map (·.dst)) p [] f bl nn fun f bl nn => barK T S N (ops.map (·.dst)) o f bl nn fun f bl nn => segK T S N ops (k + 1) cs f bl nn K) : segK T S N ops s (k :: cs) f bl nn K := by
  unfold segK
  rw [hp, ho]
  exact h
theorem seg_end {ops : List Oper} {s : Nat} {K : Fr → List V → NS → Prop} (p : List Oper) (hp : dum s ops = p) (h : drwK T S N p (p.map (·.dst)) p [] f bl nn K) : segK T S N ops s [] f bl nn K := by
  unfold segK
  rw [hp]
  exact h
def dxstepK (T : Tab) (S : List (Nat × Spec)) (N : Nat) (ds : List (Option Tmp)) (pu : Nat → Bool) (ex : Ex) (i : Nat) (o : Oper) (lg : List Lg) (f : Fr) (bl : List V) (nn : NS) (K : List Lg → Fr → List V → NS → Prop) : Prop :=
  guardK ds o.guard f
      (fun f => opK T S o f bl nn.n fun
        | ⟨v, ef, m, rd, q, cr⟩ => chkK pu ex i v ef q cr (efK bl ef fun bl' => lenK bl 0 fun n => putK N o.dst v f fun f' => addK nn cr m fun nn' => K (⟨rd ++ efW n ef, efW n ef, q, cr⟩ :: lg) f' bl' nn'))
      (fun f => chkK pu ex i und .none false false (putK N o.dst und f fun f' => K (⟨[], [], false, false⟩ :: lg) f' bl nn))
theorem drx_k {ops : List Oper} {ds : List (Option Tmp)} {pu : Nat → Bool} {ex : Ex} {i : Nat} {o : Oper} {r : List Oper} {lg : List Lg} {K : Fr → List V → NS → Prop}
    (h : ∀ K1 : List Lg → Fr → List V → NS → Prop, (∀ lg f bl nn, drxK T S N ops ds pu ex (i + 1) r lg f bl nn K → K1 lg f bl nn) → Go (dxstepK T S N ds pu ex i o lg f bl nn K1)) : drxK T S N ops ds pu ex i (o :: r) lg f bl nn K := (h _ fun _ _ _ _ h => h).out
theorem drx_nil {ops : List Oper} {ds : List (Option Tmp)} {pu : Nat → Bool} {ex : Ex} {i : Nat} {lg : List Lg} {K : Fr → List V → NS → Prop} (hl : (okLog ops lg.reverse && okCr lg) = true) (h : K f bl nn) : drxK T S N ops ds pu ex i [] lg f bl nn K := ⟨hl, h⟩
/-- The next such operation. -/
def barX (T : Tab) (S : List (Nat × Spec)) (N : Nat) (ds : List (Option Tmp)) (o : Oper) (fl : List Nat) (f : Fr) (bl : List V) (nn : NS) (K : Ex → Fr → List V → NS → Prop) : Prop :=
  exK ds f fl fun ex ts => dropK ts f fun g => guardK ds o.guard g
    (fun g => match leOp T S o g with
      | true => oneK T S N o g bl nn fun f bl nn => K ex f bl nn
      | false => False)
    (fun g => putK N o.dst und g fun f => K ex f bl nn)
theorem barx_k {ds : List (Option Tmp)} {o : Oper} {fl : List Nat} {K : Ex → Fr → List V → NS → Prop} (h : ∀ K1 : Ex → Fr → List V → NS → Prop, (∀ ex f bl nn, K ex f bl nn → K1 ex f bl nn) → Go (barX T S N ds o fl f bl nn K1)) : barX T S N ds o fl f bl nn K := (h _ fun _ _ _ _ h => h).out
theorem segx_cut {ops : List Oper} {s k : Nat} {xs : List Nat} {ex : Ex} {fl : List Nat} {cs : List (Nat × List Nat)} {K : Fr → List V → NS → Prop} (p : List Oper) (o : Oper) (hp : partL (keepB s xs k fl) 0 ops = p) (ho : ops[k]? = some o)
    (h : drxK T S N p (p.map (·.dst)) (fun i => !keepB s xs k fl i || (inN fl i || inN xs i)) ex 0 p [] f bl nn fun f bl nn => barX T S N (ops.map (·.dst)) o fl f bl nn fun ex f bl nn => segX T S N ops (k + 1) fl ex cs f bl nn K) : segX T S N ops s xs ex ((k, fl) :: cs) f bl nn K := by
  unfold segX
  rw [hp, ho]
  exact h
theorem segx_end {ops : List Oper} {s : Nat} {xs : List Nat} {ex : Ex} {K : Fr → List V → NS → Prop} (p : List Oper) (hp : partL (keepA s xs) 0 ops = p) (h : drxK T S N p (p.map (·.dst)) (fun i => !keepA s xs i || inN xs i) ex 0 p [] f bl nn K) : segX T S N ops s xs ex [] f bl nn K := by
  unfold segX
  rw [hp]
  exact h
theorem bar_k {ds : List (Option Tmp)} {o : Oper} {K : Fr → List V → NS → Prop} (h : ∀ K1 : Fr → List V → NS → Prop, (∀ f bl nn, K f bl nn → K1 f bl nn) → Go (barK T S N ds o f bl nn K1)) : barK T S N ds o f bl nn K := (h _ fun _ _ _ h => h).out
theorem inl_k {fn : Func} {cd : Code} {ts : List Ty} {args : List AV} {K : SV → List V → NS → Prop} (hb : fn.body = some cd) (hle : args.length ≤ fn.ntmps)
    (h : ∀ K1 : Nat → Fr → Prop, (∀ b f, run { T with base := b, top := false } S fn.ntmps 200 [.code cd, .fin fn.results.toList ts fun r bl' nn' => retK ts r fun v => K v bl' nn'] f bl nn → K1 b f) → Go (lenK bl 0 fun b => initAK args 0 fun f => K1 b f)) : Inl T S fn ts args bl nn K := ⟨hle, cd, hb, 200, (h (fun b f => run { T with base := b, top := false } S fn.ntmps 200 [.code cd, .fin fn.results.toList ts fun r bl' nn' => retK ts r fun v => K v bl' nn'] f bl nn) fun _ _ h => h).out⟩
theorem inlT_k {fn : Func} {cd : Code} {ts : List Ty} {args : List AV} {K : SV → List V → NS → Prop} (hb : fn.body = some cd) (hle : args.length ≤ fn.ntmps)
    (h : ∀ K1 : Nat → Fr → Prop, (∀ b f, run { T with base := b, top := true } S fn.ntmps 200 [.code cd, .fin fn.results.toList ts fun r bl' nn' => retK ts r fun v => K v bl' nn'] f bl nn → K1 b f) → Go (lenK bl 0 fun b => initAK args 0 fun f => K1 b f)) : InlT T S fn ts args bl nn K := ⟨hle, cd, hb, 200, (h (fun b f => run { T with base := b, top := true } S fn.ntmps 200 [.code cd, .fin fn.results.toList ts fun r bl' nn' => retK ts r fun v => K v bl' nn'] f bl nn) fun _ _ h => h).out⟩
theorem inlA_k {fn : Func} {cd : Code} {args : List AV} {K : SV → List V → NS → Prop} (hb : fn.body = some cd) (hle : args.length ≤ fn.ntmps)
    (h : ∀ K1 : Nat → Fr → Prop, (∀ b f, run { T with base := b, top := false } S fn.ntmps 200 [.code cd, .finA fn.results.toList fun l bl' nn' => retAK l fun v => K v bl' nn'] f bl nn → K1 b f) → Go (lenK bl 0 fun b => initAK args 0 fun f => K1 b f)) : InlA T S fn args bl nn K := ⟨hle, cd, hb, 200, (h (fun b f => run { T with base := b, top := false } S fn.ntmps 200 [.code cd, .finA fn.results.toList fun l bl' nn' => retAK l fun v => K v bl' nn'] f bl nn) fun _ _ h => h).out⟩
theorem run_finA {rs : List ResultVar} {K : List AV → List V → NS → Prop} (h : Go (resA T f bl rs fun l => K l bl nn)) : run T S N (n + 1) (.finA rs K :: k) f bl nn := h.out
theorem run_loop {a : Code} (h : (∃ m, rounds (fun I => run T S N n (.code a :: .inv I :: k)) m f bl nn) ∨
        ∃ I : Nat → Fr → List V → NS → Prop, (∃ j, Ent T.base (I j) f bl nn) ∧ ∀ j f bl nn, I j f bl nn → run T S N n (.code a :: .inv (fun f' bl' nn' => ∃ j', j' < j ∧ Ent T.base (I j') f' bl' nn') :: k) f bl nn) : run T S N (n + 1) (.code (.loop a) :: k) f bl nn := h
theorem unroll {a : Code} (m : Nat) (h : rounds (fun I => run T S N n (.code a :: .inv I :: k)) m f bl nn) : run T S N (n + 1) (.code (.loop a) :: k) f bl nn := Or.inl ⟨m, h⟩
theorem rounds_succ {R : (Fr → List V → NS → Prop) → Fr → List V → NS → Prop} {m : Nat} (h : R (rounds R m) f bl nn) : rounds R (m + 1) f bl nn := h
theorem go_rounds {R : (Fr → List V → NS → Prop) → Fr → List V → NS → Prop} {m : Nat} (h : R (rounds R m) f bl nn) : Go (rounds R (m + 1) f bl nn) := ⟨h⟩
end

end Go.Proofs.Ytjbbgpacijageab.M

/- A contract whose lists have other names than the walk gave them. No program is named here. -/
namespace Go.Proofs.Ytjbbgpacijageab.M
open Go.RowKit
set_option linter.unusedVariables false
set_option linter.unusedSimpArgs false

def renH (nn : Nat) (ρ : Nat → Hd) : Hd → Hd
  | .conc v => .conc v
  | .nm k => if k < nn then .nm k else ρ k
def renD (nn : Nat) (ρ : Nat → Hd) : (t : Ty) → t.D → t.D
  | .int, v => v
  | .bool, v => v
  | .ref, v => renH nn ρ v
  | .one t, v => renD nn ρ t v
  | .pair a b, v => (renD nn ρ a v.1, renD nn ρ b v.2)
  | .arr _ t, f => fun i => renD nn ρ t (f i)
  | .lst t, v => (renH nn ρ v.1, v.2.map (renD nn ρ t))
def renL (nn : Nat) (ρ : Nat → Hd) : (ts : List Ty) → DL ts → DL ts
  | [], _ => ()
  | t :: r, d => (renD nn ρ t d.1, renL nn ρ r d.2)
/-- Names below a number. -/
def Hd.lt (m : Nat) : Hd → Prop
  | .conc _ => True
  | .nm k => k < m
def namD (m : Nat) : (t : Ty) → t.D → Prop
  | .int, _ => True
  | .bool, _ => True
  | .ref, v => Hd.lt m v
  | .one t, v => namD m t v
  | .pair a b, v => namD m a v.1 ∧ namD m b v.2
  | .arr n t, f => ∀ i, i < n → namD m t (f i)
  | .lst t, v => v.1.lt m ∧ ∀ e ∈ v.2, namD m t e
def namL (m : Nat) : (ts : List Ty) → DL ts → Prop
  | [], _ => True
  | t :: r, d => namD m t d.1 ∧ namL m r d.2
theorem renD_nolst (nn : Nat) (ρ : Nat → Hd) : ∀ (t : Ty) (v : t.D), t.nolst = true → renD nn ρ t v = v
  | .int, _, _ => rfl
  | .bool, _, _ => rfl
  | .ref, v, h => by cases h
  | .one t, v, h => renD_nolst nn ρ t v h
  | .pair a b, v, h => by
    simp only [Ty.nolst, Bool.and_eq_true] at h
    simp only [renD, renD_nolst nn ρ a _ h.1, renD_nolst nn ρ b _ h.2]
  | .arr n t, f, h => funext fun i => renD_nolst nn ρ t (f i) h
  | .lst t, v, h => by cases h
theorem namD_nolst (m : Nat) : ∀ (t : Ty) (v : t.D), t.nolst = true → namD m t v
  | .int, _, _ => trivial
  | .bool, _, _ => trivial
  | .ref, v, h => by cases h
  | .one t, v, h => namD_nolst m t v h
  | .pair a b, v, h => by
    simp only [Ty.nolst, Bool.and_eq_true] at h
    exact ⟨namD_nolst m a _ h.1, namD_nolst m b _ h.2⟩
  | .arr n t, f, h => fun i _ => namD_nolst m t (f i) h
  | .lst t, v, h => by cases h
section
variable {nn m : Nat} {ρ : Nat → Hd} {B B' : Nat → Value} {XB : Nat → Prop} {F : Nat → Nat → Prop} {x : World}
theorem ren_flat (h1 : ∀ k, k < nn → B' k = B k) (h2 : ∀ k, nn ≤ k → k < m → B' k = (ρ k).val B) : ∀ (t : Ty) (v : t.D), namD m t v → flat B' t v = flat B t (renD nn ρ t v)
  | .int, _, _ => rfl
  | .bool, _, _ => rfl
  | .ref, v, h => by
    show [Hd.val B' v] = [(renH nn ρ v).val B]
    congr 1
    cases v with
    | conc u => rfl
    | nm k =>
      show B' k = (if k < nn then Hd.nm k else ρ k).val B
      by_cases hk : k < nn
      · rw [if_pos hk]; exact h1 k hk
      · rw [if_neg hk]; exact h2 k (by omega) h
  | .one t, v, h => ren_flat h1 h2 t v h
  | .pair a b, v, h => by simp only [flat, renD]; rw [ren_flat h1 h2 a _ h.1, ren_flat h1 h2 b _ h.2]
  | .arr n t, f, h => rows_congr n fun i hi => ren_flat h1 h2 t (f i) (h i hi)
  | .lst t, v, h => by
    simp only [flat, renD]
    congr 1
    have h3 := h.1
    cases hv : v.1 with
    | conc u => rfl
    | nm k =>
      rw [hv] at h3
      show B' k = (if k < nn then Hd.nm k else ρ k).val B
      by_cases hk : k < nn
      · rw [if_pos hk]; exact h1 k hk
      · rw [if_neg hk]; exact h2 k (by omega) h3
theorem ren_wok (h1 : ∀ k, k < nn → B' k = B k) (h2 : ∀ k, nn ≤ k → k < m → B' k = (ρ k).val B) : ∀ (t : Ty) (v : t.D), namD m t v → wok XB B F x t (renD nn ρ t v) → wok (· < m) B' F x t v
  | .int, _, _, _ => trivial
  | .bool, _, _, _ => trivial
  | .ref, v, h, hw => by
    obtain ⟨g1, r, g2⟩ := (show Hd.ok XB (renH nn ρ v) ∧ ∃ r, (renH nn ρ v).val B = .map r from hw)
    have hval : v.val B' = (renH nn ρ v).val B := by
      cases v with
      | conc u => rfl
      | nm k =>
        show B' k = (if k < nn then Hd.nm k else ρ k).val B
        by_cases hk : k < nn
        · rw [if_pos hk]; exact h1 k hk
        · rw [if_neg hk]; exact h2 k (by omega) h
    refine ⟨?_, r, hval.trans g2⟩
    cases v with
    | conc u => trivial
    | nm k => exact h
  | .one t, v, h, hw => ren_wok h1 h2 t v h hw
  | .pair a b, v, h, hw => ⟨ren_wok h1 h2 a _ h.1 hw.1, ren_wok h1 h2 b _ h.2 hw.2⟩
  | .arr n t, f, h, hw => fun i hi => ren_wok h1 h2 t (f i) (h i hi) (hw i hi)
  | .lst t, v, h, hw => by
    obtain ⟨h3, h4⟩ := h
    have hval : v.1.val B' = (renH nn ρ v.1).val B := by
      cases hv : v.1 with
      | conc u => rfl
      | nm k =>
        rw [hv] at h3
        show B' k = (if k < nn then Hd.nm k else ρ k).val B
        by_cases hk : k < nn
        · rw [if_pos hk]; exact h1 k hk
        · rw [if_neg hk]; exact h2 k (by omega) h3
    refine ⟨?_, ?_⟩
    · cases hv : v.1 with
      | conc u => trivial
      | nm k => rw [hv] at h3; exact h3
    · rw [hval]
      rcases hw.2 with ⟨g1, g2⟩ | ⟨b, o, cap, g1, g2, g3, g4, g5, g6⟩
      · exact Or.inl ⟨List.map_eq_nil_iff.1 g1, g2⟩
      · have hl : (v.2.map (renD nn ρ t)).length = v.2.length := List.length_map _
        simp only [renD] at g1 g2 g5
        rw [hl] at g1 g2 g5
        refine Or.inr ⟨b, o, cap, g1, g2, g3, g4, g5, fun i e he => ?_⟩
        have hi : (v.2.map (renD nn ρ t))[i]? = some (renD nn ρ t e) := by rw [List.getElem?_map, he]; rfl
        obtain ⟨k1, k2⟩ := g6 i _ hi
        have hn := h4 e (List.mem_of_getElem? he)
        exact ⟨fun j hj => by rw [ren_flat h1 h2 t e hn]; exact k1 j hj, ren_wok h1 h2 t e hn k2⟩
theorem ren_wokL (h1 : ∀ k, k < nn → B' k = B k) (h2 : ∀ k, nn ≤ k → k < m → B' k = (ρ k).val B) : ∀ (ts : List Ty) (d : DL ts), namL m ts d → wokL XB B F x ts (renL nn ρ ts d) → wokL (· < m) B' F x ts d
  | [], _, _, _ => trivial
  | t :: r, d, h, hw => ⟨ren_wok h1 h2 t _ h.1 hw.1, ren_wokL h1 h2 r _ h.2 hw.2⟩
theorem ren_valL (h1 : ∀ k, k < nn → B' k = B k) (h2 : ∀ k, nn ≤ k → k < m → B' k = (ρ k).val B) : ∀ (ts : List Ty) (d : DL ts), namL m ts d → (leafs ts d).map (V.val B') = (leafs ts (renL nn ρ ts d)).map (V.val B)
  | [], _, _ => rfl
  | t :: r, d, h => by
    simp only [leafs, List.map_cons, renL]
    rw [ren_valL h1 h2 r _ h.2]
    congr 1
    have hf := ren_flat h1 h2 t d.1 h.1
    cases ha : t.agg with
    | true => rw [V.val_agg (x := .leaf t d.1) ha, V.val_agg (x := .leaf t (renD nn ρ t d.1)) ha]; simp only [V.cells, hf]
    | false => cases t with
      | int => rfl
      | bool => rfl
      | ref =>
        have : [Hd.val B' d.1] = [Hd.val B (renD nn ρ .ref d.1)] := hf
        simpa [V.val] using this
      | lst u =>
        have : [Hd.val B' d.1.1] = [Hd.val B (renD nn ρ (.lst u) d.1).1] := hf
        simpa [V.val] using this
      | _ => simp [Ty.agg] at ha
end
theorem retV_congr {B B' : Nat → Value} {l l' : List V} (hl : l.map (V.val B) = l'.map (V.val B')) : retV B l = retV B' l' := by
  match l, l', hl with
  | [], [], _ => rfl
  | [a], [b], hl => simpa [retV] using hl
  | a :: b :: l, c :: d :: l', hl => simp only [retV, hl]
  | [], _ :: _, hl => simp at hl
  | _ :: _, [], hl => simp at hl
  | [a], b :: c :: l, hl => simp at hl
  | b :: c :: l, [a], hl => simp at hl
/-- The end of a function: what it gives back, by other names. -/
structure DoneR (s : Spec) (nn : Nat) (d : s.args |> DL) (r : DL s.res) (nn' : NS) : Prop where
  ex : ∃ ρ : Nat → Hd, eqvL s.res r (renL nn ρ s.res (s.fn nn d))
  nm : namL (nn + s.m d) s.res (s.fn nn d)
theorem doneR_ok (s : Spec) (nn : Nat) (d : DL s.args) (r : DL s.res) (nn' : NS) (h : DoneR s nn d r nn') (B B0 : Nat → Value) (F : Nat → Nat → Prop) (x : World) (hB : ∀ n, n < nn → B n = B0 n) (hw : wokL (· < nn'.n) B F x s.res r) :
    ∃ B', (∀ n, n < nn → B' n = B0 n) ∧ retL B' s.res (s.fn nn d) = retL B s.res r ∧ wokL (· < nn + s.m d) B' F x s.res (s.fn nn d) := by
  obtain ⟨⟨ρ, h1⟩, h2⟩ := h
  have e1 : ∀ k, k < nn → (fun k => if k < nn then B k else (ρ k).val B) k = B k := fun k hk => if_pos hk
  have e2 : ∀ k, nn ≤ k → k < nn + s.m d → (fun k => if k < nn then B k else (ρ k).val B) k = (ρ k).val B := fun k hk _ => if_neg (by omega)
  refine ⟨fun k => if k < nn then B k else (ρ k).val B, fun n hn => (e1 n hn).trans (hB n hn), ?_, ?_⟩
  · unfold retL
    exact retV_congr ((ren_valL e1 e2 _ _ h2).trans (eqvL_val B _ _ _ h1).symm)
  · exact ren_wokL e1 e2 _ _ h2 (eqvL_wok _ _ _ h1 hw)
theorem ctr_ofR (tk : List (Hd × Nat)) (htk : ∃ ss : List Nat, tk = ss.map fun q => (nilH, q)) {P : Program} {T : Tab} {S : List (Nat × Spec)} (hT : TabOk P T) (hS : SpecsOk P S) {g : FuncId} {fn : Func} {cd : Code} (hf : P.funcs[g]? = some fn) (hb : fn.body = some cd) (s : Spec) (hn : s.args.length ≤ fn.ntmps) (nocr : s.cr = false → ∀ d, s.m d = 0)
    (h : ∀ nn d, s.pre d → bndL s.args d → ∃ fuel, initK s.args d 0 fun f => run T S fn.ntmps fuel [.code cd, .fin fn.results.toList s.res fun r _ nn' => DoneR s nn d r nn'] f [] ⟨nn, tk⟩) : Ctr P g s := by
  obtain ⟨ss, rfl⟩ := htk
  exact ctr_gen ss (R := fun s nn d r nn' => DoneR s nn d r nn') (fun s nn d r nn' h => doneR_ok s nn d r nn' h) hT hS hf hb s hn nocr h
theorem ctr_ofT (tk : List (Hd × Nat)) (htk : ∃ ss : List Nat, tk = ss.map fun q => (nilH, q)) {P : Program} {T : Tab} {S : List (Nat × Spec)} (hT : TabOk P T) (hS : SpecsOk P S) {g : FuncId} {fn : Func} {cd : Code} (hf : P.funcs[g]? = some fn) (hb : fn.body = some cd) (s : Spec) (hn : s.args.length ≤ fn.ntmps) (nocr : s.cr = false → ∀ d, s.m d = 0)
    (h : ∀ nn d, s.pre d → bndL s.args d → ∃ fuel, initK s.args d 0 fun f => run T S fn.ntmps fuel [.code cd, .fin fn.results.toList s.res fun r _ nn' => Done s nn d r nn'] f [] ⟨nn, tk⟩) : Ctr P g s := by
  obtain ⟨ss, rfl⟩ := htk
  exact ctr_gen ss (R := fun s nn d r nn' => Done s nn d r nn') (fun s nn d r nn' h => done_ok s nn d r nn' h) hT hS hf hb s hn nocr h

/-- Its lists lie in memory of the function's own. -/
def tokD (tk : List (Hd × Nat)) : (t : Ty) → t.D → Prop
  | .int, _ => True
  | .bool, _ => True
  | .ref, _ => False
  | .one t, v => tokD tk t v
  | .pair a b, v => tokD tk a v.1 ∧ tokD tk b v.2
  | .arr n t, f => ∀ i, i < n → tokD tk t (f i)
  | .lst t, v => t.nolst = true ∧ (v.2 = [] ∨ ∃ s, 0 < s ∧ (v.1, s) ∈ tk)
def tokL (tk : List (Hd × Nat)) : (ts : List Ty) → DL ts → Prop
  | [], _ => True
  | t :: r, d => tokD tk t d.1 ∧ tokL tk r d.2
section
variable {w0 : World} {c : Cx} {tk : List (Hd × Nat)} {XB : Nat → Prop}
theorem wok_tok (ht : Toks w0 c tk) : ∀ (t : Ty) (v : t.D), tokD tk t v → wok XB c.E.B c.E.F c.x t v → wok XB c.E.B (fun b e => w0.heap.size ≤ b ∧ c.E.F b e) c.x t v
  | .int, _, _, _ => trivial
  | .bool, _, _, _ => trivial
  | .ref, _, h, _ => False.elim h
  | .one t, v, h, hw => wok_tok ht t v h hw
  | .pair a b, v, h, hw => ⟨wok_tok ht a v.1 h.1 hw.1, wok_tok ht b v.2 h.2 hw.2⟩
  | .arr n t, f, h, hw => fun i hi => wok_tok ht t (f i) (h i hi) (hw i hi)
  | .lst t, v, h, hw => by
    refine ⟨hw.1, ?_⟩
    rcases hw.2 with h1 | ⟨b, o, cap, e1, e2, e3, e4, ⟨fe, e5, e6⟩, e7⟩
    · exact Or.inl h1
    · rcases h.2 with h2 | ⟨s, hs, h2⟩
      · refine Or.inl ⟨h2, some ⟨b, o, none⟩, cap, ?_⟩
        rw [e1, h2]
        rfl
      · rcases (ht.ok _ h2).2.1 hs with ⟨ad, g⟩ | ⟨b', _, _, _, _, _, g1, g2, _⟩ | ⟨ms, gm, _⟩
        rotate_left 2
        · exfalso
          have gm : v.1 = .conc (encM ms) := gm
          rw [gm] at e1
          cases e1
        · exact Or.inl ⟨by
            have g : v.1.val c.E.B = .slice ad 0 0 := g
            rw [e1] at g
            obtain ⟨_, h3, _⟩ := Value.slice.inj g
            exact List.length_eq_zero_iff.1 h3, _, _, g⟩
        · refine Or.inr ⟨b, o, cap, e1, e2, e3, e4, ⟨fe, e5, ?_, e6⟩, fun i e he => ⟨(e7 i e he).1, wok_nolst t e h.1⟩⟩
          have g1 : v.1.val c.E.B = _ := g1
          rw [e1] at g1
          cases g1
          exact g2
theorem wokL_tok (ht : Toks w0 c tk) : ∀ (ts : List Ty) (d : DL ts), tokL tk ts d → wokL XB c.E.B c.E.F c.x ts d → wokL XB c.E.B (fun b e => w0.heap.size ≤ b ∧ c.E.F b e) c.x ts d
  | [], _, _, _ => trivial
  | t :: r, d, h, hw => ⟨wok_tok ht t d.1 h.1 hw.1, wokL_tok ht r d.2 h.2 hw.2⟩
end
/-- The end of a function that reads through its first argument. -/
structure DoneP (p : PSpec) (nn : Nat) (v : p.t.D) (d : DL p.args) (r : DL p.res) (nn' : NS) : Prop where
  ex : ∃ ρ : Nat → Hd, eqvL p.res r (renL nn ρ p.res (p.fn nn v d))
  nm : namL (nn + p.m v d) p.res (p.fn nn v d)
  tk : nolstL p.res = true ∨ tokL nn'.tk p.res r
theorem ctr_ptr (tk : List (Hd × Nat)) (htk : ∃ ss : List Nat, tk = ss.map fun q => (nilH, q)) {P : Program} {T : Tab} {S : List (Nat × Spec)} (hT : TabOk P T) (hS : SpecsOk P S) (htop : T.top = false) {g : FuncId} {fn : Func} {cd : Code} (hf : P.funcs[g]? = some fn) (hb : fn.body = some cd) (p : PSpec) (hn : p.args.length + 1 ≤ fn.ntmps) (nocr : p.cr = false → ∀ v d, p.m v d = 0)
    (h : ∀ nn v d, p.pre v d → bnd p.t v → bndL p.args d → ∃ fuel, initK p.args d 1 fun f => run T S fn.ntmps fuel [.code cd, .fin fn.results.toList p.res fun r _ nn' => DoneP p nn v d r nn'] ((0, .a (.elt p.t (.nm nn) [v] 0 0 [] p.t)) :: f) [] ⟨nn + 1, tk⟩) : PCtr P g p := by
  obtain ⟨ss, rfl⟩ := htk
  refine ⟨nocr, fun B nn x F v d b off hF hbx hcell hwv hwk hpre => ?_⟩
  obtain ⟨fuel, hrun⟩ := h nn v d hpre (wok_bnd _ _ hwv) (wokL_bnd _ _ hwk)
  have hrun := initK_elim _ _ _ _ hrun
  refine calls_of_wp hf hb ?_
  let B1 : Nat → Value := fun n => if n = nn then .slice (some ⟨b, off, none⟩) 1 1 else B n
  let F1 : Nat → Nat → Prop := fun b' e => F b' e ∨ b' = b
  let c0 : Cx := { XA := fun _ => False, XB := fun n => n < nn + 1, ty := fun _ => none, E := ⟨fun _ => 0, B1, F1⟩, x := x }
  have hB1 : ∀ n, n < nn → B1 n = B n := fun n hn => if_neg (by omega)
  have hF1 : ∀ b' e, F1 b' e → b' < x.heap.size := fun b' e he => by
    rcases he with he | rfl
    · exact hF b' e he
    · exact hbx
  have hwv1 : wok (· < nn + 1) B1 F1 x p.t v := wok_mono (fun n hn => Nat.lt_succ_of_lt hn) hB1 (fun _ _ h => Or.inl h) (fun _ _ _ _ _ => rfl) (Nat.le_refl _) _ _ hwv
  have hwk1 : wokL (· < nn + 1) B1 F1 x p.args d := wokL_mono (fun n hn => Nat.lt_succ_of_lt hn) hB1 (fun _ _ h => Or.inl h) (fun _ _ _ _ _ => rfl) (Nat.le_refl _) _ _ hwk
  have helt : AV.ok c0 (.elt p.t (.nm nn) [v] 0 0 [] p.t) := by
    refine ⟨⟨Nat.lt_succ_self _, Or.inr ⟨b, off, 1, if_pos rfl, Nat.le_refl _, by unfold maxLen; omega, hbx, ⟨off + 1 * p.t.sz, Nat.le_refl _, Or.inr rfl⟩, fun i e he => ?_⟩⟩, by simp, by unfold At; exact ⟨rfl, rfl⟩⟩
    cases i with
    | zero =>
      have : v = e := by simpa using he
      subst this
      refine ⟨fun j hj => ?_, hwv1⟩
      show x.cell? ⟨b, off + 0 * p.t.sz + j, none⟩ = (flat B1 p.t v)[j]?
      rw [flat_congr (XB := (· < nn)) (B := B) (F := F) (x := x) hB1 p.t v hwv, Nat.zero_mul, Nat.add_zero]
      exact hcell j hj
    | succ i => simp at he
  have hval : AV.val c0.E (.elt p.t (.nm nn) [v] 0 0 [] p.t) = .pointer (some ⟨b, off, none⟩) := by
    show (match B1 nn with | .slice (some a) _ _ => Value.pointer (some ⟨a.block, a.off + 0 * p.t.sz + 0, none⟩) | _ => undef) = _
    rw [show B1 nn = .slice (some ⟨b, off, none⟩) 1 1 from if_pos rfl]
    simp
  have hRl : Real x ⟨F1, B1, nn + 1, c0⟩ [] ⟨nn + 1, ss.map fun q => (nilH, q)⟩ c0 := ⟨⟨Below.refl _ _, fun i hi => hi.elim, fun i hi => hi.elim, fun i j hi => hi.elim, hF1, fun i hi => hi.elim, fun b e _ => Iff.rfl, fun n hn => ⟨hn, rfl⟩, Cx.Le.refl _⟩, fun i => by simp [c0], fun n => Iff.rfl, fun i v hi => by simp at hi, fun i v hi => by simp at hi, Toks.nils _ _ ss⟩
  have hargs := leafs_len p.args d
  have hlv : (leafs p.args d).map (V.val B) = (leafs p.args d).map (V.val B1) := by
    apply List.map_congr_left
    intro u hu
    have := leafs_ok (c := { c0 with XB := (· < nn), E := ⟨fun _ => 0, B, F⟩ }) p.args d hwk u hu
    exact (V.val_congr (XB := (· < nn)) hB1 u this).symm
  have hFR : FR fn.ntmps c0 ((0, .a (.elt p.t (.nm nn) [v] 0 0 [] p.t)) :: initF (leafs p.args d) 1) { tmps := (Value.pointer (some ⟨b, off, none⟩) :: (leafs p.args d).map (V.val B)).toArray ++ Array.replicate (fn.ntmps - (Value.pointer (some ⟨b, off, none⟩) :: (leafs p.args d).map (V.val B)).toArray.size) undef, defers := [] } := by
    refine ⟨by simp [hargs]; omega, rfl, fun t u ht => ?_⟩
    unfold look at ht
    split at ht
    · rename_i hb0
      have := Nat.eq_of_beq_eq_true hb0
      subst this
      cases ht
      refine ⟨?_, helt⟩
      rw [show SV.val c0.E (.a (.elt p.t (.nm nn) [v] 0 0 [] p.t)) = _ from hval]
      simp only []
      rw [Array.getElem?_append_left (by simp)]
      rfl
    · obtain ⟨v', rfl, h1, hv⟩ := initF_look _ 1 t u ht
      have hlt := lt_of_get hv
      refine ⟨?_, leafs_ok (c := c0) p.args d hwk1 v' (List.mem_of_getElem? hv)⟩
      simp only []
      rw [hlv, Array.getElem?_append_left (by simp; omega)]
      obtain ⟨t, rfl⟩ : ∃ k, t = k + 1 := ⟨t - 1, by omega⟩
      rw [Nat.add_sub_cancel] at hv
      simp [hv, SV.val, AV.val, c0]
  have hfin : ∀ a y, Fin P T x ⟨F1, B1, nn + 1, c0⟩ fn.ntmps fn.results.toList p.res (fun r _ nn' => DoneP p nn v d r nn') a y → a.defers = [] ∧ ∃ u, (results fn a.tmps).run P y = .ok u y ∧ ∃ B' F', (∀ n, n < nn → B' n = B n) ∧ (∀ b e, F b e → F' b e) ∧ (∀ b e, b < x.heap.size → F' b e → F b e) ∧ (∀ b e, F' b e → b < y.heap.size) ∧
      Ending.returned u = .returned (retL B' p.res (p.fn nn v d)) ∧ wokL (· < nn + p.m v d) B' F' y p.res (p.fn nn v d) ∧ Below x.heap.size x y := fun a y hs => by
    obtain ⟨f, bl, nn', c, hk, hr, hfr, rfl⟩ := hs
    obtain ⟨r, hd, hres⟩ := resK_sound (w0 := x) (F0 := ⟨F1, B1, nn + 1, c0⟩) (N := fn.ntmps) hT _ _ _ hk
    obtain ⟨e1, e2⟩ := hres nn' c a hr hfr
    obtain ⟨⟨ρ, h1⟩, h2, h3⟩ := hd
    have hcB : ∀ n, n < nn → c.E.B n = B n := fun n hn => ((hr.wf.oldB n (Nat.lt_succ_of_lt hn)).2).trans (hB1 n hn)
    have k1 : ∀ k, k < nn → (fun k => if k < nn then c.E.B k else (ρ k).val c.E.B) k = c.E.B k := fun k hk => if_pos hk
    have k2 : ∀ k, nn ≤ k → k < nn + p.m v d → (fun k => if k < nn then c.E.B k else (ρ k).val c.E.B) k = (ρ k).val c.E.B := fun k hk _ => if_neg (by omega)
    have hw2 : wokL c.XB c.E.B (fun b' e => x.heap.size ≤ b' ∧ c.E.F b' e) c.x p.res r := by
      rcases h3 with h3 | h3
      · exact wokL_nolst _ _ h3
      · exact wokL_tok hr.tk _ _ h3 e2
    refine ⟨hfr.defers, _, results_run e1, fun k => if k < nn then c.E.B k else (ρ k).val c.E.B, fun b' e => F b' e ∨ (x.heap.size ≤ b' ∧ c.E.F b' e), fun n hn => (k1 n hn).trans (hcB n hn), fun _ _ h => Or.inl h, fun b' e hb' he => ?_, fun b' e he => ?_, ?_, ?_, hr.wf.below⟩
    · rcases he with he | ⟨he, _⟩
      · exact he
      · omega
    · rcases he with he | ⟨_, he⟩
      · exact Nat.lt_of_lt_of_le (hF b' e he) hr.wf.below.size
      · exact hr.wf.fhi b' e he
    · unfold retL
      rw [retV_congr ((ren_valL k1 k2 _ _ h2).trans (eqvL_val c.E.B _ _ _ h1).symm)]
    · exact ren_wokL k1 k2 _ _ h2 (eqvL_wok _ _ _ h1 (wokL_mono (XB' := c.XB) (fun _ h => h) (fun _ _ => rfl) (fun _ _ h => Or.inr h) (fun _ _ _ _ _ => rfl) (Nat.le_refl _) _ _ hw2))
  have hsq := run_sound (w0 := x) (F0 := ⟨F1, B1, nn + 1, c0⟩) hT hS (fun i hi => hi.elim) (fun h => by rw [htop] at h; cases h) fuel _ _ _ _ hrun c0 _ hRl hFR
  refine wp_mono hsq fun e a y hs => ?_
  cases e with
  | ret => exact hfin a y hs
  | normal => exact hfin a y hs
  | _ => exact hs.elim

end Go.Proofs.Ytjbbgpacijageab.M

/- A function walked where it is called, by what it leaves: blocks of its own forgotten, names and tokens as one likes. No program is named here. -/
namespace Go.Proofs.Ytjbbgpacijageab.M
open Go.RowKit
set_option linter.unusedVariables false
set_option linter.unusedSimpArgs false

/-- Tokens that there are where those are. -/
def TkLe (tk tk' : List (Hd × Nat)) : Prop := ∀ (w0 : World) (c : Cx), Toks w0 c tk → Toks w0 c tk'
theorem TkLe.refl (tk : List (Hd × Nat)) : TkLe tk tk := fun _ _ h => h
theorem TkLe.trans {a b c : List (Hd × Nat)} (h : TkLe a b) (k : TkLe b c) : TkLe a c := fun w x t => k w x (h w x t)
theorem TkLe.sub {a b : List (Hd × Nat)} (h : b.Sublist a) : TkLe a b := fun w0 c t => ⟨fun q hq => t.ok q (h.subset hq), t.ne.sublist h⟩
theorem TkLe.nil (tk : List (Hd × Nat)) : TkLe tk [] := TkLe.sub (List.nil_sublist _)
theorem TkLe.tail (p : Hd × Nat) (tk : List (Hd × Nat)) : TkLe (p :: tk) tk := TkLe.sub (List.sublist_cons_self _ _)
theorem TkLe.cons {a b : List (Hd × Nat)} (p : Hd × Nat) (h : TkLe a b) (hm : ∀ q ∈ b, q ∈ a) : TkLe (p :: a) (p :: b) := fun w0 c t =>
  ⟨fun q hq => by
    rcases List.mem_cons.1 hq with rfl | hq
    · exact t.ok _ (List.mem_cons_self ..)
    · exact t.ok q (List.mem_cons_of_mem _ (hm q hq)), List.pairwise_cons.2 ⟨fun q hq => (List.pairwise_cons.1 t.ne).1 q (hm q hq), ((TkLe.tail p a).trans h w0 c t).ne⟩⟩
/-- A token for nil. -/
theorem TkLe.new (s : Nat) (tk : List (Hd × Nat)) : TkLe tk ((nilH, s) :: tk) := fun w0 c t => t.consNil s
/-- Own tokens change places. -/
theorem TkLe.swap (p q : Hd × Nat) (tk : List (Hd × Nat)) (hp : 0 < p.2 := by decide) : TkLe (p :: q :: tk) (q :: p :: tk) := fun w0 c t =>
  ⟨fun r hr => t.ok r (by
    rcases List.mem_cons.1 hr with rfl | hr
    · exact List.mem_cons_of_mem _ (List.mem_cons_self ..)
    · rcases List.mem_cons.1 hr with rfl | hr
      · exact List.mem_cons_self ..
      · exact List.mem_cons_of_mem _ (List.mem_cons_of_mem _ hr)), by
    have h1 := List.pairwise_cons.1 t.ne
    have h2 := List.pairwise_cons.1 h1.2
    refine List.pairwise_cons.2 ⟨fun r hr => ?_, List.pairwise_cons.2 ⟨fun r hr => h1.1 r (List.mem_cons_of_mem _ hr), h2.2⟩⟩
    rcases List.mem_cons.1 hr with rfl | hr
    · intro z1 b o l k o' l' k' e1 e2 e3
      exact ⟨fun _ h0 => (h1.1 q (List.mem_cons_self ..) hp b o' l' k' o l k e2 e1 h0).1 z1 e3, fun h0 => by omega⟩
    · exact h2.1 r hr⟩

/-- More names, other tokens. -/
theorem Real.more {w0 : World} {F0 : Old} {bl : List V} {nn : NS} {c : Cx} (h : Real w0 F0 bl nn c) {m : Nat} (hm : nn.n ≤ m) {tk : List (Hd × Nat)} (ht : Toks w0 c tk) : ∃ c', Real w0 F0 bl ⟨m, tk⟩ c' ∧ c.Le c' ∧ c'.x = c.x ∧ c'.E = c.E := by
  have hle : c.Le { c with XB := fun n => n < m } := ⟨fun i hi => ⟨hi, rfl, rfl⟩, fun n hn => ⟨Nat.lt_of_lt_of_le ((h.XB n).1 hn) hm, rfl⟩, fun _ _ h => h, fun _ _ _ _ _ => rfl, Nat.le_refl _⟩
  refine ⟨{ c with XB := fun n => n < m }, ⟨⟨h.wf.below, h.wf.lo, h.wf.hi, h.wf.inj, h.wf.fhi, h.wf.own, h.wf.old, fun n hn => ⟨Nat.lt_of_lt_of_le ((h.XB n).1 (h.wf.oldB n hn).1) hm, (h.wf.oldB n hn).2⟩, h.wf.le.trans hle⟩, h.XA, fun n => Iff.rfl, h.ty, fun i v hi => ⟨(h.blk i v hi).1, V.okc_mono hle (h.blk i v hi).2⟩, ?_⟩, hle, rfl, rfl⟩
  refine ⟨fun p hp => ?_, ht.ne⟩
  obtain ⟨g0, g, g'⟩ := ht.ok p hp
  refine ⟨?_, fun hs => ?_, g'⟩
  rotate_left
  · rcases g hs with g | g | ⟨ms, gm, gk⟩
    · exact Or.inl g
    · exact Or.inr (Or.inl g)
    · exact Or.inr (Or.inr ⟨ms, gm, gk.mono (fun n hn => Nat.lt_of_lt_of_le ((h.XB n).1 hn) hm) (fun _ _ => rfl) (fun _ _ g3 => g3) (fun _ _ _ _ _ h => h)⟩)
  cases hh : p.1 with
  | conc u => trivial
  | nm k => rw [hh] at g0; exact Nat.lt_of_lt_of_le ((h.XB k).1 g0) hm

/-- What is left behind it. -/
structure LaxE (b0 : Nat) (k : SV → List V → NS → Prop) (r : SV) (bl : List V) (nn : NS) : Prop where
  ex : ∃ b m tk, b0 ≤ b ∧ b ≤ bl.length ∧ r.lt b = true ∧ nn.n ≤ m ∧ TkLe nn.tk tk ∧ k r ((bl.take b).map V.norm) ⟨m, tk⟩
/-- An argument as one value. -/
def AV.nrm : AV → AV
  | .of v => .of v.norm
  | s => s
theorem norm_val (B : Nat → Value) (v : V) : v.norm.val B = v.val B := (val_leaf (u := v) rfl (V.dn_flat B v)).symm
theorem nrm_val (E : Env) (s : AV) : s.nrm.val E = s.val E := by
  cases s with
  | of v => exact norm_val E.B v
  | _ => rfl
theorem nrm_ok {c : Cx} {s : AV} (h : s.ok c) : s.nrm.ok c := by
  cases s with
  | of v => exact V.dn_ok v h
  | _ => exact h
structure Lax (tr : MTr) (args : List AV) (bl : List V) (nn : NS) (k : SV → List V → NS → Prop) : Prop where
  ex : ∃ args' bl', args.map AV.nrm = args' ∧ bl.map V.norm = bl' ∧ tr args' bl' nn (LaxE bl.length k)

theorem lax_ok {P : Program} {g : Nat} {tr : MTr} (h : MOk P g tr) : MOk P g (Lax tr) := by
  intro w0 F0 args bl nn k hk c hr hargs
  obtain ⟨args', bl', rfl, rfl, hk⟩ := hk.ex
  have h1 := h w0 F0 _ _ nn _ hk c hr.norm (fun s hs => by
    obtain ⟨s0, h0, rfl⟩ := List.mem_map.1 hs
    exact nrm_ok (hargs s0 h0))
  rw [List.map_map, show (AV.val c.E ∘ AV.nrm) = AV.val c.E from funext fun s => nrm_val c.E s] at h1
  refine Calls.mono h1 fun e x' => ?_
  rintro ⟨r, bl', nn', c', rfl, ⟨b, m, tk, hb0, hb1, hlt, hm, htk, hkk⟩, hr', hle, hok, rfl⟩
  have hF : ∀ i, F0.c.XA i → i < b := fun i hi => Nat.lt_of_lt_of_le ((hr.XA i).1 (hr.wf.le.A i hi).1) hb0
  have r1 := hr'.cut b hF
  have r2 := r1.norm
  obtain ⟨c2, r3, l3, e3, e4⟩ := r2.more hm (htk w0 _ r2.tk)
  have hle2 : c.Le (c'.cut b) := ⟨fun i hi => ⟨⟨(hle.A i hi).1, Nat.lt_of_lt_of_le ((hr.XA i).1 hi) hb0⟩, (hle.A i hi).2⟩, hle.B, hle.F, hle.K, hle.S⟩
  have hok2 : r.ok (c'.cut b) := SV.ok_cut hok hlt
  exact ⟨r, _, _, c2, by rw [e4]; rfl, hkk, r3, hle2.trans l3, SV.ok_mono l3 hok2, e3⟩
theorem laxT_ok {P : Program} {g : Nat} {tr : MTr} (h : MOkT P g tr) : MOkT P g (Lax tr) := by
  intro w0 F0 args bl nn k hk htop c hr hargs
  obtain ⟨args', bl', rfl, rfl, hk⟩ := hk.ex
  have h1 := h w0 F0 _ _ nn _ hk htop c hr.norm (fun s hs => by
    obtain ⟨s0, h0, rfl⟩ := List.mem_map.1 hs
    exact nrm_ok (hargs s0 h0))
  rw [List.map_map, show (AV.val c.E ∘ AV.nrm) = AV.val c.E from funext fun s => nrm_val c.E s] at h1
  refine Calls.mono h1 fun e x' => ?_
  rintro ⟨r, bl', nn', c', rfl, ⟨b, m, tk, hb0, hb1, hlt, hm, htk, hkk⟩, hr', hle, hok, rfl⟩
  have hF : ∀ i, F0.c.XA i → i < b := fun i hi => Nat.lt_of_lt_of_le ((hr.XA i).1 (hr.wf.le.A i hi).1) hb0
  have r1 := hr'.cut b hF
  have r2 := r1.norm
  obtain ⟨c2, r3, l3, e3, e4⟩ := r2.more hm (htk w0 _ r2.tk)
  have hok2 : r.ok (c'.cut b) := SV.ok_cut hok hlt
  refine ⟨r, _, _, c2, by rw [e4]; rfl, hkk, r3, fun i hi => ?_, SV.ok_mono l3 hok2, e3⟩
  obtain ⟨g1, g2, g3⟩ := hle i hi
  obtain ⟨g4, g5, g6⟩ := l3.A i ⟨g1, Nat.lt_of_lt_of_le ((hr.XA i).1 hi) hb0⟩
  exact ⟨g4, g5.trans g2, g6.trans g3⟩
/-- A list's header that lies in a value. -/
def hdIn (h : Hd) : (t : Ty) → t.D → Prop
  | .int, _ => False
  | .bool, _ => False
  | .ref, _ => False
  | .one t, v => hdIn h t v
  | .pair a b, v => hdIn h a v.1 ∨ hdIn h b v.2
  | .arr n t, f => ∃ i, i < n ∧ hdIn h t (f i)
  | .lst _, v => v.1 = h
theorem hdIn_old {c : Cx} {h : Hd} : ∀ (t : Ty) (v : t.D), hdIn h t v → wokc c t v → h.ok c.XB ∧ OldOk c h
  | .int, _, hi, _ => hi.elim
  | .bool, _, hi, _ => hi.elim
  | .ref, _, hi, _ => hi.elim
  | .one t, v, hi, hw => hdIn_old t v hi hw
  | .pair a b, v, hi, hw => by
    rcases hi with hi | hi
    · exact hdIn_old a v.1 hi hw.1
    · exact hdIn_old b v.2 hi hw.2
  | .arr n t, f, hi, hw => by
    obtain ⟨i, hi, hh⟩ := hi
    exact hdIn_old t (f i) hh (hw i hi)
  | .lst t, v, hi, hw => by
    have hi : v.1 = h := hi
    subst hi
    refine ⟨hw.1, ?_⟩
    rcases hw.2 with ⟨_, ad, cap, h1⟩ | ⟨b, o, cap, h1, _, _, h2, _⟩
    · exact ⟨ad, 0, cap, h1, Or.inl rfl⟩
    · exact ⟨_, _, cap, h1, Or.inr ⟨b, o, rfl, h2⟩⟩
def hdInL (h : Hd) : (ts : List Ty) → DL ts → Prop
  | [], _ => False
  | t :: r, d => hdIn h t d.1 ∨ hdInL h r d.2
theorem hdInL_old {c : Cx} {h : Hd} : ∀ (ts : List Ty) (d : DL ts), hdInL h ts d → wokL c.XB c.E.B c.E.F c.x ts d → h.ok c.XB ∧ OldOk c h
  | [], _, hi, _ => hi.elim
  | t :: r, d, hi, hw => by
    rcases hi with hi | hi
    · exact hdIn_old t d.1 hi hw.1
    · exact hdInL_old r d.2 hi hw.2
/-- A contract out of a walk that begins with tokens for nil and for the lists that were handed in. -/
theorem ctr_ofO (s : Spec) (tkf : DL s.args → List (Hd × Nat)) (htk : ∀ d p, p ∈ tkf d → p.1 = nilH ∨ (p.2 = 0 ∧ hdInL p.1 s.args d)) {P : Program} {T : Tab} {S : List (Nat × Spec)} (hT : TabOk P T) (hS : SpecsOk P S) {g : FuncId} {fn : Func} {cd : Code} (hf : P.funcs[g]? = some fn) (hb : fn.body = some cd) (hn : s.args.length ≤ fn.ntmps) (nocr : s.cr = false → ∀ d, s.m d = 0)
    (h : ∀ nn d, s.pre d → bndL s.args d → ∃ fuel, initK s.args d 0 fun f => run T S fn.ntmps fuel [.code cd, .fin fn.results.toList s.res fun r _ nn' => DoneR s nn d r nn'] f [] ⟨nn, tkf d⟩) : Ctr P g s := by
  refine ctr_genT (R := fun s nn d r nn' => DoneR s nn d r nn') (fun s nn d r nn' h => doneR_ok s nn d r nn' h) hT hS hf hb s tkf (fun nn d B F x hw => ?_) hn nocr h
  have key : ∀ l : List (Hd × Nat), (∀ p ∈ l, p.1 = nilH ∨ (p.2 = 0 ∧ hdInL p.1 s.args d)) → Toks x { XA := fun _ => False, XB := fun n => n < nn, ty := fun _ => none, E := ⟨fun _ => 0, B, F⟩, x := x } l := fun l => by
    induction l with
    | nil => intro _; exact Toks.nil _ _
    | cons p l ih =>
      intro hl
      have h1 := ih fun q hq => hl q (List.mem_cons_of_mem _ hq)
      obtain ⟨hd, n⟩ := p
      rcases hl (hd, n) (List.mem_cons_self ..) with h2 | ⟨h2, h3⟩
      · have h2 : hd = nilH := h2
        subst h2
        exact h1.consNil n
      · have h2 : n = 0 := h2
        subst h2
        obtain ⟨h4, h5⟩ := hdInL_old (c := { XA := fun _ => False, XB := fun n => n < nn, ty := fun _ => none, E := ⟨fun _ => 0, B, F⟩, x := x }) s.args d h3 hw
        exact h1.consOld h4 h5
  exact key _ (htk d)
/-- Tokens that there are in such a state. -/
def TkAt (bl : List V) (nn : NS) (tk : List (Hd × Nat)) : Prop := ∀ (w0 : World) (F0 : Old) (c : Cx), Real w0 F0 bl nn c → Toks w0 c tk
theorem TkAt.le {bl : List V} {nn : NS} {tk tk' : List (Hd × Nat)} (h : TkAt bl nn tk) (k : TkLe tk tk') : TkAt bl nn tk' := fun w0 F0 c hr => k w0 c (h w0 F0 c hr)
theorem TkAt.refl (bl : List V) (nn : NS) : TkAt bl nn nn.tk := fun _ _ _ hr => hr.tk
theorem TkAt.new {bl : List V} {nn : NS} {tk : List (Hd × Nat)} (h : TkAt bl nn tk) (s : Nat) : TkAt bl nn ((nilH, s) :: tk) := fun w0 F0 c hr => (h w0 F0 c hr).consNil s
theorem TkAt.old {bl : List V} {nn : NS} {tk : List (Hd × Nat)} (h : TkAt bl nn tk) {hd : Hd} (i : Nat) {t : Ty} {v : t.D} (hi : bl[i]? = some (.leaf t v)) (hh : hdIn hd t v) : TkAt bl nn ((hd, 0) :: tk) := fun w0 F0 c hr => by
  obtain ⟨h0, h1⟩ := hdIn_old t v hh (hr.blk i _ hi).2
  exact (h w0 F0 c hr).consOld h0 h1
/-- With other tokens behind it. -/
def Anew (tr : MTr) : MTr := fun args bl nn k => tr args bl nn fun r bl' nn' => ∃ tk, TkAt bl' nn' tk ∧ k r bl' ⟨nn'.n, tk⟩
theorem anew_ok {P : Program} {g : Nat} {tr : MTr} (h : MOk P g tr) : MOk P g (Anew tr) := by
  intro w0 F0 args bl nn k hk c hr hargs
  refine Calls.mono (h w0 F0 args bl nn _ hk c hr hargs) fun e x' => ?_
  rintro ⟨r, bl', nn', c', rfl, ⟨tk, htk, hk⟩, hr', hle, hok, rfl⟩
  obtain ⟨c2, r3, l3, e3, e4⟩ := hr'.more (Nat.le_refl _) (htk w0 F0 c' hr')
  exact ⟨r, _, _, c2, by rw [e4], hk, r3, hle.trans l3, SV.ok_mono l3 hok, e3⟩
theorem anewT_ok {P : Program} {g : Nat} {tr : MTr} (h : MOkT P g tr) : MOkT P g (Anew tr) := by
  intro w0 F0 args bl nn k hk htop c hr hargs
  refine Calls.mono (h w0 F0 args bl nn _ hk htop c hr hargs) fun e x' => ?_
  rintro ⟨r, bl', nn', c', rfl, ⟨tk, htk, hk⟩, hr', hle, hok, rfl⟩
  obtain ⟨c2, r3, l3, e3, e4⟩ := hr'.more (Nat.le_refl _) (htk w0 F0 c' hr')
  refine ⟨r, _, _, c2, by rw [e4], hk, r3, fun i hi => ?_, SV.ok_mono l3 hok, e3⟩
  obtain ⟨g1, g2, g3⟩ := hle i hi
  obtain ⟨g4, g5, g6⟩ := l3.A i g1
  exact ⟨g4, g5.trans g2, g6.trans g3⟩
/-- With other tokens ahead of it. -/
def Prior (tr : MTr) : MTr := fun args bl nn k => ∃ tk, TkAt bl nn tk ∧ tr args bl ⟨nn.n, tk⟩ k
theorem prior_ok {P : Program} {g : Nat} {tr : MTr} (h : MOk P g tr) : MOk P g (Prior tr) := by
  intro w0 F0 args bl nn k hk c hr hargs
  obtain ⟨tk, htk, hk⟩ := hk
  obtain ⟨c2, r3, l3, e3, e4⟩ := hr.more (Nat.le_refl _) (htk w0 F0 c hr)
  have h1 := h w0 F0 args bl ⟨nn.n, tk⟩ k hk c2 r3 (fun s hs => AV.ok_mono l3 (hargs s hs))
  rw [e3, e4] at h1
  refine Calls.mono h1 fun e x' => ?_
  rintro ⟨r, bl', nn', c', he, hk', hr', hle, hok, hx⟩
  exact ⟨r, bl', nn', c', he, hk', hr', l3.trans hle, hok, hx⟩
theorem priorT_ok {P : Program} {g : Nat} {tr : MTr} (h : MOkT P g tr) : MOkT P g (Prior tr) := by
  intro w0 F0 args bl nn k hk htop c hr hargs
  obtain ⟨tk, htk, hk⟩ := hk
  obtain ⟨c2, r3, l3, e3, e4⟩ := hr.more (Nat.le_refl _) (htk w0 F0 c hr)
  have h1 := h w0 F0 args bl ⟨nn.n, tk⟩ k hk htop c2 r3 (fun s hs => AV.ok_mono l3 (hargs s hs))
  rw [e3, e4] at h1
  refine Calls.mono h1 fun e x' => ?_
  rintro ⟨r, bl', nn', c', he, hk', hr', hle, hok, hx⟩
  refine ⟨r, bl', nn', c', he, hk', hr', fun i hi => ?_, hok, hx⟩
  obtain ⟨g1, g2, g3⟩ := l3.A i hi
  obtain ⟨g4, g5, g6⟩ := hle i g1
  exact ⟨g4, g5.trans g2, g6.trans g3⟩
theorem nrm_nrm (s : AV) : s.nrm.nrm = s.nrm := by cases s <;> rfl
theorem lax_args {tr : MTr} {args : List AV} {bl : List V} {nn : NS} {k : SV → List V → NS → Prop} (h : Lax tr (args.map AV.nrm) bl nn k) : Lax tr args bl nn k := by
  obtain ⟨a, b, h1, h2, h3⟩ := h.ex
  rw [List.map_map, show AV.nrm ∘ AV.nrm = AV.nrm from funext nrm_nrm] at h1
  exact ⟨a, b, h1, h2, h3⟩
theorem lax_norm {tr : MTr} {args : List AV} {bl : List V} {nn : NS} {k : SV → List V → NS → Prop} (h : Lax tr args (bl.map V.norm) nn k) : Lax tr args bl nn k := by
  obtain ⟨a, b, h1, h2, h3⟩ := h.ex
  rw [List.map_map, show V.norm ∘ V.norm = V.norm from funext fun _ => rfl] at h2
  rw [List.length_map] at h3
  exact ⟨a, b, h1, h2, h3⟩

/-- At an end of such a function. -/
theorem LaxE.mk' {b0 : Nat} {k : SV → List V → NS → Prop} {r : SV} {bl : List V} {nn : NS} (b m : Nat) (tk : List (Hd × Nat)) (h0 : b0 ≤ b) (h1 : b ≤ bl.length) (h2 : r.lt b = true) (h3 : nn.n ≤ m) (h4 : TkLe nn.tk tk) (h : k r ((bl.take b).map V.norm) ⟨m, tk⟩) : LaxE b0 k r bl nn := ⟨b, m, tk, h0, h1, h2, h3, h4, h⟩

/-- The second token is that list's. -/
theorem AppW.go2 {e : Ty} {h : Hd} {xs ys : List e.D} {n : Nat} {p q : Hd × Nat} {tk : List (Hd × Nat)} {k : SV → NS → Prop} (hb : xs.length + ys.length ≤ 140737488355328 ∧ (xs.length + ys.length) * e.byt ≤ 140737488355328) (hk : Go (k (.a (.of (.leaf (.lst e) (.nm n, xs ++ ys)))) ⟨n + 1, p :: q :: (.nm n, e.sz) :: tk⟩)) : AppW e h xs ys ⟨n, p :: q :: (h, e.sz) :: tk⟩ k := ⟨2, rfl, hb, hk.out⟩
theorem AppW.go3 {e : Ty} {h : Hd} {xs ys : List e.D} {n : Nat} {p q r : Hd × Nat} {tk : List (Hd × Nat)} {k : SV → NS → Prop} (hb : xs.length + ys.length ≤ 140737488355328 ∧ (xs.length + ys.length) * e.byt ≤ 140737488355328) (hk : Go (k (.a (.of (.leaf (.lst e) (.nm n, xs ++ ys)))) ⟨n + 1, p :: q :: r :: (.nm n, e.sz) :: tk⟩)) : AppW e h xs ys ⟨n, p :: q :: r :: (h, e.sz) :: tk⟩ k := ⟨3, rfl, hb, hk.out⟩
theorem AppW.go1 {e : Ty} {h : Hd} {xs ys : List e.D} {n : Nat} {p : Hd × Nat} {tk : List (Hd × Nat)} {k : SV → NS → Prop} (hb : xs.length + ys.length ≤ 140737488355328 ∧ (xs.length + ys.length) * e.byt ≤ 140737488355328) (hk : Go (k (.a (.of (.leaf (.lst e) (.nm n, xs ++ ys)))) ⟨n + 1, p :: (.nm n, e.sz) :: tk⟩)) : AppW e h xs ys ⟨n, p :: (h, e.sz) :: tk⟩ k := ⟨1, rfl, hb, hk.out⟩

end Go.Proofs.Ytjbbgpacijageab.M
