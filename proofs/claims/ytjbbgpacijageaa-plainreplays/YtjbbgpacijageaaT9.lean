/- Calls of functions that are known by what they give back. No program is named here. -/
import Derived.Test.YtjbbgpacijageaaT8
namespace Go.Proofs.Ytjbbgpacijageaa.M
open Go.RowKit
set_option linter.unusedVariables false
set_option linter.unusedSimpArgs false

@[reducible] def DL : List Ty → Type
  | [] => Unit
  | t :: r => t.D × DL r
def leafs : (ts : List Ty) → DL ts → List V
  | [], _ => []
  | t :: r, d => .leaf t d.1 :: leafs r d.2
def wokL (XB : Nat → Prop) (B : Nat → Value) (F : Nat → Nat → Prop) (x : World) : (ts : List Ty) → DL ts → Prop
  | [], _ => True
  | t :: r, d => wok XB B F x t d.1 ∧ wokL XB B F x r d.2
def retV (B : Nat → Value) : List V → Value
  | [v] => v.val B
  | l => .tuple (l.map (V.val B)).toArray
def retL (B : Nat → Value) (ts : List Ty) (d : DL ts) : Value := retV B (leafs ts d)
def retS (ts : List Ty) (d : DL ts) : SV := match leafs ts d with | [v] => .a (.of v) | l => .tup (l.map AV.of)
def Ty.nolst : Ty → Bool
  | .int => true
  | .bool => true
  | .one t => t.nolst
  | .pair a b => a.nolst && b.nolst
  | .arr _ t => t.nolst
  | .lst _ => false
def nolstL : List Ty → Bool
  | [] => true
  | t :: r => t.nolst && nolstL r

structure Real (w0 : World) (F0 : Old) (bl : List V) (nn : NS) (c : Cx) : Prop where
  wf : c.Wf w0 F0
  XA : ∀ i, c.XA i ↔ i < bl.length
  XB : ∀ n, c.XB n ↔ n < nn.n
  ty : ∀ i v, bl[i]? = some v → c.ty i = some v.ty
  blk : ∀ i v, bl[i]? = some v → (∃ e, HB c.x (c.E.A i) (v.cells c.E.B).toArray e) ∧ v.okc c
  tk : Toks w0 c nn.tk

/-- A function that is walked where it is called: what it is handed, the blocks, the names, and what is to hold behind it. -/
abbrev MTr := List AV → List V → NS → (SV → List V → NS → Prop) → Prop
def MOk (P : Program) (g : Nat) (tr : MTr) : Prop :=
  ∀ (w0 : World) (F0 : Old) (args : List AV) (bl : List V) (nn : NS) (k : SV → List V → NS → Prop), tr args bl nn k → ∀ (c : Cx), Real w0 F0 bl nn c → (∀ s ∈ args, s.ok c) →
    Calls P g (args.map (AV.val c.E)).toArray c.x fun e x' => ∃ r bl' nn' c', e = .returned (r.val c'.E) ∧ k r bl' nn' ∧ Real w0 F0 bl' nn' c' ∧ c.Le c' ∧ r.ok c' ∧ c'.x = x'

/-- What a function gives back, and under which condition. -/
structure Spec where
  args : List Ty
  res : List Ty
  cr : Bool
  m : DL args → Nat
  fn : Nat → DL args → DL res
  pre : DL args → Prop
  wk : Option MTr := none
structure Ctr (P : Program) (g : Nat) (s : Spec) : Prop where
  nocr : s.cr = false → ∀ d, s.m d = 0
  run : ∀ (B : Nat → Value) (nn : Nat) (x : World) (F : Nat → Nat → Prop) (d : DL s.args), (∀ b e, F b e → b < x.heap.size) → wokL (· < nn) B F x s.args d → s.pre d →
    Calls P g ((leafs s.args d).map (V.val B)).toArray x fun e x' => ∃ B' F', (∀ n, n < nn → B' n = B n) ∧ (∀ b e, F b e → F' b e) ∧ (∀ b e, b < x.heap.size → F' b e → F b e) ∧ (∀ b e, F' b e → b < x'.heap.size) ∧
      e = .returned (retL B' s.res (s.fn nn d)) ∧ wokL (· < nn + s.m d) B' F' x' s.res (s.fn nn d) ∧ Below x.heap.size x x'

theorem wok_nolst {XB : Nat → Prop} {B : Nat → Value} {F : Nat → Nat → Prop} {x : World} : ∀ (t : Ty) (v : t.D), t.nolst = true → wok XB B F x t v
  | .int, _, _ => trivial
  | .bool, _, _ => trivial
  | .one t, v, h => wok_nolst t v h
  | .pair a b, v, h => by
    simp only [Ty.nolst, Bool.and_eq_true] at h
    exact ⟨wok_nolst a v.1 h.1, wok_nolst b v.2 h.2⟩
  | .arr n t, f, h => fun i _ => wok_nolst t (f i) h
  | .lst t, v, h => by cases h
theorem wokL_nolst {XB : Nat → Prop} {B : Nat → Value} {F : Nat → Nat → Prop} {x : World} : ∀ (ts : List Ty) (d : DL ts), nolstL ts = true → wokL XB B F x ts d
  | [], _, _ => trivial
  | t :: r, d, h => by
    simp only [nolstL, Bool.and_eq_true] at h
    exact ⟨wok_nolst t d.1 h.1, wokL_nolst r d.2 h.2⟩
theorem wokL_mono {XB XB' : Nat → Prop} {B B' : Nat → Value} {F F' : Nat → Nat → Prop} {x x' : World} (hX : ∀ n, XB n → XB' n) (hB : ∀ n, XB n → B' n = B n) (hF : ∀ b e, F b e → F' b e) (hK : Keep F x x') (hs : x.heap.size ≤ x'.heap.size) :
    ∀ (ts : List Ty) (d : DL ts), wokL XB B F x ts d → wokL XB' B' F' x' ts d
  | [], _, _ => trivial
  | t :: r, d, h => ⟨wok_mono hX hB hF hK hs t d.1 h.1, wokL_mono hX hB hF hK hs r d.2 h.2⟩
theorem leafs_ok {c : Cx} : ∀ (ts : List Ty) (d : DL ts), wokL c.XB c.E.B c.E.F c.x ts d → ∀ v ∈ leafs ts d, v.okc c
  | [], _, _, v, hv => by cases hv
  | t :: r, d, h, v, hv => by
    simp only [leafs, List.mem_cons] at hv
    rcases hv with rfl | hv
    · exact h.1
    · exact leafs_ok r d.2 h.2 v hv
theorem ret_val (E : Env) (ts : List Ty) (d : DL ts) : (retS ts d).val E = retL E.B ts d := by
  unfold retS retL
  split
  · rename_i v hv
    rw [hv]; rfl
  · rename_i l hl
    have : retV E.B (leafs ts d) = .tuple ((leafs ts d).map (V.val E.B)).toArray := by
      unfold retV
      split
      · rename_i v hv
        exact absurd hv (hl v)
      · rfl
    rw [this]
    simp only [SV.val, List.map_map]
    rfl
theorem ret_ok {c : Cx} (ts : List Ty) (d : DL ts) (h : wokL c.XB c.E.B c.E.F c.x ts d) : (retS ts d).ok c := by
  have hl := leafs_ok ts d h
  unfold retS
  split
  · rename_i v hv
    exact hl v (by rw [hv]; simp)
  · intro y hy
    simp only [List.mem_map] at hy
    obtain ⟨v, hv, rfl⟩ := hy
    exact hl v hv

/-- A slice of an array of the function's own, as a list. -/
def ownL (t : Ty) (g : Nat → t.D) (lo len : Nat) : List t.D := (List.range len).map fun k => g (lo + k)

/-- An argument as a value of a type; what is a slice of an array of one's own gets a name. -/
def argK (bl : List V) (nn : Nat) (s : AV) (t : Ty) (k : t.D → List AV → Prop) : Prop :=
  match s with
  | .of v => denK v t fun d => k d []
  | .raw (.slice none 0 0) => match t, k with
    | .lst _, k => k (nilH, []) []
    | _, _ => False
  | .slc i off p n e lo len cap => match t, k with
    | .lst u, k => match decEq e u with
      | .isTrue _ => match nthB bl i with
        | some b => match getV b p with
          | some y => denK y (.arr n u) fun g => k (.nm nn, ownL u g lo len) [.slc i off p n e lo len cap]
          | none => False
        | none => False
      | .isFalse _ => False
    | _, _ => False
  | _ => False
def argsK (f : Fr) (bl : List V) : List Operand → (ts : List Ty) → Nat → (DL ts → List AV → Prop) → Prop
  | [], [], _, k => k () []
  | x :: r, t :: ts, nn, k => match evS f x with
    | some (.a s) => argK bl nn s t fun d hs => match hs with
      | [] => argsK f bl r ts nn fun ds hs' => k (d, ds) hs'
      | h :: _ => argsK f bl r ts (nn + 1) fun ds hs' => k (d, ds) (h :: hs')
    | _ => False
  | _, _, _, _ => False
def slcI : AV → Nat
  | .slc i _ _ _ _ _ _ _ => i
  | _ => 0
def spL : List (Nat × Spec) → Nat → Option Spec
  | [], _ => none
  | (g', s) :: r, g => match Nat.beq g g' with | true => some s | false => spL r g
def SpecsOk (P : Program) (S : List (Nat × Spec)) : Prop := ∀ e ∈ S, ((e.2.wk = none → Ctr P e.1 e.2) ∧ ∀ tr, e.2.wk = some tr → MOk P e.1 tr) ∧ (match P.funcs[e.1]? with | some fn => !(fn.name == "runtime.NumGoroutine") && fn.body.isSome | none => false) = true
theorem spL_mem : ∀ (S : List (Nat × Spec)) (g : Nat) (s : Spec), spL S g = some s → (g, s) ∈ S
  | [], _, _, h => by cases h
  | (g', s') :: r, g, s, h => by
    unfold spL at h
    split at h
    · rename_i hb
      have := Nat.eq_of_beq_eq_true hb
      subst this; cases h; simp
    · exact List.mem_cons_of_mem _ (spL_mem r g s h)
theorem SpecsOk.nil (P : Program) : SpecsOk P [] := fun e he => by cases he
theorem SpecsOk.cons {P : Program} {S : List (Nat × Spec)} {g : Nat} {s : Spec} (h : Ctr P g s) (hb : (match P.funcs[g]? with | some fn => !(fn.name == "runtime.NumGoroutine") && fn.body.isSome | none => false) = true) (hS : SpecsOk P S) (hm : s.wk = none := by rfl) : SpecsOk P ((g, s) :: S) := fun e he => by
  rcases List.mem_cons.1 he with rfl | he
  · exact ⟨⟨fun _ => h, fun tr htr => by rw [hm] at htr; cases htr⟩, hb⟩
  · exact hS e he
/-- A function to be walked at its calls. -/
abbrev mutS (tr : MTr) : Spec := { args := [], res := [], cr := false, m := fun _ => 0, fn := fun _ _ => (), pre := fun _ => False, wk := some tr }
theorem SpecsOk.mut {P : Program} {S : List (Nat × Spec)} {g : Nat} {tr : MTr} (h : MOk P g tr) (hb : (match P.funcs[g]? with | some fn => !(fn.name == "runtime.NumGoroutine") && fn.body.isSome | none => false) = true) (hS : SpecsOk P S) : SpecsOk P ((g, mutS tr) :: S) := fun e he => by
  rcases List.mem_cons.1 he with rfl | he
  · exact ⟨⟨fun h0 => (by cases h0), fun tr' htr => (by cases htr; exact h)⟩, hb⟩
  · exact hS e he

def tupK : (ts : List Ty) → DL ts → (List AV → Prop) → Prop
  | [], _, k => k []
  | t :: r, d, k => tupK r d.2 fun l => k (.of (.leaf t d.1) :: l)
def retK (ts : List Ty) (d : DL ts) (k : SV → Prop) : Prop :=
  match ts, d with
  | [t], d => k (.a (.of (.leaf t d.1)))
  | ts, d => tupK ts d fun l => k (.tup l)
theorem tupK_elim : ∀ (ts : List Ty) (d : DL ts) (k : List AV → Prop), tupK ts d k → k ((leafs ts d).map AV.of)
  | [], _, _, h => h
  | t :: r, d, k, h => tupK_elim r d.2 _ h
theorem retK_elim {ts : List Ty} {d : DL ts} {k : SV → Prop} (h : retK ts d k) : k (retS ts d) := by
  match ts, d, h with
  | [], d, h => exact h
  | [t], d, h => exact h
  | t :: u :: r, d, h => exact tupK_elim _ _ _ h
def callK (T : Tab) (S : List (Nat × Spec)) (c : Call) (f : Fr) (bl : List V) (nn : Nat) (k : Out → Prop) : Prop :=
  match c.callee with
  | .value (.func g) => match spL S g with
    | some ⟨args, res, cr, m, fn, pre, none⟩ => argsK f bl c.args.toList args nn fun d hs => match hs with
      | [] => Need (pre d) (retK res (fn nn d) fun v => k ⟨v, .none, m d, [], true, cr⟩)
      | h :: r => match nolstL res with
        | true => Need (pre d) (retK res (fn (nn + (h :: r).length) d) fun v => k ⟨v, .none, (h :: r).length + m d, (h :: r).map slcI, true, true⟩)
        | false => False
    | _ => False
  | .builtin .len => match c.args.toList with
    | [x] => match c.argTypes.toList with
      | [t] => match tyL T.ty t with
        | some (.lst _, _) => match evS f x with
          | some (.a (.of (.leaf (.lst e) v))) => k (.val (.a (.of (.leaf .int (v.2.length : Int)))))
          | _ => False
        | _ => False
      | _ => False
    | _ => False
  | _ => False

/-- The names of slices of one's own, as they are handed on. -/
def nameB (B : Nat → Value) (nn : Nat) (E : Env) : List AV → Nat → Value
  | [], n => B n
  | h :: r, n => if n = nn then h.val E else nameB B (nn + 1) E r n

section
variable {P : Program} {w0 : World} {F0 : Old}

theorem nameB_lt {B : Nat → Value} {E : Env} : ∀ (hs : List AV) (nn n : Nat), n < nn → nameB B nn E hs n = B n
  | [], _, _, _ => rfl
  | h :: r, nn, n, hn => by
    unfold nameB
    rw [if_neg (by omega), nameB_lt r (nn + 1) n (by omega)]

/-- The blocks that are handed on lie still meanwhile. -/
def lent (c : Cx) (hs : List AV) (b e : Nat) : Prop := c.E.F b e ∨ ∃ h ∈ hs, b = c.E.A (slcI h) ∧ c.XA (slcI h)

theorem argK_sound {bl : List V} {nn : Nat} {s : AV} {t : Ty} {k : t.D → List AV → Prop} (h : argK bl nn s t k) : ∃ d hs, k d hs ∧ hs.length ≤ 1 ∧
    ∀ (c : Cx), s.ok c → (∀ h ∈ hs, c.XA (slcI h)) ∧ ((∀ i, i ∈ hs.map slcI → ∀ v, bl[i]? = some v → c.XA i ∧ c.ty i = some v.ty ∧ (∃ e, HB c.x (c.E.A i) (v.cells c.E.B).toArray e) ∧ v.okc c) → (∀ n, c.XB n → n < nn) → ∀ (c' : Cx), c.Le c' → c'.x = c.x → (∀ h ∈ hs, c'.E.B nn = h.val c.E ∧ c'.XB nn ∧ ∀ e, c'.E.F (c.E.A (slcI h)) e) →
      (V.leaf t d).val c'.E.B = s.val c.E ∧ wokc c' t d) := by
  unfold argK at h
  split at h
  · rename_i v
    obtain ⟨d, h1, h2, h3, h4⟩ := denK_sound v t _ h
    refine ⟨d, [], h1, by simp, fun c hs => ⟨fun h hh => (by cases hh), fun _ _ c' hle _ _ => ?_⟩⟩
    have hw : wokc c t d := h4 _ _ _ _ hs
    refine ⟨?_, wokc_mono hle hw⟩
    show _ = v.val c.E.B
    rw [val_leaf h2 (h3 c.E.B)]
    exact V.valc (v := .leaf t d) hle hw
  · split at h
    · refine ⟨_, _, h, by simp, fun c _ => ⟨fun h hh => (by cases hh), fun _ _ c' _ _ _ => ⟨rfl, trivial, Or.inl ⟨rfl, none, 0, rfl⟩⟩⟩⟩
    · exact h.elim
  · rename_i i off p n e lo len cap
    split at h
    · rename_i u k
      split at h
      · rename_i he _
        subst he
        split at h
        · rename_i b hb
          split at h
          · rename_i y hy
            rw [nthB_eq] at hb
            obtain ⟨g, h1, h2, h3, h4⟩ := denK_sound y (.arr n e) _ h
            refine ⟨_, _, h1, by simp, fun c hs => ⟨fun h hh => by simp at hh; subst hh; exact hs.1, fun ht hnn c' hle hx hh => ?_⟩⟩
            obtain ⟨e1, e2, e3⟩ := hh (.slc i off p n e lo len cap) (by simp)
            refine ⟨e1, e2, ?_⟩
            obtain ⟨g2, g3, ⟨q, g4⟩, g5⟩ := ht i (by simp [slcI]) b hb
            obtain ⟨k1, ⟨T, k2, k3⟩, k4, k5, k6⟩ := hs
            rw [g3] at k2
            cases k2
            obtain ⟨m1, m2, m3⟩ := getV_sound c.E.B p b y off _ hy k3
            have hlen : (ownL e g lo len).length = len := by simp [ownL]
            by_cases hl0 : len = 0
            · refine Or.inl ⟨by rw [← List.length_eq_zero_iff, hlen, hl0], ?_⟩
              show ∃ ad cap, c'.E.B nn = .slice ad 0 cap
              rw [e1]
              exact ⟨_, _, by simp only [AV.val, hl0]; rfl⟩
            · have hcap : cap ≠ 0 := by omega
              refine Or.inr ⟨c.E.A i, off + lo * e.sz, cap, ?_, by rw [hlen]; exact k5, ?_, Nat.lt_of_lt_of_le g4.lt hle.S, ⟨_, Nat.le_refl _, e3 _⟩, fun j z hz => ?_⟩
              · show c'.E.B nn = .slice _ (ownL e g lo len).length cap
                rw [e1, hlen]
                simp only [AV.val, if_neg hcap]
              · unfold maxLen; omega
              · have hj : j < len := by rw [← hlen]; exact (List.getElem?_eq_some_iff.1 hz).1
                have hzv : z = g (lo + j) := by
                  have : (ownL e g lo len)[j]? = some (g (lo + j)) := by simp [ownL, hj]
                  rw [this] at hz
                  exact (Option.some.inj hz).symm
                subst hzv
                have hgok : wok c.XB c.E.B c.E.F c.x e (g (lo + j)) := h4 _ _ _ _ (getV_ok p b y off _ hy k3 g5) (lo + j) (by omega)
                refine ⟨fun q hq => ?_, wokc_mono hle hgok⟩
                have hlt : lo + j < n := by omega
                have hle' : (lo + j) * e.sz + e.sz ≤ n * e.sz := by rw [← Nat.succ_mul]; exact Nat.mul_le_mul_right _ hlt
                have hrow := rows_get n (g := fun i => flat c.E.B e (g i)) (fun i _ => flat_len c.E.B e (g i)) (lo + j) hlt
                have hy2 : y.cells c.E.B = rows n fun i => flat c.E.B e (g i) := (h3 c.E.B).symm
                rw [hx, flat_congr (fun n hn => (hle.B n hn).2) e _ hgok]
                have hidx : off + lo * e.sz + j * e.sz + q = off + ((lo + j) * e.sz + q) := by rw [Nat.add_mul]; omega
                rw [hidx, hb_cell g4, ← drop_take_get (n := (Ty.arr n e).sz) (by simp only [Ty.sz]; omega), ← m3, hy2, ← hrow, drop_take_get hq]
          · exact h.elim
        · exact h.elim
      · exact h.elim
    · exact h.elim
  · exact h.elim

theorem argsK_sound {f : Fr} {bl : List V} : ∀ (xs : List Operand) (ts : List Ty) (nn : Nat) (k : DL ts → List AV → Prop), argsK f bl xs ts nn k → ∃ d hs, k d hs ∧
    ∀ (c : Cx) (ρ : Operand → Value), (∀ y ∈ xs, ∀ s, evS f y = some s → ρ y = s.val c.E ∧ s.ok c) → (∀ h ∈ hs, c.XA (slcI h)) ∧ ((∀ i, i ∈ hs.map slcI → ∀ v, bl[i]? = some v → c.XA i ∧ c.ty i = some v.ty ∧ (∃ e, HB c.x (c.E.A i) (v.cells c.E.B).toArray e) ∧ v.okc c) → (∀ n, c.XB n → n < nn) →
      ∀ (c' : Cx), c.Le c' → c'.x = c.x → (∀ j, j < hs.length → c'.XB (nn + j)) → (∀ j h, hs[j]? = some h → c'.E.B (nn + j) = h.val c.E) → (∀ h ∈ hs, ∀ e, c'.E.F (c.E.A (slcI h)) e) →
      xs.map ρ = (leafs ts d).map (V.val c'.E.B) ∧ wokL c'.XB c'.E.B c'.E.F c'.x ts d)
  | [], [], nn, k, h => ⟨(), [], h, fun c ρ _ => ⟨fun h hh => (by cases hh), fun _ _ c' _ _ _ _ _ => ⟨rfl, trivial⟩⟩⟩
  | x :: r, t :: ts, nn, k, h => by
    unfold argsK at h
    split at h
    · rename_i s hs
      obtain ⟨d, h1, hk, hl1, hd⟩ := argK_sound h
      match h1, hk, hl1, hd with
      | [], hk, _, hd =>
        obtain ⟨ds, h2, hk2, hds⟩ := argsK_sound r ts nn _ hk
        refine ⟨(d, ds), h2, hk2, fun c ρ hρ => ⟨(hds c ρ (fun y hy => hρ y (by simp [hy]))).1, fun ht hnn c' hle hx hX hB hF => ?_⟩⟩
        obtain ⟨e1, e2⟩ := hρ x (by simp) _ hs
        obtain ⟨e3, e4⟩ := (hd c e2).2 (fun i hi => by cases hi) hnn c' hle hx (fun h hh => by cases hh)
        obtain ⟨e5, e6⟩ := (hds c ρ (fun y hy => hρ y (by simp [hy]))).2 ht hnn c' hle hx hX hB hF
        refine ⟨?_, e4, e6⟩
        rw [List.map_cons, e5, e1]
        show _ = (V.leaf t d).val c'.E.B :: _
        rw [e3]
        rfl
      | [h0], hk, _, hd =>
        obtain ⟨ds, h2, hk2, hds⟩ := argsK_sound r ts (nn + 1) _ hk
        refine ⟨(d, ds), h0 :: h2, hk2, fun c ρ hρ => ⟨fun h hh => ?_, fun ht hnn c' hle hx hX hB hF => ?_⟩⟩
        · rcases List.mem_cons.1 hh with rfl | hh
          · exact (hd c (hρ x (by simp) _ hs).2).1 h (by simp)
          · exact (hds c ρ (fun y hy => hρ y (by simp [hy]))).1 h hh
        obtain ⟨e1, e2⟩ := hρ x (by simp) _ hs
        obtain ⟨e3, e4⟩ := (hd c e2).2 (fun i hi => ht i (by simp at hi ⊢; exact Or.inl hi)) hnn c' hle hx (fun h hh => by
          have : h = h0 := by simpa using hh
          subst this
          exact ⟨hB 0 h rfl, hX 0 (by simp), hF h (by simp)⟩)
        obtain ⟨e5, e6⟩ := (hds c ρ (fun y hy => hρ y (by simp [hy]))).2 (fun i hi => ht i (by simp at hi ⊢; exact Or.inr hi)) (fun n hn => Nat.lt_succ_of_lt (hnn n hn)) c' hle hx
          (fun j hj => by have := hX (j + 1) (by simpa using hj); rwa [show nn + (j + 1) = nn + 1 + j from by omega] at this)
          (fun j h hj => by have := hB (j + 1) h (by simpa using hj); rwa [show nn + (j + 1) = nn + 1 + j from by omega] at this)
          (fun h hh => hF h (by simp [hh]))
        refine ⟨?_, e4, e6⟩
        rw [List.map_cons, e5, e1]
        show _ = (V.leaf t d).val c'.E.B :: _
        rw [e3]
        rfl
      | _ :: _ :: _, _, hl1, _ => simp at hl1
    · exact h.elim
  | [], _ :: _, _, _, h => by unfold argsK at h; exact h.elim
  | _ :: _, [], _, _, h => by unfold argsK at h; exact h.elim

theorem nameB_at {B : Nat → Value} {E : Env} : ∀ (hs : List AV) (nn j : Nat) (h : AV), hs[j]? = some h → nameB B nn E hs (nn + j) = h.val E
  | [], _, _, _, h => by simp at h
  | h0 :: r, nn, 0, h, hh => by
    simp at hh
    subst hh
    unfold nameB
    rw [Nat.add_zero, if_pos rfl]
  | h0 :: r, nn, j + 1, h, hh => by
    unfold nameB
    rw [if_neg (by omega), show nn + (j + 1) = nn + 1 + j from by omega]
    exact nameB_at r (nn + 1) j h (by simpa using hh)

theorem callFunc_run {g : Nat} (h : (match P.funcs[g]? with | some fn => !(fn.name == "runtime.NumGoroutine") && fn.body.isSome | none => false) = true) (args : Array Value) (x : World) : (callFunc g args).run P x = .ok (.enter g args) x := by
  split at h
  · rename_i fn hfn
    rw [Bool.and_eq_true, Bool.not_eq_true'] at h
    have h1 : ¬ fn.name = "runtime.NumGoroutine" := by simpa using h.1
    have h2 : ¬ fn.body = none := fun hb => by rw [hb] at h; simp at h
    unfold callFunc
    simp [go_sem, hfn, h1, h2]
  · cases h

theorem callK_sound {T : Tab} (hT : TabOk P T) {S : List (Nat × Spec)} (hS : SpecsOk P S) {o : Oper} {c : Call} (ho : o.op = .call c) {f : Fr} {bl : List V} {nn : Nat} {k : Out → Prop} (h : callK T S c f bl nn k) : ∃ out, k out ∧ Does P w0 F0 o f (fun i => bl[i]?) bl.length nn out := by
  unfold callK at h
  split at h
  · rename_i g hc
    split at h
    · rename_i a1 a2 a3 a4 a5 a6 hs
      obtain ⟨⟨hctr, _⟩, hbody⟩ := hS _ (spL_mem _ _ _ hs)
      obtain ⟨d, hl, hk, hd⟩ := argsK_sound _ _ _ _ h
      let s : Spec := ⟨a1, a2, a3, a4, a5, a6, none⟩
      have hctr : Ctr P g s := hctr rfl
      -- what a call does, once and for all
      have main : ∀ (out : Out), out.ef = .none → out.q = true → out.m = hl.length + s.m d → out.r = retS s.res (s.fn (nn + hl.length) d) → out.rd = hl.map slcI → (hl = [] ∨ nolstL s.res = true) → s.pre d → (out.cr = false → out.m = 0) → Does P w0 F0 o f (fun i => bl[i]?) bl.length nn out := by
        intro out o1 o2 o3 o4 o5 hno hpre hcr
        refine ⟨hcr, ?_⟩
        intro cx ρ hw hρ ht _ hq
        have hX := hq o2
        let c' : Cx := { XA := cx.XA, XB := fun n => n < nn + hl.length, ty := cx.ty, E := ⟨cx.E.A, nameB cx.E.B nn cx.E hl, lent cx hl⟩, x := cx.x }
        have hle : cx.Le c' := ⟨fun i hi => ⟨hi, rfl, rfl⟩, fun n hn => ⟨Nat.lt_of_lt_of_le ((hX n).1 hn) (Nat.le_add_right _ _), nameB_lt _ _ _ ((hX n).1 hn)⟩, fun b e he => Or.inl he, fun _ _ _ _ _ => rfl, Nat.le_refl _⟩
        have ht' : ∀ i, i ∈ hl.map slcI → ∀ v, bl[i]? = some v → cx.XA i ∧ cx.ty i = some v.ty ∧ (∃ e, HB cx.x (cx.E.A i) (v.cells cx.E.B).toArray e) ∧ v.okc cx := fun i hi => ht i (Or.inl (by rw [o5]; exact hi))
        obtain ⟨hXA, hd'⟩ := hd cx ρ (fun y hy => hρ y (by
          rw [ho]
          simp only [Op.operands, Call.operands, hc, Array.mem_append]
          exact Or.inr (by simpa using hy)))
        obtain ⟨e1, e2⟩ := hd' ht' (fun n hn => (hX n).1 hn) c' hle rfl (fun j hj => Nat.add_lt_add_left hj _) (fun j h hj => nameB_at _ _ _ _ hj) (fun h hh e => Or.inr ⟨h, hh, rfl, hXA h hh⟩)
        have hfhi : ∀ b e, lent cx hl b e → b < cx.x.heap.size := fun b e he => by
          rcases he with he | ⟨h, hh, rfl, hx⟩
          · exact hw.fhi b e he
          · exact hw.hi _ hx
        have hcall := hctr.run (nameB cx.E.B nn cx.E hl) (nn + hl.length) cx.x (lent cx hl) d hfhi e2 hpre
        have hargs : c.args.map ρ = ((leafs s.args d).map (V.val (nameB cx.E.B nn cx.E hl))).toArray := by
          apply Array.toList_inj.1
          rw [Array.toList_map, e1]
        have hx : (execOp ρ o).run P cx.x = .ok (.enter g ((leafs s.args d).map (V.val (nameB cx.E.B nn cx.E hl))).toArray) cx.x := by
          have hg : ρ (.func g) = .func (.func g) #[] #[] := (hρ (.func g) (by rw [ho]; simp [Op.operands, Call.operands, hc]) _ rfl).1
          unfold execOp
          simp only [ho, resolve, hc, hg, hargs, Deferred.ofValue, Sem.run_bind, Sem.run_pure, Result.andThen_ok, invoke]
          simp [callFunc_run hbody]
        rw [hx]
        refine hcall.mono fun e x' he => ?_
        obtain ⟨B', F', b1, b2, b3, b4, rfl, b6, b7⟩ := he
        refine ⟨_, rfl, ⟨cx.E.A, B', fun b e => (b < cx.x.heap.size ∧ cx.E.F b e) ∨ (cx.x.heap.size ≤ b ∧ F' b e)⟩, ?_⟩
        have hXB : ∀ n, n < nn + hl.length + s.m d → (cx.ext out bl.length nn ⟨cx.E.A, B', fun b e => (b < cx.x.heap.size ∧ cx.E.F b e) ∨ (cx.x.heap.size ≤ b ∧ F' b e)⟩ x').XB n := fun n hn => by
          show cx.XB n ∨ (nn ≤ n ∧ n < nn + out.m)
          rcases Nat.lt_or_ge n nn with h' | h'
          · exact Or.inl ((hX n).2 h')
          · exact Or.inr ⟨h', by rw [o3]; omega⟩
        refine ⟨by rw [o4, ret_val], ?_, fun _ _ => rfl, fun n hn => ?_, fun b e he => Or.inl ⟨hw.fhi b e he, he⟩, fun b e hb he => ?_, fun b e he => ?_, ⟨b7.os, b7.tape, b7.output, b7.size, fun k hk _ => b7.block k hk⟩, (fun y hy => by rw [o1] at hy; cases hy), (fun i y hy => by rw [o1] at hy; cases hy)⟩
        · rw [o4]
          apply ret_ok
          rcases hno with rfl | hno
          · refine wokL_mono hXB (fun _ _ => rfl) (fun b e he => ?_) (fun _ _ _ _ _ => rfl) (Nat.le_refl _) _ _ b6
            rcases Nat.lt_or_ge b cx.x.heap.size with hb | hb
            · left
              refine ⟨hb, ?_⟩
              rcases b3 b e hb he with h | ⟨h, hh, _⟩
              · exact h
              · cases hh
            · exact Or.inr ⟨hb, he⟩
          · exact wokL_nolst _ _ hno
        · show B' n = cx.E.B n
          rw [b1 n (Nat.lt_of_lt_of_le ((hX n).1 hn) (Nat.le_add_right _ _)), nameB_lt _ _ _ ((hX n).1 hn)]
        · rcases he with ⟨_, he⟩ | ⟨hb', _⟩
          · exact he
          · omega
        · rcases he with ⟨hb, _⟩ | ⟨_, he⟩
          · exact Nat.lt_of_lt_of_le hb b7.size
          · exact b4 b e he
      split at hk
      · obtain ⟨hpre, hk⟩ := hk
        have hk := retK_elim hk
        exact ⟨_, hk, main _ rfl rfl (Nat.zero_add _).symm rfl rfl (Or.inl rfl) hpre (fun hcr => hctr.nocr hcr d)⟩
      · split at hk
        · rename_i hno
          obtain ⟨hpre, hk⟩ := hk
          have hk := retK_elim hk
          exact ⟨_, hk, main _ rfl rfl rfl rfl rfl (Or.inr hno) hpre (fun h => by cases h)⟩
        · exact hk.elim
    · exact h.elim
  · rename_i hc
    split at h
    · rename_i x hx
      split at h
      · rename_i t ht
        split at h
        · rename_i e0 n0 hty
          split at h
          · rename_i e v hv
            refine ⟨_, h, does_val fun cx ρ hw hρ _ => ?_⟩
            have hargs : c.args = #[x] := by apply Array.toList_inj.1; rw [hx]
            have hats : c.argTypes = #[t] := by apply Array.toList_inj.1; rw [ht]
            obtain ⟨h1, h2⟩ := hρ x (by rw [ho]; simp [Op.operands, Call.operands, hc, hargs]) _ hv
            refine ⟨?_, trivial⟩
            have hsl : ∃ ad cap, ρ x = .slice ad v.2.length cap := by
              rw [h1]
              rcases h2.2 with ⟨hnil, ad, cap, hd⟩ | ⟨b, o', cap, hd, _⟩
              · exact ⟨ad, cap, by rw [hnil]; exact hd⟩
              · exact ⟨_, cap, hd⟩
            obtain ⟨ad, cap, hsl⟩ := hsl
            have hl := tyB_lst (hT.ty.at hty)
            unfold lstB at hl
            split at hl
            · rename_i el hu
              unfold execOp
              simp only [ho, resolve, hc, hargs, hats, Sem.run_bind, Sem.run_pure, Result.andThen_ok, invoke]
              simp only [builtin, Builtin.len_, Sem.run_bind]
              simp [hsl, run_underlying hu, goInt, SV.val, AV.val, V.val]
            · cases hl
          · exact h.elim
        · exact h.elim
      · exact h.elim
    · exact h.elim
  · exact h.elim
end
end Go.Proofs.Ytjbbgpacijageaa.M
