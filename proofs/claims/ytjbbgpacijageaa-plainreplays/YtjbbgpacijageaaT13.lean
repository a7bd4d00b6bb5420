/- A function's contract out of a walk. No program is named here. -/
import Derived.Test.YtjbbgpacijageaaT12
namespace Go.Proofs.Ytjbbgpacijageaa.M
open Go.RowKit
set_option linter.unusedVariables false
set_option linter.unusedSimpArgs false

section
variable {P : Program} {T : Tab} {S : List (Nat × Spec)} {w0 : World} {F0 : Old} {N : Nat}

def resOne (tmps : Array Value) : ResultVar → Sem Value
  | .tmp t => pure (tmps.getD t undef)
  | .cell b t => do loadVar t (← asAddr (tmps.getD b undef))

theorem slotK_sound {s : AV} {t : Ty} {k : t.D → Prop} (h : slotK s t k) : ∃ d, k d ∧ ∀ c : Cx, s.ok c → s.val c.E = (V.leaf t d).val c.E.B ∧ wokc c t d := by
  unfold slotK at h
  split at h
  · rename_i v
    obtain ⟨d, h1, h2, h3, h4⟩ := denK_sound v t _ h
    exact ⟨d, h1, fun c hs => ⟨val_leaf h2 (h3 _), h4 _ _ _ _ hs⟩⟩
  · split at h
    · exact ⟨_, h, fun c _ => ⟨rfl, trivial, Or.inl ⟨rfl, none, 0, rfl⟩⟩⟩
    · exact h.elim
  · exact h.elim

theorem resK_sound (hT : TabOk P T) {f : Fr} {bl : List V} : ∀ (rs : List ResultVar) (ts : List Ty) (k : DL ts → Prop), resK T f bl rs ts k → ∃ d, k d ∧ ∀ (nn : NS) (c : Cx) (a : Act), Real w0 F0 bl nn c → FR N c f a →
    (rs.mapM (resOne a.tmps)).run P c.x = .ok ((leafs ts d).map (V.val c.E.B)) c.x ∧ wokL c.XB c.E.B c.E.F c.x ts d
  | [], [], k, h => ⟨(), h, fun nn c a _ _ => ⟨by simp [leafs], trivial⟩⟩
  | .tmp t :: r, ty :: ts, k, h => by
    unfold resK at h
    split at h
    · rename_i s hs
      obtain ⟨d, h1, h2⟩ := slotK_sound h
      obtain ⟨ds, h3, h4⟩ := resK_sound hT r ts _ h1
      refine ⟨(d, ds), h3, fun nn c a hr hf => ?_⟩
      obtain ⟨e1, e2⟩ := hf.get t _ hs
      obtain ⟨e3, e4⟩ := h2 c e2
      obtain ⟨e5, e6⟩ := h4 nn c a hr hf
      refine ⟨?_, e4, e6⟩
      have hv : a.tmps.getD t undef = (V.leaf ty d).val c.E.B := by
        rw [Array.getD_eq_getD_getElem?, e1, ← e3]; rfl
      rw [List.mapM_cons, show resOne a.tmps (.tmp t) = pure ((V.leaf ty d).val c.E.B) from by simp only [resOne, hv]]
      rw [Sem.run_bind, Sem.run_pure, Result.andThen_ok, Sem.run_bind, e5]
      rfl
    · exact h.elim
  | .cell b id :: r, ty :: ts, k, h => by
    unfold resK at h
    split at h
    · rename_i i off p u hs
      split at h
      · rename_i ty' n' hty
        split at h
        · rename_i he _
          subst he
          split at h
          · rename_i v hv
            split at h
            · rename_i y hy
              rw [nthB_eq] at hv
              obtain ⟨d, h1, h2, h3, h4⟩ := denK_sound y ty _ h
              obtain ⟨ds, h5, h6⟩ := resK_sound hT r ts _ h1
              refine ⟨(d, ds), h5, fun nn c a hr hf => ?_⟩
              obtain ⟨e1, e2⟩ := hf.get b _ hs
              obtain ⟨_, t', e3, e4⟩ := e2
              rw [hr.ty i v hv] at e3
              cases e3
              obtain ⟨⟨e, e5⟩, e6⟩ := hr.blk i v hv
              obtain ⟨e7, e8⟩ := h6 nn c a hr hf
              refine ⟨?_, h4 _ _ _ _ (getV_ok p v y off u hy e4 e6), e8⟩
              have hb : a.tmps.getD b undef = .pointer (some ⟨c.E.A i, off, none⟩) := by rw [Array.getD_eq_getD_getElem?, e1]; rfl
              have hl := load_at (tyB_1 (hT.ty.at hty)) hy e4 (B := c.E.B) (x := c.x) (a := c.E.A i) (fun j _ => hb_cell e5 j)
              simp only [Instr.loadAt, Instr.sureAddr, Sem.run_bind, Sem.run_pure, Result.andThen_ok] at hl
              rw [List.mapM_cons]
              rw [show resOne a.tmps (.cell b id) = (do loadVar id (← asAddr (.pointer (some ⟨c.E.A i, off, none⟩)))) from by simp only [resOne, hb]]
              rw [show asAddr (.pointer (some ⟨c.E.A i, off, none⟩)) = pure ⟨c.E.A i, off, none⟩ from rfl, Sem.run_bind, Sem.run_bind, Sem.run_pure, Result.andThen_ok, hl, Result.andThen_ok, Sem.run_bind, e7, val_leaf h2 (h3 _)]
              rfl
            · exact h.elim
          · exact h.elim
        · exact h.elim
      · exact h.elim
    · exact h.elim
  | [], _ :: _, _, h => by unfold resK at h; exact h.elim
  | .tmp _ :: _, [], _, h => by unfold resK at h; exact h.elim
  | .cell _ _ :: _, [], _, h => by unfold resK at h; exact h.elim

theorem results_run {fn : Func} {a : Act} {x : World} {l : List V} {B : Nat → Value} (h : (fn.results.toList.mapM (resOne a.tmps)).run P x = .ok (l.map (V.val B)) x) : (results fn a.tmps).run P x = .ok (retV B l) x := by
  have hops : fn.results = fn.results.toList.toArray := by simp
  rw [show results fn a.tmps = (do let vs ← fn.results.mapM (resOne a.tmps); pure (if h : vs.size = 1 then vs[0] else .tuple vs)) from rfl]
  rw [hops, List.mapM_toArray]
  rw [Sem.run_bind, Sem.run_map, h]
  simp only [Result.andThen_ok, Sem.run_pure]
  match l with
  | [] => rfl
  | [v] => rfl
  | v :: u :: r => simp [retV]

def initK : (ts : List Ty) → DL ts → Nat → (Fr → Prop) → Prop
  | [], _, _, k => k []
  | t :: r, d, n, k => match d with | (a, d) => initK r d (n + 1) fun f => k ((n, .a (.of (.leaf t a))) :: f)
def initF : List V → Nat → Fr
  | [], _ => []
  | v :: r, k => (k, .a (.of v)) :: initF r (k + 1)
theorem initF_look : ∀ (l : List V) (k t : Nat) (s : SV), look (initF l k) t = some s → ∃ v, s = .a (.of v) ∧ k ≤ t ∧ l[t - k]? = some v
  | [], _, _, _, h => by cases h
  | v :: r, k, t, s, h => by
    unfold initF look at h
    split at h
    · rename_i hb
      have := Nat.eq_of_beq_eq_true hb
      subst this; cases h
      exact ⟨v, rfl, Nat.le_refl _, by simp⟩
    · obtain ⟨u, h1, h2, h3⟩ := initF_look r (k + 1) t s h
      refine ⟨u, h1, by omega, ?_⟩
      have : t - k = t - (k + 1) + 1 := by omega
      rw [this]
      simpa using h3

theorem initK_elim : ∀ (ts : List Ty) (d : DL ts) (n : Nat) (k : Fr → Prop), initK ts d n k → k (initF (leafs ts d) n)
  | [], _, _, _, h => h
  | t :: r, d, n, k, h => initK_elim r d.2 (n + 1) _ h
theorem leafs_len : ∀ (ts : List Ty) (d : DL ts), (leafs ts d).length = ts.length
  | [], _ => rfl
  | t :: r, d => by simp only [leafs, List.length_cons, leafs_len r d.2]

/-- Lists are no longer than any may be. -/
def bnd : (t : Ty) → t.D → Prop
  | .int, _ => True
  | .bool, _ => True
  | .one t, v => bnd t v
  | .pair a b, v => bnd a v.1 ∧ bnd b v.2
  | .arr n t, f => ∀ i, i < n → bnd t (f i)
  | .lst t, v => v.2.length ≤ 9223372036854775807
def bndL : (ts : List Ty) → DL ts → Prop
  | [], _ => True
  | t :: r, d => bnd t d.1 ∧ bndL r d.2
theorem wok_bnd {XB : Nat → Prop} {B : Nat → Value} {F : Nat → Nat → Prop} {x : World} : ∀ (t : Ty) (v : t.D), wok XB B F x t v → bnd t v
  | .int, _, _ => trivial
  | .bool, _, _ => trivial
  | .one t, v, h => wok_bnd t v h
  | .pair a b, v, h => ⟨wok_bnd a v.1 h.1, wok_bnd b v.2 h.2⟩
  | .arr n t, f, h => fun i hi => wok_bnd t (f i) (h i hi)
  | .lst t, v, h => by
    show v.2.length ≤ 9223372036854775807
    rcases h.2 with ⟨h1, _⟩ | ⟨b, o, cap, _, h2, h3, _⟩
    · rw [h1]; exact Nat.zero_le _
    · unfold maxLen at h3
      omega
theorem wokL_bnd {XB : Nat → Prop} {B : Nat → Value} {F : Nat → Nat → Prop} {x : World} : ∀ (ts : List Ty) (d : DL ts), wokL XB B F x ts d → bndL ts d
  | [], _, _ => trivial
  | t :: r, d, h => ⟨wok_bnd t d.1 h.1, wokL_bnd r d.2 h.2⟩

/-- Alike, as far as it can be seen. -/
def eqv : (t : Ty) → t.D → t.D → Prop
  | .int, a, b => a = b
  | .bool, a, b => a = b
  | .one t, a, b => eqv t a b
  | .pair s t, a, b => eqv s a.1 b.1 ∧ eqv t a.2 b.2
  | .arr n t, f, g => ∀ i, i < n → eqv t (f i) (g i)
  | .lst _, a, b => a = b
def eqvL : (ts : List Ty) → DL ts → DL ts → Prop
  | [], _, _ => True
  | t :: r, a, b => eqv t a.1 b.1 ∧ eqvL r a.2 b.2
theorem eqv_refl : ∀ (t : Ty) (a : t.D), eqv t a a
  | .int, _ => rfl
  | .bool, _ => rfl
  | .one t, a => eqv_refl t a
  | .pair s t, a => ⟨eqv_refl s a.1, eqv_refl t a.2⟩
  | .arr n t, f => fun i _ => eqv_refl t (f i)
  | .lst _, _ => rfl
theorem eqvL_refl : ∀ (ts : List Ty) (a : DL ts), eqvL ts a a
  | [], _ => trivial
  | t :: r, a => ⟨eqv_refl t a.1, eqvL_refl r a.2⟩
theorem eqv_flat (B : Nat → Value) : ∀ (t : Ty) (a b : t.D), eqv t a b → flat B t a = flat B t b
  | .int, _, _, h => by rw [show _ = _ from h]
  | .bool, _, _, h => by rw [show _ = _ from h]
  | .one t, a, b, h => eqv_flat B t a b h
  | .pair s t, a, b, h => by simp only [flat]; rw [eqv_flat B s _ _ h.1, eqv_flat B t _ _ h.2]
  | .arr n t, f, g, h => rows_congr n fun i hi => eqv_flat B t _ _ (h i hi)
  | .lst _, _, _, h => by rw [show _ = _ from h]
theorem eqv_wok {XB : Nat → Prop} {B : Nat → Value} {F : Nat → Nat → Prop} {x : World} : ∀ (t : Ty) (a b : t.D), eqv t a b → wok XB B F x t a → wok XB B F x t b
  | .int, _, _, _, _ => trivial
  | .bool, _, _, _, _ => trivial
  | .one t, a, b, h, hw => eqv_wok t a b h hw
  | .pair s t, a, b, h, hw => ⟨eqv_wok s _ _ h.1 hw.1, eqv_wok t _ _ h.2 hw.2⟩
  | .arr n t, f, g, h, hw => fun i hi => eqv_wok t _ _ (h i hi) (hw i hi)
  | .lst _, _, _, h, hw => by rw [← show _ = _ from h]; exact hw
theorem eqvL_wok {XB : Nat → Prop} {B : Nat → Value} {F : Nat → Nat → Prop} {x : World} : ∀ (ts : List Ty) (a b : DL ts), eqvL ts a b → wokL XB B F x ts a → wokL XB B F x ts b
  | [], _, _, _, _ => trivial
  | t :: r, a, b, h, hw => ⟨eqv_wok t _ _ h.1 hw.1, eqvL_wok r _ _ h.2 hw.2⟩
theorem eqv_val (B : Nat → Value) (t : Ty) (a b : t.D) (h : eqv t a b) : (V.leaf t a).val B = (V.leaf t b).val B := val_leaf rfl (eqv_flat B t a b h).symm
theorem eqvL_val (B : Nat → Value) : ∀ (ts : List Ty) (a b : DL ts), eqvL ts a b → (leafs ts a).map (V.val B) = (leafs ts b).map (V.val B)
  | [], _, _, _ => rfl
  | t :: r, a, b, h => by simp only [leafs, List.map_cons]; rw [eqv_val B t _ _ h.1, eqvL_val B r _ _ h.2]

/-- The end of a function: what it gives back, and how many names it has used. -/
structure Done (s : Spec) (nn : Nat) (d : s.args |> DL) (r : DL s.res) (nn' : NS) : Prop where
  eq : eqvL s.res r (s.fn nn d)
  nm : nolstL s.res = true ∨ nn'.n ≤ nn + s.m d

theorem Done.of {s : Spec} {nn : Nat} {d : DL s.args} {r : DL s.res} {nn' : NS} (h : r = s.fn nn d) (hn : nolstL s.res = true ∨ nn'.n ≤ nn + s.m d) : Done s nn d r nn' := ⟨by rw [h]; exact eqvL_refl _ _, hn⟩

/-- With a condition of any kind at the end, and tokens for nil lists. -/
theorem ctr_gen (tk : List Nat) {R : (s : Spec) → (nn : Nat) → DL s.args → DL s.res → NS → Prop}
    (hR : ∀ (s : Spec) (nn : Nat) (d : DL s.args) (r : DL s.res) (nn' : NS), R s nn d r nn' → ∀ (B B0 : Nat → Value) (F : Nat → Nat → Prop) (x : World), (∀ n, n < nn → B n = B0 n) → wokL (· < nn'.n) B F x s.res r → ∃ B', (∀ n, n < nn → B' n = B0 n) ∧ retL B' s.res (s.fn nn d) = retL B s.res r ∧ wokL (· < nn + s.m d) B' F x s.res (s.fn nn d))
    (hT : TabOk P T) (hS : SpecsOk P S) {g : FuncId} {fn : Func} {cd : Code} (hf : P.funcs[g]? = some fn) (hb : fn.body = some cd) (s : Spec) (hn : s.args.length ≤ fn.ntmps) (nocr : s.cr = false → ∀ d, s.m d = 0)
    (h : ∀ nn d, s.pre d → bndL s.args d → ∃ fuel, initK s.args d 0 fun f => run T S fn.ntmps fuel [.code cd, .fin fn.results.toList s.res fun r _ nn' => R s nn d r nn'] f [] ⟨nn, tk.map fun q => (nilH, q)⟩) : Ctr P g s := by
  refine ⟨nocr, fun B nn x F d hF hwk hpre => ?_⟩
  obtain ⟨fuel, hrun⟩ := h nn d hpre (wokL_bnd _ _ hwk)
  have hrun := initK_elim _ _ _ _ hrun
  refine calls_of_wp hf hb ?_
  let c0 : Cx := { XA := fun _ => False, XB := fun n => n < nn, ty := fun _ => none, E := ⟨fun _ => 0, B, F⟩, x := x }
  have hRl : Real x ⟨F, B, nn, c0⟩ [] ⟨nn, tk.map fun q => (nilH, q)⟩ c0 := ⟨⟨Below.refl _ _, fun i hi => hi.elim, fun i hi => hi.elim, fun i j hi => hi.elim, hF, fun i hi => hi.elim, fun b e _ => Iff.rfl, fun n hn => ⟨hn, rfl⟩, Cx.Le.refl _⟩, fun i => by simp [c0], fun n => Iff.rfl, fun i v hi => by simp at hi, fun i v hi => by simp at hi, Toks.nils _ _ tk⟩
  have hargs := leafs_len s.args d
  have hFR : FR fn.ntmps c0 (initF (leafs s.args d) 0) { tmps := ((leafs s.args d).map (V.val B)).toArray ++ Array.replicate (fn.ntmps - ((leafs s.args d).map (V.val B)).toArray.size) undef, defers := [] } := by
    refine ⟨by simp [hargs]; omega, rfl, fun t u ht => ?_⟩
    obtain ⟨v, rfl, _, hv⟩ := initF_look _ 0 t u ht
    rw [Nat.sub_zero] at hv
    have hlt := lt_of_get hv
    refine ⟨?_, leafs_ok (c := c0) s.args d hwk v (List.mem_of_getElem? hv)⟩
    simp only []
    rw [Array.getElem?_append_left (by simpa using hlt)]
    simp [hv, SV.val, AV.val, c0]
  have hfin : ∀ a y, Fin P T x ⟨F, B, nn, c0⟩ fn.ntmps fn.results.toList s.res (fun r _ nn' => R s nn d r nn') a y → a.defers = [] ∧ ∃ v, (results fn a.tmps).run P y = .ok v y ∧ ∃ B' F', (∀ n, n < nn → B' n = B n) ∧ (∀ b e, F b e → F' b e) ∧ (∀ b e, b < x.heap.size → F' b e → F b e) ∧ (∀ b e, F' b e → b < y.heap.size) ∧
      Ending.returned v = .returned (retL B' s.res (s.fn nn d)) ∧ wokL (· < nn + s.m d) B' F' y s.res (s.fn nn d) ∧ Below x.heap.size x y := fun a y hs => by
    obtain ⟨f, bl, nn', c, hk, hr, hfr, rfl⟩ := hs
    obtain ⟨r, hd, hres⟩ := resK_sound (w0 := x) (F0 := ⟨F, B, nn, c0⟩) (N := fn.ntmps) hT _ _ _ hk
    obtain ⟨e1, e2⟩ := hres nn' c a hr hfr
    obtain ⟨B', b1, b2, b3⟩ := hR s nn d r nn' hd c.E.B B c.E.F c.x (fun n hn => (hr.wf.oldB n hn).2) (wokL_mono (fun n hn => (hr.XB n).1 hn) (fun _ _ => rfl) (fun _ _ h => h) (fun _ _ _ _ _ => rfl) (Nat.le_refl _) _ _ e2)
    exact ⟨hfr.defers, _, results_run e1, B', c.E.F, b1, fun b e he => (hr.wf.old b e (hF b e he)).2 he, fun b e hb he => (hr.wf.old b e hb).1 he, hr.wf.fhi, by rw [b2]; rfl, b3, hr.wf.below⟩
  have hsq := run_sound (w0 := x) (F0 := ⟨F, B, nn, c0⟩) hT hS (fun i hi => hi.elim) (fun _ b e he => hF b e he) fuel _ _ _ _ hrun c0 _ hRl hFR
  refine wp_mono hsq fun e a y hs => ?_
  cases e with
  | ret => exact hfin a y hs
  | normal => exact hfin a y hs
  | _ => exact hs.elim

theorem done_ok (s : Spec) (nn : Nat) (d : DL s.args) (r : DL s.res) (nn' : NS) (h : Done s nn d r nn') (B B0 : Nat → Value) (F : Nat → Nat → Prop) (x : World) (hB : ∀ n, n < nn → B n = B0 n) (hw : wokL (· < nn'.n) B F x s.res r) :
    ∃ B', (∀ n, n < nn → B' n = B0 n) ∧ retL B' s.res (s.fn nn d) = retL B s.res r ∧ wokL (· < nn + s.m d) B' F x s.res (s.fn nn d) := by
  refine ⟨B, hB, ?_, ?_⟩
  · unfold retL
    have h1 := eqvL_val B _ _ _ h.eq
    have key : ∀ (l l' : List V), l.map (V.val B) = l'.map (V.val B) → retV B l = retV B l' := fun l l' hl => by
      match l, l', hl with
      | [], [], _ => rfl
      | [a], [b], hl => simpa [retV] using hl
      | a :: b :: l, c :: d :: l', hl => simp only [retV, hl]
      | [], _ :: _, hl => simp at hl
      | _ :: _, [], hl => simp at hl
      | [a], b :: c :: l, hl => simp at hl
      | b :: c :: l, [a], hl => simp at hl
    exact (key _ _ h1).symm
  · have e2 := eqvL_wok _ _ _ h.eq hw
    rcases h.nm with hd2 | hd2
    · exact wokL_nolst _ _ hd2
    · exact wokL_mono (fun n hn => Nat.lt_of_lt_of_le hn hd2) (fun _ _ => rfl) (fun _ _ h => h) (fun _ _ _ _ _ => rfl) (Nat.le_refl _) _ _ e2
theorem ctr_of (hT : TabOk P T) (hS : SpecsOk P S) {g : FuncId} {fn : Func} {cd : Code} (hf : P.funcs[g]? = some fn) (hb : fn.body = some cd) (s : Spec) (hn : s.args.length ≤ fn.ntmps) (nocr : s.cr = false → ∀ d, s.m d = 0)
    (h : ∀ nn d, s.pre d → bndL s.args d → ∃ fuel, initK s.args d 0 fun f => run T S fn.ntmps fuel [.code cd, .fin fn.results.toList s.res fun r _ nn' => Done s nn d r nn'] f [] ⟨nn, []⟩) : Ctr P g s :=
  ctr_gen [] (R := fun s nn d r nn' => Done s nn d r nn') (fun s nn d r nn' h => done_ok s nn d r nn' h) hT hS hf hb s hn nocr h

def initA : List AV → Nat → Fr
  | [], _ => []
  | s :: r, n => (n, .a s) :: initA r (n + 1)
def initAK : List AV → Nat → (Fr → Prop) → Prop
  | [], _, k => k []
  | s :: r, n, k => initAK r (n + 1) fun f => k ((n, .a s) :: f)
theorem initAK_elim : ∀ (l : List AV) (n : Nat) (k : Fr → Prop), initAK l n k → k (initA l n)
  | [], _, _, h => h
  | s :: r, n, k, h => initAK_elim r (n + 1) _ h
theorem initA_look : ∀ (l : List AV) (k t : Nat) (s : SV), look (initA l k) t = some s → ∃ v, s = .a v ∧ k ≤ t ∧ l[t - k]? = some v
  | [], k, t, s, h => by cases h
  | v :: r, k, t, s, h => by
    unfold initA look at h
    split at h
    · rename_i hb
      have := Nat.eq_of_beq_eq_true hb
      subst this
      cases h
      exact ⟨v, rfl, Nat.le_refl _, by simp⟩
    · rename_i hb
      obtain ⟨u, h1, h2, h3⟩ := initA_look r (k + 1) t s h
      refine ⟨u, h1, by omega, ?_⟩
      rw [show t - k = (t - (k + 1)) + 1 from by omega]
      simpa using h3

/-- A function walked where it is called. -/
structure Inl (T : Tab) (S : List (Nat × Spec)) (fn : Func) (ts : List Ty) (args : List AV) (bl : List V) (nn : NS) (k : SV → List V → NS → Prop) : Prop where
  le : args.length ≤ fn.ntmps
  ex : ∃ cd, fn.body = some cd ∧ ∃ fuel, lenK bl 0 fun b => initAK args 0 fun f => run { T with base := b, top := false } S fn.ntmps fuel [.code cd, .fin fn.results.toList ts fun r bl' nn' => retK ts r fun v => k v bl' nn'] f bl nn

theorem inl_ok (hT : TabOk P T) (hS : SpecsOk P S) {g : FuncId} {fn : Func} (hf : P.funcs[g]? = some fn) (ts : List Ty) : MOk P g (Inl T S fn ts) := by
  intro w0 F0 args bl nn k h c hr hargs
  obtain ⟨hle, cd, hb, fuel, h⟩ := h
  have h := lenK_elim _ _ _ h
  have h := initAK_elim _ _ _ h
  rw [Nat.add_zero] at h
  refine calls_of_wp hf hb ?_
  have hT' : TabOk P { T with base := bl.length, top := false } := ⟨hT.ty, hT.eq, hT.mix, hT.ptr⟩
  have hR : Real w0 { F0 with c := c } bl nn c := ⟨⟨hr.wf.below, hr.wf.lo, hr.wf.hi, hr.wf.inj, hr.wf.fhi, hr.wf.own, hr.wf.old, hr.wf.oldB, Cx.Le.refl _⟩, hr.XA, hr.XB, hr.ty, hr.blk, hr.tk⟩
  have hFR : FR fn.ntmps c (initA args 0) { tmps := (args.map (AV.val c.E)).toArray ++ Array.replicate (fn.ntmps - (args.map (AV.val c.E)).toArray.size) undef, defers := [] } := by
    refine ⟨by simp; omega, rfl, fun t u ht => ?_⟩
    obtain ⟨v, rfl, _, hv⟩ := initA_look _ 0 t u ht
    rw [Nat.sub_zero] at hv
    have hlt := lt_of_get hv
    refine ⟨?_, hargs v (List.mem_of_getElem? hv)⟩
    simp only []
    rw [Array.getElem?_append_left (by simpa using hlt)]
    simp [hv, SV.val]
  have hfin : ∀ a y, Fin P { T with base := bl.length, top := false } w0 { F0 with c := c } fn.ntmps fn.results.toList ts (fun r bl' nn' => retK ts r fun v => k v bl' nn') a y → a.defers = [] ∧ ∃ v, (results fn a.tmps).run P y = .ok v y ∧ ∃ r bl' nn' c', Ending.returned v = .returned (r.val c'.E) ∧ k r bl' nn' ∧ Real w0 F0 bl' nn' c' ∧ c.Le c' ∧ r.ok c' ∧ c'.x = y := fun a y hs => by
    obtain ⟨f, bl', nn', c', hk, hr', hfr, rfl⟩ := hs
    obtain ⟨r, hd, hres⟩ := resK_sound (w0 := w0) (F0 := { F0 with c := c }) (N := fn.ntmps) hT' _ _ _ hk
    obtain ⟨e1, e2⟩ := hres nn' c' a hr' hfr
    refine ⟨hfr.defers, _, results_run e1, retS ts r, bl', nn', c', ?_, retK_elim hd, ?_, hr'.wf.le, ret_ok _ _ e2, rfl⟩
    · rw [ret_val]
      rfl
    · exact ⟨⟨hr'.wf.below, hr'.wf.lo, hr'.wf.hi, hr'.wf.inj, hr'.wf.fhi, hr'.wf.own, hr'.wf.old, hr'.wf.oldB, hr.wf.le.trans hr'.wf.le⟩, hr'.XA, hr'.XB, hr'.ty, hr'.blk, hr'.tk⟩
  have hsq := run_sound (w0 := w0) (F0 := { F0 with c := c }) hT' hS (fun i hi => (hr.XA i).1 hi) (fun h => by cases h) fuel _ _ _ _ h c _ hR hFR
  refine wp_mono hsq fun e a y hs => ?_
  cases e with
  | ret => exact hfin a y hs
  | normal => exact hfin a y hs
  | _ => exact hs.elim
theorem resA_sound (hT : TabOk P T) {f : Fr} {bl : List V} : ∀ (rs : List ResultVar) (k : List AV → Prop), resA T f bl rs k → ∃ l, k l ∧ ∀ (nn : NS) (c : Cx) (a : Act), Real w0 F0 bl nn c → FR N c f a →
    (rs.mapM (resOne a.tmps)).run P c.x = .ok (l.map (AV.val c.E)) c.x ∧ ∀ s ∈ l, s.ok c
  | [], k, h => ⟨[], h, fun nn c a _ _ => ⟨by simp, fun s hs => by cases hs⟩⟩
  | .tmp t :: r, k, h => by
    unfold resA at h
    split at h
    · rename_i s hs
      obtain ⟨l, h3, h4⟩ := resA_sound hT r _ h
      refine ⟨s :: l, h3, fun nn c a hr hf => ?_⟩
      obtain ⟨e1, e2⟩ := hf.get t _ hs
      obtain ⟨e5, e6⟩ := h4 nn c a hr hf
      refine ⟨?_, fun q hq => ?_⟩
      · have hv : a.tmps.getD t undef = s.val c.E := by rw [Array.getD_eq_getD_getElem?, e1]; rfl
        rw [List.mapM_cons, show resOne a.tmps (.tmp t) = pure (s.val c.E) from by simp only [resOne, hv]]
        rw [Sem.run_bind, Sem.run_pure, Result.andThen_ok, Sem.run_bind, e5]
        rfl
      · rcases List.mem_cons.1 hq with rfl | hq
        · exact e2
        · exact e6 q hq
    · exact h.elim
  | .cell b id :: r, k, h => by
    unfold resA at h
    split at h
    · rename_i i off p u hs
      split at h
      · rename_i ty' n' hty
        split at h
        · rename_i he _
          subst he
          split at h
          · rename_i v hv
            split at h
            · rename_i y hy
              rw [nthB_eq] at hv
              obtain ⟨l, h5, h6⟩ := resA_sound hT r _ h
              refine ⟨.of y :: l, h5, fun nn c a hr hf => ?_⟩
              obtain ⟨e1, e2⟩ := hf.get b _ hs
              obtain ⟨_, t', e3, e4⟩ := e2
              rw [hr.ty i v hv] at e3
              cases e3
              obtain ⟨⟨e, e5⟩, e6⟩ := hr.blk i v hv
              obtain ⟨e7, e8⟩ := h6 nn c a hr hf
              refine ⟨?_, fun q hq => ?_⟩
              · have hb : a.tmps.getD b undef = .pointer (some ⟨c.E.A i, off, none⟩) := by rw [Array.getD_eq_getD_getElem?, e1]; rfl
                have hl := load_at (tyB_1 (hT.ty.at hty)) hy e4 (B := c.E.B) (x := c.x) (a := c.E.A i) (fun j _ => hb_cell e5 j)
                simp only [Instr.loadAt, Instr.sureAddr, Sem.run_bind, Sem.run_pure, Result.andThen_ok] at hl
                rw [List.mapM_cons]
                rw [show resOne a.tmps (.cell b id) = (do loadVar id (← asAddr (.pointer (some ⟨c.E.A i, off, none⟩)))) from by simp only [resOne, hb]]
                rw [show asAddr (.pointer (some ⟨c.E.A i, off, none⟩)) = pure ⟨c.E.A i, off, none⟩ from rfl, Sem.run_bind, Sem.run_bind, Sem.run_pure, Result.andThen_ok, hl, Result.andThen_ok, Sem.run_bind, e7]
                rfl
              · rcases List.mem_cons.1 hq with rfl | hq
                · exact getV_ok p v y off u hy e4 e6
                · exact e8 q hq
            · exact h.elim
          · exact h.elim
        · exact h.elim
      · exact h.elim
    · exact h.elim
def retAK (l : List AV) (k : SV → Prop) : Prop := match l with | [s] => k (.a s) | l => k (.tup l)
theorem results_runA {fn : Func} {a : Act} {x : World} {l : List AV} {E : Env} (h : (fn.results.toList.mapM (resOne a.tmps)).run P x = .ok (l.map (AV.val E)) x) {k : SV → Prop} (hk : retAK l k) : ∃ r : SV, k r ∧ (results fn a.tmps).run P x = .ok (r.val E) x ∧ (∀ c : Cx, (∀ s ∈ l, s.ok c) → r.ok c) := by
  have hops : fn.results = fn.results.toList.toArray := by simp
  have hres : results fn a.tmps = (do let vs ← fn.results.mapM (resOne a.tmps); pure (if h : vs.size = 1 then vs[0] else .tuple vs)) := rfl
  unfold retAK at hk
  split at hk
  · rename_i s
    refine ⟨_, hk, ?_, fun c hc => hc s (by simp)⟩
    rw [hres, hops, List.mapM_toArray, Sem.run_bind, Sem.run_map, h]
    simp only [Result.andThen_ok, Sem.run_pure]
    rfl
  · rename_i hne
    refine ⟨_, hk, ?_, fun c hc => hc⟩
    rw [hres, hops, List.mapM_toArray, Sem.run_bind, Sem.run_map, h]
    simp only [Result.andThen_ok, Sem.run_pure]
    rw [dif_neg]
    · rfl
    · intro h1
      match l, hne, h1 with
      | [], _, h1 => simp at h1
      | [s], hne, _ => exact hne s rfl
      | _ :: _ :: _, _, h1 => simp at h1
/-- A function walked where it is called; what it hands back may be a pointer. -/
structure InlA (T : Tab) (S : List (Nat × Spec)) (fn : Func) (args : List AV) (bl : List V) (nn : NS) (k : SV → List V → NS → Prop) : Prop where
  le : args.length ≤ fn.ntmps
  ex : ∃ cd, fn.body = some cd ∧ ∃ fuel, lenK bl 0 fun b => initAK args 0 fun f => run { T with base := b, top := false } S fn.ntmps fuel [.code cd, .finA fn.results.toList fun l bl' nn' => retAK l fun v => k v bl' nn'] f bl nn
theorem inlA_ok (hT : TabOk P T) (hS : SpecsOk P S) {g : FuncId} {fn : Func} (hf : P.funcs[g]? = some fn) : MOk P g (InlA T S fn) := by
  intro w0 F0 args bl nn k h c hr hargs
  obtain ⟨hle, cd, hb, fuel, h⟩ := h
  have h := lenK_elim _ _ _ h
  have h := initAK_elim _ _ _ h
  rw [Nat.add_zero] at h
  refine calls_of_wp hf hb ?_
  have hT' : TabOk P { T with base := bl.length, top := false } := ⟨hT.ty, hT.eq, hT.mix, hT.ptr⟩
  have hR : Real w0 { F0 with c := c } bl nn c := ⟨⟨hr.wf.below, hr.wf.lo, hr.wf.hi, hr.wf.inj, hr.wf.fhi, hr.wf.own, hr.wf.old, hr.wf.oldB, Cx.Le.refl _⟩, hr.XA, hr.XB, hr.ty, hr.blk, hr.tk⟩
  have hFR : FR fn.ntmps c (initA args 0) { tmps := (args.map (AV.val c.E)).toArray ++ Array.replicate (fn.ntmps - (args.map (AV.val c.E)).toArray.size) undef, defers := [] } := by
    refine ⟨by simp; omega, rfl, fun t u ht => ?_⟩
    obtain ⟨v, rfl, _, hv⟩ := initA_look _ 0 t u ht
    rw [Nat.sub_zero] at hv
    have hlt := lt_of_get hv
    refine ⟨?_, hargs v (List.mem_of_getElem? hv)⟩
    simp only []
    rw [Array.getElem?_append_left (by simpa using hlt)]
    simp [hv, SV.val]
  have hfin : ∀ a y, FinA P { T with base := bl.length, top := false } w0 { F0 with c := c } fn.ntmps fn.results.toList (fun l bl' nn' => retAK l fun v => k v bl' nn') a y → a.defers = [] ∧ ∃ v, (results fn a.tmps).run P y = .ok v y ∧ ∃ r bl' nn' c', Ending.returned v = .returned (r.val c'.E) ∧ k r bl' nn' ∧ Real w0 F0 bl' nn' c' ∧ c.Le c' ∧ r.ok c' ∧ c'.x = y := fun a y hs => by
    obtain ⟨f, bl', nn', c', hk, hr', hfr, rfl⟩ := hs
    obtain ⟨l, hd, hres⟩ := resA_sound (w0 := w0) (F0 := { F0 with c := c }) (N := fn.ntmps) hT' _ _ hk
    obtain ⟨e1, e2⟩ := hres nn' c' a hr' hfr
    obtain ⟨r, hk', hrun, hok⟩ := results_runA e1 hd
    refine ⟨hfr.defers, _, hrun, r, bl', nn', c', rfl, hk', ?_, hr'.wf.le, hok c' e2, rfl⟩
    exact ⟨⟨hr'.wf.below, hr'.wf.lo, hr'.wf.hi, hr'.wf.inj, hr'.wf.fhi, hr'.wf.own, hr'.wf.old, hr'.wf.oldB, hr.wf.le.trans hr'.wf.le⟩, hr'.XA, hr'.XB, hr'.ty, hr'.blk, hr'.tk⟩
  have hsq := run_sound (w0 := w0) (F0 := { F0 with c := c }) hT' hS (fun i hi => (hr.XA i).1 hi) (fun h => by cases h) fuel _ _ _ _ h c _ hR hFR
  refine wp_mono hsq fun e a y hs => ?_
  cases e with
  | ret => exact hfin a y hs
  | normal => exact hfin a y hs
  | _ => exact hs.elim
end

end Go.Proofs.Ytjbbgpacijageaa.M
