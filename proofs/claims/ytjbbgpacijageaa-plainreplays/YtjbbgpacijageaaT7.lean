/- Operations without calls do what is said of them. No program is named here. -/
import Derived.Test.YtjbbgpacijageaaT6
namespace Go.Proofs.Ytjbbgpacijageaa.M
open Go.RowKit
set_option linter.unusedVariables false
set_option linter.unusedSimpArgs false

section
variable {P : Program} {w0 : World} {F0 : Old} {o : Oper} {f : Fr} {get : Nat → Option V} {bl nn : Nat}

theorem same_refl (x : World) (but : Nat → Prop) : Same x x but := ⟨rfl, rfl, rfl, Nat.le_refl _, fun _ _ _ => rfl⟩

/-- A value alone. -/
theorem post_val {c : Cx} {r : SV} {rd : List Nat} {q : Bool} (hw : c.Wf w0 F0) (hr : r.ok c) : Post w0 F0 c ⟨r, .none, 0, rd, q, false⟩ bl nn (r.val c.E) c.x c.E := by
  have hle : c.Le (c.ext ⟨r, .none, 0, rd, q, false⟩ bl nn c.E c.x) := ⟨fun i hi => ⟨Or.inl hi, rfl, rfl⟩, fun n hn => ⟨Or.inl hn, rfl⟩, fun _ _ h => h, fun _ _ _ _ _ => rfl, Nat.le_refl _⟩
  exact ⟨rfl, SV.ok_mono hle hr, fun _ _ => rfl, fun _ _ => rfl, fun _ _ h => h, fun _ _ _ h => h, hw.fhi, same_refl _ _, (fun y hy => by cases hy), (fun i y hy => by cases hy)⟩
theorem does_val {r : SV} {rd : List Nat} {q : Bool} (h : ∀ (c : Cx) (ρ : Operand → Value), c.Wf w0 F0 → (∀ y ∈ o.op.operands, ∀ s, evS f y = some s → ρ y = s.val c.E ∧ s.ok c) →
    (∀ i, i ∈ rd → ∀ v, get i = some v → c.XA i ∧ c.ty i = some v.ty ∧ (∃ e, HB c.x (c.E.A i) (v.cells c.E.B).toArray e) ∧ v.okc c) → (execOp ρ o).run P c.x = .ok (.value (r.val c.E)) c.x ∧ r.ok c) : Does P w0 F0 o f get bl nn ⟨r, .none, 0, rd, q, false⟩ := by
  refine ⟨fun _ => rfl, ?_⟩
  intro c ρ hw hρ ht _ _
  obtain ⟨h1, h2⟩ := h c ρ hw hρ (fun i hi => ht i (Or.inl hi))
  rw [h1]
  exact ⟨c.E, post_val hw h2⟩

/-- A new block. -/
theorem does_new {v : V} (h : ∀ (c : Cx) (ρ : Operand → Value), c.Wf w0 F0 → (∀ y ∈ o.op.operands, ∀ s, evS f y = some s → ρ y = s.val c.E ∧ s.ok c) →
    ∃ e, (execOp ρ o).run P c.x = .ok (.value (.pointer (some ⟨c.x.heap.size, 0, none⟩))) (c.x.alloc (.cells (v.cells c.E.B).toArray e)) ∧ v.okc c) : Does P w0 F0 o f get bl nn ⟨.a (.ptr bl 0 [] v.ty), .new v, 0, [], false, false⟩ := by
  refine ⟨fun _ => rfl, ?_⟩
  intro c ρ hw hρ _ hnew _
  obtain ⟨e, h1, h2⟩ := h c ρ hw hρ
  have hn := hnew ⟨v, rfl⟩
  rw [h1]
  have hB := HB.new c.x (v.cells c.E.B).toArray e
  have hsz : (c.x.alloc (.cells (v.cells c.E.B).toArray e)).heap.size = c.x.heap.size + 1 := size_alloc' _ _
  refine ⟨⟨fun i => if i = bl then c.x.heap.size else c.E.A i, c.E.B, c.E.F⟩, ?_⟩
  have hA : ∀ i, c.XA i → (if i = bl then c.x.heap.size else c.E.A i) = c.E.A i := fun i hi => if_neg fun hb => hn (by rw [← hb]; exact hi)
  have hle : c.Le (c.ext ⟨.a (.ptr bl 0 [] v.ty), .new v, 0, [], false, false⟩ bl nn ⟨fun i => if i = bl then c.x.heap.size else c.E.A i, c.E.B, c.E.F⟩ (c.x.alloc (.cells (v.cells c.E.B).toArray e))) := by
    refine ⟨fun i hi => ⟨Or.inl hi, hA i hi, ?_⟩, fun n hn => ⟨Or.inl hn, rfl⟩, fun _ _ h => h, fun b k hb j hj => ?_, by show _ ≤ (World.alloc _ _).heap.size; omega⟩
    · show (if i = bl then some v.ty else c.ty i) = c.ty i
      exact if_neg fun hb => hn (by rw [← hb]; exact hi)
    · exact World.cell?_of_block (Below.heap_alloc _ _ _ (hw.fhi b k hb))
  refine ⟨?_, ?_, hA, fun _ _ => rfl, fun _ _ h => h, fun _ _ _ h => h, fun b k hb => ?_, ⟨rfl, rfl, rfl, by omega, fun k hk _ => Below.heap_alloc _ _ _ hk⟩, fun y hy => ?_, (fun i y hy => by cases hy)⟩
  · show _ = Value.pointer (some ⟨if bl = bl then c.x.heap.size else c.E.A bl, 0, none⟩)
    rw [if_pos rfl]
  · exact ⟨Or.inr ⟨rfl, v, rfl⟩, v.ty, if_pos rfl, by unfold At; exact ⟨rfl, rfl⟩⟩
  · have := hw.fhi b k hb; omega
  · cases hy
    simp only [if_pos]
    exact ⟨Nat.le_refl _, by omega, fun k hk => by have := hw.fhi _ _ hk; omega, ⟨e, hB⟩, V.okc_mono hle h2⟩

/-- A store. -/
theorem does_set {i : Nat} {b y new : V} {p : List Step} {off : Nat} {u : Ty} (hb : get i = some b) (hk : ∀ (c : Cx), b.okc c → new.okc c → At b.ty p off u → y.ty = b.ty ∧ new.ty = u ∧ off + u.sz ≤ b.ty.sz ∧ y.cells c.E.B = splice (b.cells c.E.B) off (new.cells c.E.B) ∧ y.okc c)
    (h : ∀ (c : Cx) (ρ : Operand → Value), c.Wf w0 F0 → (∀ y ∈ o.op.operands, ∀ s, evS f y = some s → ρ y = s.val c.E ∧ s.ok c) →
      (∃ id, tyB1 P id u = true ∧ execOp ρ o = (do Instr.storeAt id (.pointer (some ⟨c.E.A i, off, none⟩)) (new.val c.E.B); pure .skip)) ∧ new.okc c ∧ (c.ty i = some b.ty → At b.ty p off u)) : Does P w0 F0 o f get bl nn ⟨und, .set i y, 0, [], false, false⟩ := by
  refine ⟨fun _ => rfl, ?_⟩
  intro c ρ hw hρ ht _ _
  obtain ⟨g2, g3, ⟨e, g4⟩, g5⟩ := ht i (Or.inr ⟨y, rfl⟩) b hb
  obtain ⟨⟨id, hid, hex⟩, hno, hat⟩ := h c ρ hw hρ
  obtain ⟨k1, k2, k3, k4, k5⟩ := hk c g5 hno (hat g3)
  have hsz : (b.cells c.E.B).toArray.size = b.ty.sz := by simp [V.cells_len]
  have hrun := storeVar_cells (P := P) (id := id) (y := new) (B := c.E.B) (by rw [k2]; exact hid) (V.cells_one new hno) g4 (o := off) (by rw [hsz, k2]; exact k3)
  have hcells : sets (b.cells c.E.B).toArray off (new.cells c.E.B) = (y.cells c.E.B).toArray := by
    apply Array.toList_inj.1
    rw [sets_splice _ _ _ (by rw [hsz, V.cells_len, k2]; exact k3), k4]
  rw [hcells] at hrun
  rw [hex]
  simp only [Instr.storeAt, Instr.sureAddr, Sem.run_bind, Sem.run_pure, Result.andThen_ok, hrun]
  have hput := HB.put g4 (y.cells c.E.B).toArray
  have hne : ∀ k, k ≠ c.E.A i → (putB c.x (c.E.A i) (y.cells c.E.B).toArray).heap[k]? = c.x.heap[k]? := fun k hk => putB_ne _ _ _ hk
  have hle : c.Le (c.ext ⟨und, .set i y, 0, [], false, false⟩ bl nn c.E (putB c.x (c.E.A i) (y.cells c.E.B).toArray)) := by
    refine ⟨fun i hi => ⟨Or.inl hi, rfl, rfl⟩, fun n hn => ⟨Or.inl hn, rfl⟩, fun _ _ h => h, fun d k hd j hj => ?_, by show _ ≤ (putB _ _ _).heap.size; rw [putB_size]; exact Nat.le_refl _⟩
    exact World.cell?_of_block (hne d fun he => hw.own i g2 k (by rw [← he]; exact hd))
  refine ⟨c.E, rfl, trivial, fun _ _ => rfl, fun _ _ => rfl, fun _ _ h => h, fun _ _ _ h => h, fun d k hd => by rw [putB_size]; exact hw.fhi d k hd, ⟨rfl, rfl, rfl, by rw [putB_size]; exact Nat.le_refl _, fun k hk hb' => hne k fun he => hb' ⟨i, y, rfl, he⟩⟩, (fun z hz => by cases hz), fun j z hz => ?_⟩
  cases hz
  exact ⟨g2, by rw [k1]; exact g3, ⟨e, hput⟩, V.okc_mono hle k5⟩
end

section
variable {P : Program} {T : Tab} {w0 : World} {F0 : Old} {nn : Nat}

theorem val_leaf {B : Nat → Value} {u : V} {ty : Ty} {a : ty.D} (h2 : u.ty = ty) (h3 : flat B ty a = u.cells B) : u.val B = (V.leaf ty a).val B := by
  cases hag : ty.agg with
  | true =>
    rw [V.val_agg (by rw [h2]; exact hag), V.val_agg (x := .leaf ty a) hag]
    show _ = Value.agg (flat B ty a).toArray
    rw [h3]
  | false =>
    have e1 := V.cells_sc (B := B) (y := u) (by rw [h2]; exact hag)
    have e2 := V.cells_sc (B := B) (y := .leaf ty a) hag
    have : [u.val B] = [(V.leaf ty a).val B] := by rw [← e1, ← e2]; exact h3.symm
    simpa using this

theorem bop_sound (hT : TabOk P T) {op : BinOp} {t : TypeId} {x y : AV} {k : V → Prop} (h : bopK T op t x y k) : ∃ v, k v ∧ ∀ (c : Cx) (p q : Operand) (w : World), x.ok c → y.ok c → (do eqGuard op t p q (x.val c.E) (y.val c.E); binOp op t (x.val c.E) (y.val c.E) : Sem Value).run P w = .ok (v.val c.E.B) w ∧ v.okc c := by
  unfold bopK at h
  split at h
  · rename_i a b
    split at h
    · obtain ⟨hb, hk⟩ := h
      refine ⟨_, hk, fun c p q w _ _ => ⟨?_, trivial⟩⟩
      show (do eqGuard .quo t p q (.int .i64 a) (.int .i64 b); binOp .quo t (.int .i64 a) (.int .i64 b) : Sem Value).run P w = .ok (.int .i64 (wrap64 (a.tdiv b))) w
      simp [eqGuard, binOp, Op.intDiv, hb, wrap64_eq]
    · obtain ⟨hb, hk⟩ := h
      refine ⟨_, hk, fun c p q w _ _ => ⟨?_, trivial⟩⟩
      show (do eqGuard .rem t p q (.int .i64 a) (.int .i64 b); binOp .rem t (.int .i64 a) (.int .i64 b) : Sem Value).run P w = .ok (.int .i64 (a.tmod b)) w
      simp [eqGuard, binOp, Op.intDiv, hb]
    · split at h
      · rename_i v hv
        refine ⟨v, h, fun c p q w _ _ => ⟨sbin_sound hv c.E.B w, ?_⟩⟩
        unfold sbin at hv
        split at hv <;> cases hv <;> trivial
      · exact h.elim
  · rename_i u w hno
    split at h
    · rename_i heq
      split at h
      · rename_i ty n hty
        have he := List.all_eq_true.1 hT.eq _ (inL_mem _ _ heq)
        simp only [eqOk, hty, Bool.and_eq_true, Bool.not_eq_true'] at he
        obtain ⟨he, hg⟩ := he
        obtain ⟨a, h1, h2, h3, h4⟩ := denK_sound u ty _ h
        obtain ⟨b, g1, g2, g3, g4⟩ := denK_sound w ty _ h1
        have hrun : ∀ (B : Nat → Value) (x : World), (Op.equal t ((V.leaf ty a).val B) ((V.leaf ty b).val B)).run P x = .ok (eqT ty a b) x := fun B x => eq_run 12 t ty he Op.maxDepth (by unfold Op.maxDepth; omega) a b
        have notInt : ty ≠ .int := fun hi => by
          subst hi
          cases u with
          | leaf t1 v1 =>
            cases w with
            | leaf t2 v2 =>
              have e1 : t1 = .int := h2
              have e2 : t2 = .int := g2
              subst e1; subst e2
              exact hno v1 v2 rfl rfl
            | one _ => cases g2
            | node _ _ => cases g2
          | one _ => cases h2
          | node _ _ => cases h2
        have both : ∀ (B : Nat → Value) (p q : Operand) (x : World), ((do eqGuard .eql t p q (u.val B) (w.val B); binOp .eql t (u.val B) (w.val B) : Sem Value).run P x = .ok (.bool (eqT ty a b)) x) ∧ ((do eqGuard .neq t p q (u.val B) (w.val B); binOp .neq t (u.val B) (w.val B) : Sem Value).run P x = .ok (.bool (!eqT ty a b)) x) := fun B p q x => by
          have hr := hrun B x
          rw [val_leaf h2 (h3 B), val_leaf g2 (g3 B)]
          cases hag : ty.agg with
          | true =>
            rw [V.val_agg (x := .leaf ty a) hag, V.val_agg (x := .leaf ty b) hag] at *
            rw [Sem.run_bind, run_eqGuard_agg _ _ _ _ _ _ _ hg, Result.andThen_ok, Sem.run_bind, run_eqGuard_agg _ _ _ _ _ _ _ hg, Result.andThen_ok]
            constructor
            · show (do pure (.bool (← Op.equal t _ _)) : Sem Value).run P x = _
              rw [Sem.run_bind, hr]; rfl
            · show (do pure (.bool (!(← Op.equal t _ _))) : Sem Value).run P x = _
              rw [Sem.run_bind, hr]; rfl
          | false =>
            cases ty with
            | int => exact absurd rfl notInt
            | bool =>
              constructor
              · show (do pure (.bool (← Op.equal t _ _)) : Sem Value).run P x = _
                rw [Sem.run_bind, hr]; rfl
              · show (do pure (.bool (!(← Op.equal t _ _))) : Sem Value).run P x = _
                rw [Sem.run_bind, hr]; rfl
            | lst e => 
              exfalso
              unfold eqB at he
              rw [Bool.and_eq_true] at he
              obtain ⟨h5, h6⟩ := he
              unfold tyB1 at h5
              simp only [Ty.agg, scB] at h5
              split at h5 <;> first | cases h5 | skip
              split at h6 <;> simp_all
            | _ => simp [Ty.agg] at hag
        split at g1
        · exact ⟨_, g1, fun c p q x _ _ => ⟨(both c.E.B p q x).1, trivial⟩⟩
        · exact ⟨_, g1, fun c p q x _ _ => ⟨(both c.E.B p q x).2, trivial⟩⟩
        · exact g1.elim
      · exact h.elim
    · exact h.elim
  · exact h.elim

theorem part_sound {f : Fr} {n : Nat} {path : Nat → List Step} {place : Nat → Option (Nat × Nat)} {ty : Ty} (hp : ∀ i, i < n → ∃ d u, At ty (path i) d u ∧ place i = some (d, u.sz)) :
    ∀ (l : List (Nat × Operand)) (v : V) (k : V → Prop), v.ty = ty → partK n path f l v k → ∃ v', k v' ∧ v'.ty = ty ∧ ∀ (c : Cx) (ρ : Operand → Value), v.okc c → (∀ e ∈ l, ∀ s, evS f e.2 = some s → ρ e.2 = s.val c.E ∧ s.ok c) →
      Instr.fill place (v.cells c.E.B).toArray (l.map fun e => (e.1, ρ e.2)) = some (v'.cells c.E.B).toArray ∧ v'.okc c
  | [], v, k, hv, h => ⟨v, h, hv, fun c ρ hc _ => ⟨rfl, hc⟩⟩
  | (i, x) :: r, v, k, hv, h => by
    unfold partK at h
    split at h
    · rename_i hi
      have hi' := Nat.le_of_ble_eq_true hi
      split at h
      · rename_i s hs
        split at h
        · rename_i old hold
          split at h
          · rename_i new hnew
            obtain ⟨y, h1, h2, h3⟩ := setK_sound _ _ _ _ h
            obtain ⟨d, u, hd, hpl⟩ := hp i hi'
            obtain ⟨g1, g2, g3, g4⟩ := h3 d u (by rw [hv]; exact hd)
            obtain ⟨v', k1, k2, k3⟩ := part_sound hp r y k (h2.trans hv) h1
            refine ⟨v', k1, k2, fun c ρ hc hρ => ?_⟩
            obtain ⟨e1, e2⟩ := hρ (i, x) (by simp) _ hs
            obtain ⟨e3, e4⟩ := asV_sound hnew e2
            have e5 : ρ x = new.val c.E.B := by rw [e1]; exact e3
            have hcs := V.val_cells new (V.cells_one new e4)
            obtain ⟨k4, k5⟩ := k3 c ρ (g4 _ _ _ _ hc e4) (fun e he => hρ e (by simp [he]))
            refine ⟨?_, k5⟩
            rw [List.map_cons]
            unfold Instr.fill
            simp only [hpl, e5, hcs]
            have hsz : (new.cells c.E.B).toArray.size = u.sz := by simp [V.cells_len, g1]
            have hsv : (v.cells c.E.B).toArray.size = v.ty.sz := by simp [V.cells_len]
            rw [if_neg (by
              simp only [ne_eq, Bool.or_eq_true, decide_eq_true_eq, not_or, Decidable.not_not]
              exact ⟨hsz, by rw [hsz, hsv]; omega⟩)]
            have hfold : ∀ (cs : List Value) (j : Nat) (C : Array Value), ((cs.zipIdx j).foldl (fun C (e : Value × Nat) => C.setIfInBounds (d + e.2) e.1) C) = sets C (d + j) cs := by
              intro cs
              induction cs with
              | nil => intro j C; rfl
              | cons q cs ih => intro j C; rw [List.zipIdx_cons, List.foldl_cons, ih]; rfl
            have harr : (new.cells c.E.B).toArray.zipIdx.foldl (fun cs (e : Value × Nat) => cs.setIfInBounds (d + e.2) e.1) (v.cells c.E.B).toArray = (y.cells c.E.B).toArray := by
              rw [← Array.foldl_toList, Array.toList_zipIdx, hfold]
              apply Array.toList_inj.1
              rw [Nat.add_zero, sets_splice _ _ _ (by rw [hsv, V.cells_len, g1]; exact g2), g3 c.E.B]
            rw [show (new.cells c.E.B).toArray.zipIdx.foldl (fun cs (x : Value × Nat) => match x with | (c, j) => cs.setIfInBounds (d + j) c) (v.cells c.E.B).toArray = (y.cells c.E.B).toArray from harr]
            exact k4
          · exact h.elim
        · exact h.elim
      · exact h.elim
    · exact h.elim
end

end Go.Proofs.Ytjbbgpacijageaa.M
