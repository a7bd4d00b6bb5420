/- What is known of a program's types: reading, writing, fields, comparing. No program is named here. -/
import Derived.Test.YtjbbgpacijageaaT2
import Derived.ChangeKeysEq
import Derived.Laws.StructEq
namespace Go.Proofs.Ytjbbgpacijageaa.M
open Go.RowKit
set_option linter.unusedVariables false
set_option linter.unusedSimpArgs false

theorem V.cells_sc {B : Nat → Value} {y : V} (h : y.ty.agg = false) : y.cells B = [y.val B] := by
  cases y with
  | leaf t v => cases t <;> first | rfl | simp [V.ty, Ty.agg] at h
  | one y => simp [V.ty, Ty.agg] at h
  | node y z => simp [V.ty, Ty.agg] at h

section
variable {XB : Nat → Prop} {B : Nat → Value} {F : Nat → Nat → Prop} {x : World}
theorem flat_one : ∀ (t : Ty) (v : t.D), wok XB B F x t v → ∀ u ∈ flat B t v, u.oneCell' = true
  | .int, _, _, u, h => by simp [flat] at h; subst h; rfl
  | .bool, _, _, u, h => by simp [flat] at h; subst h; rfl
  | .one t, v, hw, u, h => flat_one t v hw u h
  | .pair a b, v, hw, u, h => by
    simp only [flat, List.mem_append] at h
    rcases h with h | h
    · exact flat_one a v.1 hw.1 u h
    · exact flat_one b v.2 hw.2 u h
  | .arr n t, f, hw, u, h => by
    simp only [flat, rows, List.mem_flatMap, List.mem_range] at h
    obtain ⟨i, hi, hu⟩ := h
    exact flat_one t (f i) (hw i hi) u hu
  | .lst t, v, hw, u, h => by
    simp [flat] at h
    subst h
    rcases hw.2 with ⟨_, ad, cap, hv⟩ | ⟨b, o, cap, hv, _⟩ <;> rw [hv] <;> rfl
theorem V.cells_one : ∀ (v : V), v.ok XB B F x → ∀ u ∈ v.cells B, u.oneCell' = true
  | .leaf t v, h, u, hu => flat_one t v h u hu
  | .one y, h, u, hu => V.cells_one y h u hu
  | .node y z, h, u, hu => by
    simp only [V.cells, List.mem_append] at hu
    rcases hu with hu | hu
    · exact V.cells_one y h.1 u hu
    · exact V.cells_one z h.2 u hu
end
theorem V.val_cells {B : Nat → Value} (y : V) (h : ∀ u ∈ y.cells B, u.oneCell' = true) : (y.val B).cells = (y.cells B).toArray := by
  cases ha : y.ty.agg with
  | true => rw [V.val_agg ha]; rfl
  | false =>
    have hc := V.cells_sc (B := B) ha
    have h1 := h (y.val B) (by rw [hc]; simp)
    rw [hc]
    cases hv : y.val B <;> first | rfl | (rw [hv] at h1; simp [Value.oneCell'] at h1)

def scB (P : Program) (T : TypeId) : Bool :=
  match P.underlying T with
  | some (.struct _) | some (.array _ _) | none => false
  | _ => (P.info? T).map (·.size) == some 1
def foB (P : Program) (T : TypeId) (k d : Nat) : Bool :=
  match P.underlying T with
  | some (.struct fields) => match fields[k]? with
    | some f => f.offset == d && (match (P.info? f.type).map (·.size) with | some 0 => false | some _ => true | none => false)
    | none => false
  | _ => false
/-- Is the type one of that shape, as far as reading and writing goes? -/
def tyB1 (P : Program) (id : TypeId) (T : Ty) : Bool := match T.agg with | true => rowB P id T.sz | false => scB P id

section
variable {P : Program}
theorem scB_size {t : TypeId} (h : scB P t = true) : (P.info? t).map (·.size) = some 1 := by
  unfold scB at h
  split at h <;> first | cases h | simpa using h
theorem scB_agg {t : TypeId} (h : scB P t = true) (w : World) : (isAgg t).run P w = .ok false w := by
  unfold scB at h
  split at h
  · cases h
  · cases h
  · cases h
  · rename_i d h1 h2 h3
    cases hu : P.underlying t with
    | none => exact absurd hu h3
    | some d =>
      unfold isAgg
      rw [Sem.run_bind, run_underlying hu]
      simp only [Result.andThen_ok]
      cases d <;> first | rfl | exact absurd hu (h1 _) | exact absurd hu (h2 _ _)
theorem rowB_agg {t : TypeId} {n : Nat} (h : rowB P t n = true) (w : World) : (isAgg t).run P w = .ok true w := by
  obtain ⟨d, hu, hd, _⟩ := rowB_spec h
  unfold isAgg
  rw [Sem.run_bind, run_underlying hu]
  simp only [Result.andThen_ok]
  cases d <;> first | rfl | simp [TypeDesc.isRow] at hd
theorem fo_run {t : TypeId} {k d : Nat} (h : foB P t k d = true) (w : World) (b off : Nat) : (Instr.fieldAt t (.pointer (some ⟨b, off, none⟩)) k).run P w = .ok (.pointer (some ⟨b, off + d, none⟩)) w := by
  unfold foB at h
  split at h
  · rename_i fields hu
    split at h
    · rename_i f hf
      rw [Bool.and_eq_true] at h
      obtain ⟨h1, h2⟩ := h
      have hd : f.offset = d := by simpa using h1
      cases hi : P.info? f.type with
      | none => rw [hi] at h2; simp at h2
      | some i =>
        have hs : i.size ≠ 0 := fun h0 => by rw [hi] at h2; simp [h0] at h2
        subst hd
        unfold Instr.fieldAt
        rw [Sem.run_bind, run_underlying hu]
        simp only [Result.andThen_ok, hf]
        simp [Instr.sureAddr, fieldPlace, sizeOf, typeInfo, hi, hs, Addr.add]
    · cases h
  · cases h

theorem load_run {id : TypeId} {y : V} {B : Nat → Value} (hT : tyB1 P id y.ty = true) {x : World} {b o : Nat} (hc : ∀ j, j < y.ty.sz → x.cell? ⟨b, o + j, none⟩ = (y.cells B)[j]?) : (loadVar id ⟨b, o, none⟩).run P x = .ok (y.val B) x := by
  unfold tyB1 at hT
  split at hT
  · rename_i ha
    obtain ⟨d, hu, hd, hi⟩ := rowB_spec hT
    rw [V.val_agg ha]
    refine run_loadVar_mid (P := P) x b o id (y.cells B) d (fun j v hv => ?_) hu hd (by rw [hi, V.cells_len])
    have hj : j < (y.cells B).length := (List.getElem?_eq_some_iff.1 hv).1
    rw [hc j (by rw [← V.cells_len B]; exact hj)]
    exact hv
  · rename_i ha
    have hcs := V.cells_sc (B := B) ha
    have hsz : y.ty.sz = 1 := by rw [← V.cells_len B, hcs]; rfl
    have h0 := hc 0 (by omega)
    rw [hcs] at h0
    unfold loadVar
    rw [Sem.run_bind, scB_agg hT]
    simp only [Result.andThen_ok, Bool.false_eq_true, if_false]
    simp at h0
    simp [go_sem, h0]

theorem storeVar_cells {id : TypeId} {y : V} {B : Nat → Value} (hT : tyB1 P id y.ty = true) (h1 : ∀ u ∈ y.cells B, u.oneCell' = true) {x : World} {b o : Nat} {C : Array Value} {e : TypeId} (hB : HB x b C e) (hs : o + y.ty.sz ≤ C.size) :
    (storeVar id ⟨b, o, none⟩ (y.val B)).run P x = .ok () (putB x b (sets C o (y.cells B))) := by
  have hval := V.val_cells y h1
  have hsize : (P.info? id).map (·.size) = some y.ty.sz := by
    unfold tyB1 at hT
    split at hT
    · obtain ⟨d, hu, hd, hi⟩ := rowB_spec hT; exact hi
    · rename_i ha
      have hcs := V.cells_sc (B := B) ha
      have hsz : y.ty.sz = 1 := by rw [← V.cells_len B, hcs]; rfl
      rw [hsz]; exact scB_size hT
  have hth : x.there b o (y.cells B).toArray.size := fun j hj => ⟨by
    rw [hB.cell]
    have : j < y.ty.sz := by rw [← V.cells_len B]; simpa using hj
    simp; omega, hB.frozen _⟩
  have hst := run_storeVar_mid (P := P) x b o id (y.cells B).toArray hth (by rw [hsize]; simp [V.cells_len]) (by
    rw [Array.all_eq_true']
    intro u hu
    exact h1 u (by simpa using hu))
  have heq : (storeVar id ⟨b, o, none⟩ (y.val B)).run P x = (storeVar id ⟨b, o, none⟩ (.agg (y.cells B).toArray)).run P x := by
    unfold storeVar
    rw [show (Value.agg (y.cells B).toArray).cells = (y.cells B).toArray from rfl, hval]
  rw [heq, hst, setCells_putB _ _ hB]

theorem sets_splice : ∀ (cs : List Value) (o : Nat) (C : Array Value), o + cs.length ≤ C.size → (sets C o cs).toList = splice C.toList o cs
  | [], o, C, h => by simp [sets, splice]
  | v :: r, o, C, h => by
    simp only [List.length_cons] at h
    show (sets (C.setIfInBounds o v) (o + 1) r).toList = _
    rw [sets_splice r (o + 1) _ (by simp; omega)]
    have hset : (C.setIfInBounds o v).toList = C.toList.take o ++ [v] ++ C.toList.drop (o + 1) := by
      rw [Array.toList_setIfInBounds, List.set_eq_take_append_cons_drop, if_pos (by simp; omega)]
      simp
    have hlen : (C.toList.take o ++ [v]).length = o + 1 := by simp; omega
    unfold splice
    rw [hset, List.take_append_of_le_length (by omega), List.take_of_length_le (by omega), List.drop_append, List.drop_of_length_le (by omega), hlen]
    simp only [List.drop_drop, List.length_cons, List.nil_append, List.append_assoc, List.cons_append]
    congr 4
    omega

/-- A part of a struct or an array as a value. -/
theorem part_run {id : TypeId} {y : V} {B : Nat → Value} (hT : tyB1 P id y.ty = true) {L : List Value} {o : Nat} (hc : y.cells B = (L.drop o).take y.ty.sz) (hs : o + y.ty.sz ≤ L.length) (x : World) : (part id L.toArray o).run P x = .ok (y.val B) x := by
  unfold tyB1 at hT
  unfold part
  split at hT
  · rename_i ha
    obtain ⟨d, hu, hd, hi⟩ := rowB_spec hT
    rw [Sem.run_bind, rowB_agg hT]
    simp only [Result.andThen_ok, if_true]
    cases hinf : P.info? id with
    | none => rw [hinf] at hi; simp at hi
    | some i =>
      have hsz : i.size = y.ty.sz := by simpa [hinf] using hi
      simp only [sizeOf, typeInfo, Sem.run_bind, run_program, Result.andThen_ok, hinf, Sem.run_pure, hsz]
      rw [V.val_agg ha, hc]
      congr 2
      apply Array.toList_inj.1
      simp [List.extract_eq_take_drop]
  · rename_i ha
    have hcs := V.cells_sc (B := B) ha
    have hsz : y.ty.sz = 1 := by rw [← V.cells_len B, hcs]; rfl
    rw [Sem.run_bind, scB_agg hT]
    simp only [Result.andThen_ok, Bool.false_eq_true, if_false]
    rw [hcs, hsz] at hc
    have h5 := congrArg (·[0]?) hc
    have h6 : L[o]? = some (y.val B) := by simpa using h5.symm
    have : L.toArray[o]? = some (y.val B) := by simpa using h6
    rw [this]
    rfl
end

/-- Equal? -/
def eqT : (t : Ty) → t.D → t.D → Bool
  | .int, a, b => decide ((a : Int) = b)
  | .bool, a, b => decide ((a : Bool) = b)
  | .one t, a, b => eqT t a b
  | .pair s t, a, b => eqT s a.1 b.1 && eqT t a.2 b.2
  | .arr n t, f, g => (List.range n).all fun i => eqT t (f i) (g i)
  | .lst _, _, _ => false

def fieldName (f : Field) : Bool := !(f.name == "_")
def fldsE (rc : TypeId → Ty → Bool) : List Field → Ty → Nat → Bool
  | [], _, _ => false
  | [f], t, o => f.offset == o && fieldName f && rc f.type t
  | f :: r, .pair a b, o => f.offset == o && fieldName f && rc f.type a && fldsE rc r b (o + a.sz)
  | _, _, _ => false
/-- May values of the type be compared so? -/
def eqB (P : Program) : Nat → TypeId → Ty → Bool
  | 0, _, _ => false
  | n + 1, id, T => tyB1 P id T && match P.underlying id, T with
    | some (.int _), .int => true
    | some .bool, .bool => true
    | some (.array k e), .arr m t => k == m && (P.info? e).map (·.size) == some t.sz && eqB P n e t
    | some (.struct fs), T => !P.stoodInHeld id && (match T, fs.toList with
      | .one t, [f] => f.offset == 0 && fieldName f && eqB P n f.type t
      | .one _, _ => false
      | T, l => fldsE (eqB P n) l T 0)
    | _, _ => false

section
variable {P : Program}
theorem eqB_ty {n : Nat} {id : TypeId} {T : Ty} (h : eqB P n id T = true) : tyB1 P id T = true := by
  cases n with
  | zero => simp [eqB] at h
  | succ n => unfold eqB at h; rw [Bool.and_eq_true] at h; exact h.1
theorem info_some {id : TypeId} {d : TypeDesc} (h : P.underlying id = some d) : ∃ i, P.info? id = some i := by
  cases hi : P.info? id with
  | some i => exact ⟨i, rfl⟩
  | none => simp [Program.underlying, hi] at h

theorem eq_run {B : Nat → Value} {x : World} : ∀ (n : Nat) (id : TypeId) (T : Ty), eqB P n id T = true → ∀ d, n ≤ d → ∀ (a b : T.D), (Op.equalIn d id ((V.leaf T a).val B) ((V.leaf T b).val B)).run P x = .ok (eqT T a b) x
  | 0, id, T, h, d, hd, a, b => by simp [eqB] at h
  | n + 1, id, T, h, d, hd, a, b => by
    obtain ⟨d, rfl⟩ : ∃ e, d = e + 1 := ⟨d - 1, by omega⟩
    have ih := eq_run (B := B) (x := x) n
    unfold eqB at h
    rw [Bool.and_eq_true] at h
    obtain ⟨hty, h⟩ := h
    split at h
    · rename_i k hu
      show (Op.equalIn (d + 1) id (.int .i64 a) (.int .i64 b)).run P x = .ok (decide ((a : Int) = b)) x
      rw [run_equalIn_int x d id .i64 k a b hu]
      congr 1
    · rename_i hu
      show (Op.equalIn (d + 1) id (.bool a) (.bool b)).run P x = .ok (decide ((a : Bool) = b)) x
      rw [run_equalIn_bool x d id a b hu]
      congr 1
    · rename_i k e m t hu
      simp only [Bool.and_eq_true, beq_iff_eq] at h
      obtain ⟨⟨rfl, hsz⟩, he⟩ := h
      cases hi : P.info? e with
      | none => rw [hi] at hsz; simp at hsz
      | some i =>
        have hcells : P.cellsOf e = t.sz := by simp [Program.cellsOf, hsz]
        show (Op.equalIn (d + 1) id (.agg (rows k fun i => flat B t (a i)).toArray) (.agg (rows k fun i => flat B t (b i)).toArray)).run P x = _
        rw [run_equalIn_array x d _ _ hu hi, hcells]
        have hall : ∀ l : List Nat, (∀ j ∈ l, j < k) → (Op.eqItems d e t.sz (rows k fun i => flat B t (a i)).toArray (rows k fun i => flat B t (b i)).toArray l).run P x = .ok (l.all fun i => eqT t (a i) (b i)) x := by
          intro l
          induction l with
          | nil => intro _; rfl
          | cons j l ihl =>
            intro hl
            have hj : j < k := hl j (by simp)
            have hle : j * t.sz + t.sz ≤ k * t.sz := by rw [← Nat.succ_mul]; exact Nat.mul_le_mul_right _ hj
            have hpa : (part e (rows k fun i => flat B t (a i)).toArray (j * t.sz)).run P x = .ok ((V.leaf t (a j)).val B) x := part_run (y := .leaf t (a j)) (eqB_ty he) (rows_get k (g := fun i => flat B t (a i)) (fun i _ => flat_len B t (a i)) j hj).symm (by rw [rows_len k (fun i _ => flat_len B t (a i))]; exact hle) x
            have hpb : (part e (rows k fun i => flat B t (b i)).toArray (j * t.sz)).run P x = .ok ((V.leaf t (b j)).val B) x := part_run (y := .leaf t (b j)) (eqB_ty he) (rows_get k (g := fun i => flat B t (b i)) (fun i _ => flat_len B t (b i)) j hj).symm (by rw [rows_len k (fun i _ => flat_len B t (b i))]; exact hle) x
            unfold Op.eqItems
            rw [Sem.run_bind, hpa, Result.andThen_ok, Sem.run_bind, hpb, Result.andThen_ok, Sem.run_bind, ih e t he d (by omega), Result.andThen_ok]
            cases hq : eqT t (a j) (b j) with
            | false => simp [hq]
            | true => simp only [Bool.not_true, Bool.false_eq_true, if_false, List.all_cons, hq, Bool.true_and]; exact ihl (fun j hj => hl j (by simp [hj]))
        rw [hall _ (fun j hj => by simpa using hj)]
        rfl
    · rename_i T _ _ fs hu
      rw [Bool.and_eq_true, Bool.not_eq_true'] at h
      obtain ⟨hst, h⟩ := h
      have hfs : P.fieldsOf id = fs := by simp [Program.fieldsOf, hu]
      have hstruct : ∀ xs ys : Array Value, (Op.equalIn (d + 1) id (.agg xs) (.agg ys)).run P x = (Op.eqFields d xs ys fs.toList).run P x := fun xs ys => by
        rw [run_equalIn_struct x d id xs ys (by rw [hfs]; exact hu) hst, hfs]
      have fld : ∀ (f : Field) (t : Ty) (a b : t.D) (La Lb : List Value) (o : Nat) (r : List Field), f.offset = o → fieldName f = true → eqB P n f.type t = true → flat B t a = (La.drop o).take t.sz → flat B t b = (Lb.drop o).take t.sz → o + t.sz ≤ La.length → o + t.sz ≤ Lb.length →
          (Op.eqFields d La.toArray Lb.toArray (f :: r)).run P x = (if eqT t a b = true then (Op.eqFields d La.toArray Lb.toArray r).run P x else .ok false x) := by
        intro f t a b La Lb o r ho hn he ha hb hla hlb
        have hne : f.name ≠ "_" := by simpa [fieldName] using hn
        subst ho
        conv => lhs; unfold Op.eqFields
        rw [if_pos hne, Sem.run_bind, part_run (y := .leaf t a) (B := B) (eqB_ty he) ha hla x, Result.andThen_ok, Sem.run_bind, part_run (y := .leaf t b) (B := B) (eqB_ty he) hb hlb x, Result.andThen_ok, Sem.run_bind, ih f.type t he d (by omega), Result.andThen_ok]
        cases hq : eqT t a b <;> simp
      have many : ∀ (l : List Field) (T : Ty) (o : Nat) (a b : T.D) (La Lb : List Value), fldsE (eqB P n) l T o = true → flat B T a = (La.drop o).take T.sz → flat B T b = (Lb.drop o).take T.sz → o + T.sz ≤ La.length → o + T.sz ≤ Lb.length →
          (Op.eqFields d La.toArray Lb.toArray l).run P x = .ok (eqT T a b) x := by
        intro l
        induction l with
        | nil => intro T o a b La Lb h; simp [fldsE] at h
        | cons f r ihr =>
          intro T o a b La Lb h ha hb hla hlb
          cases r with
          | nil =>
            simp only [fldsE, Bool.and_eq_true, beq_iff_eq] at h
            obtain ⟨⟨h1, h2⟩, h3⟩ := h
            rw [fld f T a b La Lb o [] h1 h2 h3 ha hb hla hlb]
            cases hq : eqT T a b <;> simp [Op.eqFields]
          | cons g r =>
            cases T with
            | pair s t =>
              simp only [fldsE, Bool.and_eq_true, beq_iff_eq] at h
              obtain ⟨⟨⟨h1, h2⟩, h3⟩, h4⟩ := h
              simp only [Ty.sz] at ha hb hla hlb
              have cut : ∀ (v : (Ty.pair s t).D) (L : List Value), flat B (.pair s t) v = (L.drop o).take (s.sz + t.sz) → o + (s.sz + t.sz) ≤ L.length → flat B s v.1 = (L.drop o).take s.sz ∧ flat B t v.2 = (L.drop (o + s.sz)).take t.sz := by
                intro v L hv hL
                have h1 : flat B s v.1 ++ flat B t v.2 = (L.drop o).take (s.sz + t.sz) := hv
                have l1 := flat_len B s v.1
                have e1 := congrArg (List.take s.sz) h1
                have e2 := congrArg (List.drop s.sz) h1
                rw [List.take_append_of_le_length (by omega), List.take_of_length_le (by omega), List.take_take, Nat.min_eq_left (by omega)] at e1
                rw [← l1, List.drop_left, l1, List.drop_take, List.drop_drop] at e2
                refine ⟨e1, ?_⟩
                rw [e2]
                congr 1
                omega
              obtain ⟨a1, a2⟩ := cut a La ha hla
              obtain ⟨b1, b2⟩ := cut b Lb hb hlb
              rw [fld f s a.1 b.1 La Lb o (g :: r) h1 h2 h3 a1 b1 (by omega) (by omega)]
              rw [ihr t (o + s.sz) a.2 b.2 La Lb h4 a2 b2 (by omega) (by omega)]
              simp only [eqT]
              cases eqT s a.1 b.1 <;> simp
            | _ => simp [fldsE] at h
      have hlenf : ∀ (v : T.D), flat B T v = ((flat B T v).drop 0).take T.sz := fun v => by
        rw [List.drop_zero, List.take_of_length_le (by rw [flat_len]; exact Nat.le_refl _)]
      have hagg : T.agg = true := by
        unfold tyB1 at hty
        split at hty
        · rename_i ha; exact ha
        · unfold scB at hty
          rw [hu] at hty
          simp at hty
      have fin : fldsE (eqB P n) fs.toList T 0 = true → (Op.equalIn (d + 1) id ((V.leaf T a).val B) ((V.leaf T b).val B)).run P x = .ok (eqT T a b) x := fun hm => by
        rw [V.val_agg (x := .leaf T a) hagg, V.val_agg (x := .leaf T b) hagg, hstruct]
        exact many _ T 0 a b _ _ hm (hlenf a) (hlenf b) (by rw [show V.cells B (.leaf T a) = flat B T a from rfl, flat_len]; omega) (by rw [show V.cells B (.leaf T b) = flat B T b from rfl, flat_len]; omega)
      split at h
      · rename_i t f hl
        rw [hl] at hstruct
        simp only [Bool.and_eq_true, beq_iff_eq] at h
        obtain ⟨⟨h1, h2⟩, h3⟩ := h
        have hl' : ∀ (v : t.D), flat B t v = ((flat B t v).drop 0).take t.sz := fun v => by
          rw [List.drop_zero, List.take_of_length_le (by rw [flat_len]; exact Nat.le_refl _)]
        show (Op.equalIn (d + 1) id (.agg (flat B t a).toArray) (.agg (flat B t b).toArray)).run P x = .ok (eqT t a b) x
        rw [hstruct, fld f t a b _ _ 0 [] h1 h2 h3 (hl' a) (hl' b) (by rw [flat_len]; omega) (by rw [flat_len]; omega)]
        cases hq : eqT t a b <;> simp [Op.eqFields]
      · cases h
      · exact fin h
    · cases h
end

end Go.Proofs.Ytjbbgpacijageaa.M
