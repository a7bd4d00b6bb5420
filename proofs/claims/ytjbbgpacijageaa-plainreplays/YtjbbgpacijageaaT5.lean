/- Operations without calls. No program is named here. -/
import Derived.Test.YtjbbgpacijageaaT4
namespace Go.Proofs.Ytjbbgpacijageaa.M
open Go.RowKit
set_option linter.unusedVariables false
set_option linter.unusedSimpArgs false

/-- Something is to be shown, and then the rest. -/
structure Need (p q : Prop) : Prop where
  l : p
  r : q
/-- Two ways. -/
structure Way (b : Bool) (p q : Prop) : Prop where
  t : b = true → p
  f : b = false → q
theorem Way.yes {p q : Prop} (h : p) : Way true p q := Way.mk (fun _ => h) (fun h => Bool.noConfusion h)
theorem Way.no {p q : Prop} (h : q) : Way false p q := Way.mk (fun h => Bool.noConfusion h) (fun _ => h)

theorem Way.dec {p : Prop} [i : Decidable p] {x y : Prop} (h : p → x) (k : ¬ p → y) : Way (decide p) x y := Way.mk (fun e => h (of_decide_eq_true e)) (fun e => k (of_decide_eq_false e))
theorem Way.ndec {p : Prop} [i : Decidable p] {x y : Prop} (h : ¬ p → x) (k : p → y) : Way (!decide p) x y := Way.mk (fun e => h (by simpa using e)) (fun e => k (by simpa using e))
def nthB : List V → Nat → Option V
  | [], _ => none
  | b :: r, n => match Nat.beq n 0 with | true => some b | false => nthB r (n - 1)
theorem nthB_eq : ∀ (l : List V) (i : Nat), nthB l i = l[i]?
  | [], i => rfl
  | b :: r, i => by
    unfold nthB
    split
    · rename_i h
      have := Nat.eq_of_beq_eq_true h
      subst this; rfl
    · rename_i h
      rw [nthB_eq r]
      cases i with
      | zero => simp at h
      | succ i => simp

/-- Steps to field k of n. -/
def fldM : Nat → Nat → List Step
  | 0, _ => []
  | 1, _ => []
  | _ + 2, 0 => [.fst]
  | n + 2, k + 1 => .snd :: fldM (n + 1) k
def fldP (n k : Nat) : List Step := match Nat.beq n 1 with | true => [.inn] | false => fldM n k
def offT : Ty → List Step → Option (Nat × Ty)
  | t, [] => some (0, t)
  | .one t, .inn :: p => offT t p
  | .pair a _, .fst :: p => offT a p
  | .pair a b, .snd :: p => match offT b p with | some (d, u) => some (a.sz + d, u) | none => none
  | _, _ => none
theorem offT_at : ∀ (p : List Step) (t : Ty) (d : Nat) (u : Ty), offT t p = some (d, u) → At t p d u
  | [], t, d, u, h => by
    have : some (0, t) = some (d, u) := by unfold offT at h; exact h
    cases this
    unfold At
    exact ⟨rfl, rfl⟩
  | s :: p, t, d, u, h => by
    unfold offT at h
    split at h
    · rename_i h0; cases h0
    · rename_i t' p' h0; cases h0; exact offT_at p t' d u h
    · rename_i a b p' h0; cases h0; exact offT_at p a d u h
    · rename_i a b p' h0
      cases h0
      split at h
      · rename_i d' u' hq
        cases h
        exact ⟨d', offT_at p b d' u hq, rfl⟩
      · cases h
    · cases h
theorem At.append : ∀ (p : List Step) (t : Ty) (o : Nat) (u : Ty) (q : List Step) (o' : Nat) (w : Ty), At t p o u → At u q o' w → At t (p ++ q) (o + o') w
  | [], t, o, u, q, o', w, h, h' => by
    have : o = 0 ∧ u = t := by unfold At at h; exact h
    obtain ⟨rfl, rfl⟩ := this
    rw [Nat.zero_add]; exact h'
  | s :: p, t, o, u, q, o', w, h, h' => by
    cases s with
    | inn => cases t with
      | one t' => exact At.append p t' o u q o' w h h'
      | _ => exact False.elim h
    | fst => cases t with
      | pair a b => exact At.append p a o u q o' w h h'
      | _ => exact False.elim h
    | snd => cases t with
      | pair a b =>
        obtain ⟨k, hk, rfl⟩ := h
        exact ⟨k + o', At.append p b k u q o' w hk h', by omega⟩
      | _ => exact False.elim h
    | idx i => cases t with
      | arr n t' =>
        obtain ⟨hi, k, hk, rfl⟩ := h
        exact ⟨hi, k + o', At.append p t' k u q o' w hk h', by omega⟩
      | _ => exact False.elim h
theorem At.uniq : ∀ (p : List Step) (t : Ty) (o o' : Nat) (u u' : Ty), At t p o u → At t p o' u' → o = o' ∧ u = u'
  | [], t, o, o', u, u', h, h' => by
    have h1 : o = 0 ∧ u = t := by unfold At at h; exact h
    have h2 : o' = 0 ∧ u' = t := by unfold At at h'; exact h'
    exact ⟨by omega, by rw [h1.2, h2.2]⟩
  | s :: p, t, o, o', u, u', h, h' => by
    cases s with
    | inn => cases t with
      | one t' => exact At.uniq p t' o o' u u' h h'
      | _ => exact False.elim h
    | fst => cases t with
      | pair a b => exact At.uniq p a o o' u u' h h'
      | _ => exact False.elim h
    | snd => cases t with
      | pair a b =>
        obtain ⟨k, hk, rfl⟩ := h
        obtain ⟨k', hk', rfl⟩ := h'
        obtain ⟨h1, h2⟩ := At.uniq p b k k' u u' hk hk'
        exact ⟨by omega, h2⟩
      | _ => exact False.elim h
    | idx i => cases t with
      | arr n t' =>
        obtain ⟨hi, k, hk, rfl⟩ := h
        obtain ⟨hi', k', hk', rfl⟩ := h'
        obtain ⟨h1, h2⟩ := At.uniq p t' k k' u u' hk hk'
        exact ⟨by omega, h2⟩
      | _ => exact False.elim h
/-- A path and more of it, laid out. -/
def appP : List Step → List Step → (List Step → Prop) → Prop
  | [], q, k => k q
  | s :: p, q, k => appP p q fun r => k (s :: r)
theorem appP_elim : ∀ (p q : List Step) (k : List Step → Prop), appP p q k → k (p ++ q)
  | [], q, k, h => h
  | s :: p, q, k, h => appP_elim p q _ h

/-- What is known of the types: their shapes, how many fields they have. -/
abbrev Tys := List (TypeId × Ty × Nat)
def tyL : Tys → TypeId → Option (Ty × Nat)
  | [], _ => none
  | (t', k) :: r, t => match Nat.beq t t' with | true => some k | false => tyL r t
theorem tyL_mem : ∀ (l : Tys) (t : TypeId) (k : Ty × Nat), tyL l t = some k → (t, k) ∈ l
  | [], _, _, h => by cases h
  | (t', k') :: r, t, k, h => by
    unfold tyL at h
    split at h
    · rename_i hb
      have := Nat.eq_of_beq_eq_true hb
      subst this; cases h; simp
    · exact List.mem_cons_of_mem _ (tyL_mem r t k h)

/-- One value of a cell against another: numbers, truth values, the list that is not there. -/
def valB : Value → Value → Bool
  | .int .i64 a, .int .i64 b => a == b
  | .bool a, .bool b => a == b
  | .slice none 0 0, .slice none 0 0 => true
  | _, _ => false
theorem valB_eq {a b : Value} (h : valB a b = true) : a = b := by
  unfold valB at h
  split at h <;> simp_all
def valsB : List Value → List Value → Bool
  | [], [] => true
  | a :: r, b :: s => valB a b && valsB r s
  | _, _ => false
theorem valsB_eq : ∀ {a b : List Value}, valsB a b = true → a = b
  | [], [], _ => rfl
  | a :: r, b :: s, h => by
    simp only [valsB, Bool.and_eq_true] at h
    rw [valB_eq h.1, valsB_eq h.2]
  | [], _ :: _, h => by cases h
  | _ :: _, [], h => by cases h

def zeroB (P : Program) (id : TypeId) (T : Ty) : Bool :=
  match (P.info? id).bind (·.zero) with
  | some v => valsB v.cells.toList (flat (fun _ => undef) T T.zero)
  | none => false
def fldB (P : Program) (id : TypeId) (k d : Nat) (u : Ty) : Bool :=
  match P.underlying id with
  | some (.struct fields) => match fields[k]? with
    | some f => f.offset == d && tyB1 P f.type u
    | none => false
  | _ => false
def arrB (P : Program) (id : TypeId) (n : Nat) (t : Ty) : Bool :=
  match P.underlying id with
  | some (.array l e) => l == n && (P.info? e).map (·.size) == some t.sz && tyB1 P e t
  | _ => false
def lstB (P : Program) (id : TypeId) (t : Ty) : Bool :=
  match P.underlying id with
  | some (.slice e) => (P.info? e).map (·.size) == some t.sz && tyB1 P e t && zeroB P e t && Nat.ble 1 t.sz && (match P.info? e with | some i => Nat.ble i.bytes t.byt | none => false)
  | _ => false
def numB (P : Program) (id : TypeId) : Bool := match P.underlying id with | some (.int .i64) => true | _ => false
def truB (P : Program) (id : TypeId) : Bool := match P.underlying id with | some .bool => true | _ => false
def cntB (P : Program) (id : TypeId) (n : Nat) : Bool := match P.underlying id with | some (.struct fs) => fs.size == n | _ => n == 0
def tyB (P : Program) (id : TypeId) (T : Ty) (n : Nat) : Bool :=
  (tyB1 P id T && cntB P id n) && zeroB P id T &&
  (match T with | .int => numB P id | .bool => truB P id | .arr m t => arrB P id m t | .lst t => lstB P id t | _ => Nat.ble 1 n) &&
  (List.range n).all fun k => match offT T (fldP n k) with | some (d, u) => foB P id k d && fldB P id k d u | none => false
def TysOk (P : Program) (T : Tys) : Prop := (T.all fun e => tyB P e.1 e.2.1 e.2.2) = true
section
variable {P : Program} {T : Tys}
theorem TysOk.at (h : TysOk P T) {id : TypeId} {t : Ty} {n : Nat} (ht : tyL T id = some (t, n)) : tyB P id t n = true := List.all_eq_true.1 h _ (tyL_mem _ _ _ ht)
theorem tyB_1 {id : TypeId} {t : Ty} {n : Nat} (h : tyB P id t n = true) : tyB1 P id t = true := by
  simp only [tyB, Bool.and_eq_true] at h; exact h.1.1.1.1
theorem tyB_cnt {id : TypeId} {t : Ty} {n : Nat} (h : tyB P id t n = true) : cntB P id n = true := by
  simp only [tyB, Bool.and_eq_true] at h; exact h.1.1.1.2
theorem tyB_zero {id : TypeId} {t : Ty} {n : Nat} (h : tyB P id t n = true) : zeroB P id t = true := by
  simp only [tyB, Bool.and_eq_true] at h; exact h.1.1.2
theorem tyB_arr {id : TypeId} {m : Nat} {t : Ty} {n : Nat} (h : tyB P id (.arr m t) n = true) : arrB P id m t = true := by
  simp only [tyB, Bool.and_eq_true] at h; exact h.1.2
theorem tyB_lst {id : TypeId} {t : Ty} {n : Nat} (h : tyB P id (.lst t) n = true) : lstB P id t = true := by
  simp only [tyB, Bool.and_eq_true] at h; exact h.1.2
theorem tyB_fld {id : TypeId} {t : Ty} {n k : Nat} (h : tyB P id t n = true) (hk : k < n) : ∃ d u, offT t (fldP n k) = some (d, u) ∧ foB P id k d = true ∧ fldB P id k d u = true := by
  simp only [tyB, Bool.and_eq_true, List.all_eq_true, List.mem_range] at h
  have := h.2 k hk
  split at this
  · rename_i d u hq
    rw [Bool.and_eq_true] at this
    exact ⟨d, u, hq, this.1, this.2⟩
  · cases this
theorem zero_wok (XB : Nat → Prop) (B : Nat → Value) (F : Nat → Nat → Prop) (x : World) : ∀ t : Ty, wok XB B F x t t.zero
  | .int => trivial
  | .bool => trivial
  | .one t => zero_wok XB B F x t
  | .pair a b => ⟨zero_wok XB B F x a, zero_wok XB B F x b⟩
  | .arr n t => fun i _ => zero_wok XB B F x t
  | .lst t => ⟨trivial, Or.inl ⟨rfl, none, 0, rfl⟩⟩
theorem zero_flat (B B' : Nat → Value) : ∀ t : Ty, flat B t t.zero = flat B' t t.zero
  | .int => rfl
  | .bool => rfl
  | .one t => zero_flat B B' t
  | .pair a b => by simp only [flat, Ty.zero]; rw [zero_flat B B' a, zero_flat B B' b]
  | .arr n t => rows_congr n fun i _ => zero_flat B B' t
  | .lst t => rfl
theorem zero_run {id : TypeId} {t : Ty} (h : zeroB P id t = true) (B : Nat → Value) (x : World) : ∃ v : Value, (zeroValue id).run P x = .ok v x ∧ v.cells = (flat B t t.zero).toArray := by
  unfold zeroB at h
  split at h
  · rename_i v hv
    cases hi : P.info? id with
    | none => rw [hi] at hv; cases hv
    | some i =>
      rw [hi] at hv
      refine ⟨v, ?_, ?_⟩
      · unfold zeroValue
        simp only [typeInfo, Sem.run_bind, run_program, Result.andThen_ok, hi, Sem.run_pure]
        simp only [Option.bind_some] at hv
        rw [hv]
        rfl
      · apply Array.toList_inj.1
        rw [valsB_eq h, zero_flat _ B]
  · cases h
end

/-- Numbers and truth values. -/
def wrap64 (n : Int) : Int := (n + 9223372036854775808) % 18446744073709551616 - 9223372036854775808
theorem wrap64_eq (n : Int) : IntKind.i64.wrap n = wrap64 n := by rw [IntKind.wrap_i64]; unfold wrap64; omega
def sbin : BinOp → Int → Int → Option V
  | .add, a, b => some (.leaf .int (wrap64 (a + b)))
  | .sub, a, b => some (.leaf .int (wrap64 (a - b)))
  | .mul, a, b => some (.leaf .int (wrap64 (a * b)))
  | .and, a, b => some (.leaf .int (bits .and .i64 a b))
  | .eql, a, b => some (.leaf .bool (decide (a = b)))
  | .neq, a, b => some (.leaf .bool (!decide (a = b)))
  | .lss, a, b => some (.leaf .bool (decide (a < b)))
  | .leq, a, b => some (.leaf .bool (decide (a ≤ b)))
  | .gtr, a, b => some (.leaf .bool (decide (b < a)))
  | .geq, a, b => some (.leaf .bool (decide (b ≤ a)))
  | _, _, _ => none
theorem sbin_sound {P : Program} {op : BinOp} {t : TypeId} {a b : Int} {v : V} (h : sbin op a b = some v) (B : Nat → Value) {p q : Operand} (w : World) :
    (do eqGuard op t p q (.int .i64 a) (.int .i64 b); binOp op t (.int .i64 a) (.int .i64 b) : Sem Value).run P w = .ok (v.val B) w := by
  unfold sbin at h
  split at h <;> first | cases h | skip
  all_goals simp [go_sem, V.val, wrap64_eq]
  all_goals first | rfl | skip

end Go.Proofs.Ytjbbgpacijageaa.M
