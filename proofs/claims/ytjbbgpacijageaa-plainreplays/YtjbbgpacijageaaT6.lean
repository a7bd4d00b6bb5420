/- Operations without calls: what they do. No program is named here. -/
import Derived.Test.YtjbbgpacijageaaT5
namespace Go.Proofs.Ytjbbgpacijageaa.M
open Go.RowKit
set_option linter.unusedVariables false
set_option linter.unusedSimpArgs false

def nthD (t : Ty) (xs : List t.D) (k : Nat) : t.D := (xs[k]?).getD t.zero
def Out.val (s : SV) : Out := ⟨s, .none, 0, [], false, false⟩
def Out.rdv (s : SV) (i : Nat) : Out := ⟨s, .none, 0, [i], false, false⟩
def und : SV := .a (.raw undef)

def lenK : List V → Nat → (Nat → Prop) → Prop
  | [], n, k => k n
  | _ :: r, n, k => lenK r (n + 1) k
theorem lenK_elim : ∀ (l : List V) (n : Nat) (k : Nat → Prop), lenK l n k → k (l.length + n)
  | [], n, k, h => by rw [List.length_nil, Nat.zero_add]; exact h
  | _ :: r, n, k, h => by
    have := lenK_elim r (n + 1) k h
    rw [List.length_cons, show r.length + 1 + n = r.length + (n + 1) from by omega]
    exact this

/-- A value to be stored as one of a type. -/
def asV (ty : Ty) : AV → Option V
  | .of v => some v
  | .raw (.slice none 0 0) => match ty with | .lst u => some (.leaf (.lst u) (nilH, [])) | _ => none
  | _ => none
theorem asV_sound {ty : Ty} {s : AV} {v : V} (h : asV ty s = some v) {c : Cx} (hs : s.ok c) : s.val c.E = v.val c.E.B ∧ v.okc c := by
  unfold asV at h
  split at h
  · cases h; exact ⟨rfl, hs⟩
  · split at h
    · cases h; exact ⟨rfl, trivial, Or.inl ⟨rfl, none, 0, rfl⟩⟩
    · cases h
  · cases h

structure Tab where
  ty : Tys
  eq : List TypeId
  base : Nat := 0
  tks : List TypeId := []
  top : Bool := false
  ptrs : List TypeId := []
def inL : List Nat → Nat → Bool
  | [], _ => false
  | g' :: r, g => match Nat.beq g g' with | true => true | false => inL r g
theorem inL_mem : ∀ (l : List Nat) (g : Nat), inL l g = true → g ∈ l
  | [], _, h => by cases h
  | g' :: r, g, h => by
    unfold inL at h
    split at h
    · rename_i hb
      have := Nat.eq_of_beq_eq_true hb
      subst this; simp
    · exact List.mem_cons_of_mem _ (inL_mem r g h)
def eqOk (P : Program) (T : Tys) (id : TypeId) : Bool :=
  match tyL T id with
  | some (t, _) => eqB P 12 id t && !P.eqGuardType P.depth id
  | none => false
def ptrB (P : Program) (id : TypeId) : Bool := match P.underlying id with | some (.pointer _) => true | _ => false
structure TabOk (P : Program) (T : Tab) : Prop where
  ty : TysOk P T.ty
  eq : (T.eq.all fun id => eqOk P T.ty id) = true
  mix : P.follows .mixedOrders = true
  ptr : (T.ptrs.all fun id => ptrB P id) = true

/-- The parts of a composite, one by one. -/
def partK (n : Nat) (path : Nat → List Step) (f : Fr) : List (Nat × Operand) → V → (V → Prop) → Prop
  | [], v, k => k v
  | (i, x) :: r, v, k => match Nat.ble (i + 1) n with
    | true => match evS f x with
      | some (.a s) => match getV v (path i) with
        | some old => match asV old.ty s with
          | some new => setK (path i) v new fun v' => partK n path f r v' k
          | none => False
        | none => False
      | _ => False
    | false => False

def bopK (T : Tab) (op : BinOp) (t : TypeId) (x y : AV) (k : V → Prop) : Prop :=
  match x, y with
  | .of (.leaf .int a), .of (.leaf .int b) => match op with
    | .quo => Need (@Ne Int b 0) (k (.leaf .int (wrap64 (a.tdiv b))))
    | .rem => Need (@Ne Int b 0) (k (.leaf .int (a.tmod b)))
    | op => match sbin op a b with | some v => k v | none => False
  | .of u, .of w => match inL T.eq t with
    | true => match tyL T.ty t with
      | some (ty, _) => denK u ty fun a => denK w ty fun b => match op with
        | .eql => k (.leaf .bool (eqT ty a b))
        | .neq => k (.leaf .bool (!eqT ty a b))
        | _ => False
      | none => False
    | false => False
  | _, _ => False

def sopK (T : Tab) (o : Op) (f : Fr) (bl : List V) (k : Out → Prop) : Prop :=
  match o with
  | .move x => match evS f x with | some s => k (.val s) | none => False
  | .assign x => match evS f x with | some s => k (.val s) | none => False
  | .pick c x y => match evS f c with
    | some (.a (.of (.leaf .bool b))) => Way b (match evS f x with | some s => k (.val s) | none => False) (match evS f y with | some s => k (.val s) | none => False)
    | _ => False
  | .load t x => match evS f x with
    | some (.a (.ptr i off p u)) => match tyL T.ty t with
      | some (ty, _) => match decEq u ty with
        | .isTrue _ => match nthB bl i with
          | some b => match getV b p with | some y => k (.rdv (.a (.of y)) i) | none => False
          | none => False
        | .isFalse _ => False
      | none => False
    | some (.a (.elt t' h xs j off p u)) => match tyL T.ty t with
      | some (ty, _) => match decEq u ty with
        | .isTrue _ => match getV (.leaf t' (nthD t' xs j)) p with | some y => k (.val (.a (.of y))) | none => False
        | .isFalse _ => False
      | none => False
    | _ => False
  | .store t x y => match evS f x with
    | some (.a (.ptr i off p u)) => match tyL T.ty t with
      | some (ty, _) => match decEq u ty with
        | .isTrue _ => match evS f y with
          | some (.a s) => match asV ty s with
            | some new => match nthB bl i with
              | some b => setK p b new fun y => k ⟨und, .set i y, 0, [], false, false⟩
              | none => False
            | none => False
          | _ => False
        | .isFalse _ => False
      | none => False
    | _ => False
  | .fieldAddr t x j => match evS f x with
    | some (.a (.ptr i off p u)) => match tyL T.ty t with
      | some (ty, n) => match decEq u ty with
        | .isTrue _ => match Nat.ble (j + 1) n with
          | true => match offT ty (fldP n j) with
            | some (d, w) => appP p (fldP n j) fun p' => k (.val (.a (.ptr i (off + d) p' w)))
            | none => False
          | false => False
        | .isFalse _ => False
      | none => False
    | some (.a (.elt t' h xs q off p u)) => match tyL T.ty t with
      | some (ty, n) => match decEq u ty with
        | .isTrue _ => match Nat.ble (j + 1) n with
          | true => match offT ty (fldP n j) with
            | some (d, w) => appP p (fldP n j) fun p' => k (.val (.a (.elt t' h xs q (off + d) p' w)))
            | none => False
          | false => False
        | .isFalse _ => False
      | none => False
    | _ => False
  | .field t x j => match evS f x with
    | some (.a (.of v)) => match tyL T.ty t with
      | some (ty, n) => match decEq v.ty ty with
        | .isTrue _ => match Nat.ble (j + 1) n with
          | true => match getV v (fldP n j) with | some y => k (.val (.a (.of y))) | none => False
          | false => False
        | .isFalse _ => False
      | none => False
    | _ => False
  | .indexAddr t x y => match evS f y with
    | some (.a (.of (.leaf .int z))) => match evS f x with
      | some (.a (.ptr i off p u)) => match tyL T.ty t with
        | some (.arr n e, _) => match decEq u (.arr n e) with
          | .isTrue _ => Need ((0 : Int) ≤ z ∧ (z : Int) < (n : Int)) (appP p [.idx (Int.toNat z)] fun p' => k (.val (.a (.ptr i (off + Int.toNat z * e.sz) p' e))))
          | .isFalse _ => False
        | _ => False
      | some (.a (.of (.leaf (.lst e) v))) => match tyL T.ty t with
        | some (ty, _) => match decEq (.lst e) ty with
          | .isTrue _ => Need ((0 : Int) ≤ z ∧ (z : Int) < (v.2.length : Int)) (k (.val (.a (.elt e v.1 v.2 (Int.toNat z) 0 [] e))))
          | .isFalse _ => False
        | none => False
      | _ => False
    | _ => False
  | .index t x y => match evS f y with
    | some (.a (.of (.leaf .int z))) => match evS f x with
      | some (.a (.of v)) => match tyL T.ty t with
        | some (.arr n e, _) => match decEq v.ty (.arr n e) with
          | .isTrue _ => match getV v [.idx (Int.toNat z)] with | some w => Need ((0 : Int) ≤ z ∧ (z : Int) < (n : Int)) (k (.val (.a (.of w)))) | none => False
          | .isFalse _ => False
        | _ => False
      | _ => False
    | _ => False
  | .binOp op t x y _ => match evS f x with
    | some (.a u) => match evS f y with
      | some (.a w) => bopK T op t u w fun v => k (.val (.a (.of v)))
      | _ => False
    | _ => False
  | .unOp .not _ x => match evS f x with
    | some (.a (.of (.leaf .bool b))) => k (.val (.a (.of (.leaf .bool (!b)))))
    | _ => False
  | .box t x => match evS f x with
    | some (.a s) => match tyL T.ty t with
      | some (ty, _) => match asV ty s with
        | some v => lenK bl 0 fun n => k ⟨.a (.ptr n 0 [] v.ty), .new v, 0, [], false, false⟩
        | none => False
      | none => False
    | _ => False
  | .alloc t => match tyL T.ty t with
    | some (ty, _) => lenK bl 0 fun n => k ⟨.a (.ptr n 0 [] ty), .new (.leaf ty ty.zero), 0, [], false, false⟩
    | none => False
  | .build t parts => match tyL T.ty t with
    | some (ty, n) => match ty with
      | .arr m _ => partK m (fun i => [.idx i]) f parts.toList (.leaf ty ty.zero) fun v => k (.val (.a (.of v)))
      | _ => match Nat.ble 1 n with
        | true => partK n (fun i => fldP n i) f parts.toList (.leaf ty ty.zero) fun v => k (.val (.a (.of v)))
        | false => False
    | none => False
  | .extract x j => match evS f x with
    | some (.tup l) => match l[j]? with | some y => k (.val (.a y)) | none => False
    | _ => False
  | .nilCheck x => match evS f x with
    | some (.a (.ptr i off p u)) => k (.val (.a (.ptr i off p u)))
    | _ => False
  | _ => False

end Go.Proofs.Ytjbbgpacijageaa.M
