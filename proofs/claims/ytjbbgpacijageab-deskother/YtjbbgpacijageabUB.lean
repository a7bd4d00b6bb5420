/- Several texts in one. -/
import Derived.Test.YtjbbgpacijageabUA
import Derived.Deep.AppendSrc
import Derived.Deep.Upon
import Derived.MapKept
/- Slices of arrays, and copies into them. No program is named here. -/
namespace Go.Proofs.Ytjbbgpacijageab.M
open Go.RowKit
set_option linter.unusedVariables false
set_option linter.unusedSimpArgs false

/-- A bound of a slice: told or not. -/
def bndK (f : Fr) (x : Option Operand) (dflt : Int) (k : Int → Prop) : Prop :=
  match x with
  | none => k dflt
  | some x => match evS f x with
    | some (.a (.of (.leaf .int z))) => k z
    | _ => False
def sliceK (T : Tab) (t : TypeId) (x : Operand) (low high max : Option Operand) (f : Fr) (k : Out → Prop) : Prop :=
  match max with
  | some _ => False
  | none => match evS f x with
    | some (.a (.ptr i off p u)) => match tyL T.ty t with
      | some (.arr n e, _) => match decEq u (.arr n e) with
        | .isTrue _ => match Nat.ble n 4294967296 with
          | true => bndK f low 0 fun lo => bndK f high n fun hi => Need (0 ≤ lo ∧ lo ≤ hi ∧ hi ≤ (n : Int)) (k (.val (.a (.slc i off p n e lo.toNat (hi.toNat - lo.toNat) (n - lo.toNat)))))
          | false => False
        | .isFalse _ => False
      | _ => False
    | _ => False

def cpy {α : Type} (g : Nat → α) (lo m : Nat) (src : Nat → α) : Nat → α := fun q => if lo ≤ q ∧ q < lo + m then src (q - lo) else g q
/-- What is copied: its cells, how many, the blocks that it lies in. -/
def srcK (bl : List V) (s : AV) (e : Ty) (k : (Nat → e.D) → Nat → List Nat → Prop) : Prop :=
  match s with
  | .slc j off p n e' lo len cap => match decEq e' e with
    | .isTrue _ => match nthB bl j with
      | some b => match getV b p with
        | some y => denK y (.arr n e) fun g => k (fun q => g (lo + q)) len [j]
        | none => False
      | none => False
    | .isFalse _ => False
  | .of v => denK v (.lst e) fun d => k (fun q => nthD e d.2 q) d.2.length []
  | _ => False
def copyK (T : Tab) (c : Call) (f : Fr) (bl : List V) (k : Out → Prop) : Prop :=
  match c.args.toList with
  | [x, y] => match c.argTypes.toList with
    | [t, _] => match tyL T.ty t with
      | some (.lst e0, _) => match evS f x with
        | some (.a (.slc i off p n e lo len cap)) => match decEq e e0 with
          | .isTrue _ => match evS f y with
            | some (.a s) => srcK bl s e fun src m rd => match nthB bl i with
              | some b => match getV b p with
                | some y0 => denK y0 (.arr n e) fun g => setK p b (.leaf (.arr n e) (cpy g lo (min m len) src)) fun b' => k ⟨.a (.of (.leaf .int ((min m len : Nat) : Int))), .set i b', 0, rd, false, false⟩
                | none => False
              | none => False
            | _ => False
          | .isFalse _ => False
        | _ => False
      | _ => False
    | _ => False
  | _ => False

theorem splice_adj {α : Type} {l a b : List α} {o : Nat} (h : o + a.length + b.length ≤ l.length) : splice (splice l o a) (o + a.length) b = splice l o (a ++ b) := by
  unfold splice
  have h1 : (List.take o l ++ a).length = o + a.length := by simp; omega
  rw [List.take_append_of_le_length (by omega), List.take_of_length_le (by omega)]
  rw [List.drop_append, List.drop_of_length_le (by omega), h1, List.drop_drop]
  rw [show o + a.length + (o + a.length + b.length - (o + a.length)) = o + (a ++ b).length from by simp; omega]
  simp
theorem rows_cpy {α β : Type} {g src : Nat → α} {fl : α → List β} {s lo n : Nat} (hs : ∀ x, (fl x).length = s) : ∀ m, lo + m ≤ n → rows n (fun q => fl (cpy g lo m src q)) = splice (rows n fun q => fl (g q)) (lo * s) (rows m fun q => fl (src q))
  | 0, h => by
    have h1 : (fun q => fl (cpy g lo 0 src q)) = fun q => fl (g q) := by
      funext q
      unfold cpy
      rw [if_neg (by omega)]
    rw [h1, rows_zero]
    unfold splice
    simp
  | m + 1, h => by
    have ih := rows_cpy (g := g) (src := src) (lo := lo) (n := n) hs m (by omega)
    have h1 : (fun q => fl (cpy g lo (m + 1) src q)) = fun q => if q = lo + m then fl (src m) else fl (cpy g lo m src q) := by
      funext q
      unfold cpy
      by_cases hq : q = lo + m
      · subst hq
        rw [if_pos (by omega), if_pos rfl, Nat.add_sub_cancel_left]
      · rw [if_neg hq]
        by_cases h2 : lo ≤ q ∧ q < lo + m
        · rw [if_pos (by omega), if_pos h2]
        · rw [if_neg (by omega), if_neg h2]
    rw [h1, rows_set (hs _) n (fun i _ => hs _) (lo + m) (by omega), ih, rows_succ]
    have hl : (rows m fun q => fl (src q)).length = m * s := rows_len m (fun i _ => hs _)
    have hn : (rows n fun q => fl (g q)).length = n * s := rows_len n (fun i _ => hs _)
    rw [show (lo + m) * s = lo * s + (rows m fun q => fl (src q)).length from by rw [hl, Nat.add_mul]]
    rw [splice_adj (by
      rw [hl, hs, hn]
      have : (lo + (m + 1)) * s ≤ n * s := Nat.mul_le_mul_right _ h
      rw [Nat.add_mul, Nat.add_mul] at this
      omega)]

section
variable {P : Program} {T : Tab} {w0 : World} {F0 : Old} {nn : Nat}

theorem bndK_sound {f : Fr} {x : Option Operand} {dflt : Int} {k : Int → Prop} (h : bndK f x dflt k) : ∃ z, k z ∧ ∀ (ρ : Operand → Value) (c : Cx), (∀ y, x = some y → ∀ s, evS f y = some s → ρ y = s.val c.E ∧ s.ok c) → (x = none ∧ z = dflt) ∨ (x.map ρ = some (.int .i64 z)) := by
  unfold bndK at h
  split at h
  · exact ⟨_, h, fun ρ c _ => Or.inl ⟨rfl, rfl⟩⟩
  · rename_i y
    split at h
    · rename_i z hz
      refine ⟨z, h, fun ρ c hρ => Or.inr ?_⟩
      rw [Option.map_some, (hρ y rfl _ hz).1]
      rfl
    · exact h.elim

theorem bounds_run {n : Nat} {lo hi : Int} {low high : Option Value} (hlo : (low = none ∧ lo = 0) ∨ low = some (.int .i64 lo)) (hhi : (high = none ∧ hi = (n : Int)) ∨ high = some (.int .i64 hi)) (hb : 0 ≤ lo ∧ lo ≤ hi ∧ hi ≤ (n : Int)) (x : World) :
    (Instr.sliceBounds false n n low high none).run P x = .ok (lo.toNat, hi.toNat, n) x := by
  have hcast : ((hi.toNat : Nat) : Int) = hi := by omega
  have hbnd : ∀ (z : Int) (y : Nat) (code : BoundsCode), 0 ≤ z ∧ z ≤ (y : Int) → (Instr.sliceBound (.int .i64 z) y code).run P x = .ok z.toNat x := fun z y code hz => by
    unfold Instr.sliceBound
    simp only [asIntOf, Sem.run_bind, Sem.run_pure, Result.andThen_ok]
    rw [if_pos hz]
    rfl
  unfold Instr.sliceBounds
  rcases hhi with ⟨rfl, rfl⟩ | rfl <;> rcases hlo with ⟨rfl, rfl⟩ | rfl
  · simp
  · simp only [Sem.run_bind, Sem.run_pure, Result.andThen_ok, hbnd lo n _ ⟨by omega, by omega⟩, Int.toNat_natCast]
  · simp only [Sem.run_bind, Sem.run_pure, Result.andThen_ok, hbnd hi n _ ⟨by omega, by omega⟩]
    rfl
  · simp only [Sem.run_bind, Sem.run_pure, Result.andThen_ok, hbnd hi n _ ⟨by omega, by omega⟩, hbnd lo hi.toNat _ ⟨by omega, by omega⟩]

theorem sliceK_sound (hT : TabOk P T) {o : Oper} {t : TypeId} {x : Operand} {low high max : Option Operand} (ho : o.op = .slice t x low high max) {f : Fr} {bl : List V} {k : Out → Prop} (h : sliceK T t x low high max f k) : ∃ out, k out ∧ Does P w0 F0 o f (fun i => bl[i]?) bl.length nn out := by
  unfold sliceK at h
  split at h
  · exact h.elim
  · split at h
    · rename_i i off p u hx
      split at h
      · rename_i n e n0 hty
        split at h
        · rename_i he _
          subst he
          split at h
          · rename_i hn
            have hn' := Nat.le_of_ble_eq_true hn
            obtain ⟨lo, h1, hlo⟩ := bndK_sound h
            obtain ⟨hi, h2, hhi⟩ := bndK_sound h1
            obtain ⟨hb, h3⟩ := h2
            refine ⟨_, h3, does_val fun c ρ hw hρ _ => ?_⟩
            obtain ⟨e1, e2⟩ := hρ x (by rw [ho]; simp [Op.operands]) _ hx
            have elo := hlo ρ c (fun y hy s hs => hρ y (by rw [ho, hy]; simp [Op.operands]) s hs)
            have ehi := hhi ρ c (fun y hy s hs => hρ y (by rw [ho, hy]; simp [Op.operands]) s hs)
            obtain ⟨e3, T', e4, e5⟩ := e2
            refine ⟨?_, e3, ⟨T', e4, e5⟩, by omega, by omega, hn'⟩
            have ha := tyB_arr (hT.ty.at hty)
            unfold arrB at ha
            split at ha
            · rename_i l el hu
              simp only [Bool.and_eq_true, beq_iff_eq] at ha
              obtain ⟨⟨rfl, hs⟩, _⟩ := ha
              cases hi' : P.info? el with
              | none => rw [hi'] at hs; simp at hs
              | some inf =>
                have hsz : inf.size = e.sz := by simpa [hi'] using hs
                have e1' : ρ x = .pointer (some ⟨c.E.A i, off, none⟩) := e1
                have hbr := bounds_run (P := P) (n := l) (lo := lo) (hi := hi) (low := low.map ρ) (high := high.map ρ) (by
                  rcases elo with ⟨h, h'⟩ | h
                  · exact Or.inl ⟨by rw [h]; rfl, h'⟩
                  · exact Or.inr h) (by
                  rcases ehi with ⟨h, h'⟩ | h
                  · exact Or.inl ⟨by rw [h]; rfl, h'⟩
                  · exact Or.inr h) hb c.x
                unfold execOp
                simp only [ho, e1', Instr.sliceAt, Sem.run_bind, run_underlying hu, Result.andThen_ok, Instr.sureAddr, Sem.run_pure, Option.map_none, hbr, sizeOf, typeInfo, run_program, hi', hsz, SV.val, AV.val]
                congr 2
                congr 1
                congr 1
                by_cases hc : l = lo.toNat
                · rw [if_pos hc, if_pos (by omega)]
                · rw [if_neg hc, if_neg (by omega)]
                  unfold Addr.add
                  split
                  · rename_i h0; rw [h0]; rfl
                  · rfl
            · cases ha
          · exact h.elim
        · exact h.elim
      · exact h.elim
    · exact h.elim

theorem rows_at {α : Type} {g : Nat → List α} {s n : Nat} (h : ∀ i, i < n → (g i).length = s) {q j : Nat} (hq : q < n) (hj : j < s) : (rows n g)[q * s + j]? = (g q)[j]? := by
  rw [← rows_get n h q hq, drop_take_get hj]
theorem rows_cell {g : Nat → List Value} {s n : Nat} (h : ∀ i, i < n → (g i).length = s) {x : World} {b o : Nat} (hc : ∀ q, q < n → ∀ j, j < s → x.cell? ⟨b, o + q * s + j, none⟩ = (g q)[j]?) (k : Nat) (hk : k < n * s) : x.cell? ⟨b, o + k, none⟩ = (rows n g)[k]? := by
  have hs : 0 < s := by
    rcases Nat.eq_zero_or_pos s with h0 | h0
    · subst h0; simp at hk
    · exact h0
  have hd : k = k / s * s + k % s := by
    have := Nat.div_add_mod k s
    rw [Nat.mul_comm] at this
    omega
  have hq : k / s < n := Nat.div_lt_of_lt_mul (by rw [Nat.mul_comm]; exact hk)
  have hj : k % s < s := Nat.mod_lt _ hs
  rw [hd, rows_at h hq hj, ← hc _ hq _ hj, Nat.add_assoc]

theorem srcK_sound {bl : List V} {s : AV} {e : Ty} {k : (Nat → e.D) → Nat → List Nat → Prop} (h : srcK bl s e k) : ∃ src m rd, k src m rd ∧ ∀ (c : Cx), s.ok c → (∀ i, i ∈ rd → ∀ v, bl[i]? = some v → c.XA i ∧ c.ty i = some v.ty ∧ (∃ e, HB c.x (c.E.A i) (v.cells c.E.B).toArray e) ∧ v.okc c) →
    ∃ ad cap, s.val c.E = .slice ad m cap ∧ (∀ q, q < m → wokc c e (src q)) ∧ (m = 0 ∨ ∃ b o, ad = some ⟨b, o, none⟩ ∧ ∀ q, q < m → ∀ j, j < e.sz → c.x.cell? ⟨b, o + q * e.sz + j, none⟩ = (flat c.E.B e (src q))[j]?) := by
  unfold srcK at h
  split at h
  · rename_i i off p n e' lo len cap
    split at h
    · rename_i he _
      subst he
      split at h
      · rename_i b hb
        split at h
        · rename_i y hy
          rw [nthB_eq] at hb
          obtain ⟨g, h1, h2, h3, h4⟩ := denK_sound y (.arr n e') _ h
          refine ⟨_, _, _, h1, fun c hs ht => ?_⟩
          obtain ⟨g2, g3, ⟨ee, g4⟩, g5⟩ := ht i (by simp) b hb
          obtain ⟨k1, ⟨T', k2, k3⟩, k4, k5, k6⟩ := hs
          rw [g3] at k2
          cases k2
          obtain ⟨m1, m2, m3⟩ := getV_sound c.E.B p b y off _ hy k3
          have hgok : ∀ q, q < n → wokc c e' (g q) := fun q hq => h4 _ _ _ _ (getV_ok p b y off _ hy k3 g5) q hq
          refine ⟨_, _, rfl, fun q hq => hgok (lo + q) (by omega), ?_⟩
          by_cases hl : len = 0
          · exact Or.inl hl
          · refine Or.inr ⟨c.E.A i, off + lo * e'.sz, by rw [if_neg (by omega)], fun q hq j hj => ?_⟩
            have hlt : lo + q < n := by omega
            have hle' : (lo + q) * e'.sz + e'.sz ≤ n * e'.sz := by rw [← Nat.succ_mul]; exact Nat.mul_le_mul_right _ hlt
            have hy2 : y.cells c.E.B = rows n fun i => flat c.E.B e' (g i) := (h3 c.E.B).symm
            have hidx : off + lo * e'.sz + q * e'.sz + j = off + ((lo + q) * e'.sz + j) := by rw [Nat.add_mul]; omega
            rw [hidx, hb_cell g4, ← drop_take_get (n := (Ty.arr n e').sz) (by simp only [Ty.sz]; omega), ← m3, hy2, rows_at (fun i _ => flat_len c.E.B e' (g i)) hlt hj]
        · exact h.elim
      · exact h.elim
    · exact h.elim
  · rename_i v
    obtain ⟨d, h1, h2, h3, h4⟩ := denK_sound v (.lst e) _ h
    refine ⟨_, _, _, h1, fun c hs _ => ?_⟩
    have hw := h4 _ _ _ _ hs
    have hval : AV.val c.E (.of v) = d.1.val c.E.B := val_leaf h2 (h3 _)
    rcases hw.2 with ⟨hnil, ad, cap, hd⟩ | ⟨b, o, cap, e1, e2, e3, e4, e5, e6⟩
    · exact ⟨ad, cap, by rw [hval, hd, hnil]; rfl, fun q hq => by rw [hnil] at hq; simp at hq, Or.inl (by rw [hnil]; rfl)⟩
    · have hget : ∀ q, q < d.2.length → d.2[q]? = some (nthD e d.2 q) := fun q hq => by
        unfold nthD
        rw [List.getElem?_eq_getElem hq]
        rfl
      exact ⟨_, cap, by rw [hval, e1], fun q hq => (e6 q _ (hget q hq)).2, Or.inr ⟨b, o, rfl, fun q hq j hj => (e6 q _ (hget q hq)).1 j hj⟩⟩
  · exact h.elim

/-- One block holds something else. -/
theorem does_put {o : Oper} {f : Fr} {get : Nat → Option V} {bl : Nat} {i : Nat} {b y : V} {r : SV} {rd : List Nat} (hb : get i = some b) (hty : y.ty = b.ty)
    (h : ∀ (c : Cx) (ρ : Operand → Value), c.Wf w0 F0 → (∀ y ∈ o.op.operands, ∀ s, evS f y = some s → ρ y = s.val c.E ∧ s.ok c) → (∀ j, j ∈ rd ∨ j = i → ∀ v, get j = some v → c.XA j ∧ c.ty j = some v.ty ∧ (∃ e, HB c.x (c.E.A j) (v.cells c.E.B).toArray e) ∧ v.okc c) →
      (execOp ρ o).run P c.x = .ok (.value (r.val c.E)) (putB c.x (c.E.A i) (y.cells c.E.B).toArray) ∧ r.ok c ∧ y.okc c) : Does P w0 F0 o f get bl nn ⟨r, .set i y, 0, rd, false, false⟩ := by
  refine ⟨fun _ => rfl, ?_⟩
  intro c ρ hw hρ ht _ _
  obtain ⟨g2, g3, ⟨e, g4⟩, g5⟩ := ht i (Or.inr ⟨y, rfl⟩) b hb
  obtain ⟨hrun, hro, k5⟩ := h c ρ hw hρ (fun j hj v hv => by
    rcases hj with hj | rfl
    · exact ht j (Or.inl hj) v hv
    · exact ht j (Or.inr ⟨y, rfl⟩) v hv)
  rw [hrun]
  have hput := HB.put g4 (y.cells c.E.B).toArray
  have hne : ∀ k, k ≠ c.E.A i → (putB c.x (c.E.A i) (y.cells c.E.B).toArray).heap[k]? = c.x.heap[k]? := fun k hk => putB_ne _ _ _ hk
  have hle : c.Le (c.ext ⟨r, .set i y, 0, rd, false, false⟩ bl nn c.E (putB c.x (c.E.A i) (y.cells c.E.B).toArray)) := by
    refine ⟨fun i hi => ⟨Or.inl hi, rfl, rfl⟩, fun n hn => ⟨Or.inl hn, rfl⟩, fun _ _ h => h, fun d k hd j hj => ?_, by show _ ≤ (putB _ _ _).heap.size; rw [putB_size]; exact Nat.le_refl _⟩
    exact World.cell?_of_block (hne d fun he => hw.own i g2 k (by rw [← he]; exact hd))
  refine ⟨c.E, rfl, SV.ok_mono hle hro, fun _ _ => rfl, fun _ _ => rfl, fun _ _ h => h, fun _ _ _ h => h, fun d k hd => by rw [putB_size]; exact hw.fhi d k hd, ⟨rfl, rfl, rfl, by rw [putB_size]; exact Nat.le_refl _, fun k hk hb' => hne k fun he => hb' ⟨i, y, rfl, he⟩⟩, (fun z hz => by cases hz), fun j z hz => ?_⟩
  cases hz
  exact ⟨g2, by rw [hty]; exact g3, ⟨e, hput⟩, V.okc_mono hle k5⟩

theorem copyK_sound (hT : TabOk P T) {o : Oper} {c : Call} (ho : o.op = .call c) (hcal : c.callee = .builtin .copy) {f : Fr} {bl : List V} {k : Out → Prop} (h : copyK T c f bl k) : ∃ out, k out ∧ Does P w0 F0 o f (fun i => bl[i]?) bl.length nn out := by
  unfold copyK at h
  split at h
  · rename_i x y hargs
    split at h
    · rename_i t t2 hats
      split at h
      · rename_i e0 n0 hty
        split at h
        · rename_i i off p n e lo len cap hx
          split at h
          · rename_i he _
            subst he
            split at h
            · rename_i s hy
              obtain ⟨src, m, rd, hk, hsrc⟩ := srcK_sound h
              split at hk
              · rename_i b hb
                split at hk
                · rename_i y0 hy0
                  rw [nthB_eq] at hb
                  obtain ⟨g, h1, h2, h3, h4⟩ := denK_sound y0 (.arr n e) _ hk
                  obtain ⟨b', h5, h6, h7⟩ := setK_sound _ _ _ _ h1
                  have hargs' : c.args = #[x, y] := by apply Array.toList_inj.1; rw [hargs]
                  have hats' : c.argTypes = #[t, t2] := by apply Array.toList_inj.1; rw [hats]
                  refine ⟨_, h5, does_put hb h6 fun cx ρ hw hρ ht => ?_⟩
                  obtain ⟨e1, e2⟩ := hρ x (by rw [ho]; simp [Op.operands, Call.operands, hcal, hargs']) _ hx
                  obtain ⟨e3, e4⟩ := hρ y (by rw [ho]; simp [Op.operands, Call.operands, hcal, hargs']) _ hy
                  obtain ⟨g2, g3, ⟨ee, g4⟩, g5⟩ := ht i (Or.inr rfl) b hb
                  obtain ⟨k1, ⟨T', k2, k3⟩, k4, k5, k6⟩ := e2
                  rw [g3] at k2
                  cases k2
                  obtain ⟨m1, m2, m3⟩ := getV_sound cx.E.B p b y0 off _ hy0 k3
                  obtain ⟨ad, cap', s1, s2, s3⟩ := hsrc cx e4 (fun j hj => ht j (Or.inl hj))
                  have hgok : wokc cx (.arr n e) g := h4 _ _ _ _ (getV_ok p b y0 off _ hy0 k3 g5)
                  have hnok : V.okc cx (.leaf (.arr n e) (cpy g lo (min m len) src)) := fun q hq => by
                    unfold cpy
                    split
                    · exact s2 _ (by omega)
                    · exact hgok q hq
                  obtain ⟨q1, q2, q3, q4⟩ := h7 off _ k3
                  refine ⟨?_, trivial, q4 _ _ _ _ g5 hnok⟩
                  -- the cells that are copied
                  have hrow : ∀ q, q < min m len → (flat cx.E.B e (src q)).length = e.sz := fun q _ => flat_len cx.E.B e (src q)
                  have hlenR : (rows (min m len) fun q => flat cx.E.B e (src q)).length = min m len * e.sz := rows_len _ hrow
                  have hbcell : (b.cells cx.E.B).toArray.size = b.ty.sz := by simp [V.cells_len]
                  have hle : (lo + min m len) * e.sz ≤ n * e.sz := Nat.mul_le_mul_right _ (by omega)
                  rw [Nat.add_mul] at hle
                  have m2' : off + n * e.sz ≤ b.ty.sz := m2
                  have hfirst : (Builtin.firstCells e.sz (min m len) (.slice ad m cap')).run P cx.x = .ok (rows (min m len) fun q => flat cx.E.B e (src q)).toArray cx.x := by
                    rcases s3 with rfl | ⟨bs, os, rfl, hcell⟩
                    · rw [Nat.zero_min, rows_zero]
                      cases ad with
                      | none => rfl
                      | some a =>
                        unfold Builtin.firstCells
                        rw [Nat.zero_mul]
                        rfl
                    · unfold Builtin.firstCells
                      have := run_loadCells_list (P := P) cx.x ⟨bs, os, none⟩ (rows (min m len) fun q => flat cx.E.B e (src q)) (fun j v hv => by
                        have hj : j < min m len * e.sz := by rw [← hlenR]; exact (List.getElem?_eq_some_iff.1 hv).1
                        rw [Addr.add_mid, rows_cell hrow (fun q hq j hj => hcell q (by omega) j hj) j hj]
                        exact hv)
                      rw [hlenR] at this
                      exact this
                  have hone : ∀ u ∈ (rows (min m len) fun q => flat cx.E.B e (src q)), u.oneCell' = true := fun u hu => by
                    simp only [rows, List.mem_flatMap, List.mem_range] at hu
                    obtain ⟨q, hq, hu⟩ := hu
                    exact flat_one e (src q) (s2 q (by omega)) u hu
                  have hstore : (storeCells ⟨cx.E.A i, if cap = 0 then off else off + lo * e.sz, none⟩ (rows (min m len) fun q => flat cx.E.B e (src q))).run P cx.x = .ok () (putB cx.x (cx.E.A i) (b'.cells cx.E.B).toArray) := by
                    have hcells : (b'.cells cx.E.B).toArray = sets (b.cells cx.E.B).toArray (off + lo * e.sz) (rows (min m len) fun q => flat cx.E.B e (src q)) := by
                      apply Array.toList_inj.1
                      rw [sets_splice _ _ _ (by rw [hbcell, hlenR]; omega), q3 cx.E.B]
                      show splice (b.cells cx.E.B) off (rows n fun q => flat cx.E.B e (cpy g lo (min m len) src q)) = _
                      rw [rows_cpy (fl := flat cx.E.B e) (s := e.sz) (fun z => flat_len cx.E.B e z) (min m len) (by omega)]
                      have hy2 : y0.cells cx.E.B = rows n fun i => flat cx.E.B e (g i) := (h3 cx.E.B).symm
                      rw [← hy2, m3]
                      simp only [Ty.sz]
                      rw [splice_splice (by rw [hlenR]; omega) (by rw [V.cells_len]; exact m2')]
                    by_cases hc0 : cap = 0
                    · have h0 : min m len = 0 := by omega
                      rw [hcells, h0, rows_zero]
                      have := setCells_putB [] (off + lo * e.sz) g4
                      rw [← this]
                      rfl
                    · rw [if_neg hc0, hcells]
                      have hst := run_storeCells_cells (P := P) (cx.E.A i) (off + lo * e.sz) (rows (min m len) fun q => flat cx.E.B e (src q)) 0 cx.x (fun j hj => by
                        rw [g4.cell]
                        simp [V.cells_len]
                        rw [hlenR] at hj
                        omega) (fun j hj => g4.frozen _) hone
                      rw [Nat.add_zero] at hst
                      rw [hst, setCells_putB _ _ g4]
                  have hl := tyB_lst (hT.ty.at hty)
                  unfold lstB at hl
                  split at hl
                  · rename_i el hu
                    simp only [Bool.and_eq_true, beq_iff_eq] at hl
                    obtain ⟨⟨⟨⟨hs, _⟩, _⟩, _⟩, _⟩ := hl
                    cases hi' : P.info? el with
                    | none => rw [hi'] at hs; simp at hs
                    | some inf =>
                      have hsz : inf.size = e.sz := by simpa [hi'] using hs
                      have e1' : ρ x = .slice (some ⟨cx.E.A i, if cap = 0 then off else off + lo * e.sz, none⟩) len cap := e1
                      have e3' : ρ y = .slice ad m cap' := e3.trans s1
                      unfold execOp
                      simp only [ho, resolve, hcal, hargs', hats', Sem.run_bind, Sem.run_pure, Result.andThen_ok, invoke]
                      simp only [builtin, Builtin.copy_, Sem.run_bind]
                      simp only [List.map_toArray, List.map_cons, List.map_nil, e1', e3', List.getElem?_toArray, List.getElem?_cons_zero, List.getElem?_cons_succ, Sem.run_bind, run_underlying hu, Result.andThen_ok, Builtin.lenOf, Sem.run_pure, sizeOf, typeInfo, run_program, hi', hsz]
                      rw [show Nat.min m len = min m len from rfl, hfirst]
                      simp only [Result.andThen_ok, Sem.run_bind]
                      rw [hstore]
                      rfl
                  · cases hl
                · exact hk.elim
              · exact hk.elim
            · exact h.elim
          · exact h.elim
        · exact h.elim
      · exact h.elim
    · exact h.elim
  · exact h.elim
end

end Go.Proofs.Ytjbbgpacijageab.M

/- Lists that are made: a composite, a copy. No program is named here. -/
namespace Go.Proofs.Ytjbbgpacijageab.M
open Go.RowKit
set_option linter.unusedVariables false
set_option linter.unusedSimpArgs false

section
variable {P : Program} {w0 : World} {F0 : Old} {o : Oper} {f : Fr} {get : Nat → Option V} {bl nn : Nat}

/-- A new list. -/
theorem does_list {T : Ty} {xs : List T.D} (h : ∀ (c : Cx) (ρ : Operand → Value), c.Wf w0 F0 → (∀ y ∈ o.op.operands, ∀ s, evS f y = some s → ρ y = s.val c.E ∧ s.ok c) →
    (∀ e ∈ xs, wokc c T e) ∧ ∃ v x', (execOp ρ o).run P c.x = .ok (.value v) x' ∧ Same c.x x' (fun _ => False) ∧
      ((xs = [] ∧ ∃ ad cap, v = .slice ad 0 cap) ∨ ∃ b cap, v = .slice (some ⟨b, 0, none⟩) xs.length cap ∧ xs.length ≤ cap ∧ cap ≤ maxLen ∧ c.x.heap.size ≤ b ∧ b < x'.heap.size ∧
        ∀ (i : Nat) e, xs[i]? = some e → ∀ j, j < T.sz → x'.cell? ⟨b, i * T.sz + j, none⟩ = (flat c.E.B T e)[j]?)) :
    Does P w0 F0 o f get bl nn ⟨.a (.of (.leaf (.lst T) (.nm nn, xs))), .none, 1, [], true, true⟩ := by
  refine ⟨fun h => (by cases h), ?_⟩
  intro c ρ hw hρ ht _ hq
  have hX := hq rfl
  obtain ⟨hel, v, x', hrun, hsame, hv⟩ := h c ρ hw hρ
  rw [hrun]
  let E : Env := ⟨c.E.A, fun n => if n = nn then v else c.E.B n, fun b e => c.E.F b e ∨ (c.x.heap.size ≤ b ∧ b < x'.heap.size)⟩
  have hle : c.Le (c.ext ⟨.a (.of (.leaf (.lst T) (.nm nn, xs))), .none, 1, [], true, true⟩ bl nn E x') := by
    refine ⟨fun i hi => ⟨Or.inl hi, rfl, rfl⟩, fun n hn => ⟨Or.inl hn, if_neg ?_⟩, fun _ _ h => Or.inl h, fun b e he j hj => ?_, hsame.size⟩
    · have := (hX n).1 hn; omega
    · exact World.cell?_of_block (hsame.block b (hw.fhi b e he) (fun h => h))
  have hBn : E.B nn = v := if_pos rfl
  refine ⟨E, hBn.symm, ?_, fun _ _ => rfl, fun n hn => (hle.B n hn).2, fun _ _ h => Or.inl h, fun b e hb he => ?_, fun b e he => ?_, ⟨hsame.os, hsame.tape, hsame.output, hsame.size, fun k hk _ => hsame.block k hk (fun h => h)⟩, (fun y hy => by cases hy), (fun i y hy => by cases hy)⟩
  · refine ⟨Or.inr ⟨Nat.le_refl _, Nat.lt_succ_self _⟩, ?_⟩
    rcases hv with ⟨h1, ad, cap, h2⟩ | ⟨b, cap, h1, h2, h3, h4, h5, h6⟩
    · exact Or.inl ⟨h1, ad, cap, hBn.trans h2⟩
    · refine Or.inr ⟨b, 0, cap, hBn.trans h1, h2, h3, h5, ⟨_, Nat.le_refl _, Or.inr ⟨h4, h5⟩⟩, fun i e he => ⟨fun j hj => ?_, wokc_mono hle (hel e (List.mem_of_getElem? he))⟩⟩
      show x'.cell? ⟨b, 0 + i * T.sz + j, none⟩ = (flat E.B T e)[j]?
      have hfc : flat E.B T e = flat c.E.B T e := flat_congr (fun n hn => (hle.B n hn).2) T e (hel e (List.mem_of_getElem? he))
      rw [Nat.zero_add, h6 i e he j hj, hfc]
  · rcases he with he | ⟨h1, _⟩
    · exact he
    · omega
  · rcases he with he | ⟨_, h1⟩
    · exact Nat.lt_of_lt_of_le (hw.fhi b e he) hsame.size
    · exact h1
end

theorem flatMap_get {α : Type} {g : α → List Value} {s : Nat} : ∀ (xs : List α), (∀ e ∈ xs, (g e).length = s) → ∀ i j, j < s → (xs.flatMap g)[i * s + j]? = (xs[i]?).bind fun e => (g e)[j]?
  | [], _, i, j, _ => by simp
  | e :: r, h, i, j, hj => by
    have he := h e (by simp)
    rw [List.flatMap_cons]
    cases i with
    | zero =>
      rw [List.getElem?_append_left (by omega)]
      simp
    | succ i =>
      rw [List.getElem?_append_right (by rw [he, Nat.succ_mul]; omega), he, show (i + 1) * s + j - s = i * s + j from by rw [Nat.succ_mul]; omega, flatMap_get r (fun e' he' => h e' (by simp [he'])) i j hj]
      simp
theorem flatMap_len {α : Type} {g : α → List Value} {s : Nat} : ∀ (xs : List α), (∀ e ∈ xs, (g e).length = s) → (xs.flatMap g).length = xs.length * s
  | [], _ => by simp
  | e :: r, h => by
    rw [List.flatMap_cons, List.length_append, h e (by simp), flatMap_len r (fun e' he' => h e' (by simp [he'])), List.length_cons, Nat.succ_mul]
    omega

/-- A composite of a list; append onto nil. -/
def bslK (T : Tab) (t : TypeId) (len : Nat) (parts : List (Nat × Operand)) (f : Fr) (nn : Nat) (k : Out → Prop) : Prop :=
  match tyL T.ty t with
  | some (.lst e, _) => Need (1 ≤ len ∧ len * e.sz ≤ 65536) (partK len (fun i => [.idx i]) f parts (.leaf (.arr len e) (Ty.arr len e).zero) fun v => denK v (.arr len e) fun g => k ⟨.a (.of (.leaf (.lst e) (.nm nn, ownL e g 0 len))), .none, 1, [], true, true⟩)
  | _ => False
def nilA : AV → Bool
  | .raw (.slice none 0 0) => true
  | .of (.leaf (.lst _) (.conc (.slice none 0 0), [])) => true
  | _ => false
theorem nilA_val {s : AV} (h : nilA s = true) (E : Env) : s.val E = .slice none 0 0 := by
  unfold nilA at h
  split at h
  · rfl
  · rfl
  · cases h
def emptyA : AV → Bool
  | .raw (.slice none 0 0) => true
  | .of (.leaf (.lst _) (.conc (.slice none 0 0), [])) => true
  | .emp _ => true
  | _ => false
theorem emptyA_val {s : AV} (h : emptyA s = true) (c : Cx) (hs : s.ok c) : ∃ ad, s.val c.E = .slice ad 0 0 := by
  unfold emptyA at h
  split at h
  · exact ⟨none, rfl⟩
  · exact ⟨none, rfl⟩
  · obtain ⟨_, a, l, k, hv⟩ := hs
    exact ⟨a, by simp only [AV.val, hv]⟩
  · cases h
/-- An empty list, made on the spot. -/
def bs0K (T : Tab) (t : TypeId) (parts : List (Nat × Operand)) (nn : Nat) (k : Out → Prop) : Prop :=
  match tyL T.ty t with
  | some (.lst e, _) => match parts with
    | [] => k ⟨.a (.emp (.nm nn)), .none, 1, [], true, true⟩
    | _ => False
  | _ => False
def appK (T : Tab) (c : Call) (f : Fr) (nn : Nat) (k : Out → Prop) : Prop :=
  match c.args.toList with
  | [x, y] => match c.argTypes.toList with
    | [t, u] => match tyL T.ty t with
      | some (.lst e, _) => match Nat.beq u t with
        | true => match evS f x with
          | some (.a s) => match emptyA s with
            | true => match evS f y with
              | some (.a (.of v)) => denK v (.lst e) fun d => Need (d.2.length ≤ 140737488355328 ∧ d.2.length * e.byt ≤ 140737488355328) (k ⟨.a (.of (.leaf (.lst e) (.nm nn, d.2))), .none, 1, [], true, true⟩)
              | some (.a (.sub t h xs lo hi)) => match decEq t e with
                | .isTrue he => Need (((he ▸ xs).drop lo |>.take (hi - lo)).length ≤ 140737488355328 ∧ ((he ▸ xs).drop lo |>.take (hi - lo)).length * e.byt ≤ 140737488355328) (k ⟨.a (.of (.leaf (.lst e) (.nm nn, (he ▸ xs).drop lo |>.take (hi - lo)))), .none, 1, [], true, true⟩)
                | .isFalse _ => False
              | _ => False
            | false => False
          | _ => False
        | false => False
      | _ => False
    | _ => False
  | _ => False

section
variable {P : Program} {w0 : World} {F0 : Old}
theorem lst_info {id : TypeId} {t : Ty} (h : lstB P id t = true) : ∃ e i z, P.underlying id = some (.slice e) ∧ P.info? e = some i ∧ i.size = t.sz ∧ 1 ≤ t.sz ∧ i.zero = some z ∧ zeroB P e t = true ∧ i.bytes ≤ t.byt := by
  unfold lstB at h
  split at h
  · rename_i e hu
    simp only [Bool.and_eq_true, beq_iff_eq] at h
    obtain ⟨⟨⟨⟨h1, h2⟩, h3⟩, h4⟩, h5⟩ := h
    cases hi : P.info? e with
    | none => rw [hi] at h1; simp at h1
    | some i =>
      have hz := h3
      unfold zeroB at hz
      rw [hi] at hz h5
      simp only [Option.bind_some] at hz
      split at hz
      · rename_i z hzz
        exact ⟨e, i, z, hu, hi, by simpa [hi] using h1, Nat.le_of_ble_eq_true h4, hzz, h3, Nat.le_of_ble_eq_true h5⟩
      · cases hz
  · cases h

/-- A part of a list, as a list. -/
theorem sub_wok {cx : Cx} {e : Ty} {hd : Hd} {xs : List e.D} {lo hi : Nat} {v : Value} (e3 : v = SV.val cx.E (.a (.sub e hd xs lo hi))) (e4 : SV.ok cx (.a (.sub e hd xs lo hi))) : wokc cx (.lst e) (.conc v, (xs.drop lo).take (hi - lo)) := by
  obtain ⟨hwk, hlo, hhi⟩ := e4
  have hlen : ((xs.drop lo).take (hi - lo)).length = hi - lo := by simp; omega
  refine ⟨trivial, ?_⟩
  rcases hwk.2 with ⟨g1, ad, cap, g2⟩ | ⟨b, o', cap, g1, g2, g3, g4, ⟨fe, g5, g6⟩, g7⟩
  · have g1 : xs = [] := g1
    have g2 : hd.val cx.E.B = .slice ad 0 cap := g2
    have hv : v = .slice (if cap = lo then ad else ad.map (·.add (lo * e.sz))) (hi - lo) (cap - lo) := by rw [e3]; simp only [SV.val, AV.val, g2]
    have h0 : hi - lo = 0 := by rw [g1] at hhi; simp at hhi; omega
    refine Or.inl ⟨by rw [g1]; simp, (if cap = lo then ad else ad.map (·.add (lo * e.sz))), cap - lo, ?_⟩
    show v = _
    rw [hv, h0]
  · have g1 : hd.val cx.E.B = .slice (some ⟨b, o', none⟩) xs.length cap := g1
    have g2 : xs.length ≤ cap := g2
    have hv : v = .slice (if cap = lo then some ⟨b, o', none⟩ else (some (⟨b, o', none⟩ : Addr)).map (·.add (lo * e.sz))) (hi - lo) (cap - lo) := by rw [e3]; simp only [SV.val, AV.val, g1]
    by_cases h0 : hi - lo = 0
    · refine Or.inl ⟨List.length_eq_zero_iff.1 (by rw [hlen]; exact h0), (if cap = lo then some ⟨b, o', none⟩ else (some (⟨b, o', none⟩ : Addr)).map (·.add (lo * e.sz))), cap - lo, ?_⟩
      show v = _
      rw [hv, h0]
    · have hmul : lo * e.sz + (hi - lo) * e.sz ≤ xs.length * e.sz := by rw [← Nat.add_mul]; exact Nat.mul_le_mul_right _ (by omega)
      have g5 : o' + xs.length * e.sz ≤ fe := g5
      refine Or.inr ⟨b, o' + lo * e.sz, cap - lo, ?_, by show ((xs.drop lo).take (hi - lo)).length ≤ _; rw [hlen]; omega, by omega, g4, ⟨fe, ?_, g6⟩, fun j y hj => ?_⟩
      · show v = .slice _ ((xs.drop lo).take (hi - lo)).length _
        rw [hv, hlen, if_neg (by omega), Option.map_some, Addr.add_mid]
      · show o' + lo * e.sz + ((xs.drop lo).take (hi - lo)).length * e.sz ≤ fe
        rw [hlen]; omega
      · have hj' : xs[lo + j]? = some y := by
          have hj : ((xs.drop lo).take (hi - lo))[j]? = some y := hj
          rw [List.getElem?_take] at hj
          split at hj
          · rw [List.getElem?_drop] at hj; exact hj
          · cases hj
        obtain ⟨k1, k2⟩ := g7 _ y hj'
        refine ⟨fun q hq' => ?_, k2⟩
        rw [← k1 q hq']
        congr 2
        rw [Nat.add_mul]; omega
theorem appK_sound {T : Tab} (hT : TabOk P T) {o : Oper} {c : Call} (ho : o.op = .call c) (hc : c.callee = .builtin .append) {f : Fr} {get : Nat → Option V} {bl nn : Nat} {k : Out → Prop} (h : appK T c f nn k) : ∃ out, k out ∧ Does P w0 F0 o f get bl nn out := by
  unfold appK at h
  split at h
  · rename_i x y hxy
    split at h
    · rename_i t u htu
      split at h
      · rename_i e n0 hty
        split at h
        · rename_i hu0
          obtain rfl : u = t := Nat.eq_of_beq_eq_true hu0
          split at h
          · rename_i s hs
            split at h
            · rename_i hnil
              have main : ∀ (ys : List e.D), (ys.length ≤ 140737488355328 ∧ ys.length * e.byt ≤ 140737488355328) → (∀ (cx : Cx) (ρ : Operand → Value), (∀ s, evS f y = some s → ρ y = s.val cx.E ∧ s.ok cx) → ∃ hd : Hd, ρ y = hd.val cx.E.B ∧ wokc cx (.lst e) (hd, ys)) → Does P w0 F0 o f get bl nn ⟨.a (.of (.leaf (.lst e) (.nm nn, ys))), .none, 1, [], true, true⟩ := by
                intro ys hb hyy
                refine does_list fun cx ρ hw hρ => ?_
                have hargs : c.args = #[x, y] := by apply Array.toList_inj.1; rw [hxy]
                have hats : c.argTypes = #[u, u] := by apply Array.toList_inj.1; rw [htu]
                obtain ⟨e1, e2⟩ := hρ x (by rw [ho]; simp [Op.operands, Call.operands, hc, hargs]) _ hs
                obtain ⟨ad0, hx0⟩ := emptyA_val hnil cx e2
                have hx : ρ x = .slice ad0 0 0 := by rw [e1]; exact hx0
                obtain ⟨hd1, hyv, hwok⟩ := hyy cx ρ (fun s hs => hρ y (by rw [ho]; simp [Op.operands, Call.operands, hc, hargs]) s hs)
                obtain ⟨d, hd, hd2⟩ : ∃ d : Hd × List e.D, d = (hd1, ys) ∧ d.2 = ys := ⟨_, rfl, rfl⟩
                have hyv : ρ y = d.1.val cx.E.B := by rw [hd]; exact hyv
                have hwok : wokc cx (.lst e) d := by rw [hd]; exact hwok
                rw [← hd2] at hb ⊢
                obtain ⟨el, i, z, u1, u2, u3, u4, u5, u6, u7⟩ := lst_info (tyB_lst (hT.ty.at hty))
                have hu' := u1
                have hrun : ∀ (v' : Value) (x' : World), (Builtin.append_ #[u, u] o.type #[ρ x, ρ y]).run P cx.x = .ok v' x' → (execOp ρ o).run P cx.x = .ok (.value v') x' := fun v' x' hr => by
                  unfold execOp
                  simp only [ho, resolve, hc, invoke, builtin, Sem.run_bind, Sem.run_pure, Result.andThen_ok, hargs, hats, List.map_toArray, List.map_cons, List.map_nil, hr]
                obtain ⟨_, hd⟩ := hwok
                rcases hd with ⟨hnl, ad, cap, hdv⟩ | ⟨b, o', cap, hdv, c1, c2, c3, c4, c5⟩
                · refine ⟨fun e' he' => (by rw [hnl] at he'; cases he'), .slice ad0 0 0, cx.x, hrun _ _ ?_, same_refl _ _, Or.inl ⟨hnl, ad0, 0, rfl⟩⟩
                  rw [hx, hyv, hdv]
                  have hsrc : Src P i.size u (.slice ad 0 cap) 0 [] cx.x := by
                    cases ad with
                    | none => exact Src.ofNil cx.x hu' cap
                    | some a => exact Src.ofSlice cx.x hu' a 0 cap [] (by simp) (by simp) (by simp)
                  exact run_append_nothing cx.x _ _ _ _ i u1 u2 ad0 0 0 (Nat.le_refl _) _ hsrc
                · by_cases h0 : d.2 = []
                  · refine ⟨fun e' he' => (by rw [h0] at he'; cases he'), .slice ad0 0 0, cx.x, hrun _ _ ?_, same_refl _ _, Or.inl ⟨h0, ad0, 0, rfl⟩⟩
                    rw [hx, hyv, hdv]
                    have hl0 : d.2.length = 0 := by rw [h0]; rfl
                    rw [hl0]
                    exact run_append_nothing cx.x _ _ _ _ i u1 u2 ad0 0 0 (Nat.le_refl _) _ (Src.ofSlice cx.x hu' _ 0 cap [] (by simp) (by simp) (by simp))
                  · have hpos : 0 < d.2.length := List.length_pos_iff.2 h0
                    have hmul := hb.1
                    have hb := hb.2
                    have hfl : ∀ e' ∈ d.2, (flat cx.E.B e e').length = e.sz := fun e' _ => flat_len _ _ _
                    have hlen : (d.2.flatMap (flat cx.E.B e)).length = d.2.length * e.sz := flatMap_len _ hfl
                    have hcell : ∀ j u, (d.2.flatMap (flat cx.E.B e))[j]? = some u → cx.x.cell? ((⟨b, o', none⟩ : Addr).add j) = some u := fun j w hj => by
                      have hj' : j = (j / e.sz) * e.sz + j % e.sz := by rw [Nat.mul_comm]; exact (Nat.div_add_mod j e.sz).symm
                      have hm : j % e.sz < e.sz := Nat.mod_lt _ (by omega)
                      rw [hj', flatMap_get _ hfl _ _ hm] at hj
                      cases hq : d.2[j / e.sz]? with
                      | none => rw [hq] at hj; cases hj
                      | some q =>
                        rw [hq] at hj
                        have := (c5 _ q hq).1 _ hm
                        rw [Addr.add_mid, hj', ← Nat.add_assoc]
                        rw [this]
                        exact hj
                    have hby : d.2.length * i.bytes ≤ 281474976710656 := by
                      have := Nat.mul_le_mul_left d.2.length u7
                      omega
                    have hone : ∀ w ∈ d.2.flatMap (flat cx.E.B e), w.oneCell' = true := fun w hm => by
                      obtain ⟨q, hq, hm⟩ := List.mem_flatMap.1 hm
                      obtain ⟨j, hj⟩ := List.getElem?_of_mem hq
                      exact flat_one e q (c5 j q hj).2 w hm
                    have hsrc : Src P i.size u (.slice (some ⟨b, o', none⟩) d.2.length cap) d.2.length (d.2.flatMap (flat cx.E.B e)) cx.x := Src.ofSlice cx.x hu' _ _ cap _ (by rw [hlen, u3]) hcell hone
                    have hold0 : (Builtin.firstCells i.size 0 (.slice ad0 0 0)).run P cx.x.drew = .ok ([] : List Value).toArray cx.x.drew := by
                      cases ad0 with
                      | none => exact run_firstCells_none _ _ _ _ _
                      | some a => exact run_firstCells_some _ _ _ _ _ _ _ (by simp) (by simp)
                    have hr := run_append_grow_src (P := P) cx.x u u o.type el i z u1 u2 u5 ad0 0 0 [] hold0 _ d.2.length _ hsrc (by omega) (by omega) (by rw [Nat.zero_add, nextslicecap_zero hpos]; exact hby)
                    simp only [Nat.zero_add, List.nil_append] at hr
                    refine ⟨fun e' he' => ?_, .slice (some ⟨cx.x.heap.size, 0, none⟩) d.2.length (grownCap cx.x d.2.length 0 el), cx.x.drew.alloc (.cells ((d.2.flatMap (flat cx.E.B e)).toArray ++ Builtin.zeroCells z.cells (grownCap cx.x d.2.length 0 el - d.2.length)) el), hrun _ _ ?_, ?_, Or.inr ⟨cx.x.heap.size, grownCap cx.x d.2.length 0 el, rfl, grownCap_ge _ _ _ _, grownCap_le_maxLen _ _ _ _ (by unfold maxLen; omega), Nat.le_refl _, ?_, ?_⟩⟩
                    · obtain ⟨q, hq⟩ := List.getElem?_of_mem he'
                      exact (c5 q e' hq).2
                    · rw [hx, hyv, hdv]
                      exact hr
                    · exact ⟨rfl, rfl, rfl, by rw [size_alloc']; exact Nat.le_succ _, fun k hk _ => Below.heap_alloc _ _ _ hk⟩
                    · rw [size_alloc']; exact Nat.lt_succ_self _
                    · intro q e' hq j hj
                      have hblk : (cx.x.drew.alloc (.cells ((d.2.flatMap (flat cx.E.B e)).toArray ++ Builtin.zeroCells z.cells (grownCap cx.x d.2.length 0 el - d.2.length)) el)).heap[cx.x.heap.size]? = _ := heap_alloc_at cx.x.drew _
                      rw [cell_of_block hblk]
                      have hlt : q * e.sz + j < d.2.length * e.sz := by
                        have hq' : q < d.2.length := (List.getElem?_eq_some_iff.1 hq).1
                        have : q * e.sz + e.sz ≤ d.2.length * e.sz := by rw [← Nat.succ_mul]; exact Nat.mul_le_mul_right _ hq'
                        omega
                      rw [Array.getElem?_append_left (by simpa [hlen] using hlt)]
                      simp only [List.getElem?_toArray]
                      rw [flatMap_get _ hfl _ _ hj, hq]
                      rfl
              split at h
              · rename_i v hy
                obtain ⟨d, h1, h2, h3, h4⟩ := denK_sound v (.lst e) _ h
                obtain ⟨hb, h1⟩ := h1
                refine ⟨_, h1, main d.2 hb fun cx ρ hρ => ?_⟩
                obtain ⟨e3, e4⟩ := hρ _ hy
                refine ⟨d.1, ?_, h4 _ _ _ _ e4⟩
                rw [e3]
                show v.val cx.E.B = _
                rw [val_leaf h2 (h3 cx.E.B)]
                rfl
              · rename_i t' hd xs lo hi hy
                split at h
                · rename_i he _
                  subst he
                  obtain ⟨hb, h1⟩ := h
                  refine ⟨_, h1, main _ hb fun cx ρ hρ => ?_⟩
                  obtain ⟨e3, e4⟩ := hρ _ hy
                  exact ⟨.conc (ρ y), rfl, sub_wok e3 e4⟩
                · exact h.elim
              · exact h.elim
            · exact h.elim
          · exact h.elim
        · exact h.elim
      · exact h.elim
    · exact h.elim
  · exact h.elim

theorem bs0K_sound {T : Tab} (hT : TabOk P T) {o : Oper} {t : TypeId} {parts : Array (Nat × Operand)} (ho : o.op = .buildSlice t 0 parts) {f : Fr} {get : Nat → Option V} {bl nn : Nat} {k : Out → Prop} (h : bs0K T t parts.toList nn k) : ∃ out, k out ∧ Does P w0 F0 o f get bl nn out := by
  unfold bs0K at h
  split at h
  · rename_i e n0 hty
    split at h
    · rename_i hp
      have hparts : parts = #[] := by apply Array.toList_inj.1; rw [hp]
      obtain ⟨el, i, z, u1, u2, u3, u4, u5, u6, u7⟩ := lst_info (tyB_lst (hT.ty.at hty))
      refine ⟨_, h, fun h => (by cases h), ?_⟩
      intro c ρ hw hρ ht _ hq
      have hX := hq rfl
      have hrun : (execOp ρ o).run P c.x = .ok (.value (.slice (some ⟨c.x.heap.size, 0, none⟩) 0 0)) (c.x.alloc (.cells #[] el)) := by
        unfold execOp
        simp only [ho, Instr.buildSlice, Sem.run_bind, run_underlying u1, sizeOf, typeInfo, run_program, u2, Sem.run_pure, Result.andThen_ok, hparts]
        rw [if_neg (by omega : ¬ 0 * i.size > 2 ^ 24)]
        have h0 : ∀ g : Nat → Value, Array.map g (Array.range 0) = #[] := fun g => by apply Array.ext'; simp
        simp [Instr.fill, newRow, run_newObj_alloc, h0]
      rw [hrun]
      let E : Env := ⟨c.E.A, fun n => if n = nn then .slice (some ⟨c.x.heap.size, 0, none⟩) 0 0 else c.E.B n, c.E.F⟩
      have hBn : E.B nn = .slice (some ⟨c.x.heap.size, 0, none⟩) 0 0 := if_pos rfl
      have hsz : (c.x.alloc (.cells #[] el)).heap.size = c.x.heap.size + 1 := size_alloc' _ _
      refine ⟨E, ?_, ⟨Or.inr ⟨Nat.le_refl _, Nat.lt_succ_self _⟩, _, _, _, hBn⟩, fun _ _ => rfl, fun n hn => if_neg (by have := (hX n).1 hn; omega), fun _ _ h => h, fun _ _ _ h => h, fun b e he => ?_, ⟨rfl, rfl, rfl, by omega, fun k hk _ => Below.heap_alloc _ _ _ hk⟩, (fun y hy => by cases hy), (fun i y hy => by cases hy)⟩
      · show _ = (match E.B nn with | .slice a _ _ => Value.slice a 0 0 | _ => undef)
        rw [hBn]
      · have := hw.fhi b e he; omega
    · exact h.elim
  · exact h.elim
theorem rows_idx {α : Type} {g : Nat → List α} {s n : Nat} (h : ∀ i, i < n → (g i).length = s) {i j : Nat} (hi : i < n) (hj : j < s) : (rows n g)[i * s + j]? = (g i)[j]? := by
  rw [← rows_get n h i hi, List.getElem?_take, if_pos hj, List.getElem?_drop]
theorem zero_rows {B : Nat → Value} {e : Ty} {len : Nat} {zc : Array Value} (hz : zc = (flat B e e.zero).toArray) (h1 : 1 ≤ e.sz) : (Array.range (len * e.sz)).map (fun q => zc[q % zc.size]!) = (flat B (.arr len e) (Ty.arr len e).zero).toArray := by
  have hs : zc.size = e.sz := by rw [hz]; simp [flat_len]
  apply Array.ext_getElem?
  intro q
  rcases Nat.lt_or_ge q (len * e.sz) with hq | hq
  · have hq' : q = (q / e.sz) * e.sz + q % e.sz := by rw [Nat.mul_comm]; exact (Nat.div_add_mod q e.sz).symm
    have hm : q % e.sz < e.sz := Nat.mod_lt _ (by omega)
    have hd : q / e.sz < len := (Nat.div_lt_iff_lt_mul (by omega)).2 hq
    have e1 : ((flat B (.arr len e) (Ty.arr len e).zero).toArray)[q]? = (flat B e e.zero)[q % e.sz]? := by
      rw [List.getElem?_toArray]
      conv => lhs; rw [hq']
      exact rows_idx (g := fun i => flat B e ((Ty.arr len e).zero i)) (fun i _ => flat_len B e _) hd hm
    rw [e1]
    have hlt : q % e.sz < (flat B e e.zero).length := by rw [flat_len]; exact hm
    have hr : (Array.range (len * e.sz))[q]? = some q := by simp [hq]
    simp only [Array.getElem?_map, hr, Option.map_some, hs]
    rw [getElem!_pos zc (q % e.sz) (by rw [hs]; exact hm), List.getElem?_eq_getElem hlt]
    congr 1
    simp [hz]
  · rw [Array.getElem?_eq_none (by simpa using hq), Array.getElem?_eq_none (by
      have := flat_len B (.arr len e) (Ty.arr len e).zero
      simp only [Ty.sz] at this
      simpa [this] using hq)]

theorem bslK_sound {T : Tab} (hT : TabOk P T) {o : Oper} {t : TypeId} {len : Nat} {parts : Array (Nat × Operand)} (ho : o.op = .buildSlice t len parts) {f : Fr} {get : Nat → Option V} {bl nn : Nat} {k : Out → Prop} (h : bslK T t len parts.toList f nn k) : ∃ out, k out ∧ Does P w0 F0 o f get bl nn out := by
  unfold bslK at h
  split at h
  · rename_i e n0 hty
    obtain ⟨hlen, h⟩ := h
    obtain ⟨el, i, z, u1, u2, u3, u4, u5, u6, u7⟩ := lst_info (tyB_lst (hT.ty.at hty))
    obtain ⟨v', h1, h2, h3⟩ := part_sound (path := fun i => [.idx i]) (place := fun i => some (i * e.sz, e.sz)) (ty := .arr len e) (fun i hi => ⟨i * e.sz, e, ⟨hi, 0, by unfold At; exact ⟨rfl, rfl⟩, by omega⟩, rfl⟩) _ _ _ rfl h
    obtain ⟨g, hk, g2, g3, g4⟩ := denK_sound v' (.arr len e) _ h1
    refine ⟨_, hk, does_list fun c ρ hw hρ => ?_⟩
    have hops : ∀ q ∈ parts.toList, ∀ s, evS f q.2 = some s → ρ q.2 = s.val c.E ∧ s.ok c := fun q hq s hs => hρ q.2 (by
      rw [ho]
      simp only [Op.operands, List.mem_toArray, List.mem_map]
      exact ⟨q, hq, rfl⟩) s hs
    obtain ⟨p1, p2⟩ := h3 c ρ (zero_wok _ _ _ _ (.arr len e)) hops
    obtain ⟨zv, z1, z2⟩ := zero_run u6 c.E.B c.x
    have hwk : wokc c (.arr len e) g := g4 _ _ _ _ p2
    have hxl : (ownL e g 0 len).length = len := by simp [ownL]
    have hget : ∀ (q : Nat) (y : e.D), (ownL e g 0 len)[q]? = some y → q < len ∧ y = g q := fun q y hq => by
      have hlt : q < len := by rw [← hxl]; exact (List.getElem?_eq_some_iff.1 hq).1
      refine ⟨hlt, ?_⟩
      have : (ownL e g 0 len)[q]? = some (g (0 + q)) := by simp [ownL, hlt]
      rw [this, Nat.zero_add] at hq
      exact (Option.some.inj hq).symm
    refine ⟨fun y hy => ?_, .slice (some ⟨c.x.heap.size, 0, none⟩) len len, c.x.alloc (.cells (v'.cells c.E.B).toArray el), ?_, ⟨rfl, rfl, rfl, by rw [size_alloc']; exact Nat.le_succ _, fun k hk _ => Below.heap_alloc _ _ _ hk⟩, Or.inr ⟨c.x.heap.size, len, by rw [hxl], by rw [hxl]; exact Nat.le_refl _, ?_, Nat.le_refl _, by rw [size_alloc']; exact Nat.lt_succ_self _, ?_⟩⟩
    · obtain ⟨q, hq⟩ := List.getElem?_of_mem hy
      obtain ⟨hlt, rfl⟩ := hget q y hq
      exact hwk q hlt
    · have hpos : 1 ≤ len * e.sz := Nat.mul_pos hlen.1 u4
      unfold execOp
      simp only [ho, Instr.buildSlice, Sem.run_bind, run_underlying u1, sizeOf, typeInfo, run_program, u2, Sem.run_pure, Result.andThen_ok, u3]
      rw [if_neg (by omega : ¬ len * e.sz > 2 ^ 24)]
      try simp only [Sem.run_pure, Sem.run_bind, Result.andThen_ok]
      rw [if_neg (by omega : ¬ len * e.sz = 0)]
      simp only [Sem.run_bind, z1, Result.andThen_ok, Sem.run_pure, Array.toList_map]
      rw [zero_rows z2 u4]
      rw [show Instr.fill (fun i => some (i * e.sz, e.sz)) (flat c.E.B (.arr len e) (Ty.arr len e).zero).toArray (parts.toList.map fun (e : Nat × Operand) => match e with | (i, x) => (i, ρ x)) = some (v'.cells c.E.B).toArray from p1]
      simp only [newRow, Sem.run_bind, Sem.run_pure, Result.andThen_ok, run_newObj_alloc]
    · have := hlen.2
      have h2 : len ≤ len * e.sz := Nat.le_mul_of_pos_right _ (by omega)
      unfold maxLen
      omega
    · intro q y hq j hj
      obtain ⟨hlt, rfl⟩ := hget q y hq
      rw [cell_of_block (heap_alloc_at c.x _), ← g3 c.E.B, List.getElem?_toArray]
      exact rows_idx (g := fun i => flat c.E.B e (g i)) (fun i _ => flat_len c.E.B e _) hlt hj
  · exact h.elim
end

/-- A function made on the spot. -/
def capK (f : Fr) : List Operand → (List (Nat × Nat × List Step × Ty) → Prop) → Prop
  | [], k => k []
  | x :: r, k => match evS f x with
    | some (.a (.ptr i off p u)) => capK f r fun l => k ((i, off, p, u) :: l)
    | _ => False
def mkfK (fn : Fn) (first captured : List Operand) (f : Fr) (k : Out → Prop) : Prop :=
  match fn with
  | .func g => match first with
    | [] => capK f captured fun cs => k (.val (.a (.clo g cs)))
    | _ => False
  | _ => False
def nilK (T : Tab) (x : Operand) (f : Fr) (bl : List V) (k : Out → Prop) : Prop :=
  match evS f x with
  | some (.a (.clo g cs)) => k (.val (.a (.clo g cs)))
  | some (.a (.elt t h xs j off p u)) => k (.val (.a (.elt t h xs j off p u)))
  | _ => sopK T (.nilCheck x) f bl k

section
variable {P : Program} {w0 : World} {F0 : Old}
theorem capK_sound {f : Fr} : ∀ (xs : List Operand) (k : List (Nat × Nat × List Step × Ty) → Prop), capK f xs k → ∃ cs, k cs ∧ ∀ (c : Cx) (ρ : Operand → Value), (∀ y ∈ xs, ∀ s, evS f y = some s → ρ y = s.val c.E ∧ s.ok c) →
    xs.map ρ = cs.map (fun q => Value.pointer (some ⟨c.E.A q.1, q.2.1, none⟩)) ∧ ∀ q ∈ cs, c.XA q.1 ∧ ∃ t, c.ty q.1 = some t ∧ At t q.2.2.1 q.2.1 q.2.2.2
  | [], k, h => ⟨[], h, fun c ρ _ => ⟨rfl, fun q hq => by cases hq⟩⟩
  | x :: r, k, h => by
    unfold capK at h
    split at h
    · rename_i i off p u hx
      obtain ⟨cs, h1, h2⟩ := capK_sound r _ h
      refine ⟨_, h1, fun c ρ hρ => ?_⟩
      obtain ⟨e1, e2⟩ := hρ x (by simp) _ hx
      obtain ⟨e3, e4⟩ := h2 c ρ (fun y hy => hρ y (by simp [hy]))
      refine ⟨by rw [List.map_cons, e3, e1]; rfl, fun q hq => ?_⟩
      rcases List.mem_cons.1 hq with rfl | hq
      · exact e2
      · exact e4 q hq
    · exact h.elim
theorem mkfK_sound {o : Oper} {fn : Fn} {first captured : Array Operand} (ho : o.op = .makeFunc fn first captured) {f : Fr} {get : Nat → Option V} {bl nn : Nat} {k : Out → Prop} (h : mkfK fn first.toList captured.toList f k) : ∃ out, k out ∧ Does P w0 F0 o f get bl nn out := by
  unfold mkfK at h
  split at h
  · rename_i g
    split at h
    · rename_i hf
      obtain ⟨cs, h1, h2⟩ := capK_sound _ _ h
      refine ⟨_, h1, does_val fun c ρ hw hρ _ => ?_⟩
      have hfirst : first = #[] := by apply Array.toList_inj.1; rw [hf]
      obtain ⟨e1, e2⟩ := h2 c ρ (fun y hy => hρ y (by rw [ho]; simp only [Op.operands, Array.mem_append]; exact Or.inr (by simpa using hy)))
      refine ⟨?_, e2⟩
      unfold execOp
      simp only [ho, Instr.makeFunc, hfirst, Sem.run_bind, Sem.run_pure, Result.andThen_ok, SV.val, AV.val]
      have : captured.map ρ = (cs.map fun q => Value.pointer (some ⟨c.E.A q.1, q.2.1, none⟩)).toArray := by
        apply Array.toList_inj.1
        rw [Array.toList_map, e1]
      rw [this, Array.map_empty]
    · exact h.elim
  · exact h.elim
theorem elt_ptr {c : Cx} {t : Ty} {h : Hd} {xs : List t.D} {k off : Nat} {p : List Step} {u : Ty} (h2 : (AV.elt t h xs k off p u).ok c) : ∃ a, (AV.elt t h xs k off p u).val c.E = .pointer (some a) := by
  obtain ⟨hwk, hq, _⟩ := h2
  rcases hwk.2 with ⟨hnil, _⟩ | ⟨b, o', cap, f1, _⟩
  · simp at hnil
    subst hnil
    simp at hq
  · have f1' : h.val c.E.B = .slice (some ⟨b, o', none⟩) xs.length cap := f1
    exact ⟨⟨b, o' + k * t.sz + off, none⟩, by simp only [AV.val, f1']⟩
theorem nilK_sound {T : Tab} (hT : TabOk P T) {o : Oper} {x : Operand} (ho : o.op = .nilCheck x) {f : Fr} {bl : List V} {nn : Nat} {k : Out → Prop} (h : nilK T x f bl k) : ∃ out, k out ∧ Does P w0 F0 o f (fun i => bl[i]?) bl.length nn out := by
  unfold nilK at h
  split at h
  · rename_i g cs hx
    refine ⟨_, h, does_val fun c ρ hw hρ _ => ?_⟩
    obtain ⟨h1, h2⟩ := hρ x (by rw [ho]; simp [Op.operands]) _ hx
    refine ⟨?_, h2⟩
    unfold execOp
    simp only [ho, h1, SV.val, AV.val]
    rfl
  · rename_i t0 h0 xs0 k0 off0 p0 u0 hx
    refine ⟨_, h, does_val fun c ρ hw hρ _ => ?_⟩
    obtain ⟨h1, h2⟩ := hρ x (by rw [ho]; simp [Op.operands]) _ hx
    refine ⟨?_, h2⟩
    obtain ⟨ad, e1⟩ := elt_ptr h2
    unfold execOp
    simp only [ho, h1, SV.val, e1]
    rfl
  · rw [← ho] at h
    exact sopK_sound hT h
end

end Go.Proofs.Ytjbbgpacijageab.M

/- Lists of one's own: append onto them; parts of lists; the least of two; nil pointers. No program is named here. -/
namespace Go.Proofs.Ytjbbgpacijageab.M
open Go.RowKit
set_option linter.unusedVariables false
set_option linter.unusedSimpArgs false

/-- A list in a slot; an empty one without room counts as nil. -/
def lstA (e : Ty) (s : AV) (k : Hd → List e.D → Prop) : Prop :=
  match s with
  | .of v => denK v (.lst e) fun d => k d.1 d.2
  | .raw (.slice none 0 0) => k nilH []
  | .emp _ => k nilH []
  | _ => False
/-- Append onto a list of one's own: the token with that list's name is turned. -/
structure AppW (e : Ty) (h : Hd) (xs ys : List e.D) (nn : NS) (k : SV → NS → Prop) : Prop where
  ex : ∃ i, nn.tk[i]? = some (h, e.sz) ∧ (xs.length + ys.length ≤ 140737488355328 ∧ (xs.length + ys.length) * e.byt ≤ 140737488355328) ∧ k (.a (.of (.leaf (.lst e) (.nm nn.n, xs ++ ys)))) ⟨nn.n + 1, nn.tk.set i (.nm nn.n, e.sz)⟩
def isOwn (T : Tab) (o : Oper) : Bool :=
  match o.op with
  | .call c => match c.callee with
    | .builtin .append => match c.argTypes.toList with
      | [t, _] => inL T.tks t
      | _ => false
    | _ => false
  | _ => false
def ownK (T : Tab) (o : Oper) (f : Fr) (nn : NS) (k : SV → NS → Prop) : Prop :=
  match o.op with
  | .call c => match c.callee with
    | .builtin .append => match c.args.toList with
      | [x, y] => match c.argTypes.toList with
        | [t, u] => match tyL T.ty t with
          | some (.lst e, _) => match Nat.beq u t with
            | true => match evS f x with
              | some (.a s) => lstA e s fun h xs => match evS f y with
                | some (.a (.of v)) => denK v (.lst e) fun d => AppW e h xs d.2 nn k
                | some (.a (.raw (.slice none 0 0))) => AppW e h xs [] nn k
                | _ => False
              | _ => False
            | false => False
          | _ => False
        | _ => False
      | _ => False
    | _ => False
  | _ => False

section
variable {P : Program} {w0 : World} {F0 : Old}

theorem src_of {c : Cx} {e : Ty} {h : Hd} {ys : List e.D} {u el : TypeId} (hu : P.underlying u = some (.slice el)) (h1 : 1 ≤ e.sz) (hw : wokc c (.lst e) (h, ys)) : Src P e.sz u (h.val c.E.B) ys.length (ys.flatMap (flat c.E.B e)) c.x := by
  have hfl : ∀ e' ∈ ys, (flat c.E.B e e').length = e.sz := fun e' _ => flat_len _ _ _
  obtain ⟨_, hd⟩ := hw
  rcases hd with ⟨hnl, ad, cap, hdv⟩ | ⟨b, o', cap, hdv, c1, c2, c3, c4, c5⟩
  · have hnl : ys = [] := hnl
    have hdv : h.val c.E.B = .slice ad 0 cap := hdv
    subst hnl
    rw [hdv]
    cases ad with
    | none => exact Src.ofNil c.x hu cap
    | some a => exact Src.ofSlice c.x hu a 0 cap [] (by simp) (by simp) (by simp)
  · have hdv : h.val c.E.B = .slice (some ⟨b, o', none⟩) ys.length cap := hdv
    rw [hdv]
    refine Src.ofSlice c.x hu _ _ cap _ (flatMap_len _ hfl) (fun j w hj => ?_) (fun w hm => ?_)
    · have hj' : j = (j / e.sz) * e.sz + j % e.sz := by rw [Nat.mul_comm]; exact (Nat.div_add_mod j e.sz).symm
      have hm : j % e.sz < e.sz := Nat.mod_lt _ (by omega)
      rw [hj', flatMap_get _ hfl _ _ hm] at hj
      cases hq : ys[j / e.sz]? with
      | none => rw [hq] at hj; cases hj
      | some q =>
        rw [hq] at hj
        have := (c5 _ q hq).1 _ hm
        rw [Addr.add_mid, hj', ← Nat.add_assoc, this]
        exact hj
    · obtain ⟨q, hq, hm⟩ := List.mem_flatMap.1 hm
      obtain ⟨j, hj⟩ := List.getElem?_of_mem hq
      exact flat_one e q (c5 j q hj).2 w hm

/-- A list that is made, or has grown, at the end of a block that nothing else wants. -/
theorem grown {bl : List V} {nn : NS} {c : Cx} (hr : Real w0 F0 bl nn c) {x' : World} {e : Ty} {zs : List e.D} {i : Nat} {h : Hd} (hi : nn.tk[i]? = some (h, e.sz)) {b o cap : Nat} {C : Array Value} {t : TypeId}
    (hsame : Same c.x x' (fun k => k = b)) (hb0 : w0.heap.size ≤ b) (hsz1 : 1 ≤ e.sz) (hb1 : ∀ i, c.XA i → c.E.A i ≠ b) (hB : HB x' b C t) (hl : zs.length ≤ cap) (hc : cap ≤ maxLen) (hC : o + cap * e.sz ≤ C.size)
    (hF : ∀ e', c.E.F b e' → e' ≤ o + zs.length * e.sz) (hK : ∀ e', c.E.F b e' → ∀ j, j < e' → x'.cell? ⟨b, j, none⟩ = c.x.cell? ⟨b, j, none⟩) (hnm : ∀ es k, c.x.heap[b]? ≠ some (.map es k))
    (hoth : ∀ q s' j, j ≠ i → nn.tk[j]? = some (q, s') → ∀ o' l' k', q.val c.E.B = .slice (some ⟨b, o', none⟩) l' k' → (0 < s' → 0 < k' → False) ∧ (i < j → s' = 0 → l' = 0))
    (hz : ∀ (q : Nat) z, zs[q]? = some z → (∀ j, j < e.sz → x'.cell? ⟨b, o + q * e.sz + j, none⟩ = (flat c.E.B e z)[j]?) ∧ wokc c e z) :
    ∃ c', Real w0 F0 bl ⟨nn.n + 1, nn.tk.set i (.nm nn.n, e.sz)⟩ c' ∧ c.Le c' ∧ c'.E.B nn.n = .slice (some ⟨b, o, none⟩) zs.length cap ∧ wokc c' (.lst e) (.nm nn.n, zs) ∧ c'.x = x' := by
  have hX := hr.XB
  let E' : Env := ⟨c.E.A, fun n => if n = nn.n then .slice (some ⟨b, o, none⟩) zs.length cap else c.E.B n, fun d k => c.E.F d k ∨ (d = b ∧ k = o + zs.length * e.sz)⟩
  let c' : Cx := { XA := c.XA, XB := fun n => n < nn.n + 1, ty := c.ty, E := E', x := x' }
  have hBn : E'.B nn.n = .slice (some ⟨b, o, none⟩) zs.length cap := if_pos rfl
  have hBo : ∀ n, c.XB n → E'.B n = c.E.B n := fun n hn => if_neg (by have := (hX n).1 hn; omega)
  have hle : c.Le c' := by
    refine ⟨fun i hi => ⟨hi, rfl, rfl⟩, fun n hn => ⟨Nat.lt_succ_of_lt ((hX n).1 hn), hBo n hn⟩, fun _ _ h => Or.inl h, fun d k hd j hj => ?_, hsame.size⟩
    by_cases hdb : d = b
    · subst hdb
      exact hK k hd j hj
    · exact World.cell?_of_block (hsame.block d (hr.wf.fhi d k hd) hdb)
  have hbx : b < x'.heap.size := hB.lt
  have hwf : c'.Wf w0 F0 := by
    refine ⟨hr.wf.below.trans (hsame.below hr.wf.below.size fun k hk hkb => ?_), hr.wf.lo, fun i hi => Nat.lt_of_lt_of_le (hr.wf.hi i hi) hsame.size, hr.wf.inj, fun d k hd => ?_, fun i hi k hk => ?_, fun d k hd => ?_, fun n hn => ⟨Nat.lt_succ_of_lt ((hX n).1 (hr.wf.oldB n hn).1), (hBo n (hr.wf.oldB n hn).1).trans (hr.wf.oldB n hn).2⟩, hr.wf.le.trans hle⟩
    · omega
    · rcases hd with hd | ⟨rfl, _⟩
      · exact Nat.lt_of_lt_of_le (hr.wf.fhi d k hd) hsame.size
      · exact hbx
    · rcases hk with hk | ⟨hk, _⟩
      · exact hr.wf.own i hi k hk
      · exact hb1 i hi hk
    · constructor
      · rintro (h1 | ⟨h1, _⟩)
        · exact (hr.wf.old d k hd).1 h1
        · omega
      · exact fun h1 => Or.inl ((hr.wf.old d k hd).2 h1)
  have hval : ∀ q : Hd, q.ok c.XB → q.val E'.B = q.val c.E.B := fun q hq => hdVal_congr hBo hq
  refine ⟨c', ⟨hwf, hr.XA, fun n => Iff.rfl, hr.ty, fun j v hv => ?_, ?_⟩, hle, hBn, ⟨Nat.lt_succ_self _, ?_⟩, rfl⟩
  · obtain ⟨⟨t', h1⟩, h2⟩ := hr.blk j v hv
    have hXA := (hr.XA j).2 (List.getElem?_eq_some_iff.1 hv).1
    refine ⟨⟨t', ?_⟩, V.okc_mono hle h2⟩
    have hcells : v.cells E'.B = v.cells c.E.B := V.cellsc hle h2
    show HB x' (c.E.A j) (v.cells E'.B).toArray t'
    rw [hcells]
    unfold HB
    rw [hsame.block _ h1.lt (hb1 j hXA)]
    exact h1
  · have htok : ∀ q s', (q, s') ∈ nn.tk → TokOk w0 c q s' := fun q s' hq => hr.tk.ok (q, s') hq
    have hilt : i < nn.tk.length := (List.getElem?_eq_some_iff.1 hi).1
    have hme : TokOk w0 c' (.nm nn.n) e.sz := ⟨Nat.lt_succ_self _, fun _ => Or.inr (Or.inl ⟨b, o, zs.length, cap, C, t, hBn, hb0, hb1, hB, hl, hc, hC, fun e' he' => by
      rcases he' with he' | ⟨_, he'⟩
      · exact hF e' he'
      · omega⟩), fun h => by omega⟩
    have hot : ∀ j q s', j ≠ i → nn.tk[j]? = some (q, s') → TokOk w0 c' q s' := fun j q s' hj hq => by
      obtain ⟨g0, g, g'⟩ := htok q s' (List.mem_of_getElem? hq)
      refine ⟨?_, fun hs => ?_, fun hs => (g' hs).val (hval q g0) hsame.size⟩
      · cases q with
        | conc u => trivial
        | nm k => exact Nat.lt_succ_of_lt ((hX k).1 g0)
      rcases g hs with ⟨ad, g⟩ | ⟨b', o', len', cap', C', t', g1, g2, g3, g4, g5, g6, g7, g8⟩ | ⟨ms, gm, gk⟩
      · exact Or.inl ⟨ad, (hval q g0).trans g⟩
      rotate_left
      · refine Or.inr (Or.inr ⟨ms, gm, gk.mono (fun n hn => Nat.lt_succ_of_lt ((hX n).1 hn)) hBo (fun r _ g3 => g3) (fun r es k hr g3 g4 => ?_)⟩)
        show x'.heap[r]? = _
        rw [hsame.block r (Array.getElem?_eq_some_iff.1 g4).1 (fun hb => by subst hb; exact hnm es k g4)]
        exact g4
      · rcases Nat.eq_zero_or_pos cap' with h0 | h0
        · subst h0
          obtain rfl : len' = 0 := by omega
          exact Or.inl ⟨_, (hval q g0).trans g1⟩
        have hne : b' ≠ b := fun hbb => by
          subst hbb
          exact (hoth q s' j hj hq o' len' cap' g1).1 hs h0
        refine Or.inr (Or.inl ⟨b', o', len', cap', C', t', (hval q g0).trans g1, g2, g3, ?_, g5, g6, g7, fun e' he' => ?_⟩)
        · show x'.heap[b']? = _
          rw [hsame.block b' g4.lt hne]
          exact g4
        · rcases he' with he' | ⟨he', _⟩
          · exact g8 e' he'
          · exact absurd he' hne
    refine ⟨fun p hp => ?_, ?_⟩
    · obtain ⟨j, hj⟩ := List.getElem?_of_mem hp
      have hj : (nn.tk.set i (.nm nn.n, e.sz))[j]? = some p := hj
      rw [List.getElem?_set] at hj
      split at hj
      · cases hj
        exact hme
      · rename_i hne
        exact hot j p.1 p.2 (Ne.symm hne) hj
    · have hap : ∀ j q s', j ≠ i → nn.tk[j]? = some (q, s') → (i < j → Apart E'.B (.nm nn.n, e.sz) (q, s')) ∧ Apart E'.B (q, s') (.nm nn.n, e.sz) := fun j q s' hj hq => by
        have g0 := (htok q s' (List.mem_of_getElem? hq)).1
        constructor
        · intro hij _ b1 o1 l1 k1 o2 l2 k2 h1 h2 _
          have e1 : E'.B nn.n = .slice (some ⟨b1, o1, none⟩) l1 k1 := h1
          rw [hBn] at e1
          cases e1
          have e2 : q.val E'.B = .slice (some ⟨b, o2, none⟩) l2 k2 := h2
          rw [hval q g0] at e2
          obtain ⟨k3, k4⟩ := hoth q s' j hj hq _ _ _ e2
          exact ⟨k3, k4 hij⟩
        · intro z1 b1 o1 l1 k1 o2 l2 k2 h1 h2 h3
          have e1 : E'.B nn.n = .slice (some ⟨b1, o2, none⟩) l2 k2 := h2
          rw [hBn] at e1
          cases e1
          have e2 : q.val E'.B = .slice (some ⟨b, o1, none⟩) l1 k1 := h1
          rw [hval q g0] at e2
          exact ((hoth q s' j hj hq _ _ _ e2).1 z1 h3).elim
      show (nn.tk.set i (.nm nn.n, e.sz)).Pairwise (Apart E'.B)
      rw [List.pairwise_iff_getElem]
      intro j k hj hk hjk
      rw [List.length_set] at hj hk
      have hgj : nn.tk[j]? = some nn.tk[j] := List.getElem?_eq_getElem hj
      have hgk : nn.tk[k]? = some nn.tk[k] := List.getElem?_eq_getElem hk
      rw [List.getElem_set, List.getElem_set]
      by_cases hij : i = j
      · rw [if_pos hij, if_neg (by omega)]
        exact (hap k nn.tk[k].1 nn.tk[k].2 (by omega) hgk).1 (by omega)
      · rw [if_neg hij]
        by_cases hik : i = k
        · rw [if_pos hik]
          exact (hap j nn.tk[j].1 nn.tk[j].2 (by omega) hgj).2
        · rw [if_neg hik]
          have h0 := (List.pairwise_iff_getElem.1 hr.tk.ne) j k hj hk hjk
          intro z1 b1 o1 l1 k1 o2 l2 k2 h1 h2 h3
          exact h0 z1 b1 o1 l1 k1 o2 l2 k2 ((hval _ (htok _ _ (List.mem_of_getElem? hgj)).1).symm.trans h1) ((hval _ (htok _ _ (List.mem_of_getElem? hgk)).1).symm.trans h2) h3
  · refine Or.inr ⟨b, o, cap, hBn, hl, hc, hbx, ⟨_, Nat.le_refl _, Or.inr ⟨rfl, rfl⟩⟩, fun q z hq => ?_⟩
    obtain ⟨g1, g2⟩ := hz q z hq
    refine ⟨fun j hj => ?_, wokc_mono hle g2⟩
    rw [show flat c'.E.B e z = flat c.E.B e z from flat_congr hBo e z g2]
    exact g1 j hj
/-- Nothing is appended onto nothing. -/
theorem grown0 {bl : List V} {nn : NS} {c : Cx} (hr : Real w0 F0 bl nn c) {e : Ty} {i : Nat} {h : Hd} (hi : nn.tk[i]? = some (h, e.sz)) (ad : Option Addr) :
    ∃ c', Real w0 F0 bl ⟨nn.n + 1, nn.tk.set i (.nm nn.n, e.sz)⟩ c' ∧ c.Le c' ∧ c'.E.B nn.n = .slice ad 0 0 ∧ wokc c' (.lst e) (.nm nn.n, []) ∧ c'.x = c.x := by
  have hX := hr.XB
  let E' : Env := ⟨c.E.A, fun n => if n = nn.n then .slice ad 0 0 else c.E.B n, c.E.F⟩
  let c' : Cx := { XA := c.XA, XB := fun n => n < nn.n + 1, ty := c.ty, E := E', x := c.x }
  have hBn : E'.B nn.n = .slice ad 0 0 := if_pos rfl
  have hBo : ∀ n, c.XB n → E'.B n = c.E.B n := fun n hn => if_neg (by have := (hX n).1 hn; omega)
  have hle : c.Le c' := ⟨fun i hi => ⟨hi, rfl, rfl⟩, fun n hn => ⟨Nat.lt_succ_of_lt ((hX n).1 hn), hBo n hn⟩, fun _ _ h => h, fun d k hd j hj => rfl, Nat.le_refl _⟩
  have hval : ∀ q : Hd, q.ok c.XB → q.val E'.B = q.val c.E.B := fun q hq => hdVal_congr hBo hq
  have hwf : c'.Wf w0 F0 := ⟨hr.wf.below, hr.wf.lo, hr.wf.hi, hr.wf.inj, hr.wf.fhi, hr.wf.own, hr.wf.old, fun n hn => ⟨Nat.lt_succ_of_lt ((hX n).1 (hr.wf.oldB n hn).1), (hBo n (hr.wf.oldB n hn).1).trans (hr.wf.oldB n hn).2⟩, hr.wf.le.trans hle⟩
  refine ⟨c', ⟨hwf, hr.XA, fun n => Iff.rfl, hr.ty, fun j v hv => ?_, ?_⟩, hle, hBn, ⟨Nat.lt_succ_self _, Or.inl ⟨rfl, ad, 0, hBn⟩⟩, rfl⟩
  · obtain ⟨⟨t', h1⟩, h2⟩ := hr.blk j v hv
    refine ⟨⟨t', ?_⟩, V.okc_mono hle h2⟩
    have hcells : v.cells E'.B = v.cells c.E.B := V.cellsc hle h2
    show HB c.x (c.E.A j) (v.cells E'.B).toArray t'
    rw [hcells]
    exact h1
  · have htok : ∀ q s', (q, s') ∈ nn.tk → TokOk w0 c q s' := fun q s' hq => hr.tk.ok (q, s') hq
    have hilt : i < nn.tk.length := (List.getElem?_eq_some_iff.1 hi).1
    refine ⟨fun p hp => ?_, ?_⟩
    · obtain ⟨j, hj⟩ := List.getElem?_of_mem hp
      have hj : (nn.tk.set i (.nm nn.n, e.sz))[j]? = some p := hj
      rw [List.getElem?_set] at hj
      split at hj
      · cases hj
        exact ⟨Nat.lt_succ_self _, fun _ => Or.inl ⟨ad, hBn⟩, fun _ => ⟨ad, 0, 0, hBn, Or.inl rfl⟩⟩
      · obtain ⟨g0, g, g'⟩ := htok p.1 p.2 (List.mem_of_getElem? hj)
        refine ⟨?_, fun hs => ?_, fun hs => (g' hs).val (hval _ g0) (Nat.le_refl _)⟩
        · cases hp1 : p.1 with
          | conc u => trivial
          | nm k => rw [hp1] at g0; exact Nat.lt_succ_of_lt ((hX k).1 g0)
        rcases g hs with ⟨ad', g⟩ | ⟨b', o', len', cap', C', t', g1, g2⟩ | ⟨ms, gm, gk⟩
        · exact Or.inl ⟨ad', (hval _ g0).trans g⟩
        · exact Or.inr (Or.inl ⟨b', o', len', cap', C', t', (hval _ g0).trans g1, g2⟩)
        · exact Or.inr (Or.inr ⟨ms, gm, gk.mono (fun n hn => Nat.lt_succ_of_lt ((hX n).1 hn)) hBo (fun r _ g3 => g3) (fun _ _ _ _ _ h => h)⟩)
    · show (nn.tk.set i (.nm nn.n, e.sz)).Pairwise (Apart E'.B)
      rw [List.pairwise_iff_getElem]
      intro j k hj hk hjk
      rw [List.length_set] at hj hk
      have hgj : nn.tk[j]? = some nn.tk[j] := List.getElem?_eq_getElem hj
      have hgk : nn.tk[k]? = some nn.tk[k] := List.getElem?_eq_getElem hk
      rw [List.getElem_set, List.getElem_set]
      intro z1 b1 o1 l1 k1 o2 l2 k2 h1 h2 h3
      by_cases hij : i = j
      · rw [if_pos hij] at h1
        have e1 : E'.B nn.n = .slice (some ⟨b1, o1, none⟩) l1 k1 := h1
        rw [hBn] at e1
        cases e1
        omega
      · rw [if_neg hij] at h1
        by_cases hik : i = k
        · rw [if_pos hik] at h2
          have e1 : E'.B nn.n = .slice (some ⟨b1, o2, none⟩) l2 k2 := h2
          rw [hBn] at e1
          cases e1
          exact ⟨fun _ h0 => absurd h0 (Nat.lt_irrefl _), fun _ => rfl⟩
        · rw [if_neg hik] at h2
          rw [if_neg hik]
          rw [if_neg hij] at z1
          have h0 := (List.pairwise_iff_getElem.1 hr.tk.ne) j k hj hk hjk
          exact h0 z1 b1 o1 l1 k1 o2 l2 k2 ((hval _ (htok _ _ (List.mem_of_getElem? hgj)).1).symm.trans h1) ((hval _ (htok _ _ (List.mem_of_getElem? hgk)).1).symm.trans h2) h3
/-- A part of a list. -/
def subK (e : Ty) (x : Operand) (low high max : Option Operand) (f : Fr) (nn : Nat) (k : Out → Prop) : Prop :=
  match max with
  | some _ => False
  | none => match evS f x with
    | some (.a (.of v)) => denK v (.lst e) fun d => bndK f low 0 fun lo => bndK f high d.2.length fun hi => Need (0 ≤ lo ∧ lo ≤ hi ∧ hi ≤ (d.2.length : Int)) (k ⟨.a (.of (.leaf (.lst e) (.nm nn, (d.2.drop lo.toNat).take (hi.toNat - lo.toNat)))), .none, 1, [], true, true⟩)
    | _ => False
/-- The same without a name. -/
def subA (e : Ty) (x : Operand) (low high max : Option Operand) (f : Fr) (k : Out → Prop) : Prop :=
  match max with
  | some _ => False
  | none => match evS f x with
    | some (.a (.of v)) => denK v (.lst e) fun d => bndK f low 0 fun lo => bndK f high d.2.length fun hi => Need (0 ≤ lo ∧ lo ≤ hi ∧ hi ≤ (d.2.length : Int)) (k (.val (.a (.sub e d.1 d.2 lo.toNat hi.toNat))))
    | _ => False
theorem bounds_run2 {len cap : Nat} {lo hi : Int} {low high : Option Value} (hlo : (low = none ∧ lo = 0) ∨ low = some (.int .i64 lo)) (hhi : (high = none ∧ hi = (len : Int)) ∨ high = some (.int .i64 hi)) (hb : 0 ≤ lo ∧ lo ≤ hi ∧ hi ≤ (len : Int)) (hc : len ≤ cap) (x : World) :
    (Instr.sliceBounds true len cap low high none).run P x = .ok (lo.toNat, hi.toNat, cap) x := by
  have hcast : ((hi.toNat : Nat) : Int) = hi := by omega
  have hbnd : ∀ (z : Int) (y : Nat) (code : BoundsCode), 0 ≤ z ∧ z ≤ (y : Int) → (Instr.sliceBound (.int .i64 z) y code).run P x = .ok z.toNat x := fun z y code hz => by
    unfold Instr.sliceBound
    simp only [asIntOf, Sem.run_bind, Sem.run_pure, Result.andThen_ok]
    rw [if_pos hz]
    rfl
  unfold Instr.sliceBounds
  rcases hhi with ⟨rfl, rfl⟩ | rfl <;> rcases hlo with ⟨rfl, rfl⟩ | rfl
  · simp
  · simp only [Sem.run_bind, Sem.run_pure, Result.andThen_ok, hbnd lo len _ ⟨by omega, by omega⟩, Int.toNat_natCast]
  · simp only [Sem.run_bind, Sem.run_pure, Result.andThen_ok, hbnd hi cap _ ⟨by omega, by omega⟩]
    rfl
  · simp only [Sem.run_bind, Sem.run_pure, Result.andThen_ok, hbnd hi cap _ ⟨by omega, by omega⟩, hbnd lo hi.toNat _ ⟨by omega, by omega⟩]
theorem subA_sound {T : Tab} (hT : TabOk P T) {o : Oper} {t : TypeId} {x : Operand} {low high max : Option Operand} (ho : o.op = .slice t x low high max) {e : Ty} {n0 : Nat} (hty : tyL T.ty t = some (.lst e, n0)) {f : Fr} {get : Nat → Option V} {bl nn : Nat} {k : Out → Prop} (h : subA e x low high max f k) : ∃ out, k out ∧ Does P w0 F0 o f get bl nn out := by
  unfold subA at h
  split at h
  · exact h.elim
  split at h
  · rename_i v hx
    obtain ⟨d, h1, h2, h3, h4⟩ := denK_sound v (.lst e) _ h
    obtain ⟨lo, h1, hlo⟩ := bndK_sound h1
    obtain ⟨hi, h1, hhi⟩ := bndK_sound h1
    obtain ⟨hb, h5⟩ := h1
    obtain ⟨el, i, z, u1, u2, u3, u4, u5, u6, u7⟩ := lst_info (tyB_lst (hT.ty.at hty))
    refine ⟨_, h5, does_val fun c ρ hw hρ ht => ?_⟩
    obtain ⟨e1, e2⟩ := hρ x (by rw [ho]; simp [Op.operands]) _ hx
    have elo := hlo ρ c (fun y hy s hs => hρ y (by rw [ho, hy]; simp [Op.operands]) s hs)
    have ehi := hhi ρ c (fun y hy s hs => hρ y (by rw [ho, hy]; simp [Op.operands]) s hs)
    have hwk : wokc c (.lst e) d := h4 _ _ _ _ e2
    have hval : ρ x = d.1.val c.E.B := by rw [e1]; exact val_leaf h2 (h3 c.E.B)
    -- the shape of the list
    have hshape : ∃ ad cap, d.1.val c.E.B = .slice ad d.2.length cap ∧ d.2.length ≤ cap := by
      rcases hwk.2 with ⟨g1, ad, cap, g2⟩ | ⟨b, o', cap, g1, g2, _⟩
      · exact ⟨ad, cap, by rw [g1]; exact g2, by rw [g1]; exact Nat.zero_le _⟩
      · exact ⟨some ⟨b, o', none⟩, cap, g1, g2⟩
    obtain ⟨ad, cap, hsh, hcap⟩ := hshape
    have hbr := bounds_run2 (P := P) (len := d.2.length) (cap := cap) (lo := lo) (hi := hi) (low := low.map ρ) (high := high.map ρ) (by
      rcases elo with ⟨h, h'⟩ | h
      · exact Or.inl ⟨by rw [h]; rfl, h'⟩
      · exact Or.inr h) (by
      rcases ehi with ⟨h, h'⟩ | h
      · exact Or.inl ⟨by rw [h]; rfl, h'⟩
      · exact Or.inr h) hb hcap c.x
    refine ⟨?_, hwk, by omega, by omega⟩
    unfold execOp
    simp only [ho, hval, hsh, Instr.sliceAt, Instr.slice, Sem.run_bind, run_underlying u1, Result.andThen_ok, Option.map_none, hbr, sizeOf, typeInfo, run_program, u2, Sem.run_pure, u3, SV.val, AV.val]
  · exact h.elim
theorem subK_sound {T : Tab} (hT : TabOk P T) {o : Oper} {t : TypeId} {x : Operand} {low high max : Option Operand} (ho : o.op = .slice t x low high max) {e : Ty} {n0 : Nat} (hty : tyL T.ty t = some (.lst e, n0)) {f : Fr} {get : Nat → Option V} {bl nn : Nat} {k : Out → Prop} (h : subK e x low high max f nn k) : ∃ out, k out ∧ Does P w0 F0 o f get bl nn out := by
  unfold subK at h
  split at h
  · exact h.elim
  split at h
  · rename_i v hx
    obtain ⟨d, h1, h2, h3, h4⟩ := denK_sound v (.lst e) _ h
    obtain ⟨lo, h1, hlo⟩ := bndK_sound h1
    obtain ⟨hi, h1, hhi⟩ := bndK_sound h1
    obtain ⟨hb, h5⟩ := h1
    obtain ⟨el, i, z, u1, u2, u3, u4, u5, u6, u7⟩ := lst_info (tyB_lst (hT.ty.at hty))
    refine ⟨_, h5, fun h => (by cases h), ?_⟩
    intro c ρ hw hρ ht _ hq
    have hX := hq rfl
    obtain ⟨e1, e2⟩ := hρ x (by rw [ho]; simp [Op.operands]) _ hx
    have elo := hlo ρ c (fun y hy s hs => hρ y (by rw [ho, hy]; simp [Op.operands]) s hs)
    have ehi := hhi ρ c (fun y hy s hs => hρ y (by rw [ho, hy]; simp [Op.operands]) s hs)
    have hwk : wokc c (.lst e) d := h4 _ _ _ _ e2
    have hval : ρ x = d.1.val c.E.B := by rw [e1]; exact val_leaf h2 (h3 c.E.B)
    -- the shape of the list
    have hshape : ∃ ad cap, d.1.val c.E.B = .slice ad d.2.length cap ∧ d.2.length ≤ cap := by
      rcases hwk.2 with ⟨g1, ad, cap, g2⟩ | ⟨b, o', cap, g1, g2, _⟩
      · exact ⟨ad, cap, by rw [g1]; exact g2, by rw [g1]; exact Nat.zero_le _⟩
      · exact ⟨some ⟨b, o', none⟩, cap, g1, g2⟩
    obtain ⟨ad, cap, hsh, hcap⟩ := hshape
    have hbr := bounds_run2 (P := P) (len := d.2.length) (cap := cap) (lo := lo) (hi := hi) (low := low.map ρ) (high := high.map ρ) (by
      rcases elo with ⟨h, h'⟩ | h
      · exact Or.inl ⟨by rw [h]; rfl, h'⟩
      · exact Or.inr h) (by
      rcases ehi with ⟨h, h'⟩ | h
      · exact Or.inl ⟨by rw [h]; rfl, h'⟩
      · exact Or.inr h) hb hcap c.x
    let v' : Value := .slice (if cap = lo.toNat then ad else ad.map (·.add (lo.toNat * e.sz))) (hi.toNat - lo.toNat) (cap - lo.toNat)
    have hrun : (execOp ρ o).run P c.x = .ok (.value v') c.x := by
      unfold execOp
      simp only [ho, hval, hsh, Instr.sliceAt, Instr.slice, Sem.run_bind, run_underlying u1, Result.andThen_ok, Option.map_none, hbr, sizeOf, typeInfo, run_program, u2, Sem.run_pure, u3]
      rfl
    rw [hrun]
    let E : Env := ⟨c.E.A, fun n => if n = nn then v' else c.E.B n, c.E.F⟩
    have hBn : E.B nn = v' := if_pos rfl
    have hBo : ∀ n, c.XB n → E.B n = c.E.B n := fun n hn => if_neg (by have := (hX n).1 hn; omega)
    have hlen : ((d.2.drop lo.toNat).take (hi.toNat - lo.toNat)).length = hi.toNat - lo.toNat := by simp; omega
    refine ⟨E, hBn.symm, ⟨Or.inr ⟨Nat.le_refl _, Nat.lt_succ_self _⟩, ?_⟩, fun _ _ => rfl, hBo, fun _ _ h => h, fun _ _ _ h => h, hw.fhi, same_refl _ _, (fun y hy => by cases hy), (fun i y hy => by cases hy)⟩
    by_cases h0 : hi.toNat - lo.toNat = 0
    · refine Or.inl ⟨List.length_eq_zero_iff.1 (by rw [hlen]; exact h0), (if cap = lo.toNat then ad else ad.map (·.add (lo.toNat * e.sz))), cap - lo.toNat, ?_⟩
      show E.B nn = _
      rw [hBn]
      show Value.slice _ (hi.toNat - lo.toNat) _ = _
      rw [h0]
    · rcases hwk.2 with ⟨g1, _⟩ | ⟨b, o', cap', g1, g2, g3, g4, ⟨fe, g5, g6⟩, g7⟩
      · have hl0 : d.2.length = 0 := by rw [g1]; rfl
        omega
      · rw [hsh] at g1
        obtain ⟨q1, _, q3⟩ := Value.slice.inj g1
        subst q1
        subst q3
        have hmul : lo.toNat * e.sz + (hi.toNat - lo.toNat) * e.sz ≤ d.2.length * e.sz := by rw [← Nat.add_mul]; exact Nat.mul_le_mul_right _ (by omega)
        refine Or.inr ⟨b, o' + lo.toNat * e.sz, cap - lo.toNat, ?_, by rw [hlen]; omega, by omega, g4, ⟨fe, ?_, g6⟩, fun j y hj => ?_⟩
        · show E.B nn = .slice _ ((d.2.drop lo.toNat).take (hi.toNat - lo.toNat)).length _
          rw [hBn, hlen]
          show Value.slice (if cap = lo.toNat then _ else _) _ _ = _
          rw [if_neg (by omega), Option.map_some, Addr.add_mid]
        · show o' + lo.toNat * e.sz + ((d.2.drop lo.toNat).take (hi.toNat - lo.toNat)).length * e.sz ≤ fe
          rw [hlen]; omega
        · have hj' : d.2[lo.toNat + j]? = some y := by
            rw [List.getElem?_take] at hj
            split at hj
            · rw [List.getElem?_drop] at hj; exact hj
            · cases hj
          obtain ⟨k1, k2⟩ := g7 _ y hj'
          have hle : c.Le (c.ext ⟨.a (.of (.leaf (.lst e) (.nm nn, (d.2.drop lo.toNat).take (hi.toNat - lo.toNat)))), .none, 1, [], true, true⟩ bl nn E c.x) := ⟨fun i hi => ⟨Or.inl hi, rfl, rfl⟩, fun n hn => ⟨Or.inl hn, hBo n hn⟩, fun _ _ h => h, fun _ _ _ _ _ => rfl, Nat.le_refl _⟩
          refine ⟨fun q hq' => ?_, wokc_mono hle k2⟩
          show c.x.cell? _ = (flat E.B e y)[q]?
          rw [show flat E.B e y = flat c.E.B e y from flat_congr hBo e y k2, ← k1 q hq']
          congr 2
          rw [Nat.add_mul]; omega
  · exact h.elim

/-- The lesser of two. -/
def minK (c : Call) (f : Fr) (k : Out → Prop) : Prop :=
  match c.args.toList with
  | [x, y] => match evS f x with
    | some (.a (.of (.leaf .int a))) => match evS f y with
      | some (.a (.of (.leaf .int b))) => k (.val (.a (.of (.leaf .int (if (b : Int) < a then b else a)))))
      | _ => False
    | _ => False
  | _ => False
theorem minK_sound {o : Oper} {c : Call} (ho : o.op = .call c) (hc : c.callee = .builtin .min) {f : Fr} {get : Nat → Option V} {bl nn : Nat} {k : Out → Prop} (h : minK c f k) : ∃ out, k out ∧ Does P w0 F0 o f get bl nn out := by
  unfold minK at h
  split at h <;> first | exact h.elim | skip
  rename_i x y hxy
  split at h <;> first | exact h.elim | skip
  rename_i a hx
  split at h <;> first | exact h.elim | skip
  rename_i b hy
  refine ⟨_, h, does_val fun cx ρ hw hρ _ => ⟨?_, trivial⟩⟩
  have hargs : c.args = #[x, y] := by apply Array.toList_inj.1; rw [hxy]
  obtain ⟨e1, _⟩ := hρ x (by rw [ho]; simp [Op.operands, Call.operands, hc, hargs]) _ hx
  obtain ⟨e2, _⟩ := hρ y (by rw [ho]; simp [Op.operands, Call.operands, hc, hargs]) _ hy
  have e1' : ρ x = .int .i64 a := e1
  have e2' : ρ y = .int .i64 b := e2
  unfold execOp
  simp only [ho, resolve, hc, invoke, builtin, Sem.run_bind, Sem.run_pure, Result.andThen_ok, hargs, List.map_toArray, List.map_cons, List.map_nil, e1', e2', Builtin.min_, Builtin.min2, List.foldlM_cons, List.foldlM_nil]
  rfl

theorem eq_slice_nil {t e : TypeId} (h : P.underlying t = some (.slice e)) (w : World) (a : Option Addr) (l c : Nat) : (Op.equal t (.slice a l c) (.slice none 0 0)).run P w = .ok a.isNone w := by
  show (Op.equalIn (9999 + 1) t (.slice a l c) (.slice none 0 0)).run P w = _
  unfold Op.equalIn
  rw [Sem.run_bind, run_underlying h]
  cases a <;> rfl
theorem eq_ptr_nil {t e : TypeId} (h : P.underlying t = some (.pointer e)) (w : World) (a : Option Addr) : (Op.equal t (.pointer a) (.pointer none)).run P w = .ok a.isNone w := by
  show (Op.equalIn (9999 + 1) t (.pointer a) (.pointer none)).run P w = _
  unfold Op.equalIn
  rw [Sem.run_bind, run_underlying h]
  cases a <;> rfl
theorem bin_slice_nil {t e : TypeId} (h : P.underlying t = some (.slice e)) (w : World) (a : Option Addr) (l c : Nat) (x y : Operand) : (do eqGuard .eql t x y (.slice a l c) (.slice none 0 0); binOp .eql t (.slice a l c) (.slice none 0 0) : Sem Value).run P w = .ok (.bool a.isNone) w := by
  show (do pure (.bool (← Op.equal t (.slice a l c) (.slice none 0 0))) : Sem Value).run P w = _
  rw [Sem.run_bind, eq_slice_nil h]
  rfl
theorem bin_ptr_nil {t e : TypeId} (h : P.underlying t = some (.pointer e)) (w : World) (a : Option Addr) (x y : Operand) (ne : Bool) : (do eqGuard (match ne with | true => .neq | false => .eql) t x y (.pointer a) (.pointer none); binOp (match ne with | true => .neq | false => .eql) t (.pointer a) (.pointer none) : Sem Value).run P w = .ok (.bool (ne != a.isNone)) w := by
  cases ne
  · show (do pure (.bool (← Op.equal t (.pointer a) (.pointer none))) : Sem Value).run P w = _
    rw [Sem.run_bind, eq_ptr_nil h]
    cases a <;> rfl
  · show (do pure (.bool (!(← Op.equal t (.pointer a) (.pointer none)))) : Sem Value).run P w = _
    rw [Sem.run_bind, eq_ptr_nil h]
    cases a <;> rfl
/-- A pointer against nil. -/
def peqK (T : Tab) (ne : Bool) (t : TypeId) (x : Operand) (f : Fr) (k : Out → Prop) : Prop :=
  match inL T.ptrs t with
  | true => match evS f x with
    | some (.a (.ptr _ _ _ _)) => k (.val (.a (.of (.leaf .bool ne))))
    | some (.a (.elt _ _ _ _ _ _ _)) => k (.val (.a (.of (.leaf .bool ne))))
    | some (.a (.raw (.pointer none))) => k (.val (.a (.of (.leaf .bool (!ne)))))
    | _ => False
  | false => False
theorem peqK_sound {T : Tab} (hT : TabOk P T) {o : Oper} {ne : Bool} {t u : TypeId} {x : Operand} (ho : o.op = .binOp (match ne with | true => .neq | false => .eql) t x (.const (.pointer none)) u) {f : Fr} {get : Nat → Option V} {bl nn : Nat} {k : Out → Prop} (h : peqK T ne t x f k) : ∃ out, k out ∧ Does P w0 F0 o f get bl nn out := by
  unfold peqK at h
  split at h <;> first | exact h.elim | skip
  rename_i hin
  have hp := List.all_eq_true.1 hT.ptr _ (inL_mem _ _ hin)
  unfold ptrB at hp
  split at hp <;> first | (cases hp; done) | skip
  rename_i el hu
  have hc : ∀ ρ : Operand → Value, ∀ c : Cx, (∀ y ∈ o.op.operands, ∀ s, evS f y = some s → ρ y = s.val c.E ∧ s.ok c) → ρ (.const (.pointer none)) = .pointer none := fun ρ c hρ => (hρ (.const (.pointer none)) (by rw [ho]; simp [Op.operands]) _ rfl).1
  split at h <;> first | exact h.elim | skip
  · rename_i i off p u' hx
    refine ⟨_, h, does_val fun cx ρ hw hρ _ => ⟨?_, trivial⟩⟩
    obtain ⟨e1, _⟩ := hρ x (by rw [ho]; simp [Op.operands]) _ hx
    have e1' : ρ x = .pointer (some ⟨cx.E.A i, off, none⟩) := e1
    have hb := bin_ptr_nil (P := P) hu cx.x (some ⟨cx.E.A i, off, none⟩) x (.const (.pointer none)) ne
    unfold execOp
    simp only [ho, e1', hc ρ cx hρ]
    rw [Sem.run_bind]
    refine (congrArg (Result.andThen · _) hb).trans ?_
    cases ne <;> rfl
  · rename_i t0 h0 xs0 k0 off0 p0 u0 hx
    refine ⟨_, h, does_val fun cx ρ hw hρ _ => ⟨?_, trivial⟩⟩
    obtain ⟨e1, e2⟩ := hρ x (by rw [ho]; simp [Op.operands]) _ hx
    obtain ⟨ad, e1'⟩ := elt_ptr e2
    rw [show SV.val cx.E (.a (.elt t0 h0 xs0 k0 off0 p0 u0)) = AV.val cx.E (.elt t0 h0 xs0 k0 off0 p0 u0) from rfl, e1'] at e1
    have hb := bin_ptr_nil (P := P) hu cx.x (some ad) x (.const (.pointer none)) ne
    unfold execOp
    simp only [ho, e1, hc ρ cx hρ]
    rw [Sem.run_bind]
    refine (congrArg (Result.andThen · _) hb).trans ?_
    cases ne <;> rfl
  · rename_i hx
    refine ⟨_, h, does_val fun cx ρ hw hρ _ => ⟨?_, trivial⟩⟩
    obtain ⟨e1, _⟩ := hρ x (by rw [ho]; simp [Op.operands]) _ hx
    have e1' : ρ x = .pointer none := e1
    have hb := bin_ptr_nil (P := P) hu cx.x none x (.const (.pointer none)) ne
    unfold execOp
    simp only [ho, e1', hc ρ cx hρ]
    rw [Sem.run_bind]
    refine (congrArg (Result.andThen · _) hb).trans ?_
    cases ne <;> rfl

/-- A list against nil. -/
structure NilW {α : Type} (xs : List α) (k : Bool → Prop) : Prop where
  t : xs = [] → k true
  f : k false
def isNil (T : Tab) (o : Oper) : Bool :=
  match o.op with
  | .binOp .eql t _ (.const (.slice none 0 0)) _ => match tyL T.ty t with
    | some (.lst _, _) => true
    | _ => false
  | _ => false
def nilW (T : Tab) (o : Oper) (f : Fr) (k : SV → Prop) : Prop :=
  match o.op with
  | .binOp .eql t x (.const (.slice none 0 0)) _ => match tyL T.ty t with
    | some (.lst e, _) => match evS f x with
      | some (.a (.of v)) => denK v (.lst e) fun d => NilW d.2 fun b => k (.a (.of (.leaf .bool b)))
      | some (.a (.raw (.slice none 0 0))) => k (.a (.of (.leaf .bool true)))
      | _ => False
    | _ => False
  | _ => False
theorem nilW_sound {T : Tab} (hT : TabOk P T) {o : Oper} {f : Fr} {k : SV → Prop} (h : nilW T o f k) {c : Cx} {ρ : Operand → Value} (hρ : ∀ y s, evS f y = some s → ρ y = s.val c.E ∧ s.ok c) :
    ∃ b, k (.a (.of (.leaf .bool b))) ∧ (execOp ρ o).run P c.x = .ok (.value (.bool b)) c.x := by
  unfold nilW at h
  split at h <;> first | exact h.elim | skip
  rename_i t x u ho
  split at h <;> first | exact h.elim | skip
  rename_i e n0 hty
  obtain ⟨el, i, z, u1, u2, u3, u4, u5, u6, u7⟩ := lst_info (tyB_lst (hT.ty.at hty))
  have hc : ρ (.const (.slice none 0 0)) = .slice none 0 0 := (hρ (.const (.slice none 0 0)) _ rfl).1
  have hrun : ∀ ad l k', ρ x = .slice ad l k' → (execOp ρ o).run P c.x = .ok (.value (.bool ad.isNone)) c.x := fun ad l k' hx => by
    have hb := bin_slice_nil (P := P) u1 c.x ad l k' x (.const (.slice none 0 0))
    unfold execOp
    simp only [ho, hx, hc]
    rw [Sem.run_bind]
    exact (congrArg (Result.andThen · _) hb).trans rfl
  split at h <;> first | exact h.elim | skip
  · rename_i v hx
    obtain ⟨d, h1, h2, h3, h4⟩ := denK_sound v (.lst e) _ h
    obtain ⟨e1, e2⟩ := hρ x _ hx
    have hval : ρ x = d.1.val c.E.B := by rw [e1]; exact val_leaf h2 (h3 c.E.B)
    rcases (h4 _ _ _ _ e2).2 with ⟨g1, ad, cap, g2⟩ | ⟨b, o', cap, g1, _⟩
    · cases ad with
      | none => exact ⟨true, h1.t g1, hrun _ _ _ (hval.trans g2)⟩
      | some a => exact ⟨false, h1.f, hrun _ _ _ (hval.trans g2)⟩
    · exact ⟨false, h1.f, hrun _ _ _ (hval.trans g1)⟩
  · rename_i hx
    obtain ⟨e1, e2⟩ := hρ x _ hx
    exact ⟨true, h, hrun none 0 0 e1⟩
/-- An element of a slice of one's own array. -/
def idxK (T : Tab) (t : TypeId) (x y : Operand) (f : Fr) (bl : List V) (k : Out → Prop) : Prop :=
  match evS f x with
  | some (.a (.slc i off p n e lo len cap)) => match evS f y with
    | some (.a (.of (.leaf .int z))) => match tyL T.ty t with
      | some (.lst e', _) => match decEq e e' with
        | .isTrue _ => Need ((0 : Int) ≤ z ∧ (z : Int) < (len : Int)) (appP p [.idx (lo + Int.toNat z)] fun p' => k (.val (.a (.ptr i (off + (lo + Int.toNat z) * e.sz) p' e))))
        | .isFalse _ => False
      | _ => False
    | _ => False
  | _ => sopK T (.indexAddr t x y) f bl k
theorem idxK_sound {T : Tab} (hT : TabOk P T) {o : Oper} {t : TypeId} {x y : Operand} (ho : o.op = .indexAddr t x y) {f : Fr} {bl : List V} {nn : Nat} {k : Out → Prop} (h : idxK T t x y f bl k) : ∃ out, k out ∧ Does P w0 F0 o f (fun i => bl[i]?) bl.length nn out := by
  unfold idxK at h
  split at h
  · rename_i i off p n e lo len cap hx
    split at h <;> first | exact h.elim | skip
    rename_i z hy
    split at h <;> first | exact h.elim | skip
    rename_i e' n0 hty
    split at h <;> first | exact h.elim | skip
    rename_i he _
    subst he
    obtain ⟨hz, h⟩ := h
    obtain ⟨el, inf, zz, u1, u2, u3, u4, u5, u6, u7⟩ := lst_info (tyB_lst (hT.ty.at hty))
    refine ⟨_, appP_elim _ _ _ h, does_val fun c ρ hw hρ _ => ?_⟩
    obtain ⟨h1, h2⟩ := hρ x (by rw [ho]; simp [Op.operands]) _ hx
    obtain ⟨h3, _⟩ := hρ y (by rw [ho]; simp [Op.operands]) _ hy
    obtain ⟨k1, ⟨T', k2, k3⟩, k4, k5, k6⟩ := h2
    have hzn : Int.toNat z < len := (Int.toNat_lt hz.1).2 hz.2
    have hlt : lo + Int.toNat z < n := by omega
    refine ⟨?_, k1, T', k2, ?_⟩
    · have h3' : ρ y = .int .i64 z := h3
      have hc0 : cap ≠ 0 := by omega
      have h1' : ρ x = .slice (some ⟨c.E.A i, off + lo * e.sz, none⟩) len cap := by rw [h1]; simp only [SV.val, AV.val, if_neg hc0]
      unfold execOp
      simp only [ho, h1', h3', SV.val, AV.val, Instr.indexAt, asIntOf, Sem.run_bind, Sem.run_pure, Result.andThen_ok, run_underlying u1]
      rw [if_pos hz]
      simp only [sizeOf, typeInfo, Sem.run_bind, run_program, Result.andThen_ok, u2, Sem.run_pure, u3, Addr.add_mid]
      rw [show off + lo * e.sz + Int.toNat z * e.sz = off + (lo + Int.toNat z) * e.sz from by rw [Nat.add_mul]; omega]
    · refine At.append p T' off _ _ _ e k3 ⟨hlt, 0, ?_, by omega⟩
      unfold At
      exact ⟨rfl, rfl⟩
  · rw [← ho] at h
    exact sopK_sound hT h
def lenA (T : Tab) (c : Call) (f : Fr) (bl : List V) (nn : Nat) (k : Out → Prop) (S : List (Nat × Spec)) : Prop :=
  match c.args.toList with
  | [x] => match c.argTypes.toList with
    | [t] => match tyL T.ty t with
      | some (.lst _, _) => match evS f x with
        | some (.a (.slc _ _ _ _ _ _ len _)) => k (.val (.a (.of (.leaf .int (len : Int)))))
        | some (.a (.raw (.slice none 0 0))) => k (.val (.a (.of (.leaf .int 0))))
        | _ => callK T S c f bl nn k
      | _ => False
    | _ => False
  | _ => False
theorem lenA_sound {T : Tab} (hT : TabOk P T) {S : List (Nat × Spec)} (hS : SpecsOk P S) {o : Oper} {c : Call} (ho : o.op = .call c) (hc : c.callee = .builtin .len) {f : Fr} {bl : List V} {nn : Nat} {k : Out → Prop} (h : lenA T c f bl nn k S) : ∃ out, k out ∧ Does P w0 F0 o f (fun i => bl[i]?) bl.length nn out := by
  unfold lenA at h
  split at h <;> first | exact h.elim | skip
  rename_i x hx
  split at h <;> first | exact h.elim | skip
  rename_i t ht
  split at h <;> first | exact h.elim | skip
  rename_i e n0 hty
  obtain ⟨el, inf, zz, u1, u2, u3, u4, u5, u6, u7⟩ := lst_info (tyB_lst (hT.ty.at hty))
  have hargs : c.args = #[x] := by apply Array.toList_inj.1; rw [hx]
  have hats : c.argTypes = #[t] := by apply Array.toList_inj.1; rw [ht]
  have key : ∀ (ρ : Operand → Value) (cx : Cx) ad l cap, ρ x = .slice ad l cap → (execOp ρ o).run P cx.x = .ok (.value (.int .i64 (l : Int))) cx.x := fun ρ cx ad l cap hsl => by
    unfold execOp
    simp only [ho, resolve, hc, hargs, hats, Sem.run_bind, Sem.run_pure, Result.andThen_ok, invoke]
    simp only [builtin, Builtin.len_, Sem.run_bind]
    simp [hsl, run_underlying u1, goInt]
  split at h
  · rename_i i off p n e' lo len cap hv
    refine ⟨_, h, does_val fun cx ρ hw hρ _ => ⟨?_, trivial⟩⟩
    obtain ⟨h1, _⟩ := hρ x (by rw [ho]; simp [Op.operands, Call.operands, hc, hargs]) _ hv
    exact key ρ cx _ len cap h1
  · rename_i hv
    refine ⟨_, h, does_val fun cx ρ hw hρ _ => ⟨?_, trivial⟩⟩
    obtain ⟨h1, _⟩ := hρ x (by rw [ho]; simp [Op.operands, Call.operands, hc, hargs]) _ hv
    exact key ρ cx none 0 0 h1
  · exact callK_sound hT hS ho h
end
end Go.Proofs.Ytjbbgpacijageab.M

/- Maps from pairs of numbers to two numbers. No program is named here. -/
namespace Go.Proofs.Ytjbbgpacijageab.M
open Go.RowKit
set_option linter.unusedVariables false
set_option linter.unusedSimpArgs false

abbrev kT : Ty := .pair .int .int
abbrev vT : Ty := .arr 2 .int
abbrev Mp := List (kT.D × vT.D)
def kV (k : kT.D) : Value := (V.leaf kT k).val fun _ => undef
def vV (v : vT.D) : Value := (V.leaf vT v).val fun _ => undef
def encE (es : Mp) : List (Value × Value) := es.map fun p => (kV p.1, vV p.2)
def encMs (ms : List (Nat × Mp)) : List (Nat × List (Value × Value)) := ms.map fun p => (p.1, encE p.2)
/-- The token of all maps. -/
def mtok (ms : List (Nat × Mp)) : Hd × Nat := (.conc (encM (encMs ms)), 1)
def mfind (k : kT.D) : Mp → Option vT.D
  | [] => none
  | p :: r => match eqT kT k p.1 with
    | true => some p.2
    | false => mfind k r
/-- A new map. -/
structure MkW (nn : NS) (k : SV → NS → Prop) : Prop where
  ex : ∃ (i : Nat) (ms : List (Nat × Mp)), nn.tk[i]? = some (mtok ms) ∧ ((nn.tk.eraseIdx i).all fun p => p.2 != 1) = true ∧ k (.a (.of (.leaf .ref (.nm nn.n)))) ⟨nn.n + 1, nn.tk.set i (mtok (ms ++ [(nn.n, [])]))⟩
/-- What a map has. -/
structure LkW (n : Nat) (key : kT.D) (nn : NS) (k : SV → Prop) : Prop where
  ex : ∃ (i j : Nat) (ms : List (Nat × Mp)) (es : Mp), nn.tk[i]? = some (mtok ms) ∧ ms[j]? = some (n, es) ∧ k (.tup [.of (.leaf vT ((mfind key es).getD vT.zero)), .of (.leaf .bool (mfind key es).isSome)])
/-- One more in a map. -/
structure UpW (n : Nat) (key : kT.D) (val : vT.D) (nn : NS) (k : SV → NS → Prop) : Prop where
  ex : ∃ (i j : Nat) (ms : List (Nat × Mp)) (es : Mp), nn.tk[i]? = some (mtok ms) ∧ ((nn.tk.eraseIdx i).all fun p => p.2 != 1) = true ∧ ms[j]? = some (n, es) ∧ mfind key es = none ∧ k und ⟨nn.n, nn.tk.set i (mtok (ms.set j (n, es ++ [(key, val)])))⟩
def isRef (T : Tab) (t : TypeId) : Bool := match tyL T.ty t with | some (.ref, _) => true | _ => false
def isMap (T : Tab) (o : Oper) : Bool :=
  match o.op with
  | .makeMap t none => isRef T t
  | .lookup t _ _ true => isRef T t
  | .mapUpdate t _ _ _ => isRef T t
  | _ => false
def mapK (o : Oper) (f : Fr) (nn : NS) (K : SV → NS → Prop) : Prop :=
  match o.op with
  | .makeMap t none => MkW nn K
  | .lookup t x y true => match evS f x with
    | some (.a (.of (.leaf .ref (.nm n)))) => match evS f y with
      | some (.a (.of w)) => denK w kT fun key => LkW n key nn fun s => K s nn
      | _ => False
    | _ => False
  | .mapUpdate t x y z => match evS f x with
    | some (.a (.of (.leaf .ref (.nm n)))) => match evS f y with
      | some (.a (.of w)) => denK w kT fun key => match evS f z with
        | some (.a (.of u)) => denK u vT fun val => UpW n key val nn K
        | _ => False
      | _ => False
    | _ => False
  | _ => False

section
variable {P : Program}
theorem kV_eq (B : Nat → Value) (k : kT.D) : (V.leaf kT k).val B = kV k := rfl
theorem vV_eq (B : Nat → Value) (v : vT.D) : (V.leaf vT v).val B = vV v := rfl
/-- What is known of such a type. -/
structure MapTy (P : Program) (t kt et : TypeId) : Prop where
  u : P.underlying t = some (.map kt et)
  e : eqB P 12 kt kT = true
  z : ∀ x : World, (zeroValue et).run P x = .ok (vV vT.zero) x
  w : ∃ fs, P.underlying kt = some (.struct fs)
  c : ∀ (em : Bool) (k : kT.D) (x : World), (Instr.checkKey em 10000 kt (kV k)).run P x = .ok () x
theorem map_ty {t : TypeId} (h : refB P t = true) : ∃ kt et, MapTy P t kt et := by
  unfold refB at h
  split at h
  · rename_i kt et hu
    simp only [Bool.and_eq_true] at h
    obtain ⟨h1, h2, h3, h4⟩ := h
    unfold keyB at h1
    split at h1
    · rename_i fs hs
      split at h1
      · rename_i f0 f1 hf
        simp only [Bool.and_eq_true, beq_iff_eq] at h1
        obtain ⟨⟨a1, a2, a3⟩, b1, b2, b3⟩ := h1
        have hfs : fs = #[f0, f1] := by apply Array.toList_inj.1; rw [hf]
        subst hfs
        have hint : ∀ {ft : TypeId}, intB P ft = true → ∃ kd, P.underlying ft = some (.int kd) := fun {ft} hi => by
          unfold intB at hi
          split at hi
          · exact ⟨_, by assumption⟩
          · cases hi
        obtain ⟨k0, u0⟩ := hint a1
        obtain ⟨k1, u1⟩ := hint b1
        refine ⟨kt, et, hu, h2, fun x => ?_, ⟨_, hs⟩, fun em k x => ?_⟩
        · obtain ⟨v, v1, v2⟩ := zero_run h3 (fun _ => undef) x
          have hag : ∃ cs, v = .agg cs := by
            unfold aggB at h4
            unfold zeroValue at v1
            cases hi : P.info? et with
            | none => rw [hi] at h4; cases h4
            | some i =>
              rw [hi] at h4
              simp only [Option.bind_some] at h4
              simp only [typeInfo, Sem.run_bind, run_program, Result.andThen_ok, hi, Sem.run_pure] at v1
              split at h4
              · rename_i cs hz
                rw [hz] at v1
                cases v1
                exact ⟨cs, rfl⟩
              · cases h4
          obtain ⟨cs, rfl⟩ := hag
          rw [v1]
          have : cs = (flat (fun _ => undef) vT vT.zero).toArray := v2
          rw [this]
          rfl
        · have p0 : (part f0.type (flat (fun _ => undef) kT k).toArray 0).run P x = .ok (.int .i64 k.1) x := part_run (y := .leaf .int k.1) (B := fun _ => undef) a2 rfl (Nat.le_of_ble_eq_true rfl) x
          have p1 : (part f1.type (flat (fun _ => undef) kT k).toArray 1).run P x = .ok (.int .i64 k.2) x := part_run (y := .leaf .int k.2) (B := fun _ => undef) b2 rfl (Nat.le_of_ble_eq_true rfl) x
          have q0 : ∀ (e : Bool) (z : Int), (Instr.checkKey e 9999 f0.type (.int .i64 z)).run P x = .ok () x := fun e z => by
            show (Instr.checkKey e (9998 + 1) f0.type (.int .i64 z)).run P x = _
            unfold Instr.checkKey
            simp only [Sem.run_bind, run_underlying u0, Result.andThen_ok]
            rfl
          have q1 : ∀ (e : Bool) (z : Int), (Instr.checkKey e 9999 f1.type (.int .i64 z)).run P x = .ok () x := fun e z => by
            show (Instr.checkKey e (9998 + 1) f1.type (.int .i64 z)).run P x = _
            unfold Instr.checkKey
            simp only [Sem.run_bind, run_underlying u1, Result.andThen_ok]
            rfl
          show (Instr.checkKey em (9999 + 1) kt (.agg (flat (fun _ => undef) kT k).toArray)).run P x = _
          unfold Instr.checkKey
          simp only [Sem.run_bind, run_underlying hs, Result.andThen_ok]
          by_cases n0 : f0.name = "_" <;> by_cases n1 : f1.name = "_" <;> simp [n0, n1, a3, b3, p0, p1, q0, q1, Result.andThen]
      · cases h1
    · cases h1
  · cases h
theorem findKey_eq {kt : TypeId} (h : ∃ fs, P.underlying kt = some (.struct fs)) (x : Value) (w : World) (es : List MapEntry) : (Instr.findKey kt x es).run P w = (Instr.findAsking kt x es).run P w := by
  obtain ⟨fs, hu⟩ := h
  cases es with
  | nil => simp [Instr.findKey, run_underlying hu, Instr.findNow, Instr.findAsking, Result.andThen]
  | cons e es => simp [Instr.findKey, run_underlying hu, Instr.findNow, Instr.sameNow, Result.andThen]
theorem find_run {t kt et : TypeId} (h : MapTy P t kt et) (k : kT.D) (x : World) : ∀ (es : Mp) (l : List MapEntry) (i : Nat), l.map (fun e => (e.key, e.val)) = encE es → ∃ a, (Instr.findAsking kt (kV k) l i).run P x = .ok a x ∧ (a.map fun q => q.2) = (mfind k es).map vV
  | [], l, i, hl => by
    have : l = [] := by
      cases l with
      | nil => rfl
      | cons a b => cases hl
    subst this
    exact ⟨none, rfl, rfl⟩
  | p :: es, l, i, hl => by
    cases l with
    | nil => cases hl
    | cons e l =>
      have h1 : (e.key, e.val) = (kV p.1, vV p.2) := (List.cons.inj hl).1
      have h2 : l.map (fun e => (e.key, e.val)) = encE es := (List.cons.inj hl).2
      have hk : e.key = kV p.1 := congrArg Prod.fst h1
      have hv : e.val = vV p.2 := congrArg Prod.snd h1
      have he : (Op.equal kt (kV k) e.key).run P x = .ok (eqT kT k p.1) x := by
        rw [hk]
        exact eq_run (B := fun _ => undef) 12 kt kT h.e Op.maxDepth (by unfold Op.maxDepth; omega) k p.1
      obtain ⟨a, ha, hb⟩ := find_run h k x es l (i + 1) h2
      unfold Instr.findAsking mfind
      rw [Sem.run_bind, he, Result.andThen_ok]
      cases eqT kT k p.1 with
      | true => exact ⟨some (i, e.val), rfl, by rw [hv]; rfl⟩
      | false => exact ⟨a, ha, hb⟩
theorem lookup_run {t kt et : TypeId} (h : MapTy P t kt et) (k : kT.D) {x : World} {r clock : Nat} {ents : Array MapEntry} {es : Mp} (hr : x.heap[r]? = some (.map ents clock)) (he : ents.toList.map (fun e => (e.key, e.val)) = encE es) :
    (Instr.lookup t (.map (some r)) (kV k) true).run P x = .ok (.tuple #[vV ((mfind k es).getD vT.zero), .bool (mfind k es).isSome]) x := by
  obtain ⟨a, ha, hb⟩ := find_run h k x es ents.toList 0 he
  have hf : (Instr.findKey kt (kV k) ents.toList).run P x = .ok a x := by rw [findKey_eq h.w]; exact ha
  unfold Instr.lookup
  rw [Sem.run_bind, run_underlying h.u, Result.andThen_ok]
  simp only [Sem.run_bind, MapKept.run_getObj_map hr, Result.andThen_ok, Sem.run_pure, h.c, hf]
  cases a with
  | none =>
    have hm : mfind k es = none := by
      cases hq : mfind k es with
      | none => rfl
      | some v => rw [hq] at hb; cases hb
    rw [hm]
    simp only [Sem.run_bind, h.z, Result.andThen_ok, Sem.run_pure]
    rfl
  | some q =>
    cases hq : mfind k es with
    | none => rw [hq] at hb; cases hb
    | some v =>
      rw [hq] at hb
      have : q.2 = vV v := by simpa using hb
      obtain ⟨q1, q2⟩ := q
      have this : q2 = vV v := this
      subst this
      rfl
theorem update_run {t kt et : TypeId} (h : MapTy P t kt et) (k : kT.D) (v : vT.D) {x : World} {r clock : Nat} {ents : Array MapEntry} {es : Mp} (hr : x.heap[r]? = some (.map ents clock)) (he : ents.toList.map (fun e => (e.key, e.val)) = encE es) (hn : mfind k es = none) :
    (Instr.mapUpdate t (.map (some r)) (kV k) (vV v)).run P x = .ok () { x with heap := x.heap.setIfInBounds r (.map (ents.push { key := kV k, val := vV v, born := clock }) (clock + 1)) } := by
  obtain ⟨a, ha, hb⟩ := find_run h k x es ents.toList 0 he
  have hf : (Instr.findKey kt (kV k) ents.toList).run P x = .ok a x := by rw [findKey_eq h.w]; exact ha
  have hz : a = none := by
    rw [hn] at hb
    cases a with
    | none => rfl
    | some q => cases hb
  subst hz
  unfold Instr.mapUpdate
  rw [Sem.run_bind, run_underlying h.u, Result.andThen_ok]
  simp only [Sem.run_bind, MapKept.run_getObj_map hr, Result.andThen_ok, Sem.run_pure, h.c, hf]
  exact MapKept.run_setObj_map _ hr
end
end Go.Proofs.Ytjbbgpacijageab.M

/- States, frames, regions in the order of the text. No program is named here. -/
namespace Go.Proofs.Ytjbbgpacijageab.M
open Go.RowKit
set_option linter.unusedVariables false
set_option linter.unusedSimpArgs false

structure FR (N : Nat) (c : Cx) (f : Fr) (a : Act) : Prop where
  size : a.tmps.size = N
  defers : a.defers = []
  get : ∀ t s, look f t = some s → a.tmps[t]? = some (s.val c.E) ∧ s.ok c

def opK (T : Tab) (S : List (Nat × Spec)) (o : Oper) (f : Fr) (bl : List V) (nn : Nat) (k : Out → Prop) : Prop :=
  match o.op with
  | .call c => match c.callee with
    | .builtin .copy => copyK T c f bl k
    | .builtin .append => appK T c f nn k
    | .builtin .min => minK c f k
    | .builtin .len => lenA T c f bl nn k S
    | _ => callK T S c f bl nn k
  | .buildSlice t 0 parts => bs0K T t parts.toList nn k
  | .buildSlice t len parts => bslK T t len parts.toList f nn k
  | .makeFunc fn first captured => mkfK fn first.toList captured.toList f k
  | .nilCheck x => nilK T x f bl k
  | .indexAddr t x y => idxK T t x y f bl k
  | .slice t x low high max => match tyL T.ty t with
    | some (.lst e, _) => match T.sub with
      | true => subA e x low high max f k
      | false => subK e x low high max f nn k
    | _ => sliceK T t x low high max f k
  | .binOp .eql t x (.const (.pointer none)) _ => peqK T false t x f k
  | .binOp .neq t x (.const (.pointer none)) _ => peqK T true t x f k
  | op => sopK T op f bl k

def setB : List V → Nat → V → (List V → Prop) → Prop
  | [], _, _, _ => False
  | b :: r, n, y, k => match Nat.beq n 0 with | true => k (y :: r) | false => setB r (n - 1) y fun r' => k (b :: r')
def appB : List V → V → (List V → Prop) → Prop
  | [], y, k => k [y]
  | b :: r, y, k => appB r y fun r' => k (b :: r')
theorem setB_elim : ∀ (l : List V) (i : Nat) (y : V) (k : List V → Prop), setB l i y k → k (l.set i y) ∧ i < l.length
  | [], _, _, _, h => h.elim
  | b :: r, i, y, k, h => by
    unfold setB at h
    split at h
    · rename_i hb
      have := Nat.eq_of_beq_eq_true hb
      subst this
      exact ⟨h, by simp⟩
    · rename_i hb
      obtain ⟨h1, h2⟩ := setB_elim r _ y _ h
      cases i with
      | zero => simp at hb
      | succ i => exact ⟨h1, by simp at h2 ⊢; exact h2⟩
theorem appB_elim : ∀ (l : List V) (y : V) (k : List V → Prop), appB l y k → k (l ++ [y])
  | [], _, _, h => h
  | b :: r, y, k, h => appB_elim r y _ h
def efK (bl : List V) (ef : Ef) (k : List V → Prop) : Prop :=
  match ef with
  | .none => k bl
  | .set i y => setB bl i y k
  | .new y => appB bl y k
def putK (N : Nat) (d : Option Tmp) (s : SV) (f : Fr) (k : Fr → Prop) : Prop :=
  match d with
  | some d => match Nat.ble (d + 1) N with | true => k ((d, s) :: f) | false => False
  | none => k f
def lit (b : Bool) : SV := .a (.of (.leaf .bool b))
/-- The slots that the operations of a region write. -/
def dstK : List Oper → (List (Option Tmp) → Prop) → Prop
  | [], k => k []
  | o :: r, k => match o.dst with
    | some t => dstK r fun l => k (some t :: l)
    | none => dstK r fun l => k (none :: l)
theorem dstK_elim : ∀ (l : List Oper) (k : List (Option Tmp) → Prop), dstK l k → k (l.map (·.dst))
  | [], k, h => h
  | o :: r, k, h => by
    unfold dstK at h
    rw [List.map_cons]
    split at h
    · rename_i t ht
      rw [ht]; exact dstK_elim r _ h
    · rename_i ht
      rw [ht]; exact dstK_elim r _ h
def nthT : List (Option Tmp) → Nat → Option Tmp
  | [], _ => none
  | b :: r, n => match Nat.beq n 0 with | true => b | false => nthT r (n - 1)
theorem nthT_eq : ∀ (l : List (Option Tmp)) (i : Nat), nthT l i = (l[i]?).join
  | [], i => rfl
  | b :: r, i => by
    unfold nthT
    split
    · rename_i h
      have := Nat.eq_of_beq_eq_true h
      subst this; rfl
    · rename_i h
      rw [nthT_eq r]
      cases i with
      | zero => simp at h
      | succ i => simp
/-- Is it wanted? What was asked is known from then on. -/
def guardK (ds : List (Option Tmp)) (g : Option (Nat × Bool)) (f : Fr) (yes no : Fr → Prop) : Prop :=
  match g with
  | none => yes f
  | some (j, want) => match nthT ds j with
    | some t => match look f t with
      | some (.a (.of (.leaf .bool b))) => match want with
        | true => Way b (yes ((t, lit true) :: f)) (no ((t, lit false) :: f))
        | false => Way b (no ((t, lit true) :: f)) (yes ((t, lit false) :: f))
      | some (.a (.raw (.tuple _))) => no f
      | _ => False
    | none => False
def addK (nn : NS) (cr : Bool) (m : Nat) (k : NS → Prop) : Prop := match nn with | ⟨n, tk⟩ => match cr with | true => k ⟨n + m, tk⟩ | false => k ⟨n, tk⟩

def evsK (f : Fr) : List Operand → (List AV → Prop) → Prop
  | [], k => k []
  | x :: r, k => match evS f x with
    | some (.a s) => evsK f r fun l => k (s :: l)
    | _ => False
def capA (c : Nat × Nat × List Step × Ty) : AV := .ptr c.1 c.2.1 c.2.2.1 c.2.2.2
def capsK : List (Nat × Nat × List Step × Ty) → (List AV → Prop) → Prop
  | [], k => k []
  | c :: cs, k => capsK cs fun l => k (capA c :: l)
def apsK (cs : List (Nat × Nat × List Step × Ty)) : List AV → (List AV → Prop) → Prop
  | [], k => capsK cs k
  | s :: r, k => apsK cs r fun l => k (s :: l)
/-- A call of a function that is walked there: what it is known by, its operands, what it has captured. -/
def mOf (S : List (Nat × Spec)) (f : Fr) (o : Oper) : Option (MTr × List Operand × List (Nat × Nat × List Step × Ty) × Bool) :=
  match o.op with
  | .call c => match c.callee with
    | .value x => match evS f x with
      | some (.a (.clo g cs)) => match spL S g with
        | some ⟨_, _, _, _, _, _, some tr, _, tp⟩ => some (tr, c.args.toList, cs, tp)
        | _ => none
      | _ => match x with
        | .func g => match spL S g with
          | some ⟨_, _, _, _, _, _, some tr, _, tp⟩ => some (tr, c.args.toList, [], tp)
          | _ => none
        | _ => none
    | _ => none
  | _ => none
/-- No list in it. -/
def AV.pl : AV → Bool
  | .of v => v.ty.nolst
  | .ptr _ _ _ _ => true
  | .elt _ _ _ _ _ _ _ => false
  | .slc _ _ _ _ _ _ _ _ => true
  | .clo _ _ => true
  | .emp _ => false
  | .sub _ _ _ _ _ => false
  | .raw _ => true
def SV.pl : SV → Bool
  | .a x => x.pl
  | .tup l => l.all AV.pl
/-- A store into a list of one's own: which list, what it is then, the tokens, and its own. -/
structure StP where
  te : Ty
  h : Hd
  xs : List te.D
  n : Nat
  xs' : List te.D
  tk : List (Hd × Nat)
  i : Nat
/-- Behind such a store: that list by its new name; others that are known to lie elsewhere as they were. -/
def Kept1 (p : StP) (t : Ty) (a b : Hd × List t.D) : Prop := t.nolst = true ∧ ((a = b ∧ (a.2 = [] ∨ ∃ j s, j ≠ p.i ∧ (0 < s ∨ p.i < j) ∧ p.tk[j]? = some (a.1, s))) ∨ ∃ e : p.te = t, a = (p.h, e ▸ p.xs) ∧ b = (.nm p.n, e ▸ p.xs'))
def keptD (p : StP) : (t : Ty) → t.D → t.D → Prop
  | .int, a, b => a = b
  | .bool, a, b => a = b
  | .ref, a, b => a = b
  | .one t, a, b => keptD p t a b
  | .pair s t, a, b => keptD p s a.1 b.1 ∧ keptD p t a.2 b.2
  | .arr n t, f, g => ∀ i, i < n → keptD p t (f i) (g i)
  | .lst t, a, b => Kept1 p t a b
def V.dn0 : (v : V) → v.ty.D
  | .leaf _ v => v
  | .one x => x.dn0
  | .node x y => (x.dn0, y.dn0)
def keptBs (p : StP) : List V → List V → Prop
  | [], [] => True
  | v :: r, w :: s => (∃ d, w = .leaf v.ty d ∧ keptD p v.ty v.dn0 d) ∧ keptBs p r s
  | _, _ => False
/-- The frame behind it. -/
def frOk (p : StP) (f : Fr) : Fr → Prop
  | [] => True
  | (t, s) :: r => ((look f t = some s ∧ s.pl = true) ∨ ∃ v d, look f t = some (.a (.of v)) ∧ s = .a (.of (.leaf v.ty d)) ∧ keptD p v.ty v.dn0 d) ∧ frOk p f r
structure StoreW (te : Ty) (h : Hd) (xs xs' : List te.D) (f : Fr) (bl : List V) (nn : NS) (K : Fr → List V → NS → Prop) : Prop where
  nol : te.nolst = true
  ex : ∃ i g bl', nn.tk[i]? = some (h, te.sz) ∧ keptBs ⟨te, h, xs, nn.n, xs', nn.tk, i⟩ bl bl' ∧ frOk ⟨te, h, xs, nn.n, xs', nn.tk, i⟩ f g ∧ K g bl' ⟨nn.n + 1, nn.tk.set i (.nm nn.n, te.sz)⟩
def isElt (T : Tab) (o : Oper) (f : Fr) : Bool :=
  match T.top with
  | true => match o.op with
    | .store _ x _ => match evS f x with
      | some (.a (.elt _ _ _ _ _ _ _)) => true
      | _ => false
    | _ => false
  | false => false
def stwK (T : Tab) (o : Oper) (f : Fr) (bl : List V) (nn : NS) (K : Fr → List V → NS → Prop) : Prop :=
  match o.op with
  | .store t x y => match o.dst with
    | none => match evS f x with
      | some (.a (.elt te h xs j off p u)) => match tyL T.ty t with
        | some (ty, _) => match decEq u ty with
          | .isTrue _ => match evS f y with
            | some (.a s) => match asV ty s with
              | some new => match Nat.ble 1 te.sz with
                | true => setK p (.leaf te (nthD te xs j)) new fun z => denK z te fun e => StoreW te h xs (xs.set j e) f bl nn K
                | false => False
              | none => False
            | _ => False
          | .isFalse _ => False
        | none => False
      | _ => False
    | some _ => False
  | _ => False
def inN : List Nat → Nat → Bool
  | [], _ => false
  | a :: r, n => match Nat.beq n a with | true => true | false => inN r n
/-- The frame without what holds lists. -/
def plK : List Nat → Fr → (Fr → Prop) → Prop
  | _, [], k => k []
  | seen, (t, s) :: r, k => match inN seen t with
    | true => plK seen r k
    | false => match s.pl with
      | true => plK (t :: seen) r fun g => k ((t, s) :: g)
      | false => plK (t :: seen) r k
def oneK (T : Tab) (S : List (Nat × Spec)) (N : Nat) (o : Oper) (f : Fr) (bl : List V) (nn : NS) (K : Fr → List V → NS → Prop) : Prop :=
  match isMap T o with
  | true => mapK o f nn fun v nn' => putK N o.dst v f fun f' => K f' bl nn'
  | false => match isOwn T o with
  | true => ownK T o f nn fun v nn' => putK N o.dst v f fun f' => K f' bl nn'
  | false => match isNil T o with
    | true => nilW T o f fun v => putK N o.dst v f fun f' => K f' bl nn
    | false => match isElt T o f with
      | true => stwK T o f bl nn K
      | false => match mOf S f o with
  | some (tr, xs, cs, false) => evsK f xs fun l => apsK cs l fun l => tr l bl nn fun r bl' nn' => putK N o.dst r f fun f' => K f' bl' nn'
  | some (tr, xs, cs, true) => match T.top with
    | true => evsK f xs fun l => apsK cs l fun l => plK [] f fun g => tr l bl nn fun r bl' nn' => putK N o.dst r g fun f' => K f' bl' nn'
    | false => False
  | none => opK T S o f bl nn.n fun
        | ⟨v, ef, m, _, _, cr⟩ => efK bl ef fun bl' => putK N o.dst v f fun f' => addK nn cr m fun nn' => K f' bl' nn'

def seqK (T : Tab) (S : List (Nat × Spec)) (N : Nat) (ds : List (Option Tmp)) : List Oper → Fr → List V → NS → (Fr → List V → NS → Prop) → Prop
  | [], f, bl, nn, K => K f bl nn
  | o :: r, f, bl, nn, K => guardK ds o.guard f
      (fun f => oneK T S N o f bl nn fun f' bl' nn' => seqK T S N ds r f' bl' nn' K)
      (fun f => putK N o.dst und f fun f' => seqK T S N ds r f' bl nn K)

section
variable {P : Program} {T : Tab} {S : List (Nat × Spec)} {w0 : World} {F0 : Old} {N : Nat}

theorem evS_sound {c : Cx} {f : Fr} {a : Act} (h : FR N c f a) {x : Operand} {s : SV} (hx : evS f x = some s) : a.eval x = s.val c.E ∧ s.ok c := by
  cases x with
  | tmp t =>
    obtain ⟨h1, h2⟩ := h.get t s hx
    exact ⟨by simp only [Act.eval, Array.getD_eq_getD_getElem?, h1]; rfl, h2⟩
  | const v => cases hx; exact ⟨(constA_val _ v).symm, constA_ok _ v⟩
  | func g => cases hx; exact ⟨rfl, fun q hq => by cases hq⟩
  | global g => cases hx
theorem FR.mono {c c' : Cx} {f : Fr} {a : Act} (h : FR N c f a) (hle : c.Le c') : FR N c' f a :=
  ⟨h.size, h.defers, fun t s ht => by
    obtain ⟨h1, h2⟩ := h.get t s ht
    exact ⟨by rw [h1, SV.val_mono hle h2], SV.ok_mono hle h2⟩⟩
theorem FR.put {c : Cx} {f : Fr} {a : Act} (h : FR N c f a) {d : Nat} (hd : d < N) {s : SV} (hs : s.ok c) : FR N c ((d, s) :: f) (a.put (some d) (s.val c.E)) := by
  refine ⟨by simp [Act.put, h.size], h.defers, fun t u ht => ?_⟩
  unfold look at ht
  split at ht
  · rename_i hb
    have := Nat.eq_of_beq_eq_true hb
    subst this
    cases ht
    refine ⟨?_, hs⟩
    simp [Act.put, h.size, hd]
  · rename_i hb
    have hne : d ≠ t := fun e => by subst e; simp at hb
    obtain ⟨h1, h2⟩ := h.get t u ht
    refine ⟨?_, h2⟩
    simp only [Act.put, Array.getElem?_setIfInBounds_ne hne]
    exact h1
theorem putK_sound {d : Option Tmp} {s : SV} {f : Fr} {k : Fr → Prop} (h : putK N d s f k) {c : Cx} {a : Act} (hf : FR N c f a) (hs : s.ok c) : ∃ f', k f' ∧ FR N c f' (a.put d (s.val c.E)) := by
  unfold putK at h
  split at h
  · split at h
    · rename_i hd
      exact ⟨_, h, hf.put (Nat.le_of_ble_eq_true hd) hs⟩
    · exact h.elim
  · exact ⟨f, h, hf⟩
/-- A slot may be known better. -/
theorem FR.better {c : Cx} {f : Fr} {a : Act} (h : FR N c f a) {t : Nat} {b b' : Bool} (ht : look f t = some (.a (.of (.leaf .bool b)))) (hb : b = b') : FR N c ((t, lit b') :: f) a := by
  refine ⟨h.size, h.defers, fun u s hu => ?_⟩
  unfold look at hu
  split at hu
  · rename_i hbt
    have := Nat.eq_of_beq_eq_true hbt
    subst this
    cases hu
    subst hb
    exact h.get u _ ht
  · exact h.get u s hu

theorem guardK_sound {ops : List Oper} {o : Oper} {f : Fr} {yes no : Fr → Prop} (h : guardK (ops.map (·.dst)) o.guard f yes no) {c : Cx} {a : Act} (hf : FR N c f a) :
    (Region.wanted o (yielded ops.toArray a.tmps) = true ∧ ∃ f', yes f' ∧ FR N c f' a) ∨ (Region.wanted o (yielded ops.toArray a.tmps) = false ∧ ∃ f', no f' ∧ FR N c f' a) := by
  unfold guardK at h
  split at h
  · rename_i hg
    exact Or.inl ⟨by unfold Region.wanted; rw [hg], f, h, hf⟩
  · rename_i j want hg
    · split at h
      · rename_i t hj
        rw [nthT_eq] at hj
        have hjt : (ops.toArray[j]?).bind (·.dst) = some t := by
          simp only [List.getElem?_map] at hj
          cases ho : ops[j]? with
          | none => rw [ho] at hj; cases hj
          | some oj => rw [ho] at hj; simp [ho]; simpa using hj
        split at h
        · rename_i b hb
          have h1 := (hf.get t _ hb).1
          have hy : yielded ops.toArray a.tmps j = some b := by unfold yielded; rw [hjt]; simp [h1, SV.val, AV.val, V.val]
          have hw : Region.wanted o (yielded ops.toArray a.tmps) = (b == want) := by
            unfold Region.wanted
            rw [hg]
            simp [hy]
          rw [hw]
          split at h
          · cases hbb : b with
            | true => exact Or.inl ⟨rfl, _, h.t hbb, hf.better hb hbb⟩
            | false => exact Or.inr ⟨rfl, _, h.f hbb, hf.better hb hbb⟩
          · cases hbb : b with
            | true => exact Or.inr ⟨rfl, _, h.t hbb, hf.better hb hbb⟩
            | false => exact Or.inl ⟨rfl, _, h.f hbb, hf.better hb hbb⟩
        · rename_i q hb
          have h1 := (hf.get t _ hb).1
          have hy : yielded ops.toArray a.tmps j = none := by unfold yielded; rw [hjt]; simp [h1, SV.val, AV.val]
          refine Or.inr ⟨?_, f, h, hf⟩
          unfold Region.wanted
          rw [hg]
          simp [hy]
        · exact h.elim
      · exact h.elim

theorem opK_sound (hT : TabOk P T) (hS : SpecsOk P S) {o : Oper} {f : Fr} {bl : List V} {nn : Nat} {k : Out → Prop} (h : opK T S o f bl nn k) : ∃ out, k out ∧ Does P w0 F0 o f (fun i => bl[i]?) bl.length nn out := by
  unfold opK at h
  split at h
  · rename_i c ho
    split at h
    · rename_i hc
      exact copyK_sound hT ho hc h
    · rename_i hc
      exact appK_sound hT ho hc h
    · rename_i hc
      exact minK_sound ho hc h
    · rename_i hc
      exact lenA_sound hT hS ho hc h
    · exact callK_sound hT hS ho h
  · rename_i t parts ho
    exact bs0K_sound hT ho h
  · rename_i t len parts _ ho
    exact bslK_sound hT ho h
  · rename_i fn first captured ho
    exact mkfK_sound ho h
  · rename_i x ho
    exact nilK_sound hT ho h
  · rename_i t x y ho
    exact idxK_sound hT ho h
  · rename_i t x low high max ho
    split at h
    · rename_i e n0 hty
      split at h
      · exact subA_sound hT ho hty h
      · exact subK_sound hT ho hty h
    · exact sliceK_sound hT ho h
  · rename_i t x u ho
    exact peqK_sound (ne := false) hT ho h
  · rename_i t x u ho
    exact peqK_sound (ne := true) hT ho h
  · exact sopK_sound hT h

theorem lt_of_get {α : Type} {l : List α} {i : Nat} {b : α} (h : l[i]? = some b) : i < l.length := (List.getElem?_eq_some_iff.1 h).1

/-- The state behind an operation. -/
def efB (bl : List V) : Ef → List V
  | .none => bl
  | .set i y => bl.set i y
  | .new y => bl ++ [y]
theorem efK_elim {bl : List V} {ef : Ef} {k : List V → Prop} (h : efK bl ef k) : k (efB bl ef) := by
  cases ef with
  | none => exact h
  | set i y => exact (setB_elim _ _ _ _ h).1
  | new y => exact appB_elim _ _ _ h
theorem Real.step {bl : List V} {nn : NS} {c : Cx} (hr : Real w0 F0 bl nn c) {out : Out} {v : Value} {x' : World} {E : Env} (hp : Post w0 F0 c out bl.length nn.n v x' E) : Real w0 F0 (efB bl out.ef) ⟨nn.n + out.m, nn.tk⟩ (c.ext out bl.length nn.n E x') ∧ c.Le (c.ext out bl.length nn.n E x') := by
  have hnew : (∃ y, out.ef = .new y) → ¬ c.XA bl.length := fun _ h => Nat.lt_irrefl _ ((hr.XA _).1 h)
  have hle := hp.le hr.wf hnew
  have hwf := hp.wf hr.wf hnew
  have hkeep : ∀ i v, bl[i]? = some v → (∀ y, out.ef ≠ .set i y) → (∃ e, HB x' (E.A i) (v.cells E.B).toArray e) ∧ v.okc (c.ext out bl.length nn.n E x') := fun i v hi hne => by
    obtain ⟨⟨e, h1⟩, h2⟩ := hr.blk i v hi
    have hXA := (hr.XA i).2 (lt_of_get hi)
    refine ⟨⟨e, ?_⟩, V.okc_mono hle h2⟩
    have hcells : v.cells E.B = v.cells c.E.B := V.cellsc hle h2
    rw [hcells, hp.A i hXA]
    unfold HB
    rw [hp.same.block _ h1.lt (by
      rintro ⟨j, y, hy, hj⟩
      have : i = j := hr.wf.inj i j hXA (hp.set j y hy).1 hj
      subst this
      exact hne y hy)]
    exact h1
  refine ⟨⟨hwf, fun i => ?_, fun n => ?_, fun i v hi => ?_, fun i v hi => ?_, hr.tk.step hr.wf hnew hp⟩, hle⟩
  · show (c.XA i ∨ (i = bl.length ∧ ∃ y, out.ef = .new y)) ↔ _
    rw [hr.XA]
    cases hef : out.ef with
    | none => simp [efB]
    | set j y => simp [efB]
    | new y => simp [efB]; omega
  · show (c.XB n ∨ (nn.n ≤ n ∧ n < nn.n + out.m)) ↔ n < nn.n + out.m
    rw [hr.XB]
    omega
  · show (match out.ef with | .new y => if i = bl.length then some y.ty else c.ty i | _ => c.ty i) = some v.ty
    cases hef : out.ef with
    | none => rw [hef] at hi; exact hr.ty i v hi
    | set j y =>
      rw [hef] at hi
      simp only [efB] at hi
      rw [List.getElem?_set] at hi
      split at hi
      · rename_i hj
        subst hj
        split at hi
        · cases hi
          exact (hp.set j v hef).2.1
        · cases hi
      · exact hr.ty i v hi
    | new y =>
      rw [hef] at hi
      simp only [efB] at hi
      rw [List.getElem?_append] at hi
      split at hi
      · rename_i hlt
        simp only
        rw [if_neg (by omega)]
        exact hr.ty i v hi
      · rename_i hlt
        have : i = bl.length := by
          have := lt_of_get hi
          simp at this
          omega
        subst this
        simp at hi
        subst hi
        simp
  · cases hef : out.ef with
    | none => rw [hef] at hi; exact hkeep i v hi (fun y hy => by rw [hef] at hy; cases hy)
    | set j y =>
      rw [hef] at hi
      simp only [efB] at hi
      rw [List.getElem?_set] at hi
      split at hi
      · rename_i hj
        subst hj
        split at hi
        · cases hi
          exact (hp.set j v hef).2.2
        · cases hi
      · rename_i hj
        exact hkeep i v hi (fun z hz => by rw [hef] at hz; cases hz; exact hj rfl)
    | new y =>
      rw [hef] at hi
      simp only [efB] at hi
      rw [List.getElem?_append] at hi
      split at hi
      · exact hkeep i v hi (fun z hz => by rw [hef] at hz; cases hz)
      · rename_i hlt
        have : i = bl.length := by
          have := lt_of_get hi
          simp at this
          omega
        subst this
        simp at hi
        subst hi
        exact (hp.new y hef).2.2.2

/-- The worlds and frames that belong to what K holds. -/
def Sat (w0 : World) (F0 : Old) (N : Nat) (K : Fr → List V → NS → Prop) (a : Act) (x : World) : Prop := ∃ f bl nn c, K f bl nn ∧ Real w0 F0 bl nn c ∧ FR N c f a ∧ c.x = x

theorem und_ok (c : Cx) : und.ok c := trivial

theorem evsK_elim {f : Fr} : ∀ (xs : List Operand) (k : List AV → Prop), evsK f xs k → ∃ l, k l ∧ l.length = xs.length ∧ ∀ (c : Cx) (a : Act), FR N c f a → xs.map a.eval = l.map (AV.val c.E) ∧ ∀ s ∈ l, s.ok c
  | [], k, h => ⟨[], h, rfl, fun c a _ => ⟨rfl, fun s hs => by cases hs⟩⟩
  | x :: r, k, h => by
    unfold evsK at h
    split at h
    · rename_i s hs
      obtain ⟨l, h1, h2, h3⟩ := evsK_elim r _ h
      refine ⟨s :: l, h1, by simp [h2], fun c a hf => ?_⟩
      obtain ⟨e1, e2⟩ := h3 c a hf
      obtain ⟨e3, e4⟩ := evS_sound hf hs
      refine ⟨by rw [List.map_cons, List.map_cons, e1, e3]; rfl, fun y hy => ?_⟩
      rcases List.mem_cons.1 hy with rfl | hy
      · exact e4
      · exact e2 y hy
    · exact h.elim
theorem capsK_elim : ∀ (cs : List (Nat × Nat × List Step × Ty)) (k : List AV → Prop), capsK cs k → k (cs.map capA)
  | [], k, h => h
  | c :: cs, k, h => capsK_elim cs _ h
theorem apsK_elim {cs : List (Nat × Nat × List Step × Ty)} : ∀ (l : List AV) (k : List AV → Prop), apsK cs l k → k (l ++ cs.map capA)
  | [], k, h => capsK_elim cs k h
  | s :: r, k, h => apsK_elim r _ h

theorem lstA_sound {e : Ty} {s : AV} {k : Hd → List e.D → Prop} (h : lstA e s k) : ∃ hd xs, k hd xs ∧ ∀ c : Cx, s.ok c → (s.val c.E = hd.val c.E.B ∧ wokc c (.lst e) (hd, xs)) ∨ (hd = nilH ∧ xs = [] ∧ ∃ ad, s.val c.E = .slice ad 0 0) := by
  unfold lstA at h
  split at h
  · rename_i v
    obtain ⟨d, h1, h2, h3, h4⟩ := denK_sound v (.lst e) _ h
    exact ⟨d.1, d.2, h1, fun c hs => Or.inl ⟨val_leaf h2 (h3 c.E.B), h4 _ _ _ _ hs⟩⟩
  · exact ⟨_, _, h, fun c _ => Or.inl ⟨rfl, trivial, Or.inl ⟨rfl, none, 0, rfl⟩⟩⟩
  · rename_i hd
    refine ⟨_, _, h, fun c hs => Or.inr ⟨rfl, rfl, ?_⟩⟩
    obtain ⟨_, a, l, k', hv⟩ := hs
    exact ⟨a, by simp only [AV.val, hv]⟩
  · exact h.elim
theorem zeroCells_len (zc : Array Value) (k : Nat) : (Builtin.zeroCells zc k).size = k * zc.size := by
  simp [Builtin.zeroCells]
/-- What there is, and what comes behind it. -/
theorem app_run {bl : List V} {nn : NS} {c : Cx} (hr : Real w0 F0 bl nn c) {T : Tab} (hT : TabOk P T) {t : TypeId} {e : Ty} {n0 : Nat} (hty : tyL T.ty t = some (.lst e, n0)) {hd : Hd} {xs ys : List e.D} {vx vy : Value} (ty' : TypeId)
    (hx : (vx = hd.val c.E.B ∧ wokc c (.lst e) (hd, xs)) ∨ (hd = nilH ∧ xs = [] ∧ ∃ ad, vx = .slice ad 0 0)) {h' : Hd} (hy : vy = h'.val c.E.B) (hyw : wokc c (.lst e) (h', ys)) {k : SV → NS → Prop} (h : AppW e hd xs ys nn k) :
    ∃ v x', (Builtin.append_ #[t, t] ty' #[vx, vy]).run P c.x = .ok v x' ∧ ∃ r nn' c', k r nn' ∧ v = r.val c'.E ∧ r.ok c' ∧ Real w0 F0 bl nn' c' ∧ c.Le c' ∧ c'.x = x' := by
  obtain ⟨i, hi, ⟨hlen, hby⟩, hk⟩ := h
  obtain ⟨el, inf, z, u1, u2, u3, u4, u5, u6, u7⟩ := lst_info (tyB_lst (hT.ty.at hty))
  have hsrc := src_of (P := P) (u := t) u1 u4 hyw
  rw [← hy, ← u3] at hsrc
  have htok : OwnOk w0 c hd e.sz := (hr.tk.ok _ (List.mem_of_getElem? hi)).2.1 u4
  have hfl : ∀ (l : List e.D), ∀ e' ∈ l, (flat c.E.B e e').length = e.sz := fun _ e' _ => flat_len _ _ _
  have hzs : z.cells.size = e.sz := by
    obtain ⟨v, v1, v2⟩ := zero_run u6 c.E.B c.x
    have : v = z := by
      unfold zeroValue at v1
      simp only [typeInfo, Sem.run_bind, run_program, Result.andThen_ok, u2, Sem.run_pure, u5] at v1
      cases v1
      rfl
    rw [← this, v2]
    simp [flat_len]
  have hyel : ∀ (q : Nat) e', ys[q]? = some e' → wokc c e e' := fun q e' hq => by
    rcases hyw.2 with ⟨h1, _⟩ | ⟨_, _, _, _, _, _, _, _, h1⟩
    · have h1 : ys = [] := h1
      rw [h1] at hq; simp at hq
    · exact (h1 q e' hq).2
  -- the shape of what is appended to
  have hshape : ∃ ad cap, vx = .slice ad xs.length cap ∧ xs.length ≤ cap ∧ (∀ (q : Nat) e', xs[q]? = some e' → wokc c e e') ∧
      (cap = 0 ∨ ∃ b o C t', ad = some ⟨b, o, none⟩ ∧ w0.heap.size ≤ b ∧ (∀ i, c.XA i → c.E.A i ≠ b) ∧ HB c.x b C t' ∧ cap ≤ maxLen ∧ o + cap * e.sz ≤ C.size ∧ (∀ e', c.E.F b e' → e' ≤ o + xs.length * e.sz) ∧
        (∀ q s' j, j ≠ i → nn.tk[j]? = some (q, s') → ∀ o' l' k', q.val c.E.B = .slice (some ⟨b, o', none⟩) l' k' → (0 < s' → 0 < k' → False) ∧ (i < j → s' = 0 → l' = 0))) ∧
      (xs = [] ∨ ∃ b o, ad = some ⟨b, o, none⟩ ∧ ∀ (q : Nat) e', xs[q]? = some e' → ∀ j, j < e.sz → c.x.cell? ⟨b, o + q * e.sz + j, none⟩ = (flat c.E.B e e')[j]?) := by
    rcases hx with ⟨hv, hw⟩ | ⟨_, rfl, ad, hv⟩
    rotate_left
    · exact ⟨ad, 0, hv, Nat.le_refl _, fun q e' hq => by simp at hq, Or.inl rfl, Or.inl rfl⟩
    obtain ⟨_, hd2⟩ := hw
    rcases htok with ⟨ad, ht⟩ | ⟨b, o, len, cap, C, t', g1, g2, g3, g4, g5, g6, g7, g8⟩ | ⟨ms, gm, gk⟩
    rotate_left 2
    · exfalso
      rcases hd2 with ⟨_, ad, cap, h2⟩ | ⟨b, o', cap, h1, h2, _⟩
      · have h2 : hd.val c.E.B = .slice ad 0 cap := h2
        rw [gm] at h2
        cases h2
      · have h1 : hd.val c.E.B = .slice (some ⟨b, o', none⟩) xs.length cap := h1
        rw [gm] at h1
        cases h1
    · have hnil : xs = [] := by
        rcases hd2 with ⟨h1, _⟩ | ⟨b, o', cap, h1, h2, _⟩
        · exact h1
        · have h1 : hd.val c.E.B = .slice (some ⟨b, o', none⟩) xs.length cap := h1
          rw [ht] at h1
          obtain ⟨_, h3, h4⟩ := Value.slice.inj h1
          exact List.length_eq_zero_iff.1 h3.symm
      subst hnil
      exact ⟨ad, 0, hv.trans ht, Nat.le_refl _, fun q e' hq => by simp at hq, Or.inl rfl, Or.inl rfl⟩
    · have hlx : len = xs.length := by
        rcases hd2 with ⟨h1, ad, cap', h2⟩ | ⟨b', o', cap', h1, h2, _⟩
        · have h1 : xs = [] := h1
          have h2 : hd.val c.E.B = .slice ad 0 cap' := h2
          rw [g1] at h2
          cases h2
          rw [h1]; rfl
        · have h1 : hd.val c.E.B = .slice (some ⟨b', o', none⟩) xs.length cap' := h1
          rw [g1] at h1
          cases h1
          rfl
      subst hlx
      have hap : cap = 0 ∨ (∀ q s' j, j ≠ i → nn.tk[j]? = some (q, s') → ∀ o' l' k', q.val c.E.B = .slice (some ⟨b, o', none⟩) l' k' → (0 < s' → 0 < k' → False) ∧ (i < j → s' = 0 → l' = 0)) := by
        rcases Nat.eq_zero_or_pos cap with h0 | h0
        · exact Or.inl h0
        refine Or.inr fun q s' j hj hq o' l' k' hv' => ?_
        have hjl : j < nn.tk.length := (List.getElem?_eq_some_iff.1 hq).1
        have hil : i < nn.tk.length := (List.getElem?_eq_some_iff.1 hi).1
        have hjv : nn.tk[j] = (q, s') := (List.getElem?_eq_some_iff.1 hq).2
        have hiv : nn.tk[i] = (hd, e.sz) := (List.getElem?_eq_some_iff.1 hi).2
        have hp := List.pairwise_iff_getElem.1 hr.tk.ne
        rcases Nat.lt_or_gt_of_ne hj with hlt | hlt
        · have := hp j i hjl hil hlt
          rw [hjv, hiv] at this
          exact ⟨fun hs' hk' => (this hs' _ _ _ _ _ _ _ hv' g1 hk').1 u4 h0, fun hij => by omega⟩
        · have := hp i j hil hjl hlt
          rw [hjv, hiv] at this
          have := this u4 _ _ _ _ _ _ _ g1 hv' h0
          exact ⟨this.1, fun _ => this.2⟩
      refine ⟨some ⟨b, o, none⟩, cap, hv.trans g1, g5, fun q e' hq => ?_, ?_, ?_⟩
      · rcases hd2 with ⟨h1, _⟩ | ⟨_, _, _, _, _, _, _, _, h1⟩
        · have h1 : xs = [] := h1
          rw [h1] at hq; simp at hq
        · exact (h1 q e' hq).2
      · rcases hap with h0 | hap
        · exact Or.inl h0
        · exact Or.inr ⟨b, o, C, t', rfl, g2, g3, g4, g6, g7, g8, hap⟩
      · rcases hd2 with ⟨h1, _⟩ | ⟨b', o', cap', h1, _, _, _, _, h2⟩
        · exact Or.inl h1
        · have h1 : hd.val c.E.B = .slice (some ⟨b', o', none⟩) xs.length cap' := h1
          rw [g1] at h1
          cases h1
          exact Or.inr ⟨_, _, rfl, fun q e' hq j hj => (h2 q e' hq).1 j hj⟩
  obtain ⟨ad, cap, hvx, hcap, hxel, hown, hcont⟩ := hshape
  subst hvx
  have hall : ∀ (q : Nat) e', (xs ++ ys)[q]? = some e' → wokc c e e' := fun q e' hq => by
    rw [List.getElem?_append] at hq
    split at hq
    · exact hxel q e' hq
    · exact hyel _ e' hq
  by_cases hroom : xs.length + ys.length ≤ cap
  · rcases Nat.eq_zero_or_pos cap with h0 | h0
    · -- nothing onto nothing
      subst h0
      have hx0 : xs = [] := List.length_eq_zero_iff.1 (by omega)
      have hy0 : ys = [] := List.length_eq_zero_iff.1 (by omega)
      subst hx0
      subst hy0
      obtain ⟨c', k1, k2, k3, k4, k5⟩ := grown0 hr hi ad
      refine ⟨_, _, run_append_nothing c.x t t ty' el inf u1 u2 ad 0 0 (Nat.le_refl _) vy hsrc, _, _, c', hk, ?_, k4, k1, k2, k5⟩
      exact k3.symm
    · -- there is room
      rcases hown with h1 | ⟨b, o, C, t', rfl, g2, g3, g4, g6, g7, g8, hap⟩
      · omega
      have hlN : (ys.flatMap (flat c.E.B e)).length = ys.length * e.sz := flatMap_len _ (hfl ys)
      have hmul : xs.length * e.sz + ys.length * e.sz ≤ cap * e.sz := by rw [← Nat.add_mul]; exact Nat.mul_le_mul_right _ hroom
      have hrun := run_append_room_src (P := P) c.x t t ty' el inf u1 u2 b o xs.length cap vy ys.length _ hsrc hroom (fun j hj => by
        rw [g4.cell]
        rw [hlN] at hj
        have : o + xs.length * inf.size + j < C.size := by rw [u3]; omega
        simp [this]) (fun j hj => g4.frozen _)
      rw [setCells_putB _ _ g4, u3] at hrun
      have hsz : (sets C (o + xs.length * e.sz) (ys.flatMap (flat c.E.B e))).size = C.size := sets_size _ _ _
      have hB' := g4.put (sets C (o + xs.length * e.sz) (ys.flatMap (flat c.E.B e)))
      have hout : ∀ j, j < o + xs.length * e.sz → (putB c.x b (sets C (o + xs.length * e.sz) (ys.flatMap (flat c.E.B e)))).cell? ⟨b, j, none⟩ = c.x.cell? ⟨b, j, none⟩ := fun j hj => by
        rw [hB'.cell, g4.cell, sets_out _ _ _ _ (Or.inl hj)]
      have hz : ∀ (q : Nat) e', (xs ++ ys)[q]? = some e' → ∀ j, j < e.sz → (putB c.x b (sets C (o + xs.length * e.sz) (ys.flatMap (flat c.E.B e)))).cell? ⟨b, o + q * e.sz + j, none⟩ = (flat c.E.B e e')[j]? := fun q e' hq j hj => by
        rw [List.getElem?_append] at hq
        split at hq
        · rename_i hlt
          rcases hcont with h1 | ⟨b1, o1, h1, h2⟩
          · rw [h1] at hlt; simp at hlt
          · cases h1
            have hle : q * e.sz + e.sz ≤ xs.length * e.sz := by rw [← Nat.succ_mul]; exact Nat.mul_le_mul_right _ hlt
            rw [hout _ (by omega)]
            exact h2 q e' hq j hj
        · rename_i hge
          have hq' : q - xs.length < ys.length := (List.getElem?_eq_some_iff.1 hq).1
          have hle : (q - xs.length) * e.sz + e.sz ≤ ys.length * e.sz := by rw [← Nat.succ_mul]; exact Nat.mul_le_mul_right _ hq'
          have hqe : q * e.sz = xs.length * e.sz + (q - xs.length) * e.sz := by rw [← Nat.add_mul]; congr 1; omega
          have hidx : o + q * e.sz + j = (o + xs.length * e.sz) + ((q - xs.length) * e.sz + j) := by omega
          rw [hB'.cell, hidx, sets_in _ _ _ _ (by rw [hlN]; omega) (by rw [hlN]; omega), flatMap_get _ (hfl ys) _ _ hj, hq]
          rfl
      obtain ⟨c', k1, k2, k3, k4, k5⟩ := grown (e := e) (zs := xs ++ ys) hr hi (x' := putB c.x b (sets C (o + xs.length * e.sz) (ys.flatMap (flat c.E.B e)))) (b := b) (o := o) (cap := cap)
        ⟨rfl, rfl, rfl, by rw [putB_size]; exact Nat.le_refl _, fun k _ hkb => putB_ne _ _ _ hkb⟩ g2 u4 g3 hB' (by rw [List.length_append]; exact hroom) g6 (by rw [hsz]; exact g7)
        (fun e' he' => by have := g8 e' he'; rw [List.length_append, Nat.add_mul]; omega) (fun e' he' j hj => hout j (by have := g8 e' he'; omega)) (fun es k hm => by unfold HB at g4; rw [g4] at hm; cases hm) hap (fun q e' hq => ⟨fun j hj => hz q e' hq j hj, hall q e' hq⟩)
      refine ⟨_, _, hrun, _, _, c', hk, ?_, k4, k1, k2, k5⟩
      show _ = c'.E.B nn.n
      rw [k3, List.length_append]
  · -- a new block
    have hlX : (xs.flatMap (flat c.E.B e)).length = xs.length * e.sz := flatMap_len _ (hfl xs)
    have hlN : (ys.flatMap (flat c.E.B e)).length = ys.length * e.sz := flatMap_len _ (hfl ys)
    have hlA : ((xs ++ ys).flatMap (flat c.E.B e)).length = (xs ++ ys).length * e.sz := flatMap_len _ (hfl _)
    have hold : (Builtin.firstCells inf.size xs.length (.slice ad xs.length cap)).run P c.x.drew = .ok (xs.flatMap (flat c.E.B e)).toArray c.x.drew := by
      rcases hcont with h1 | ⟨b, o, rfl, h2⟩
      · subst h1
        cases ad with
        | none => exact run_firstCells_none _ _ _ _ _
        | some a => exact run_firstCells_some _ _ _ _ _ _ _ (by simp) (by simp)
      · refine run_firstCells_some _ _ _ _ _ _ _ (by rw [hlX, u3]) (fun j w hj => ?_)
        have hj' : j = (j / e.sz) * e.sz + j % e.sz := by rw [Nat.mul_comm]; exact (Nat.div_add_mod j e.sz).symm
        have hm : j % e.sz < e.sz := Nat.mod_lt _ (by omega)
        rw [hj', flatMap_get _ (hfl xs) _ _ hm] at hj
        cases hq : xs[j / e.sz]? with
        | none => rw [hq] at hj; cases hj
        | some q =>
          rw [hq] at hj
          have := h2 _ q hq _ hm
          have h3 : c.x.drew.cell? ((⟨b, o, none⟩ : Addr).add j) = c.x.cell? ((⟨b, o, none⟩ : Addr).add j) := rfl
          rw [h3, Addr.add_mid, hj', ← Nat.add_assoc, this]
          exact hj
    have hbyt : (xs.length + ys.length) * inf.bytes ≤ 140737488355328 := Nat.le_trans (Nat.mul_le_mul_left _ u7) hby
    have hrun := run_append_grow_src (P := P) c.x t t ty' el inf z u1 u2 u5 ad xs.length cap _ hold vy ys.length _ hsrc (by omega) (by omega) (growslice_fits (by omega) hbyt)
    rw [← List.flatMap_append] at hrun
    let g := grownCap c.x (xs.length + ys.length) cap el
    have hge : xs.length + ys.length ≤ g := grownCap_ge _ _ _ _
    have hsz : (((xs ++ ys).flatMap (flat c.E.B e)).toArray ++ Builtin.zeroCells z.cells (g - (xs.length + ys.length))).size = g * e.sz := by
      rw [Array.size_append, zeroCells_len, hzs]
      have h1 : ((xs ++ ys).flatMap (flat c.E.B e)).toArray.size = (xs.length + ys.length) * e.sz := by simpa using hlA
      rw [h1, ← Nat.add_mul]
      congr 1
      omega
    have hB' : HB (c.x.drew.alloc (.cells (((xs ++ ys).flatMap (flat c.E.B e)).toArray ++ Builtin.zeroCells z.cells (g - (xs.length + ys.length))) el)) c.x.heap.size (((xs ++ ys).flatMap (flat c.E.B e)).toArray ++ Builtin.zeroCells z.cells (g - (xs.length + ys.length))) el := heap_alloc_at c.x.drew _
    have hnoF : ∀ e', ¬ c.E.F c.x.heap.size e' := fun e' he' => Nat.lt_irrefl _ (hr.wf.fhi _ _ he')
    have hap : ∀ q s' j, j ≠ i → nn.tk[j]? = some (q, s') → ∀ o' l' k', q.val c.E.B = .slice (some ⟨c.x.heap.size, o', none⟩) l' k' → (0 < s' → 0 < k' → False) ∧ (i < j → s' = 0 → l' = 0) := fun q s' j hj hq o' l' k' hv' => by
      obtain ⟨_, g, g'⟩ := hr.tk.ok _ (List.mem_of_getElem? hq)
      constructor
      · intro hs' hk'
        rcases g hs' with ⟨ad', g⟩ | ⟨b', _, _, _, _, _, g1, _, _, g4, _⟩ | ⟨ms, gm, _⟩
        rotate_left 2
        · have gm : q = .conc (encM ms) := gm
          rw [gm] at hv'
          cases hv'
        · have g : q.val c.E.B = .slice ad' 0 0 := g
          rw [hv'] at g
          obtain ⟨_, _, h3⟩ := Value.slice.inj g
          omega
        · have g1 : q.val c.E.B = _ := g1
          rw [hv'] at g1
          cases g1
          exact Nat.lt_irrefl _ g4.lt
      · intro _ hs'
        obtain ⟨ad', len', cap', g1, g2⟩ := g' hs'
        have g1 : q.val c.E.B = .slice ad' len' cap' := g1
        rw [hv'] at g1
        cases g1
        rcases g2 with g2 | ⟨b', o'', g2, g3⟩
        · exact g2
        · cases g2
          exact absurd g3 (Nat.lt_irrefl _)
    have hz : ∀ (q : Nat) e', (xs ++ ys)[q]? = some e' → ∀ j, j < e.sz → (c.x.drew.alloc (.cells (((xs ++ ys).flatMap (flat c.E.B e)).toArray ++ Builtin.zeroCells z.cells (g - (xs.length + ys.length))) el)).cell? ⟨c.x.heap.size, 0 + q * e.sz + j, none⟩ = (flat c.E.B e e')[j]? := fun q e' hq j hj => by
      have hlt : q < (xs ++ ys).length := (List.getElem?_eq_some_iff.1 hq).1
      have hle : q * e.sz + e.sz ≤ (xs ++ ys).length * e.sz := by rw [← Nat.succ_mul]; exact Nat.mul_le_mul_right _ hlt
      rw [hB'.cell, Nat.zero_add, Array.getElem?_append_left (by simp only [List.size_toArray, hlA]; omega)]
      simp only [List.getElem?_toArray]
      rw [flatMap_get _ (hfl _) _ _ hj, hq]
      rfl
    obtain ⟨c', k1, k2, k3, k4, k5⟩ := grown (e := e) (zs := xs ++ ys) hr hi (x' := c.x.drew.alloc (.cells (((xs ++ ys).flatMap (flat c.E.B e)).toArray ++ Builtin.zeroCells z.cells (g - (xs.length + ys.length))) el)) (b := c.x.heap.size) (o := 0) (cap := g)
      ⟨rfl, rfl, rfl, by rw [size_alloc']; exact Nat.le_succ _, fun k hk _ => Below.heap_alloc _ _ _ hk⟩ hr.wf.below.size u4 (fun i hi => Nat.ne_of_lt (hr.wf.hi i hi)) hB' (by rw [List.length_append]; exact hge) (grownCap_le_maxLen _ _ _ _ (by unfold maxLen; omega)) (by rw [hsz]; omega)
      (fun e' he' => absurd he' (hnoF e')) (fun e' he' => absurd he' (hnoF e')) (fun es k hm => Nat.lt_irrefl _ (Array.getElem?_eq_some_iff.1 hm).1) hap (fun q e' hq => ⟨fun j hj => hz q e' hq j hj, hall q e' hq⟩)
    refine ⟨_, _, hrun, _, _, c', hk, ?_, k4, k1, k2, k5⟩
    show _ = c'.E.B nn.n
    rw [k3, List.length_append]
theorem own_sound (hT : TabOk P T) {o : Oper} {f : Fr} {nn : NS} {k : SV → NS → Prop} (h : ownK T o f nn k) {bl : List V} {c : Cx} {a : Act} (hr : Real w0 F0 bl nn c) (hf : FR N c f a) :
    ∃ v x', (execOp a.eval o).run P c.x = .ok (.value v) x' ∧ ∃ r nn' c', k r nn' ∧ v = r.val c'.E ∧ r.ok c' ∧ Real w0 F0 bl nn' c' ∧ c.Le c' ∧ c'.x = x' := by
  unfold ownK at h
  split at h <;> first | exact h.elim | skip
  rename_i cl ho
  split at h <;> first | exact h.elim | skip
  rename_i hc
  split at h <;> first | exact h.elim | skip
  rename_i x y hxy
  split at h <;> first | exact h.elim | skip
  rename_i t u htu
  split at h <;> first | exact h.elim | skip
  rename_i e n0 hty
  split at h <;> first | exact h.elim | skip
  rename_i hu0
  obtain rfl : u = t := Nat.eq_of_beq_eq_true hu0
  split at h <;> first | exact h.elim | skip
  rename_i s hs
  obtain ⟨hd, xs, h1, h2⟩ := lstA_sound h
  obtain ⟨e1, e2⟩ := evS_sound hf hs
  have hx := h2 c e2
  have hargs : cl.args = #[x, y] := by apply Array.toList_inj.1; rw [hxy]
  have hats : cl.argTypes = #[u, u] := by apply Array.toList_inj.1; rw [htu]
  have hexec : ∀ (v' : Value) (x' : World), (Builtin.append_ #[u, u] o.type #[a.eval x, a.eval y]).run P c.x = .ok v' x' → (execOp a.eval o).run P c.x = .ok (.value v') x' := fun v' x' hrun => by
    unfold execOp
    simp only [ho, resolve, hc, invoke, builtin, Sem.run_bind, Sem.run_pure, Result.andThen_ok, hargs, hats, List.map_toArray, List.map_cons, List.map_nil, hrun]
  have e1' : a.eval x = s.val c.E := e1
  split at h1
  · rename_i v hv
    obtain ⟨d, g1, g2, g3, g4⟩ := denK_sound v (.lst e) _ h1
    obtain ⟨e3, e4⟩ := evS_sound hf hv
    obtain ⟨v', x', hrun, hrest⟩ := app_run (P := P) hr hT hty (vx := a.eval x) (vy := a.eval y) o.type (by rw [e1']; exact hx) (h' := d.1) (by rw [e3]; exact val_leaf g2 (g3 c.E.B)) (g4 _ _ _ _ e4) g1
    exact ⟨v', x', hexec _ _ hrun, hrest⟩
  · rename_i hv
    obtain ⟨e3, e4⟩ := evS_sound hf hv
    obtain ⟨v', x', hrun, hrest⟩ := app_run (P := P) hr hT hty (vx := a.eval x) (vy := a.eval y) o.type (by rw [e1']; exact hx) (h' := nilH) e3 ⟨trivial, Or.inl ⟨rfl, none, 0, rfl⟩⟩ h1
    exact ⟨v', x', hexec _ _ hrun, hrest⟩
  · exact h1.elim

/-- A call that is walked there. -/
theorem inN_mem : ∀ (l : List Nat) (n : Nat), inN l n = false → n ∉ l
  | [], _, _ => by simp
  | a :: r, n, h => by
    unfold inN at h
    split at h
    · cases h
    · rename_i hb
      have := inN_mem r n h
      intro hm
      rcases List.mem_cons.1 hm with rfl | hm
      · simp at hb
      · exact this hm
theorem mem_inN : ∀ (l : List Nat) (n : Nat), inN l n = true → n ∈ l
  | [], _, h => by cases h
  | a :: r, n, h => by
    unfold inN at h
    split at h
    · rename_i hb
      rw [Nat.eq_of_beq_eq_true hb]; simp
    · exact List.mem_cons_of_mem _ (mem_inN r n h)
theorem look_ne {t t0 : Nat} {s0 : SV} {r : Fr} (h : t ≠ t0) : look ((t0, s0) :: r) t = look r t := by
  show (match Nat.beq t t0 with | true => some s0 | false => look r t) = look r t
  split
  · rename_i hb
    exact absurd (Nat.eq_of_beq_eq_true hb) h
  · rfl
theorem plK_elim : ∀ (seen : List Nat) (f : Fr) (k : Fr → Prop), plK seen f k → ∃ g, k g ∧ ∀ t s, look g t = some s → t ∉ seen ∧ look f t = some s ∧ s.pl = true
  | _, [], k, h => ⟨[], h, fun t s ht => by cases ht⟩
  | seen, (t0, s0) :: r, k, h => by
    unfold plK at h
    split at h
    · rename_i hin
      obtain ⟨g, h1, h2⟩ := plK_elim seen r k h
      refine ⟨g, h1, fun t s ht => ?_⟩
      obtain ⟨h0, h3, h4⟩ := h2 t s ht
      exact ⟨h0, by rw [look_ne (fun e => h0 (by rw [e]; exact mem_inN _ _ hin))]; exact h3, h4⟩
    · rename_i hin
      have hnin := inN_mem _ _ hin
      split at h
      · rename_i hp
        obtain ⟨g, h1, h2⟩ := plK_elim (t0 :: seen) r _ h
        refine ⟨_, h1, fun t s ht => ?_⟩
        by_cases htt : t = t0
        · subst htt
          have e : look ((t, s0) :: g) t = some s0 := by
            show (match Nat.beq t t with | true => some s0 | false => look g t) = some s0
            rw [Nat.beq_refl]
          rw [e] at ht
          cases ht
          refine ⟨hnin, ?_, hp⟩
          show (match Nat.beq t t with | true => some s0 | false => look r t) = some s0
          rw [Nat.beq_refl]
        · rw [look_ne htt] at ht
          obtain ⟨h0, h3, h4⟩ := h2 t s ht
          exact ⟨fun hm => h0 (List.mem_cons_of_mem _ hm), by rw [look_ne htt]; exact h3, h4⟩
      · obtain ⟨g, h1, h2⟩ := plK_elim (t0 :: seen) r _ h
        refine ⟨g, h1, fun t s ht => ?_⟩
        obtain ⟨h0, h3, h4⟩ := h2 t s ht
        exact ⟨fun hm => h0 (List.mem_cons_of_mem _ hm), by rw [look_ne (fun e => h0 (by rw [e]; simp))]; exact h3, h4⟩
theorem mOf_spec {o : Oper} {f : Fr} {tr : MTr} {xs : List Operand} {cs : List (Nat × Nat × List Step × Ty)} {tp : Bool} (hS : SpecsOk P S) (h : mOf S f o = some (tr, xs, cs, tp)) : ∃ g, ((tp = false → MOk P g tr) ∧ (tp = true → MOkT P g tr)) ∧ ∀ (c : Cx) (a : Act), FR N c f a →
    (execOp a.eval o).run P c.x = .ok (.enter g ((xs.map a.eval) ++ cs.map fun q => (capA q).val c.E).toArray) c.x ∧ ∀ q ∈ cs, (capA q).ok c := by
  unfold mOf at h
  split at h
  · rename_i cl ho
    split at h
    · rename_i x hx
      split at h
      · rename_i g cs' hg
        split at h
        · rename_i q1 q2 q3 q4 q5 q6 tr' q7 q8 hs
          obtain ⟨⟨_, hm, _⟩, hbody⟩ := hS _ (spL_mem _ _ _ hs)
          cases h
          refine ⟨g, hm tr rfl, fun c a hf => ?_⟩
          obtain ⟨e1, e2⟩ := evS_sound hf hg
          refine ⟨?_, fun q hq => e2 q hq⟩
          unfold execOp
          simp only [ho, resolve, hx, e1, SV.val, AV.val, Deferred.ofValue, Sem.run_bind, Sem.run_pure, Result.andThen_ok, invoke]
          simp only [Array.empty_append]
          rw [callFunc_run hbody]
          congr 2
          apply Array.toList_inj.1
          simp [capA, AV.val]
        · cases h
      · split at h
        · rename_i g _
          split at h
          · rename_i q1 q2 q3 q4 q5 q6 tr' q7 q8 hs
            obtain ⟨⟨_, hm, _⟩, hbody⟩ := hS _ (spL_mem _ _ _ hs)
            cases h
            refine ⟨g, hm tr rfl, fun c a hf => ?_⟩
            refine ⟨?_, fun q hq => by cases hq⟩
            have e1 : a.eval (.func g) = .func (.func g) #[] #[] := rfl
            unfold execOp
            simp only [ho, resolve, hx, e1, Deferred.ofValue, Sem.run_bind, Sem.run_pure, Result.andThen_ok, invoke]
            simp only [Array.empty_append]
            rw [callFunc_run hbody]
            congr 2
            apply Array.toList_inj.1
            simp
          · cases h
        · cases h
    · cases h
  · cases h

/-- Operations one after the other. -/
def tailL (P : Program) (ops : Array Oper) (Q : Act → World → Prop) : List Oper → Act → World → Prop
  | [], a, x => Q a x
  | o :: r, a, x => if Region.wanted o (yielded ops a.tmps) = true then upon4 P (fun v x' => tailL P ops Q r (a.put o.dst v) x') ((execOp a.eval o).run P x) else tailL P ops Q r (a.put o.dst undef) x

theorem upon4_mono {R R' : Value → World → Prop} (h : ∀ v x, R v x → R' v x) {r : Result Next} (hr : upon4 P R r) : upon4 P R' r := by
  cases r with
  | ok nx w' =>
    cases nx <;> simp only [upon4] at hr ⊢
    case value u => exact h _ _ hr
    case skip => exact h _ _ hr
    case enter g args => exact hr.mono fun e x' ⟨u, he, hu⟩ => ⟨u, he, h _ _ hu⟩
  | halt q w' => simp only [upon4] at hr

theorem tailL_list {ops : Array Oper} {Q : Exit → Act → World → Prop} : ∀ (l : List Oper) (a : Act) (x : World), tailL P ops (fun a x => Q .normal a x) l a x → wpList P ops Q l a x
  | [], a, x, h => h
  | o :: r, a, x, h => by
    unfold tailL at h
    unfold wpList
    split at h
    · rename_i hw
      rw [if_pos hw]
      refine Or.inl ?_
      unfold Oper.wp
      generalize (execOp a.eval o).run P x = res at h
      cases res with
      | ok nx w' =>
        cases nx <;> simp only [upon4] at h <;> simp only [Oper.upon]
        case value u => exact tailL_list r _ _ h
        case skip => exact tailL_list r _ _ h
        case enter g args =>
          exact h.mono fun e x' he => by
            obtain ⟨u, rfl, hu⟩ := he
            exact tailL_list r _ _ hu
      | halt q w' => simp only [upon4] at h
    · rename_i hw
      rw [if_neg hw]
      exact tailL_list r _ _ h

theorem flat_nolst (B B' : Nat → Value) : ∀ (t : Ty) (v : t.D), t.nolst = true → flat B t v = flat B' t v
  | .int, _, _ => rfl
  | .bool, _, _ => rfl
  | .ref, v, h => by cases h
  | .one t, v, h => flat_nolst B B' t v h
  | .pair a b, v, h => by
    simp only [Ty.nolst, Bool.and_eq_true] at h
    simp only [flat]
    rw [flat_nolst B B' a _ h.1, flat_nolst B B' b _ h.2]
  | .arr n t, f, h => rows_congr n fun i _ => flat_nolst B B' t (f i) h
  | .lst t, v, h => by cases h
theorem V.cells_nolst (B B' : Nat → Value) : ∀ v : V, v.ty.nolst = true → v.cells B = v.cells B'
  | .leaf t v, h => flat_nolst B B' t v h
  | .one y, h => V.cells_nolst B B' y h
  | .node y z, h => by
    simp only [V.ty, Ty.nolst, Bool.and_eq_true] at h
    simp only [V.cells]
    rw [V.cells_nolst B B' y h.1, V.cells_nolst B B' z h.2]
theorem V.ok_nolst {XB : Nat → Prop} {B : Nat → Value} {F : Nat → Nat → Prop} {x : World} : ∀ v : V, v.ty.nolst = true → v.ok XB B F x
  | .leaf t v, h => wok_nolst t v h
  | .one y, h => V.ok_nolst y h
  | .node y z, h => by
    simp only [V.ty, Ty.nolst, Bool.and_eq_true] at h
    exact ⟨V.ok_nolst y h.1, V.ok_nolst z h.2⟩
theorem AV.pl_ok {c c' : Cx} (hA : ∀ i, c.XA i → c'.XA i ∧ c'.E.A i = c.E.A i ∧ c'.ty i = c.ty i) {s : AV} (hp : s.pl = true) (hs : s.ok c) : s.val c'.E = s.val c.E ∧ s.ok c' := by
  cases s with
  | of v =>
    refine ⟨?_, V.ok_nolst v hp⟩
    have hc := V.cells_nolst c'.E.B c.E.B v hp
    show v.val c'.E.B = v.val c.E.B
    unfold V.val
    split
    · rfl
    · rfl
    · cases hp
    · cases hp
    · rw [hc]
  | ptr i off p u =>
    obtain ⟨h1, t, h2, h3⟩ := hs
    exact ⟨by simp only [AV.val, (hA i h1).2.1], (hA i h1).1, t, by rw [(hA i h1).2.2]; exact h2, h3⟩
  | elt t hd xs k off p u => cases hp
  | slc i off p n t lo len cap =>
    obtain ⟨h1, ⟨T, h2, h3⟩, h4⟩ := hs
    exact ⟨by simp only [AV.val, (hA i h1).2.1], (hA i h1).1, ⟨T, by rw [(hA i h1).2.2]; exact h2, h3⟩, h4⟩
  | clo g cs =>
    refine ⟨?_, fun q hq => ?_⟩
    · simp only [AV.val]
      congr 2
      apply List.map_congr_left
      intro q hq
      rw [(hA q.1 (hs q hq).1).2.1]
    · obtain ⟨h1, t, h2, h3⟩ := hs q hq
      exact ⟨(hA q.1 h1).1, t, by rw [(hA q.1 h1).2.2]; exact h2, h3⟩
  | emp hd => cases hp
  | sub t hd xs lo hi => cases hp
  | raw v => exact ⟨rfl, trivial⟩
theorem SV.pl_ok {c c' : Cx} (hA : ∀ i, c.XA i → c'.XA i ∧ c'.E.A i = c.E.A i ∧ c'.ty i = c.ty i) {s : SV} (hp : s.pl = true) (hs : s.ok c) : s.val c'.E = s.val c.E ∧ s.ok c' := by
  cases s with
  | a x => exact AV.pl_ok hA hp hs
  | tup l =>
    simp only [SV.pl, List.all_eq_true] at hp
    refine ⟨?_, fun y hy => (AV.pl_ok hA (hp y hy) (hs y hy)).2⟩
    simp only [SV.val]
    congr 2
    apply List.map_congr_left
    intro y hy
    exact (AV.pl_ok hA (hp y hy) (hs y hy)).1
theorem frOk_look {p : StP} {f : Fr} : ∀ (g : Fr), frOk p f g → ∀ t s, look g t = some s → (look f t = some s ∧ s.pl = true) ∨ ∃ v d, look f t = some (.a (.of v)) ∧ s = .a (.of (.leaf v.ty d)) ∧ keptD p v.ty v.dn0 d
  | [], _, t, s, hl => by cases hl
  | (t', s') :: r, hg, t, s, hl => by
    unfold look at hl
    split at hl
    · rename_i hb
      have := Nat.eq_of_beq_eq_true hb
      subst this
      cases hl
      exact hg.1
    · exact frOk_look r hg.2 t s hl
theorem keptBs_get {p : StP} : ∀ (l l' : List V), keptBs p l l' → l'.length = l.length ∧ ∀ (k : Nat) w, l'[k]? = some w → ∃ v d, l[k]? = some v ∧ w = .leaf v.ty d ∧ keptD p v.ty v.dn0 d
  | [], [], _ => ⟨rfl, fun k w h => by simp at h⟩
  | v :: r, w :: s, h => by
    obtain ⟨⟨d, h1, h2⟩, h3⟩ := h
    obtain ⟨h4, h5⟩ := keptBs_get r s h3
    refine ⟨by simp [h4], fun k u hu => ?_⟩
    cases k with
    | zero =>
      have : w = u := by simpa using hu
      subst this
      exact ⟨v, d, rfl, h1, h2⟩
    | succ k => exact h5 k u (by simpa using hu)
  | [], _ :: _, h => h.elim
  | _ :: _, [], h => h.elim
theorem keptD_nol {p : StP} : ∀ (t : Ty) (a : t.D), t.nolst = true → keptD p t a a
  | .int, _, _ => rfl
  | .bool, _, _ => rfl
  | .ref, _, _ => rfl
  | .one t, a, h => keptD_nol t a h
  | .pair s t, a, h => by
    simp only [Ty.nolst, Bool.and_eq_true] at h
    exact ⟨keptD_nol s a.1 h.1, keptD_nol t a.2 h.2⟩
  | .arr n t, f, h => fun i _ => keptD_nol t (f i) h
  | .lst t, a, h => by cases h
theorem keptBs_nol {p : StP} : ∀ (l : List V), (l.all fun v => v.ty.nolst) = true → keptBs p l (l.map fun v => .leaf v.ty v.dn0)
  | [], _ => trivial
  | v :: r, h => by
    simp only [List.all_cons, Bool.and_eq_true] at h
    exact ⟨⟨v.dn0, rfl, keptD_nol v.ty v.dn0 h.1⟩, keptBs_nol r h.2⟩
theorem V.dn0_flat (B : Nat → Value) : ∀ v : V, flat B v.ty v.dn0 = v.cells B
  | .leaf _ _ => rfl
  | .one x => V.dn0_flat B x
  | .node x y => by
    show flat B x.ty x.dn0 ++ flat B y.ty y.dn0 = x.cells B ++ y.cells B
    rw [V.dn0_flat B x, V.dn0_flat B y]
theorem V.dn0_ok {XB : Nat → Prop} {B : Nat → Value} {F : Nat → Nat → Prop} {w : World} : ∀ v : V, v.ok XB B F w → wok XB B F w v.ty v.dn0
  | .leaf _ _, h => h
  | .one x, h => V.dn0_ok x h
  | .node x y, h => ⟨V.dn0_ok x h.1, V.dn0_ok y h.2⟩
theorem kept_flat {p : StP} {c : Cx} {B' : Nat → Value} (hn : B' p.n = p.h.val c.E.B) (hB : ∀ n, c.XB n → B' n = c.E.B n) : ∀ (t : Ty) (a b : t.D), keptD p t a b → wok c.XB c.E.B c.E.F c.x t a → flat B' t b = flat c.E.B t a
  | .int, a, b, h, _ => by rw [show a = b from h]; rfl
  | .bool, a, b, h, _ => by rw [show a = b from h]; rfl
  | .ref, a, b, h, hw => by
    rw [show a = b from h] at hw
    show [Hd.val B' b] = [Hd.val c.E.B a]
    rw [show a = b from h, hdVal_congr hB (show Hd.ok c.XB b ∧ _ from hw).1]
  | .one t, a, b, h, hw => kept_flat hn hB t a b h hw
  | .pair s t, a, b, h, hw => by simp only [flat]; rw [kept_flat hn hB s _ _ h.1 hw.1, kept_flat hn hB t _ _ h.2 hw.2]
  | .arr n t, f, g, h, hw => rows_congr n fun i hi => kept_flat hn hB t _ _ (h i hi) (hw i hi)
  | .lst t, a, b, h, hw => by
    simp only [flat]
    obtain ⟨_, ⟨rfl, _⟩ | ⟨e, rfl, rfl⟩⟩ := h
    · rw [hdVal_congr hB hw.1]
    · show [B' p.n] = [p.h.val c.E.B]
      rw [hn]
theorem kept_wok {p : StP} {c c' : Cx} {bb : Nat} (hX : ∀ n, c.XB n → c'.XB n) (hB : ∀ n, c.XB n → c'.E.B n = c.E.B n) (hF : ∀ d k, d ≠ bb → c.E.F d k → c'.E.F d k) (hcell : ∀ d j, d ≠ bb → c'.x.cell? ⟨d, j, none⟩ = c.x.cell? ⟨d, j, none⟩) (hs : c.x.heap.size ≤ c'.x.heap.size)
    (htok : ∀ j q s, j ≠ p.i → (0 < s ∨ p.i < j) → p.tk[j]? = some (q, s) → ∀ b o len cap, q.val c.E.B = .slice (some ⟨b, o, none⟩) len cap → len = 0 ∨ b ≠ bb) (hnew : wokc c' (.lst p.te) (.nm p.n, p.xs')) : ∀ (t : Ty) (a b : t.D), keptD p t a b → wok c.XB c.E.B c.E.F c.x t a → wok c'.XB c'.E.B c'.E.F c'.x t b
  | .int, a, b, h, _ => trivial
  | .bool, a, b, h, _ => trivial
  | .ref, a, b, h, hw => by
    rw [show a = b from h] at hw
    obtain ⟨h1, r, h2⟩ := (show Hd.ok c.XB b ∧ ∃ r, Hd.val c.E.B b = .map r from hw)
    show Hd.ok c'.XB b ∧ ∃ r, Hd.val c'.E.B b = .map r
    refine ⟨?_, r, by rw [hdVal_congr hB h1]; exact h2⟩
    cases b with
    | conc u => trivial
    | nm k => exact hX k h1
  | .one t, a, b, h, hw => kept_wok hX hB hF hcell hs htok hnew t a b h hw
  | .pair s t, a, b, h, hw => ⟨kept_wok hX hB hF hcell hs htok hnew s _ _ h.1 hw.1, kept_wok hX hB hF hcell hs htok hnew t _ _ h.2 hw.2⟩
  | .arr n t, f, g, h, hw => fun i hi => kept_wok hX hB hF hcell hs htok hnew t _ _ (h i hi) (hw i hi)
  | .lst t, a, b, h, hw => by
    obtain ⟨hnl, ⟨rfl, hk⟩ | ⟨e, rfl, rfl⟩⟩ := h
    · refine ⟨?_, ?_⟩
      · cases hv : a.1 with
        | conc u => trivial
        | nm k => have := hw.1; rw [hv] at this; exact hX k this
      · rw [hdVal_congr hB hw.1]
        rcases hw.2 with h2 | ⟨b, o, cap, e1, e2, e3, e4, ⟨fe, e5, e6⟩, e7⟩
        · exact Or.inl h2
        · have hne : a.2 = [] ∨ b ≠ bb := by
            rcases hk with hk | ⟨j, s, hj, hj', hk⟩
            · exact Or.inl hk
            · rcases htok j a.1 s hj hj' hk b o _ cap e1 with h0 | h0
              · exact Or.inl (List.length_eq_zero_iff.1 h0)
              · exact Or.inr h0
          rcases hne with hne | hne
          · exact Or.inl ⟨hne, some ⟨b, o, none⟩, cap, by rw [e1, hne]; rfl⟩
          · refine Or.inr ⟨b, o, cap, e1, e2, e3, Nat.lt_of_lt_of_le e4 hs, ⟨fe, e5, hF _ _ hne e6⟩, fun i z hz => ⟨fun j hj => ?_, wok_nolst t z hnl⟩⟩
            rw [hcell _ _ hne, (e7 i z hz).1 j hj, flat_nolst c'.E.B c.E.B t z hnl]
    · cases e
      exact hnew

theorem splice_out {α : Type} {l n : List α} {off m : Nat} (h : off + n.length ≤ l.length) (hm : m < off ∨ off + n.length ≤ m) : (splice l off n)[m]? = l[m]? := by
  unfold splice
  rcases hm with hm | hm
  · rw [List.append_assoc, List.getElem?_append_left (by simp; omega), List.getElem?_take, if_pos hm]
  · rw [List.getElem?_append_right (by simp; omega), List.getElem?_drop]
    congr 1
    simp
    omega
theorem splice_in {α : Type} {l n : List α} {off k : Nat} (h : off + n.length ≤ l.length) (hk : k < n.length) : (splice l off n)[off + k]? = n[k]? := by
  unfold splice
  rw [List.getElem?_append_left (by simp; omega), List.getElem?_append_right (by simp; omega)]
  congr 1
  simp
  omega
/-- The world behind a store into a list of one's own. -/
theorem stored {bl bl' : List V} {nn : NS} {c : Cx} (hr : Real w0 F0 bl nn c) (htop : ∀ b e, F0.c.E.F b e → b < w0.heap.size) {te : Ty} (hsz1 : 1 ≤ te.sz) {xs xs' : List te.D} {i j : Nat} {h : Hd} (hnl : keptBs ⟨te, h, xs, nn.n, xs', nn.tk, i⟩ bl bl') (hi : nn.tk[i]? = some (h, te.sz)) (hw : wokc c (.lst te) (h, xs)) (hj : j < xs.length)
    {e : te.D} (hxs : xs' = xs.set j e) (he : wokc c te e) (hte : te.nolst = true) {off : Nat} {nc : List Value} (hoff : off + nc.length ≤ te.sz) (hfe : flat c.E.B te e = splice (flat c.E.B te (nthD te xs j)) off nc) :
    ∃ b o C t' c', HB c.x b C t' ∧ o + xs.length * te.sz ≤ C.size ∧ (∃ cap, h.val c.E.B = .slice (some ⟨b, o, none⟩) xs.length cap) ∧ c'.x = putB c.x b (sets C (o + j * te.sz + off) nc) ∧ Real w0 F0 bl' ⟨nn.n + 1, nn.tk.set i (.nm nn.n, te.sz)⟩ c' ∧ (∀ i, c.XA i → c'.XA i ∧ c'.E.A i = c.E.A i ∧ c'.ty i = c.ty i) ∧ c'.E.B nn.n = h.val c.E.B ∧
      (∀ (t : Ty) (a d : t.D), keptD ⟨te, h, xs, nn.n, xs', nn.tk, i⟩ t a d → wokc c t a → flat c'.E.B t d = flat c.E.B t a ∧ wokc c' t d) := by
  have hX := hr.XB
  have htok : OwnOk w0 c h te.sz := (hr.tk.ok _ (List.mem_of_getElem? hi)).2.1 hsz1
  obtain ⟨_, hd2⟩ := hw
  rcases hd2 with ⟨h1, _⟩ | ⟨b, o, cap, d1, d2, d3, d4, d5, d6⟩
  · have h1 : xs = [] := h1
    rw [h1] at hj; simp at hj
  have d1 : h.val c.E.B = .slice (some ⟨b, o, none⟩) xs.length cap := d1
  have d2 : xs.length ≤ cap := d2
  rcases htok with ⟨ad, ht⟩ | ⟨b', o', len, cap', C, t', g1, g2, g3, g4, g5, g6, g7, g8⟩ | ⟨ms, gm, gk⟩
  · rw [d1] at ht
    obtain ⟨_, h2, _⟩ := Value.slice.inj ht
    omega
  rotate_left
  · exfalso
    rw [gm] at d1
    cases d1
  rw [d1] at g1
  obtain ⟨q1, q2, q3⟩ := Value.slice.inj g1
  cases q1
  subst q2
  subst q3
  have hcap : 0 < cap := by omega
  let x' := putB c.x b (sets C (o + j * te.sz + off) nc)
  let E' : Env := ⟨c.E.A, fun n => if n = nn.n then h.val c.E.B else c.E.B n, fun d k => (d ≠ b ∧ c.E.F d k) ∨ (d = b ∧ k = o + xs.length * te.sz)⟩
  let c' : Cx := { XA := c.XA, XB := fun n => n < nn.n + 1, ty := c.ty, E := E', x := x' }
  have hBn : E'.B nn.n = h.val c.E.B := if_pos rfl
  have hBo : ∀ n, c.XB n → E'.B n = c.E.B n := fun n hn => if_neg (by have := (hX n).1 hn; omega)
  have hne : ∀ k, k ≠ b → x'.heap[k]? = c.x.heap[k]? := fun k hk => putB_ne _ _ _ hk
  have hB' : HB x' b (sets C (o + j * te.sz + off) nc) t' := g4.put _
  have hsz : x'.heap.size = c.x.heap.size := putB_size _ _ _
  have hval : ∀ q : Hd, q.ok c.XB → q.val E'.B = q.val c.E.B := fun q hq => hdVal_congr hBo hq
  have hsame : Same c.x x' (fun k => k = b) := ⟨rfl, rfl, rfl, by rw [hsz]; exact Nat.le_refl _, fun k _ hk => hne k hk⟩
  have hle0 : F0.c.Le c' := by
    have hl := hr.wf.le
    refine ⟨fun i hi => hl.A i hi, fun n hn => ⟨Nat.lt_succ_of_lt ((hX n).1 (hl.B n hn).1), (hBo n (hl.B n hn).1).trans (hl.B n hn).2⟩, fun d k hd => Or.inl ⟨?_, hl.F d k hd⟩, fun d k hd q hq => ?_, Nat.le_trans hl.S (by rw [hsz]; exact Nat.le_refl _)⟩
    · have := htop d k hd; omega
    · rw [← hl.K d k hd q hq]
      exact World.cell?_of_block (hne d (by have := htop d k hd; omega))
  have hwf : c'.Wf w0 F0 := by
    refine ⟨hr.wf.below.trans (hsame.below hr.wf.below.size fun k hk hkb => ?_), hr.wf.lo, fun i hi => by rw [show c'.x.heap.size = c.x.heap.size from hsz]; exact hr.wf.hi i hi, hr.wf.inj, fun d k hd => ?_, fun i hi k hk => ?_, fun d k hd => ?_, fun n hn => ⟨Nat.lt_succ_of_lt ((hX n).1 (hr.wf.oldB n hn).1), (hBo n (hr.wf.oldB n hn).1).trans (hr.wf.oldB n hn).2⟩, hle0⟩
    · omega
    · rw [show c'.x.heap.size = c.x.heap.size from hsz]
      rcases hd with ⟨_, hd⟩ | ⟨rfl, _⟩
      · exact hr.wf.fhi d k hd
      · exact g4.lt
    · rcases hk with ⟨_, hk⟩ | ⟨hk, _⟩
      · exact hr.wf.own i hi k hk
      · exact g3 i hi hk
    · constructor
      · rintro (⟨_, h1⟩ | ⟨h1, _⟩)
        · exact (hr.wf.old d k hd).1 h1
        · omega
      · exact fun h1 => Or.inl ⟨by omega, (hr.wf.old d k hd).2 h1⟩
  have hmulj : j * te.sz + te.sz ≤ xs.length * te.sz := by rw [← Nat.succ_mul]; exact Nat.mul_le_mul_right _ hj
  have hmulc : xs.length * te.sz ≤ cap * te.sz := Nat.mul_le_mul_right _ d2
  have hall : ∀ q s', (q, s') ∈ nn.tk → TokOk w0 c q s' := fun q s' hq => hr.tk.ok (q, s') hq
  have hilt : i < nn.tk.length := (List.getElem?_eq_some_iff.1 hi).1
  have hoth : ∀ k q s', k ≠ i → nn.tk[k]? = some (q, s') → ∀ o' l' k', q.val c.E.B = .slice (some ⟨b, o', none⟩) l' k' → (0 < s' → 0 < k' → False) ∧ (i < k → s' = 0 → l' = 0) := fun k q s' hk hq o' l' k' hv' => by
    have hjl : k < nn.tk.length := (List.getElem?_eq_some_iff.1 hq).1
    have hjv : nn.tk[k] = (q, s') := (List.getElem?_eq_some_iff.1 hq).2
    have hiv : nn.tk[i] = (h, te.sz) := (List.getElem?_eq_some_iff.1 hi).2
    have hp := List.pairwise_iff_getElem.1 hr.tk.ne
    rcases Nat.lt_or_gt_of_ne hk with hlt | hlt
    · have := hp k i hjl hilt hlt
      rw [hjv, hiv] at this
      exact ⟨fun hs' hk' => (this hs' _ _ _ _ _ _ _ hv' d1 hk').1 hsz1 hcap, fun hik => by omega⟩
    · have := hp i k hilt hjl hlt
      rw [hjv, hiv] at this
      have := this hsz1 _ _ _ _ _ _ _ d1 hv' hcap
      exact ⟨this.1, fun _ => this.2⟩
  have hnew : wokc c' (.lst te) (.nm nn.n, xs') := by
    refine ⟨Nat.lt_succ_self _, ?_⟩
    have hl' : xs'.length = xs.length := by rw [hxs, List.length_set]
    refine Or.inr ⟨b, o, cap, ?_, by show xs'.length ≤ cap; rw [hl']; exact d2, d3, by rw [show c'.x.heap.size = c.x.heap.size from hsz]; exact d4, ⟨o + xs.length * te.sz, by show o + xs'.length * te.sz ≤ _; rw [hl']; exact Nat.le_refl _, Or.inr ⟨rfl, rfl⟩⟩, fun q z hq => ?_⟩
    · show E'.B nn.n = .slice _ xs'.length cap
      rw [hBn, d1, hl']
    · have hq2 : xs'[q]? = some z := hq
      rw [hxs, List.getElem?_set] at hq2
      clear hq
      have hq := hq2
      clear hq2
      refine ⟨fun m hm => ?_, wok_nolst te z hte⟩
      show x'.cell? _ = (flat E'.B te z)[m]?
      rw [flat_nolst E'.B c.E.B te z hte, hB'.cell]
      split at hq
      · rename_i hjq
        subst hjq
        have hq := Option.some.inj hq
        subst hq
        have hold : xs[j]? = some (nthD te xs j) := by unfold nthD; rw [List.getElem?_eq_getElem hj]; rfl
        have hln : (flat c.E.B te (nthD te xs j)).length = te.sz := flat_len _ _ _
        rw [hfe]
        by_cases hin : m < off ∨ off + nc.length ≤ m
        · rw [sets_out _ _ _ _ (by omega), splice_out (by omega) hin, ← (d6 j _ hold).1 m hm, g4.cell]
        · obtain ⟨r, rfl⟩ : ∃ r, m = off + r := ⟨m - off, by omega⟩
          rw [← Nat.add_assoc, sets_in _ _ _ _ (by omega) (by omega), splice_in (by omega) (by omega)]
      · rename_i hjq
        have hq' : q < xs.length := (List.getElem?_eq_some_iff.1 hq).1
        have hdis : q * te.sz + te.sz ≤ j * te.sz ∨ j * te.sz + te.sz ≤ q * te.sz := by
          rcases Nat.lt_or_gt_of_ne hjq with h1 | h1
          · exact Or.inr (by rw [← Nat.succ_mul]; exact Nat.mul_le_mul_right _ h1)
          · exact Or.inl (by rw [← Nat.succ_mul]; exact Nat.mul_le_mul_right _ h1)
        rw [sets_out _ _ _ _ (by omega), ← (d6 q z hq).1 m hm, g4.cell]
  have hkept : ∀ (t : Ty) (a d : t.D), keptD ⟨te, h, xs, nn.n, xs', nn.tk, i⟩ t a d → wokc c t a → flat c'.E.B t d = flat c.E.B t a ∧ wokc c' t d := fun t a d hk hwk => by
    refine ⟨kept_flat hBn hBo t a d hk hwk, kept_wok (bb := b) (fun n hn => Nat.lt_succ_of_lt ((hX n).1 hn)) hBo (fun d k hd hF => Or.inl ⟨hd, hF⟩) (fun d j hd => World.cell?_of_block (hne d hd)) (by rw [show c'.x.heap.size = c.x.heap.size from hsz]; exact Nat.le_refl _) (fun k q s hk hks hq b1 o1 l1 k1 hv => ?_) hnew t a d hk hwk⟩
    by_cases hbb : b1 = b
    · subst hbb
      obtain ⟨z1, z2⟩ := hoth k q s hk hq _ _ _ hv
      rcases Nat.eq_zero_or_pos s with h0 | h0
      · rcases hks with hks | hks
        · omega
        · exact Or.inl (z2 hks h0)
      · obtain ⟨_, q1, _⟩ := hall q s (List.mem_of_getElem? hq)
        rcases q1 h0 with ⟨ad, e1⟩ | ⟨b2, o2, len2, cap2, C2, t2, e1, e2, e3, e4, e5, e6⟩ | ⟨ms, gm, _⟩
        rotate_left 2
        · rw [gm] at hv
          cases hv
        · rw [hv] at e1
          cases e1
          exact Or.inl rfl
        · rw [hv] at e1
          cases e1
          rcases Nat.eq_zero_or_pos k1 with h1 | h1
          · exact Or.inl (by omega)
          · exact (z1 h0 h1).elim
    · exact Or.inr hbb
  obtain ⟨hlen, hget⟩ := keptBs_get _ _ hnl
  refine ⟨b, o, C, t', c', g4, by omega, ⟨cap, d1⟩, rfl, ⟨hwf, fun k => by rw [hlen]; exact hr.XA k, fun n => Iff.rfl, fun k w hw' => ?_, fun k w hw' => ?_, ?_⟩, fun i hi => ⟨hi, rfl, rfl⟩, hBn, hkept⟩
  · obtain ⟨v, d, hv, rfl, _⟩ := hget k w hw'
    exact hr.ty k v hv
  · obtain ⟨v, d, hv, rfl, hkd⟩ := hget k w hw'
    obtain ⟨⟨t1, h1⟩, h2⟩ := hr.blk k v hv
    have hXA := (hr.XA k).2 (List.getElem?_eq_some_iff.1 hv).1
    obtain ⟨k1, k2⟩ := hkept v.ty v.dn0 d hkd (V.dn0_ok v h2)
    refine ⟨⟨t1, ?_⟩, k2⟩
    show HB x' (c.E.A k) (flat E'.B v.ty d).toArray t1
    rw [show flat E'.B v.ty d = v.cells c.E.B from k1.trans (V.dn0_flat _ v)]
    unfold HB
    rw [hne _ (g3 k hXA)]
    exact h1
  · have hme : TokOk w0 c' (.nm nn.n) te.sz := ⟨Nat.lt_succ_self _, fun _ => Or.inr (Or.inl ⟨b, o, xs.length, cap, _, t', hBn.trans d1, g2, g3, hB', d2, g6, by rw [sets_size]; exact g7, fun e' he' => by
      rcases he' with ⟨he', _⟩ | ⟨_, he'⟩
      · exact absurd rfl he'
      · omega⟩), fun h0 => by omega⟩
    refine ⟨fun p hp => ?_, ?_⟩
    · obtain ⟨k, hk⟩ := List.getElem?_of_mem hp
      have hk : (nn.tk.set i (.nm nn.n, te.sz))[k]? = some p := hk
      rw [List.getElem?_set] at hk
      split at hk
      · cases hk
        exact hme
      · rename_i hne'
        obtain ⟨g0, g, g'⟩ := hall p.1 p.2 (List.mem_of_getElem? hk)
        refine ⟨?_, fun hs => ?_, fun hs => (g' hs).val (hval _ g0) (by rw [show c'.x.heap.size = c.x.heap.size from hsz]; exact Nat.le_refl _)⟩
        · cases hp1 : p.1 with
          | conc u => trivial
          | nm k => rw [hp1] at g0; exact Nat.lt_succ_of_lt ((hX k).1 g0)
        rcases g hs with ⟨ad, g⟩ | ⟨b2, o2, len2, cap2, C2, t2, k1, k2, k3, k4, k5, k6, k7, k8⟩ | ⟨ms, gm, gk⟩
        · exact Or.inl ⟨ad, (hval _ g0).trans g⟩
        rotate_left
        · refine Or.inr (Or.inr ⟨ms, gm, gk.mono (fun n hn => Nat.lt_succ_of_lt ((hX n).1 hn)) (fun n hn => hBo n hn) (fun r _ g3 => g3) (fun r es k hr g3 g4' => ?_)⟩)
          show x'.heap[r]? = _
          rw [hne r (fun hb => by subst hb; unfold HB at g4; rw [g4] at g4'; cases g4')]
          exact g4'
        · rcases Nat.eq_zero_or_pos cap2 with h0 | h0
          · subst h0
            obtain rfl : len2 = 0 := by omega
            exact Or.inl ⟨_, (hval _ g0).trans k1⟩
          have hbne : b2 ≠ b := fun hbb => by
            subst hbb
            exact (hoth k p.1 p.2 (Ne.symm hne') hk _ _ _ k1).1 hs h0
          refine Or.inr (Or.inl ⟨b2, o2, len2, cap2, C2, t2, (hval _ g0).trans k1, k2, k3, ?_, k5, k6, k7, fun e' he' => ?_⟩)
          · show x'.heap[b2]? = _
            rw [hne b2 hbne]
            exact k4
          · rcases he' with ⟨_, he'⟩ | ⟨he', _⟩
            · exact k8 e' he'
            · exact absurd he' hbne
    · show (nn.tk.set i (.nm nn.n, te.sz)).Pairwise (Apart E'.B)
      rw [List.pairwise_iff_getElem]
      intro j k hj hk hjk
      rw [List.length_set] at hj hk
      have hgj : nn.tk[j]? = some nn.tk[j] := List.getElem?_eq_getElem hj
      have hgk : nn.tk[k]? = some nn.tk[k] := List.getElem?_eq_getElem hk
      rw [List.getElem_set, List.getElem_set]
      intro z1 b1 o1 l1 k1 o2 l2 k2 h1 h2 h3
      by_cases hij : i = j
      · rw [if_pos hij] at h1
        have hnk : ¬ i = k := by omega
        rw [if_neg hnk] at h2 ⊢
        have e1 : E'.B nn.n = .slice (some ⟨b1, o1, none⟩) l1 k1 := h1
        rw [hBn, d1] at e1
        cases e1
        obtain ⟨y1, y2⟩ := hoth k nn.tk[k].1 nn.tk[k].2 (by omega) hgk _ _ _ ((hval _ (hall _ _ (List.mem_of_getElem? hgk)).1).symm.trans h2)
        exact ⟨y1, y2 (by omega)⟩
      · rw [if_neg hij] at h1 z1
        by_cases hik : i = k
        · rw [if_pos hik] at h2
          have e1 : E'.B nn.n = .slice (some ⟨b1, o2, none⟩) l2 k2 := h2
          rw [hBn, d1] at e1
          cases e1
          exact ((hoth j nn.tk[j].1 nn.tk[j].2 (by omega) hgj _ _ _ ((hval _ (hall _ _ (List.mem_of_getElem? hgj)).1).symm.trans h1)).1 z1 h3).elim
        · rw [if_neg hik] at h2 ⊢
          exact (List.pairwise_iff_getElem.1 hr.tk.ne) j k hj hk hjk z1 b1 o1 l1 k1 o2 l2 k2 ((hval _ (hall _ _ (List.mem_of_getElem? hgj)).1).symm.trans h1) ((hval _ (hall _ _ (List.mem_of_getElem? hgk)).1).symm.trans h2) h3
theorem stw_sound (hT : TabOk P T) {o : Oper} {f : Fr} {bl : List V} {nn : NS} {K : Fr → List V → NS → Prop} (h : stwK T o f bl nn K) {c : Cx} {a : Act} (hr : Real w0 F0 bl nn c) (hf : FR N c f a) (htop : ∀ b e, F0.c.E.F b e → b < w0.heap.size) :
    ∃ x', (execOp a.eval o).run P c.x = .ok .skip x' ∧ o.dst = none ∧ Sat w0 F0 N K a x' := by
  unfold stwK at h
  split at h <;> first | exact h.elim | skip
  rename_i t x y ho
  split at h <;> first | exact h.elim | skip
  rename_i hdst
  split at h <;> first | exact h.elim | skip
  rename_i te hd xs j off p u hx
  split at h <;> first | exact h.elim | skip
  rename_i ty n0 hty
  split at h <;> first | exact h.elim | skip
  rename_i he _
  subst he
  split at h <;> first | exact h.elim | skip
  rename_i s hs
  split at h <;> first | exact h.elim | skip
  rename_i new hnew
  split at h <;> first | exact h.elim | skip
  rename_i hsz0
  have hsz1 : 1 ≤ te.sz := Nat.le_of_ble_eq_true hsz0
  obtain ⟨z, h1, h2, h3⟩ := setK_sound _ _ _ _ h
  obtain ⟨e, h4, h5, h6, h7⟩ := denK_sound z te _ h1
  obtain ⟨hte, i, g, bl', hi, hnl, hg, hk⟩ := h4
  obtain ⟨e1, e2⟩ := evS_sound hf hx
  obtain ⟨e3, e4⟩ := evS_sound hf hs
  obtain ⟨e5, e6⟩ := asV_sound hnew e4
  obtain ⟨hwk, hj, hat⟩ := e2
  obtain ⟨k1, k2, k3, k4⟩ := h3 off u hat
  have hncl : (new.cells c.E.B).length = u.sz := by rw [V.cells_len, k1]
  obtain ⟨b, o', C, t', c', m1, m2, ⟨cap, m3⟩, m4, m5, m6, m7, m8⟩ := stored hr htop hsz1 hnl hi hwk hj (hxs := rfl) (e := e) (wok_nolst te e hte) hte (off := off) (nc := new.cells c.E.B) (by rw [hncl]; exact k2) (by rw [h6, k3]; rfl)
  have hmulj : j * te.sz + te.sz ≤ xs.length * te.sz := by rw [← Nat.succ_mul]; exact Nat.mul_le_mul_right _ hj
  have hk2 : off + u.sz ≤ te.sz := k2
  have hrun := storeVar_cells (P := P) (id := t) (y := new) (B := c.E.B) (by rw [k1]; exact tyB_1 (hT.ty.at hty)) (V.cells_one new e6) m1 (o := o' + j * te.sz + off) (by rw [k1]; omega)
  have e1' : a.eval x = .pointer (some ⟨b, o' + j * te.sz + off, none⟩) := by
    rw [e1]
    simp only [SV.val, AV.val, m3]
  have e3' : a.eval y = new.val c.E.B := e3.trans e5
  refine ⟨putB c.x b (sets C (o' + j * te.sz + off) (new.cells c.E.B)), ?_, hdst, g, bl', _, c', hk, m5, ⟨hf.size, hf.defers, fun q s' hq => ?_⟩, m4⟩
  · unfold execOp
    simp only [ho, e1', e3', Instr.storeAt, Instr.sureAddr, Sem.run_bind, Sem.run_pure, Result.andThen_ok, hrun]
  · rcases frOk_look g hg q s' hq with ⟨f1, f2⟩ | ⟨v, d, f1, rfl, f2⟩
    · obtain ⟨f3, f4⟩ := hf.get q s' f1
      obtain ⟨f5, f6⟩ := SV.pl_ok m6 f2 f4
      exact ⟨by rw [f5]; exact f3, f6⟩
    · obtain ⟨f3, f4⟩ := hf.get q _ f1
      obtain ⟨f5, f6⟩ := m8 v.ty v.dn0 d f2 (V.dn0_ok v f4)
      refine ⟨?_, f6⟩
      rw [f3]
      show some (v.val c.E.B) = some ((V.leaf v.ty d).val c'.E.B)
      have e0 : flat c'.E.B v.ty d = v.cells c.E.B := f5.trans (V.dn0_flat _ v)
      congr 1
      cases ha : v.ty.agg with
      | true => rw [V.val_agg ha, V.val_agg (x := .leaf v.ty d) ha]; simp only [V.cells, e0]
      | false =>
        have h8 := V.cells_sc (B := c.E.B) ha
        have h9 := V.cells_sc (B := c'.E.B) (y := .leaf v.ty d) ha
        have h10 : [v.val c.E.B] = [(V.leaf v.ty d).val c'.E.B] := by rw [← h8, ← h9]; exact e0.symm
        simpa using h10
/-- All that was known is so behind it. -/
def leOp (T : Tab) (S : List (Nat × Spec)) (o : Oper) (f : Fr) : Bool :=
  match isElt T o f with
  | true => false
  | false => match mOf S f o with
    | some (_, _, _, true) => false
    | _ => true
theorem maps_of {w0 : World} {c : Cx} {tk : List (Hd × Nat)} (ht : Toks w0 c tk) {i : Nat} {ms : List (Nat × Mp)} (hi : tk[i]? = some (mtok ms)) : MapsOk w0 c 1 (encMs ms) := by
  obtain ⟨_, g, _⟩ := ht.ok _ (List.mem_of_getElem? hi)
  rcases g (show 0 < 1 by decide) with ⟨ad, g⟩ | ⟨b, o, len, cap, C, e, g1, _⟩ | ⟨ms', gm, gk⟩
  · cases g
  · cases g1
  · have : encMs ms = ms' := encM_inj (Hd.conc.inj gm)
    rw [this]
    exact gk
theorem ne_setM {B : Nat → Value} {tk : List (Hd × Nat)} (h : tk.Pairwise (Apart B)) (i : Nat) (ms' : List (Nat × Mp)) : (tk.set i (mtok ms')).Pairwise (Apart B) := by
  rw [List.pairwise_iff_getElem]
  intro j k hj hk hjk
  rw [List.length_set] at hj hk
  rw [List.getElem_set, List.getElem_set]
  intro z1 b1 o1 l1 k1 o2 l2 k2 h1 h2 h3
  by_cases hij : i = j
  · rw [if_pos hij] at h1
    cases h1
  · rw [if_neg hij] at h1 z1
    by_cases hik : i = k
    · rw [if_pos hik] at h2
      cases h2
    · rw [if_neg hik] at h2 ⊢
      exact (List.pairwise_iff_getElem.1 h) j k hj hk hjk z1 b1 o1 l1 k1 o2 l2 k2 h1 h2 h3
theorem Toks.setM {w0 : World} {c : Cx} {tk : List (Hd × Nat)} (ht : Toks w0 c tk) {i : Nat} {ms' : List (Nat × Mp)} (hm : MapsOk w0 c 1 (encMs ms')) : Toks w0 c (tk.set i (mtok ms')) := by
  refine ⟨fun p hp => ?_, ?_⟩
  · obtain ⟨j, hj⟩ := List.getElem?_of_mem hp
    rw [List.getElem?_set] at hj
    split at hj
    · split at hj
      · cases hj
        exact ⟨trivial, fun _ => Or.inr (Or.inr ⟨_, rfl, hm⟩), fun h => by cases h⟩
      · cases hj
    · exact ht.ok p (List.mem_of_getElem? hj)
  · exact ne_setM ht.ne i ms'
theorem encMs_get {ms : List (Nat × Mp)} {j n : Nat} {es : Mp} (h : ms[j]? = some (n, es)) : (n, encE es) ∈ encMs ms := List.mem_map.2 ⟨(n, es), List.mem_of_getElem? h, rfl⟩
theorem map_sound (hT : TabOk P T) {o : Oper} {f : Fr} {nn : NS} {K : SV → NS → Prop} (hm : isMap T o = true) (h : mapK o f nn K) {bl : List V} {c : Cx} {a : Act} (hr : Real w0 F0 bl nn c) (hf : FR N c f a) :
    upon4 P (fun v x' => ∃ r nn' c', K r nn' ∧ v = r.val c'.E ∧ r.ok c' ∧ Real w0 F0 bl nn' c' ∧ c.Le c' ∧ c'.x = x') ((execOp a.eval o).run P c.x) := by
  have hty : ∀ t, isRef T t = true → ∃ kt et, MapTy P t kt et := fun t ht => by
    unfold isRef at ht
    split at ht
    · rename_i n hq
      have := hT.ty.at hq
      simp only [tyB, Bool.and_eq_true] at this
      exact map_ty this.1.2
    · cases ht
  unfold mapK at h
  split at h
  · -- a new one
    rename_i t ho
    obtain ⟨i, ms, hi, hone, hk⟩ := h.ex
    have hrun : (execOp a.eval o).run P c.x = .ok (.value (.map (some c.x.heap.size))) (c.x.alloc (.map #[] 0)) := by
      unfold execOp
      rw [ho]
      rfl
    rw [hrun]
    let E : Env := ⟨c.E.A, fun n => if n = nn.n then .map (some c.x.heap.size) else c.E.B n, c.E.F⟩
    have hBo : ∀ n, c.XB n → E.B n = c.E.B n := fun n hn => if_neg (by have := (hr.XB n).1 hn; omega)
    have hp : Post w0 F0 c ⟨.a (.of (.leaf .ref (.nm nn.n))), .none, 1, [], true, true⟩ bl.length nn.n (.map (some c.x.heap.size)) (c.x.alloc (.map #[] 0)) E := by
      refine ⟨(if_pos rfl).symm, ⟨Or.inr ⟨Nat.le_refl _, Nat.lt_succ_self _⟩, _, if_pos rfl⟩, fun _ _ => rfl, hBo, fun _ _ h => h, fun _ _ _ h => h, fun b e he => ?_, ⟨rfl, rfl, rfl, by rw [size_alloc']; exact Nat.le_succ _, fun k hk _ => Below.heap_alloc _ _ _ hk⟩, fun y hy => (by cases hy), fun i y hy => (by cases hy)⟩
      rw [size_alloc']
      exact Nat.lt_succ_of_lt (hr.wf.fhi b e he)
    obtain ⟨hr', hle⟩ := hr.step hp
    have hold := maps_of hr.tk hi
    have hm' := maps_of hr'.tk hi
    refine ⟨_, _, _, hk, hp.val, hp.ok, ⟨hr'.wf, hr'.XA, hr'.XB, hr'.ty, hr'.blk, hr'.tk.setM ⟨rfl, fun p hq => ?_, ?_⟩⟩, hle, rfl⟩
    · rw [show encMs (ms ++ [(nn.n, [])]) = encMs ms ++ [(nn.n, [])] from List.map_append, List.mem_append] at hq
      rcases hq with hq | hq
      · exact hm'.ok p hq
      · rw [List.mem_singleton] at hq
        subst hq
        refine ⟨Or.inr ⟨Nat.le_refl _, Nat.lt_succ_self _⟩, c.x.heap.size, #[], 0, if_pos rfl, hr.wf.below.size, fun i hi => ?_, heap_alloc_at _ _, rfl⟩
        rcases hi with hi | ⟨_, y, hy⟩
        · exact Nat.ne_of_lt (hr.wf.hi i hi)
        · cases hy
    · rw [show encMs (ms ++ [(nn.n, [])]) = encMs ms ++ [(nn.n, [])] from List.map_append, List.pairwise_append]
      refine ⟨hm'.ne, List.pairwise_singleton _ _, fun p hq q hq' => ?_⟩
      rw [List.mem_singleton] at hq'
      subst hq'
      obtain ⟨g0, r, es, k, g1, g2, g3, g4, g5⟩ := hold.ok p hq
      show E.B p.1 ≠ E.B nn.n
      rw [hBo _ g0, g1, show E.B nn.n = .map (some c.x.heap.size) from if_pos rfl]
      intro he
      cases he
      exact Nat.lt_irrefl _ (Array.getElem?_eq_some_iff.1 g4).1
  · -- what it has
    rename_i t x y ho
    split at h <;> first | exact h.elim | skip
    rename_i n hx
    split at h <;> first | exact h.elim | skip
    rename_i w hw
    obtain ⟨key, h1, h2, h3, h4⟩ := denK_sound w kT _ h
    obtain ⟨i, j, ms, es, hi, hj, hk⟩ := h1.ex
    obtain ⟨g0, r, ents, clock, g1, g2, g3, g4, g5⟩ := (maps_of hr.tk hi).ok _ (encMs_get hj)
    have ex : a.eval x = .map (some r) := (evS_sound hf hx).1.trans g1
    have ey : a.eval y = kV key := by
      rw [(evS_sound hf hw).1]
      exact (val_leaf h2 (h3 c.E.B)).trans (kV_eq _ _)
    obtain ⟨kt, et, hmt⟩ := hty t (by unfold isMap at hm; rw [ho] at hm; exact hm)
    have hrun : (execOp a.eval o).run P c.x = .ok (.value (.tuple #[vV ((mfind key es).getD vT.zero), .bool (mfind key es).isSome])) c.x := by
      unfold execOp
      rw [ho]
      show (do pure (Next.value (← Instr.lookup t (a.eval x) (a.eval y) true)) : Sem Next).run P c.x = _
      rw [ex, ey, Sem.run_bind, lookup_run hmt key g4 g5]
      rfl
    rw [hrun]
    exact ⟨_, _, c, hk, rfl, by
      intro q hq
      simp only [List.mem_cons, List.not_mem_nil, or_false] at hq
      rcases hq with rfl | rfl
      · exact fun i _ => trivial
      · exact trivial, hr, Cx.Le.refl _, rfl⟩
  · -- one more
    rename_i t x y z ho
    split at h <;> first | exact h.elim | skip
    rename_i n hx
    split at h <;> first | exact h.elim | skip
    rename_i w hw
    obtain ⟨key, h1, h2, h3, h4⟩ := denK_sound w kT _ h
    split at h1 <;> first | exact h1.elim | skip
    rename_i u hu
    obtain ⟨val, k1, k2, k3, k4⟩ := denK_sound u vT _ h1
    obtain ⟨i, j, ms, es, hi, hone, hj, hno, hk⟩ := k1.ex
    have hmk := maps_of hr.tk hi
    obtain ⟨g0, r, ents, clock, g1, g2, g3, g4, g5⟩ := hmk.ok _ (encMs_get hj)
    have ex : a.eval x = .map (some r) := (evS_sound hf hx).1.trans g1
    have ey : a.eval y = kV key := by
      rw [(evS_sound hf hw).1]
      exact (val_leaf h2 (h3 c.E.B)).trans (kV_eq _ _)
    have ez : a.eval z = vV val := by
      rw [(evS_sound hf hu).1]
      exact (val_leaf k2 (k3 c.E.B)).trans (vV_eq _ _)
    obtain ⟨kt, et, hmt⟩ := hty t (by unfold isMap at hm; rw [ho] at hm; exact hm)
    let ob : Obj := .map (ents.push { key := kV key, val := vV val, born := clock }) (clock + 1)
    let x' : World := { c.x with heap := c.x.heap.setIfInBounds r ob }
    have hrun : (execOp a.eval o).run P c.x = .ok .skip x' := by
      unfold execOp
      rw [ho]
      show (do Instr.mapUpdate t (a.eval x) (a.eval y) (a.eval z); pure Next.skip : Sem Next).run P c.x = _
      rw [ex, ey, ez, Sem.run_bind, update_run hmt key val g4 g5 hno]
      rfl
    rw [hrun]
    have hlt : r < c.x.heap.size := (Array.getElem?_eq_some_iff.1 g4).1
    obtain ⟨s1, s2⟩ := MapKept.heap_set (o' := ob) g4
    have hne : ∀ b, b ≠ r → x'.heap[b]? = c.x.heap[b]? := s2
    have hat : x'.heap[r]? = some ob := s1
    have hsz : x'.heap.size = c.x.heap.size := Array.size_setIfInBounds ..
    have hsame : Same c.x x' (fun k => k = r) := ⟨rfl, rfl, rfl, by rw [hsz]; exact Nat.le_refl _, fun k _ hk => hne k hk⟩
    let c' : Cx := { c with x := x' }
    have hle : c.Le c' := by
      refine ⟨fun i hi => ⟨hi, rfl, rfl⟩, fun n hn => ⟨hn, rfl⟩, fun _ _ h => h, fun b e hb q hq => ?_, hsame.size⟩
      by_cases hbr : b = r
      · subst hbr
        unfold World.cell?
        show (match x'.heap[b]? with | _ => _) = _
        rw [hat, g4]
      · exact World.cell?_of_block (hne b hbr)
    have hwf : c'.Wf w0 F0 := ⟨hr.wf.below.trans (hsame.below hr.wf.below.size fun k hk hkb => by omega), hr.wf.lo, fun i hi => Nat.lt_of_lt_of_le (hr.wf.hi i hi) hsame.size, hr.wf.inj, fun b e hb => Nat.lt_of_lt_of_le (hr.wf.fhi b e hb) hsame.size, hr.wf.own, hr.wf.old, hr.wf.oldB, hr.wf.le.trans hle⟩
    have hms : MapsOk w0 c' 1 (encMs (ms.set j (n, es ++ [(key, val)]))) := by
      have hset : encMs (ms.set j (n, es ++ [(key, val)])) = (encMs ms).set j (n, encE es ++ [(kV key, vV val)]) := by
        unfold encMs
        rw [List.map_set]
        show _ = (List.map _ ms).set j _
        congr 1
        exact Prod.ext rfl List.map_append
      have hjl : j < (encMs ms).length := by
        unfold encMs
        rw [List.length_map]
        exact (List.getElem?_eq_some_iff.1 hj).1
      have hjv : (encMs ms)[j]? = some (n, encE es) := by
        unfold encMs
        rw [List.getElem?_map, hj]
        rfl
      rw [hset]
      refine ⟨rfl, fun p hp => ?_, ?_⟩
      · obtain ⟨q, hq⟩ := List.getElem?_of_mem hp
        rw [List.getElem?_set] at hq
        split at hq
        · cases hq
          refine ⟨g0, r, _, _, g1, g2, g3, hat, ?_⟩
          show (ents.push _).toList.map _ = _
          rw [Array.toList_push, List.map_append, g5]
          rfl
        · rename_i hjq
          obtain ⟨f0, r2, es2, k2', f1, f2, f3, f4, f5⟩ := hmk.ok p (List.mem_of_getElem? hq)
          refine ⟨f0, r2, es2, k2', f1, f2, f3, ?_, f5⟩
          show x'.heap[r2]? = _
          rw [hne r2 (fun hrr => ?_)]
          · exact f4
          · subst hrr
            have hql : q < (encMs ms).length := (List.getElem?_eq_some_iff.1 hq).1
            have hpw := List.pairwise_iff_getElem.1 hmk.ne
            have e1 : (encMs ms)[j] = (n, encE es) := (List.getElem?_eq_some_iff.1 hjv).2
            have e2 : (encMs ms)[q] = p := (List.getElem?_eq_some_iff.1 hq).2
            rcases Nat.lt_or_gt_of_ne hjq with hlt' | hlt'
            · have := hpw j q hjl hql hlt'
              rw [e1, e2] at this
              exact this (g1.trans f1.symm)
            · have := hpw q j hql hjl hlt'
              rw [e1, e2] at this
              exact this (f1.trans g1.symm)
      · rw [List.pairwise_iff_getElem]
        intro q q' hq hq' hqq
        rw [List.length_set] at hq hq'
        have hpw := List.pairwise_iff_getElem.1 hmk.ne q q' hq hq' hqq
        have e1 : (encMs ms)[j] = (n, encE es) := (List.getElem?_eq_some_iff.1 hjv).2
        rw [List.getElem_set, List.getElem_set]
        by_cases a1 : j = q
        · subst a1
          rw [if_pos rfl, if_neg (by omega)]
          rw [e1] at hpw
          exact hpw
        · rw [if_neg a1]
          by_cases a2 : j = q'
          · subst a2
            rw [if_pos rfl]
            rw [e1] at hpw
            exact hpw
          · rw [if_neg a2]
            exact hpw
    have htk : Toks w0 c' (nn.tk.set i (mtok (ms.set j (n, es ++ [(key, val)])))) := by
      refine ⟨fun p hp => ?_, ne_setM hr.tk.ne i _⟩
      obtain ⟨q, hq⟩ := List.getElem?_of_mem hp
      rw [List.getElem?_set] at hq
      split at hq
      · split at hq
        · cases hq
          exact ⟨trivial, fun _ => Or.inr (Or.inr ⟨_, rfl, hms⟩), fun h => by cases h⟩
        · cases hq
      · rename_i hiq
        obtain ⟨f0, f1, f2⟩ := hr.tk.ok p (List.mem_of_getElem? hq)
        refine ⟨f0, fun hs => ?_, fun hs => (f2 hs).val rfl hsame.size⟩
        rcases f1 hs with f1 | ⟨b, o', len, cap, C, e, d1, d2, d3, d4, d5⟩ | ⟨ms2, _, gk⟩
        · exact Or.inl f1
        · refine Or.inr (Or.inl ⟨b, o', len, cap, C, e, d1, d2, d3, ?_, d5⟩)
          show x'.heap[b]? = _
          rw [hne b (fun hb => by subst hb; unfold HB at d4; rw [d4] at g4; cases g4)]
          exact d4
        · exfalso
          have hs1 : p.2 = 1 := gk.s
          have hmem : p ∈ nn.tk.eraseIdx i := List.mem_eraseIdx_iff_getElem?.2 ⟨q, Ne.symm hiq, hq⟩
          have := List.all_eq_true.1 hone p hmem
          rw [hs1] at this
          cases this
    refine ⟨_, _, c', hk, rfl, und_ok c', ⟨hwf, hr.XA, hr.XB, hr.ty, fun q v hv => ?_, htk⟩, hle, rfl⟩
    obtain ⟨⟨t', b1⟩, b2⟩ := hr.blk q v hv
    refine ⟨⟨t', ?_⟩, V.okc_mono hle b2⟩
    show HB x' (c.E.A q) (v.cells c.E.B).toArray t'
    unfold HB
    rw [hne _ (g3 q ((hr.XA q).2 (lt_of_get hv)))]
    exact b1
  · exact h.elim
theorem oneK_soundL (hT : TabOk P T) (hS : SpecsOk P S) {o : Oper} {f : Fr} {bl : List V} {nn : NS} {K : Fr → List V → NS → Prop} (h : oneK T S N o f bl nn K) {c : Cx} {a : Act} (hr : Real w0 F0 bl nn c) (hf1 : FR N c f a) (htop : T.top = true → ∀ b e, F0.c.E.F b e → b < w0.heap.size) :
    upon4 P (fun v x' => ∃ f2 bl2 nn2 c2, K f2 bl2 nn2 ∧ Real w0 F0 bl2 nn2 c2 ∧ FR N c2 f2 (a.put o.dst v) ∧ c2.x = x' ∧ (leOp T S o f = true → c.Le c2)) ((execOp a.eval o).run P c.x) := by
  unfold oneK at h
  split at h
  · rename_i hmp
    refine upon4_mono (fun v x' hs => ?_) (map_sound (P := P) hT hmp h hr hf1)
    obtain ⟨r, nn', c', hk, hv, hro, hr', hle, rfl⟩ := hs
    obtain ⟨f2, hk2, hf2⟩ := putK_sound hk (hf1.mono hle) hro
    rw [← hv] at hf2
    exact ⟨f2, bl, nn', c', hk2, hr', hf2, rfl, fun _ => hle⟩
  split at h
  · obtain ⟨v, x', hrun, r, nn', c', hk, hv, hro, hr', hle, rfl⟩ := own_sound hT h hr hf1
    rw [hrun]
    obtain ⟨f2, hk2, hf2⟩ := putK_sound hk (hf1.mono hle) hro
    rw [← hv] at hf2
    exact ⟨f2, bl, nn', c', hk2, hr', hf2, rfl, fun _ => hle⟩
  split at h
  · obtain ⟨b, hk, hrun⟩ := nilW_sound (P := P) hT h (c := c) (ρ := a.eval) (fun y s hs => evS_sound hf1 hs)
    rw [hrun]
    obtain ⟨f2, hk2, hf2⟩ := putK_sound hk hf1 (c := c) trivial
    exact ⟨f2, bl, nn, c, hk2, hr, hf2, rfl, fun _ => Cx.Le.refl _⟩
  split at h
  · rename_i hel
    have ht : T.top = true := by
      unfold isElt at hel
      split at hel
      · assumption
      · cases hel
    obtain ⟨x', hrun, hdst, f2, bl2, nn2, c2, s1, s2, s3, s4⟩ := stw_sound hT h hr hf1 (htop ht)
    rw [hrun]
    show ∃ f2 bl2 nn2 c2, K f2 bl2 nn2 ∧ Real w0 F0 bl2 nn2 c2 ∧ FR N c2 f2 (a.put o.dst undef) ∧ c2.x = x' ∧ (leOp T S o f = true → c.Le c2)
    rw [hdst]
    refine ⟨f2, bl2, nn2, c2, s1, s2, s3, s4, fun hl => ?_⟩
    unfold leOp at hl
    rw [hel] at hl
    cases hl
  split at h
  · rename_i tr xs cs hm
    obtain ⟨g, ⟨hok, _⟩, hex⟩ := mOf_spec (N := N) hS hm
    have hok := hok rfl
    obtain ⟨l, hk, _, hl⟩ := evsK_elim (N := N) xs _ h
    have hk := apsK_elim _ _ hk
    obtain ⟨e1, e2⟩ := hl c a hf1
    obtain ⟨e3, e4⟩ := hex c a hf1
    rw [e3]
    have hc := hok w0 F0 (l ++ cs.map capA) bl nn _ hk c hr (fun s hs => by
      rcases List.mem_append.1 hs with hs | hs
      · exact e2 s hs
      · obtain ⟨q, hq, rfl⟩ := List.mem_map.1 hs
        exact e4 q hq)
    have hargs : ((xs.map a.eval) ++ cs.map fun q => (capA q).val c.E) = (l ++ cs.map capA).map (AV.val c.E) := by
      rw [List.map_append, e1, List.map_map]; rfl
    simp only [upon4]
    rw [hargs]
    refine hc.mono fun e x' he => ?_
    obtain ⟨r, bl', nn', c', rfl, hk', hr', hle, hro, rfl⟩ := he
    refine ⟨_, rfl, ?_⟩
    obtain ⟨f2, hk2, hf2⟩ := putK_sound hk' (hf1.mono hle) hro
    exact ⟨f2, bl', nn', c', hk2, hr', hf2, rfl, fun _ => hle⟩
  · rename_i tr xs cs hm
    have hel : isElt T o f = false := by assumption
    split at h <;> first | exact h.elim | skip
    rename_i ht
    obtain ⟨g, ⟨_, hok⟩, hex⟩ := mOf_spec (N := N) hS hm
    have hok := hok rfl
    obtain ⟨l, hk, _, hl⟩ := evsK_elim (N := N) xs _ h
    have hk := apsK_elim _ _ hk
    obtain ⟨f1, hk, hpl⟩ := plK_elim _ _ _ hk
    obtain ⟨e1, e2⟩ := hl c a hf1
    obtain ⟨e3, e4⟩ := hex c a hf1
    rw [e3]
    have hc := hok w0 F0 (l ++ cs.map capA) bl nn _ hk (htop ht) c hr (fun s hs => by
      rcases List.mem_append.1 hs with hs | hs
      · exact e2 s hs
      · obtain ⟨q, hq, rfl⟩ := List.mem_map.1 hs
        exact e4 q hq)
    have hargs : ((xs.map a.eval) ++ cs.map fun q => (capA q).val c.E) = (l ++ cs.map capA).map (AV.val c.E) := by
      rw [List.map_append, e1, List.map_map]; rfl
    simp only [upon4]
    rw [hargs]
    refine hc.mono fun e x' he => ?_
    obtain ⟨r, bl', nn', c', rfl, hk', hr', hle, hro, rfl⟩ := he
    refine ⟨_, rfl, ?_⟩
    have hf2 : FR N c' f1 a := ⟨hf1.size, hf1.defers, fun t s ht => by
      obtain ⟨_, h2, h3⟩ := hpl t s ht
      obtain ⟨h4, h5⟩ := hf1.get t s h2
      obtain ⟨h6, h7⟩ := SV.pl_ok hle h3 h5
      exact ⟨by rw [h6]; exact h4, h7⟩⟩
    obtain ⟨f2, hk2, hf2⟩ := putK_sound hk' hf2 hro
    refine ⟨f2, bl', nn', c', hk2, hr', hf2, rfl, fun hl => ?_⟩
    unfold leOp at hl
    rw [hel, hm] at hl
    cases hl
  · obtain ⟨out, hk, hcr, hd⟩ := opK_sound (w0 := w0) (F0 := F0) hT hS h
    have hrun := hd c a.eval hr.wf (fun y _ s hs => evS_sound hf1 hs) (fun i hi v hv => ⟨(hr.XA i).2 (lt_of_get hv), hr.ty i v hv, hr.blk i v hv⟩) (fun _ h => Nat.lt_irrefl _ ((hr.XA _).1 h)) (fun _ => hr.XB)
    refine upon4_mono (fun v x' ⟨E, hp⟩ => ?_) hrun
    obtain ⟨hr', hle⟩ := hr.step hp
    have hk' := efK_elim hk
    obtain ⟨f2, hk2, hf2⟩ := putK_sound hk' (hf1.mono hle) hp.ok
    rw [show out.r.val (c.ext out bl.length nn.n E x').E = v from hp.val.symm] at hf2
    cases hc : out.cr with
    | true =>
      simp only [hc, addK] at hk2
      exact ⟨f2, _, _, _, hk2, hr', hf2, rfl, fun _ => hle⟩
    | false =>
      simp only [hc, addK] at hk2
      have h0 := hcr hc
      rw [h0, Nat.add_zero] at hr'
      exact ⟨f2, _, _, _, hk2, hr', hf2, rfl, fun _ => hle⟩
theorem oneK_sound (hT : TabOk P T) (hS : SpecsOk P S) {o : Oper} {f : Fr} {bl : List V} {nn : NS} {K : Fr → List V → NS → Prop} (h : oneK T S N o f bl nn K) {c : Cx} {a : Act} (hr : Real w0 F0 bl nn c) (hf1 : FR N c f a) (htop : T.top = true → ∀ b e, F0.c.E.F b e → b < w0.heap.size) :
    upon4 P (fun v x' => Sat w0 F0 N K (a.put o.dst v) x') ((execOp a.eval o).run P c.x) :=
  upon4_mono (fun v x' ⟨f2, bl2, nn2, c2, h1, h2, h3, h4, _⟩ => ⟨f2, bl2, nn2, c2, h1, h2, h3, h4⟩) (oneK_soundL hT hS h hr hf1 htop)

theorem seqK_tail (hT : TabOk P T) (hS : SpecsOk P S) {ops : List Oper} {Q : Act → World → Prop} {K : Fr → List V → NS → Prop} (htop : T.top = true → ∀ b e, F0.c.E.F b e → b < w0.heap.size) (hQ : ∀ a x, Sat w0 F0 N K a x → Q a x) : ∀ (l : List Oper) (f : Fr) (bl : List V) (nn : NS) (c : Cx) (a : Act), seqK T S N (ops.map (·.dst)) l f bl nn K → Real w0 F0 bl nn c → FR N c f a → tailL P ops.toArray Q l a c.x
  | [], f, bl, nn, c, a, h, hr, hf => hQ a c.x ⟨f, bl, nn, c, h, hr, hf, rfl⟩
  | o :: r, f, bl, nn, c, a, h, hr, hf => by
    unfold seqK at h
    unfold tailL
    rcases guardK_sound h hf with ⟨hw, f1, hy, hf1⟩ | ⟨hw, f1, hno, hf1⟩
    · rw [if_pos hw]
      refine upon4_mono (fun v x' hs => ?_) (oneK_sound hT hS hy hr hf1 htop)
      obtain ⟨f2, bl2, nn2, c2, hk, hr2, hf2, rfl⟩ := hs
      exact seqK_tail hT hS htop hQ r f2 bl2 nn2 c2 _ hk hr2 hf2
    · rw [if_neg (by rw [hw]; exact Bool.false_ne_true)]
      obtain ⟨f2, hk2, hf2⟩ := putK_sound hno hf1 (und_ok c)
      exact seqK_tail hT hS htop hQ r f2 bl nn c _ hk2 hr hf2
theorem seqK_sound (hT : TabOk P T) (hS : SpecsOk P S) {ops : List Oper} {Q : Exit → Act → World → Prop} {K : Fr → List V → NS → Prop} (htop : T.top = true → ∀ b e, F0.c.E.F b e → b < w0.heap.size) (hQ : ∀ a x, Sat w0 F0 N K a x → Q .normal a x) (l : List Oper) (f : Fr) (bl : List V) (nn : NS) (c : Cx) (a : Act) (h : seqK T S N (ops.map (·.dst)) l f bl nn K) (hr : Real w0 F0 bl nn c) (hf : FR N c f a) : wpList P ops.toArray Q l a c.x :=
  tailL_list l a c.x (seqK_tail hT hS htop hQ l f bl nn c a h hr hf)
end

end Go.Proofs.Ytjbbgpacijageab.M
