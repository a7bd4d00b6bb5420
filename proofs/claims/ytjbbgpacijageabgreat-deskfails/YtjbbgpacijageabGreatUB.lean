/- Several texts in one. -/
import Derived.Test.YtjbbgpacijageabGreatUA
import Derived.Deep.AppendSrc
import Derived.Deep.Upon
/- Slices of arrays, and copies into them. No program is named here. -/
namespace Go.Proofs.YtjbbgpacijageabGreat.M
open Go.RowKit
set_option linter.unusedVariables false
set_option linter.unusedSimpArgs false

/-- A bound of a slice: told or not. -/
def bndK (f : Fr) (x : Option Operand) (dflt : Int) (k : Int → Prop) : Prop :=
  match x with
  | none => k dflt
  | some x => match evS f x with
    | some (.a (.of (.leaf .int z))) => k z
    | _ => False
def sliceK (T : Tab) (t : TypeId) (x : Operand) (low high max : Option Operand) (f : Fr) (k : Out → Prop) : Prop :=
  match max with
  | some _ => False
  | none => match evS f x with
    | some (.a (.ptr i off p u)) => match tyL T.ty t with
      | some (.arr n e, _) => match decEq u (.arr n e) with
        | .isTrue _ => match Nat.ble n 4294967296 with
          | true => bndK f low 0 fun lo => bndK f high n fun hi => Need (0 ≤ lo ∧ lo ≤ hi ∧ hi ≤ (n : Int)) (k (.val (.a (.slc i off p n e lo.toNat (hi.toNat - lo.toNat) (n - lo.toNat)))))
          | false => False
        | .isFalse _ => False
      | _ => False
    | _ => False

def cpy {α : Type} (g : Nat → α) (lo m : Nat) (src : Nat → α) : Nat → α := fun q => if lo ≤ q ∧ q < lo + m then src (q - lo) else g q
/-- What is copied: its cells, how many, the blocks that it lies in. -/
def srcK (bl : List V) (s : AV) (e : Ty) (k : (Nat → e.D) → Nat → List Nat → Prop) : Prop :=
  match s with
  | .slc j off p n e' lo len cap => match decEq e' e with
    | .isTrue _ => match nthB bl j with
      | some b => match getV b p with
        | some y => denK y (.arr n e) fun g => k (fun q => g (lo + q)) len [j]
        | none => False
      | none => False
    | .isFalse _ => False
  | .of v => denK v (.lst e) fun d => k (fun q => nthD e d.2 q) d.2.length []
  | _ => False
def copyK (T : Tab) (c : Call) (f : Fr) (bl : List V) (k : Out → Prop) : Prop :=
  match c.args.toList with
  | [x, y] => match c.argTypes.toList with
    | [t, _] => match tyL T.ty t with
      | some (.lst e0, _) => match evS f x with
        | some (.a (.slc i off p n e lo len cap)) => match decEq e e0 with
          | .isTrue _ => match evS f y with
            | some (.a s) => srcK bl s e fun src m rd => match nthB bl i with
              | some b => match getV b p with
                | some y0 => denK y0 (.arr n e) fun g => setK p b (.leaf (.arr n e) (cpy g lo (min m len) src)) fun b' => k ⟨.a (.of (.leaf .int ((min m len : Nat) : Int))), .set i b', 0, rd, false, false⟩
                | none => False
              | none => False
            | _ => False
          | .isFalse _ => False
        | _ => False
      | _ => False
    | _ => False
  | _ => False

theorem splice_adj {α : Type} {l a b : List α} {o : Nat} (h : o + a.length + b.length ≤ l.length) : splice (splice l o a) (o + a.length) b = splice l o (a ++ b) := by
  unfold splice
  have h1 : (List.take o l ++ a).length = o + a.length := by simp; omega
  rw [List.take_append_of_le_length (by omega), List.take_of_length_le (by omega)]
  rw [List.drop_append, List.drop_of_length_le (by omega), h1, List.drop_drop]
  rw [show o + a.length + (o + a.length + b.length - (o + a.length)) = o + (a ++ b).length from by simp; omega]
  simp
theorem rows_cpy {α β : Type} {g src : Nat → α} {fl : α → List β} {s lo n : Nat} (hs : ∀ x, (fl x).length = s) : ∀ m, lo + m ≤ n → rows n (fun q => fl (cpy g lo m src q)) = splice (rows n fun q => fl (g q)) (lo * s) (rows m fun q => fl (src q))
  | 0, h => by
    have h1 : (fun q => fl (cpy g lo 0 src q)) = fun q => fl (g q) := by
      funext q
      unfold cpy
      rw [if_neg (by omega)]
    rw [h1, rows_zero]
    unfold splice
    simp
  | m + 1, h => by
    have ih := rows_cpy (g := g) (src := src) (lo := lo) (n := n) hs m (by omega)
    have h1 : (fun q => fl (cpy g lo (m + 1) src q)) = fun q => if q = lo + m then fl (src m) else fl (cpy g lo m src q) := by
      funext q
      unfold cpy
      by_cases hq : q = lo + m
      · subst hq
        rw [if_pos (by omega), if_pos rfl, Nat.add_sub_cancel_left]
      · rw [if_neg hq]
        by_cases h2 : lo ≤ q ∧ q < lo + m
        · rw [if_pos (by omega), if_pos h2]
        · rw [if_neg (by omega), if_neg h2]
    rw [h1, rows_set (hs _) n (fun i _ => hs _) (lo + m) (by omega), ih, rows_succ]
    have hl : (rows m fun q => fl (src q)).length = m * s := rows_len m (fun i _ => hs _)
    have hn : (rows n fun q => fl (g q)).length = n * s := rows_len n (fun i _ => hs _)
    rw [show (lo + m) * s = lo * s + (rows m fun q => fl (src q)).length from by rw [hl, Nat.add_mul]]
    rw [splice_adj (by
      rw [hl, hs, hn]
      have : (lo + (m + 1)) * s ≤ n * s := Nat.mul_le_mul_right _ h
      rw [Nat.add_mul, Nat.add_mul] at this
      omega)]

section
variable {P : Program} {T : Tab} {w0 : World} {F0 : Old} {nn : Nat}

theorem bndK_sound {f : Fr} {x : Option Operand} {dflt : Int} {k : Int → Prop} (h : bndK f x dflt k) : ∃ z, k z ∧ ∀ (ρ : Operand → Value) (c : Cx), (∀ y, x = some y → ∀ s, evS f y = some s → ρ y = s.val c.E ∧ s.ok c) → (x = none ∧ z = dflt) ∨ (x.map ρ = some (.int .i64 z)) := by
  unfold bndK at h
  split at h
  · exact ⟨_, h, fun ρ c _ => Or.inl ⟨rfl, rfl⟩⟩
  · rename_i y
    split at h
    · rename_i z hz
      refine ⟨z, h, fun ρ c hρ => Or.inr ?_⟩
      rw [Option.map_some, (hρ y rfl _ hz).1]
      rfl
    · exact h.elim

theorem bounds_run {n : Nat} {lo hi : Int} {low high : Option Value} (hlo : (low = none ∧ lo = 0) ∨ low = some (.int .i64 lo)) (hhi : (high = none ∧ hi = (n : Int)) ∨ high = some (.int .i64 hi)) (hb : 0 ≤ lo ∧ lo ≤ hi ∧ hi ≤ (n : Int)) (x : World) :
    (Instr.sliceBounds false n n low high none).run P x = .ok (lo.toNat, hi.toNat, n) x := by
  have hcast : ((hi.toNat : Nat) : Int) = hi := by omega
  have hbnd : ∀ (z : Int) (y : Nat) (code : BoundsCode), 0 ≤ z ∧ z ≤ (y : Int) → (Instr.sliceBound (.int .i64 z) y code).run P x = .ok z.toNat x := fun z y code hz => by
    unfold Instr.sliceBound
    simp only [asIntOf, Sem.run_bind, Sem.run_pure, Result.andThen_ok]
    rw [if_pos hz]
    rfl
  unfold Instr.sliceBounds
  rcases hhi with ⟨rfl, rfl⟩ | rfl <;> rcases hlo with ⟨rfl, rfl⟩ | rfl
  · simp
  · simp only [Sem.run_bind, Sem.run_pure, Result.andThen_ok, hbnd lo n _ ⟨by omega, by omega⟩, Int.toNat_natCast]
  · simp only [Sem.run_bind, Sem.run_pure, Result.andThen_ok, hbnd hi n _ ⟨by omega, by omega⟩]
    rfl
  · simp only [Sem.run_bind, Sem.run_pure, Result.andThen_ok, hbnd hi n _ ⟨by omega, by omega⟩, hbnd lo hi.toNat _ ⟨by omega, by omega⟩]

theorem sliceK_sound (hT : TabOk P T) {o : Oper} {t : TypeId} {x : Operand} {low high max : Option Operand} (ho : o.op = .slice t x low high max) {f : Fr} {bl : List V} {k : Out → Prop} (h : sliceK T t x low high max f k) : ∃ out, k out ∧ Does P w0 F0 o f (fun i => bl[i]?) bl.length nn out := by
  unfold sliceK at h
  split at h
  · exact h.elim
  · split at h
    · rename_i i off p u hx
      split at h
      · rename_i n e n0 hty
        split at h
        · rename_i he _
          subst he
          split at h
          · rename_i hn
            have hn' := Nat.le_of_ble_eq_true hn
            obtain ⟨lo, h1, hlo⟩ := bndK_sound h
            obtain ⟨hi, h2, hhi⟩ := bndK_sound h1
            obtain ⟨hb, h3⟩ := h2
            refine ⟨_, h3, does_val fun c ρ hw hρ _ => ?_⟩
            obtain ⟨e1, e2⟩ := hρ x (by rw [ho]; simp [Op.operands]) _ hx
            have elo := hlo ρ c (fun y hy s hs => hρ y (by rw [ho, hy]; simp [Op.operands]) s hs)
            have ehi := hhi ρ c (fun y hy s hs => hρ y (by rw [ho, hy]; simp [Op.operands]) s hs)
            obtain ⟨e3, T', e4, e5⟩ := e2
            refine ⟨?_, e3, ⟨T', e4, e5⟩, by omega, by omega, hn'⟩
            have ha := tyB_arr (hT.ty.at hty)
            unfold arrB at ha
            split at ha
            · rename_i l el hu
              simp only [Bool.and_eq_true, beq_iff_eq] at ha
              obtain ⟨⟨rfl, hs⟩, _⟩ := ha
              cases hi' : P.info? el with
              | none => rw [hi'] at hs; simp at hs
              | some inf =>
                have hsz : inf.size = e.sz := by simpa [hi'] using hs
                have e1' : ρ x = .pointer (some ⟨c.E.A i, off, none⟩) := e1
                have hbr := bounds_run (P := P) (n := l) (lo := lo) (hi := hi) (low := low.map ρ) (high := high.map ρ) (by
                  rcases elo with ⟨h, h'⟩ | h
                  · exact Or.inl ⟨by rw [h]; rfl, h'⟩
                  · exact Or.inr h) (by
                  rcases ehi with ⟨h, h'⟩ | h
                  · exact Or.inl ⟨by rw [h]; rfl, h'⟩
                  · exact Or.inr h) hb c.x
                unfold execOp
                simp only [ho, e1', Instr.sliceAt, Sem.run_bind, run_underlying hu, Result.andThen_ok, Instr.sureAddr, Sem.run_pure, Option.map_none, hbr, sizeOf, typeInfo, run_program, hi', hsz, SV.val, AV.val]
                congr 2
                congr 1
                congr 1
                by_cases hc : l = lo.toNat
                · rw [if_pos hc, if_pos (by omega)]
                · rw [if_neg hc, if_neg (by omega)]
                  unfold Addr.add
                  split
                  · rename_i h0; rw [h0]; rfl
                  · rfl
            · cases ha
          · exact h.elim
        · exact h.elim
      · exact h.elim
    · exact h.elim

theorem rows_at {α : Type} {g : Nat → List α} {s n : Nat} (h : ∀ i, i < n → (g i).length = s) {q j : Nat} (hq : q < n) (hj : j < s) : (rows n g)[q * s + j]? = (g q)[j]? := by
  rw [← rows_get n h q hq, drop_take_get hj]
theorem rows_cell {g : Nat → List Value} {s n : Nat} (h : ∀ i, i < n → (g i).length = s) {x : World} {b o : Nat} (hc : ∀ q, q < n → ∀ j, j < s → x.cell? ⟨b, o + q * s + j, none⟩ = (g q)[j]?) (k : Nat) (hk : k < n * s) : x.cell? ⟨b, o + k, none⟩ = (rows n g)[k]? := by
  have hs : 0 < s := by
    rcases Nat.eq_zero_or_pos s with h0 | h0
    · subst h0; simp at hk
    · exact h0
  have hd : k = k / s * s + k % s := by
    have := Nat.div_add_mod k s
    rw [Nat.mul_comm] at this
    omega
  have hq : k / s < n := Nat.div_lt_of_lt_mul (by rw [Nat.mul_comm]; exact hk)
  have hj : k % s < s := Nat.mod_lt _ hs
  rw [hd, rows_at h hq hj, ← hc _ hq _ hj, Nat.add_assoc]

theorem srcK_sound {bl : List V} {s : AV} {e : Ty} {k : (Nat → e.D) → Nat → List Nat → Prop} (h : srcK bl s e k) : ∃ src m rd, k src m rd ∧ ∀ (c : Cx), s.ok c → (∀ i, i ∈ rd → ∀ v, bl[i]? = some v → c.XA i ∧ c.ty i = some v.ty ∧ (∃ e, HB c.x (c.E.A i) (v.cells c.E.B).toArray e) ∧ v.okc c) →
    ∃ ad cap, s.val c.E = .slice ad m cap ∧ (∀ q, q < m → wokc c e (src q)) ∧ (m = 0 ∨ ∃ b o, ad = some ⟨b, o, none⟩ ∧ ∀ q, q < m → ∀ j, j < e.sz → c.x.cell? ⟨b, o + q * e.sz + j, none⟩ = (flat c.E.B e (src q))[j]?) := by
  unfold srcK at h
  split at h
  · rename_i i off p n e' lo len cap
    split at h
    · rename_i he _
      subst he
      split at h
      · rename_i b hb
        split at h
        · rename_i y hy
          rw [nthB_eq] at hb
          obtain ⟨g, h1, h2, h3, h4⟩ := denK_sound y (.arr n e') _ h
          refine ⟨_, _, _, h1, fun c hs ht => ?_⟩
          obtain ⟨g2, g3, ⟨ee, g4⟩, g5⟩ := ht i (by simp) b hb
          obtain ⟨k1, ⟨T', k2, k3⟩, k4, k5, k6⟩ := hs
          rw [g3] at k2
          cases k2
          obtain ⟨m1, m2, m3⟩ := getV_sound c.E.B p b y off _ hy k3
          have hgok : ∀ q, q < n → wokc c e' (g q) := fun q hq => h4 _ _ _ _ (getV_ok p b y off _ hy k3 g5) q hq
          refine ⟨_, _, rfl, fun q hq => hgok (lo + q) (by omega), ?_⟩
          by_cases hl : len = 0
          · exact Or.inl hl
          · refine Or.inr ⟨c.E.A i, off + lo * e'.sz, by rw [if_neg (by omega)], fun q hq j hj => ?_⟩
            have hlt : lo + q < n := by omega
            have hle' : (lo + q) * e'.sz + e'.sz ≤ n * e'.sz := by rw [← Nat.succ_mul]; exact Nat.mul_le_mul_right _ hlt
            have hy2 : y.cells c.E.B = rows n fun i => flat c.E.B e' (g i) := (h3 c.E.B).symm
            have hidx : off + lo * e'.sz + q * e'.sz + j = off + ((lo + q) * e'.sz + j) := by rw [Nat.add_mul]; omega
            rw [hidx, hb_cell g4, ← drop_take_get (n := (Ty.arr n e').sz) (by simp only [Ty.sz]; omega), ← m3, hy2, rows_at (fun i _ => flat_len c.E.B e' (g i)) hlt hj]
        · exact h.elim
      · exact h.elim
    · exact h.elim
  · rename_i v
    obtain ⟨d, h1, h2, h3, h4⟩ := denK_sound v (.lst e) _ h
    refine ⟨_, _, _, h1, fun c hs _ => ?_⟩
    have hw := h4 _ _ _ _ hs
    have hval : AV.val c.E (.of v) = d.1.val c.E.B := val_leaf h2 (h3 _)
    rcases hw.2 with ⟨hnil, ad, cap, hd⟩ | ⟨b, o, cap, e1, e2, e3, e4, e5, e6⟩
    · exact ⟨ad, cap, by rw [hval, hd, hnil]; rfl, fun q hq => by rw [hnil] at hq; simp at hq, Or.inl (by rw [hnil]; rfl)⟩
    · have hget : ∀ q, q < d.2.length → d.2[q]? = some (nthD e d.2 q) := fun q hq => by
        unfold nthD
        rw [List.getElem?_eq_getElem hq]
        rfl
      exact ⟨_, cap, by rw [hval, e1], fun q hq => (e6 q _ (hget q hq)).2, Or.inr ⟨b, o, rfl, fun q hq j hj => (e6 q _ (hget q hq)).1 j hj⟩⟩
  · exact h.elim

/-- One block holds something else. -/
theorem does_put {o : Oper} {f : Fr} {get : Nat → Option V} {bl : Nat} {i : Nat} {b y : V} {r : SV} {rd : List Nat} (hb : get i = some b) (hty : y.ty = b.ty)
    (h : ∀ (c : Cx) (ρ : Operand → Value), c.Wf w0 F0 → (∀ y ∈ o.op.operands, ∀ s, evS f y = some s → ρ y = s.val c.E ∧ s.ok c) → (∀ j, j ∈ rd ∨ j = i → ∀ v, get j = some v → c.XA j ∧ c.ty j = some v.ty ∧ (∃ e, HB c.x (c.E.A j) (v.cells c.E.B).toArray e) ∧ v.okc c) →
      (execOp ρ o).run P c.x = .ok (.value (r.val c.E)) (putB c.x (c.E.A i) (y.cells c.E.B).toArray) ∧ r.ok c ∧ y.okc c) : Does P w0 F0 o f get bl nn ⟨r, .set i y, 0, rd, false, false⟩ := by
  refine ⟨fun _ => rfl, ?_⟩
  intro c ρ hw hρ ht _ _
  obtain ⟨g2, g3, ⟨e, g4⟩, g5⟩ := ht i (Or.inr ⟨y, rfl⟩) b hb
  obtain ⟨hrun, hro, k5⟩ := h c ρ hw hρ (fun j hj v hv => by
    rcases hj with hj | rfl
    · exact ht j (Or.inl hj) v hv
    · exact ht j (Or.inr ⟨y, rfl⟩) v hv)
  rw [hrun]
  have hput := HB.put g4 (y.cells c.E.B).toArray
  have hne : ∀ k, k ≠ c.E.A i → (putB c.x (c.E.A i) (y.cells c.E.B).toArray).heap[k]? = c.x.heap[k]? := fun k hk => putB_ne _ _ _ hk
  have hle : c.Le (c.ext ⟨r, .set i y, 0, rd, false, false⟩ bl nn c.E (putB c.x (c.E.A i) (y.cells c.E.B).toArray)) := by
    refine ⟨fun i hi => ⟨Or.inl hi, rfl, rfl⟩, fun n hn => ⟨Or.inl hn, rfl⟩, fun _ _ h => h, fun d k hd j hj => ?_, by show _ ≤ (putB _ _ _).heap.size; rw [putB_size]; exact Nat.le_refl _⟩
    exact World.cell?_of_block (hne d fun he => hw.own i g2 k (by rw [← he]; exact hd))
  refine ⟨c.E, rfl, SV.ok_mono hle hro, fun _ _ => rfl, fun _ _ => rfl, fun _ _ h => h, fun _ _ _ h => h, fun d k hd => by rw [putB_size]; exact hw.fhi d k hd, ⟨rfl, rfl, rfl, by rw [putB_size]; exact Nat.le_refl _, fun k hk hb' => hne k fun he => hb' ⟨i, y, rfl, he⟩⟩, (fun z hz => by cases hz), fun j z hz => ?_⟩
  cases hz
  exact ⟨g2, by rw [hty]; exact g3, ⟨e, hput⟩, V.okc_mono hle k5⟩

theorem copyK_sound (hT : TabOk P T) {o : Oper} {c : Call} (ho : o.op = .call c) (hcal : c.callee = .builtin .copy) {f : Fr} {bl : List V} {k : Out → Prop} (h : copyK T c f bl k) : ∃ out, k out ∧ Does P w0 F0 o f (fun i => bl[i]?) bl.length nn out := by
  unfold copyK at h
  split at h
  · rename_i x y hargs
    split at h
    · rename_i t t2 hats
      split at h
      · rename_i e0 n0 hty
        split at h
        · rename_i i off p n e lo len cap hx
          split at h
          · rename_i he _
            subst he
            split at h
            · rename_i s hy
              obtain ⟨src, m, rd, hk, hsrc⟩ := srcK_sound h
              split at hk
              · rename_i b hb
                split at hk
                · rename_i y0 hy0
                  rw [nthB_eq] at hb
                  obtain ⟨g, h1, h2, h3, h4⟩ := denK_sound y0 (.arr n e) _ hk
                  obtain ⟨b', h5, h6, h7⟩ := setK_sound _ _ _ _ h1
                  have hargs' : c.args = #[x, y] := by apply Array.toList_inj.1; rw [hargs]
                  have hats' : c.argTypes = #[t, t2] := by apply Array.toList_inj.1; rw [hats]
                  refine ⟨_, h5, does_put hb h6 fun cx ρ hw hρ ht => ?_⟩
                  obtain ⟨e1, e2⟩ := hρ x (by rw [ho]; simp [Op.operands, Call.operands, hcal, hargs']) _ hx
                  obtain ⟨e3, e4⟩ := hρ y (by rw [ho]; simp [Op.operands, Call.operands, hcal, hargs']) _ hy
                  obtain ⟨g2, g3, ⟨ee, g4⟩, g5⟩ := ht i (Or.inr rfl) b hb
                  obtain ⟨k1, ⟨T', k2, k3⟩, k4, k5, k6⟩ := e2
                  rw [g3] at k2
                  cases k2
                  obtain ⟨m1, m2, m3⟩ := getV_sound cx.E.B p b y0 off _ hy0 k3
                  obtain ⟨ad, cap', s1, s2, s3⟩ := hsrc cx e4 (fun j hj => ht j (Or.inl hj))
                  have hgok : wokc cx (.arr n e) g := h4 _ _ _ _ (getV_ok p b y0 off _ hy0 k3 g5)
                  have hnok : V.okc cx (.leaf (.arr n e) (cpy g lo (min m len) src)) := fun q hq => by
                    unfold cpy
                    split
                    · exact s2 _ (by omega)
                    · exact hgok q hq
                  obtain ⟨q1, q2, q3, q4⟩ := h7 off _ k3
                  refine ⟨?_, trivial, q4 _ _ _ _ g5 hnok⟩
                  -- the cells that are copied
                  have hrow : ∀ q, q < min m len → (flat cx.E.B e (src q)).length = e.sz := fun q _ => flat_len cx.E.B e (src q)
                  have hlenR : (rows (min m len) fun q => flat cx.E.B e (src q)).length = min m len * e.sz := rows_len _ hrow
                  have hbcell : (b.cells cx.E.B).toArray.size = b.ty.sz := by simp [V.cells_len]
                  have hle : (lo + min m len) * e.sz ≤ n * e.sz := Nat.mul_le_mul_right _ (by omega)
                  rw [Nat.add_mul] at hle
                  have m2' : off + n * e.sz ≤ b.ty.sz := m2
                  have hfirst : (Builtin.firstCells e.sz (min m len) (.slice ad m cap')).run P cx.x = .ok (rows (min m len) fun q => flat cx.E.B e (src q)).toArray cx.x := by
                    rcases s3 with rfl | ⟨bs, os, rfl, hcell⟩
                    · rw [Nat.zero_min, rows_zero]
                      cases ad with
                      | none => rfl
                      | some a =>
                        unfold Builtin.firstCells
                        rw [Nat.zero_mul]
                        rfl
                    · unfold Builtin.firstCells
                      have := run_loadCells_list (P := P) cx.x ⟨bs, os, none⟩ (rows (min m len) fun q => flat cx.E.B e (src q)) (fun j v hv => by
                        have hj : j < min m len * e.sz := by rw [← hlenR]; exact (List.getElem?_eq_some_iff.1 hv).1
                        rw [Addr.add_mid, rows_cell hrow (fun q hq j hj => hcell q (by omega) j hj) j hj]
                        exact hv)
                      rw [hlenR] at this
                      exact this
                  have hone : ∀ u ∈ (rows (min m len) fun q => flat cx.E.B e (src q)), u.oneCell' = true := fun u hu => by
                    simp only [rows, List.mem_flatMap, List.mem_range] at hu
                    obtain ⟨q, hq, hu⟩ := hu
                    exact flat_one e (src q) (s2 q (by omega)) u hu
                  have hstore : (storeCells ⟨cx.E.A i, if cap = 0 then off else off + lo * e.sz, none⟩ (rows (min m len) fun q => flat cx.E.B e (src q))).run P cx.x = .ok () (putB cx.x (cx.E.A i) (b'.cells cx.E.B).toArray) := by
                    have hcells : (b'.cells cx.E.B).toArray = sets (b.cells cx.E.B).toArray (off + lo * e.sz) (rows (min m len) fun q => flat cx.E.B e (src q)) := by
                      apply Array.toList_inj.1
                      rw [sets_splice _ _ _ (by rw [hbcell, hlenR]; omega), q3 cx.E.B]
                      show splice (b.cells cx.E.B) off (rows n fun q => flat cx.E.B e (cpy g lo (min m len) src q)) = _
                      rw [rows_cpy (fl := flat cx.E.B e) (s := e.sz) (fun z => flat_len cx.E.B e z) (min m len) (by omega)]
                      have hy2 : y0.cells cx.E.B = rows n fun i => flat cx.E.B e (g i) := (h3 cx.E.B).symm
                      rw [← hy2, m3]
                      simp only [Ty.sz]
                      rw [splice_splice (by rw [hlenR]; omega) (by rw [V.cells_len]; exact m2')]
                    by_cases hc0 : cap = 0
                    · have h0 : min m len = 0 := by omega
                      rw [hcells, h0, rows_zero]
                      have := setCells_putB [] (off + lo * e.sz) g4
                      rw [← this]
                      rfl
                    · rw [if_neg hc0, hcells]
                      have hst := run_storeCells_cells (P := P) (cx.E.A i) (off + lo * e.sz) (rows (min m len) fun q => flat cx.E.B e (src q)) 0 cx.x (fun j hj => by
                        rw [g4.cell]
                        simp [V.cells_len]
                        rw [hlenR] at hj
                        omega) (fun j hj => g4.frozen _) hone
                      rw [Nat.add_zero] at hst
                      rw [hst, setCells_putB _ _ g4]
                  have hl := tyB_lst (hT.ty.at hty)
                  unfold lstB at hl
                  split at hl
                  · rename_i el hu
                    simp only [Bool.and_eq_true, beq_iff_eq] at hl
                    obtain ⟨⟨⟨⟨hs, _⟩, _⟩, _⟩, _⟩ := hl
                    cases hi' : P.info? el with
                    | none => rw [hi'] at hs; simp at hs
                    | some inf =>
                      have hsz : inf.size = e.sz := by simpa [hi'] using hs
                      have e1' : ρ x = .slice (some ⟨cx.E.A i, if cap = 0 then off else off + lo * e.sz, none⟩) len cap := e1
                      have e3' : ρ y = .slice ad m cap' := e3.trans s1
                      unfold execOp
                      simp only [ho, resolve, hcal, hargs', hats', Sem.run_bind, Sem.run_pure, Result.andThen_ok, invoke]
                      simp only [builtin, Builtin.copy_, Sem.run_bind]
                      simp only [List.map_toArray, List.map_cons, List.map_nil, e1', e3', List.getElem?_toArray, List.getElem?_cons_zero, List.getElem?_cons_succ, Sem.run_bind, run_underlying hu, Result.andThen_ok, Builtin.lenOf, Sem.run_pure, sizeOf, typeInfo, run_program, hi', hsz]
                      rw [show Nat.min m len = min m len from rfl, hfirst]
                      simp only [Result.andThen_ok, Sem.run_bind]
                      rw [hstore]
                      rfl
                  · cases hl
                · exact hk.elim
              · exact hk.elim
            · exact h.elim
          · exact h.elim
        · exact h.elim
      · exact h.elim
    · exact h.elim
  · exact h.elim
end

end Go.Proofs.YtjbbgpacijageabGreat.M

/- Lists that are made: a composite, a copy. No program is named here. -/
namespace Go.Proofs.YtjbbgpacijageabGreat.M
open Go.RowKit
set_option linter.unusedVariables false
set_option linter.unusedSimpArgs false

section
variable {P : Program} {w0 : World} {F0 : Old} {o : Oper} {f : Fr} {get : Nat → Option V} {bl nn : Nat}

/-- A new list. -/
theorem does_list {T : Ty} {xs : List T.D} (h : ∀ (c : Cx) (ρ : Operand → Value), c.Wf w0 F0 → (∀ y ∈ o.op.operands, ∀ s, evS f y = some s → ρ y = s.val c.E ∧ s.ok c) →
    (∀ e ∈ xs, wokc c T e) ∧ ∃ v x', (execOp ρ o).run P c.x = .ok (.value v) x' ∧ Same c.x x' (fun _ => False) ∧
      ((xs = [] ∧ ∃ ad cap, v = .slice ad 0 cap) ∨ ∃ b cap, v = .slice (some ⟨b, 0, none⟩) xs.length cap ∧ xs.length ≤ cap ∧ cap ≤ maxLen ∧ c.x.heap.size ≤ b ∧ b < x'.heap.size ∧
        ∀ (i : Nat) e, xs[i]? = some e → ∀ j, j < T.sz → x'.cell? ⟨b, i * T.sz + j, none⟩ = (flat c.E.B T e)[j]?)) :
    Does P w0 F0 o f get bl nn ⟨.a (.of (.leaf (.lst T) (.nm nn, xs))), .none, 1, [], true, true⟩ := by
  refine ⟨fun h => (by cases h), ?_⟩
  intro c ρ hw hρ ht _ hq
  have hX := hq rfl
  obtain ⟨hel, v, x', hrun, hsame, hv⟩ := h c ρ hw hρ
  rw [hrun]
  let E : Env := ⟨c.E.A, fun n => if n = nn then v else c.E.B n, fun b e => c.E.F b e ∨ (c.x.heap.size ≤ b ∧ b < x'.heap.size)⟩
  have hle : c.Le (c.ext ⟨.a (.of (.leaf (.lst T) (.nm nn, xs))), .none, 1, [], true, true⟩ bl nn E x') := by
    refine ⟨fun i hi => ⟨Or.inl hi, rfl, rfl⟩, fun n hn => ⟨Or.inl hn, if_neg ?_⟩, fun _ _ h => Or.inl h, fun b e he j hj => ?_, hsame.size⟩
    · have := (hX n).1 hn; omega
    · exact World.cell?_of_block (hsame.block b (hw.fhi b e he) (fun h => h))
  have hBn : E.B nn = v := if_pos rfl
  refine ⟨E, hBn.symm, ?_, fun _ _ => rfl, fun n hn => (hle.B n hn).2, fun _ _ h => Or.inl h, fun b e hb he => ?_, fun b e he => ?_, ⟨hsame.os, hsame.tape, hsame.output, hsame.size, fun k hk _ => hsame.block k hk (fun h => h)⟩, (fun y hy => by cases hy), (fun i y hy => by cases hy)⟩
  · refine ⟨Or.inr ⟨Nat.le_refl _, Nat.lt_succ_self _⟩, ?_⟩
    rcases hv with ⟨h1, ad, cap, h2⟩ | ⟨b, cap, h1, h2, h3, h4, h5, h6⟩
    · exact Or.inl ⟨h1, ad, cap, hBn.trans h2⟩
    · refine Or.inr ⟨b, 0, cap, hBn.trans h1, h2, h3, h5, ⟨_, Nat.le_refl _, Or.inr ⟨h4, h5⟩⟩, fun i e he => ⟨fun j hj => ?_, wokc_mono hle (hel e (List.mem_of_getElem? he))⟩⟩
      show x'.cell? ⟨b, 0 + i * T.sz + j, none⟩ = (flat E.B T e)[j]?
      have hfc : flat E.B T e = flat c.E.B T e := flat_congr (fun n hn => (hle.B n hn).2) T e (hel e (List.mem_of_getElem? he))
      rw [Nat.zero_add, h6 i e he j hj, hfc]
  · rcases he with he | ⟨h1, _⟩
    · exact he
    · omega
  · rcases he with he | ⟨_, h1⟩
    · exact Nat.lt_of_lt_of_le (hw.fhi b e he) hsame.size
    · exact h1
end

theorem flatMap_get {α : Type} {g : α → List Value} {s : Nat} : ∀ (xs : List α), (∀ e ∈ xs, (g e).length = s) → ∀ i j, j < s → (xs.flatMap g)[i * s + j]? = (xs[i]?).bind fun e => (g e)[j]?
  | [], _, i, j, _ => by simp
  | e :: r, h, i, j, hj => by
    have he := h e (by simp)
    rw [List.flatMap_cons]
    cases i with
    | zero =>
      rw [List.getElem?_append_left (by omega)]
      simp
    | succ i =>
      rw [List.getElem?_append_right (by rw [he, Nat.succ_mul]; omega), he, show (i + 1) * s + j - s = i * s + j from by rw [Nat.succ_mul]; omega, flatMap_get r (fun e' he' => h e' (by simp [he'])) i j hj]
      simp
theorem flatMap_len {α : Type} {g : α → List Value} {s : Nat} : ∀ (xs : List α), (∀ e ∈ xs, (g e).length = s) → (xs.flatMap g).length = xs.length * s
  | [], _ => by simp
  | e :: r, h => by
    rw [List.flatMap_cons, List.length_append, h e (by simp), flatMap_len r (fun e' he' => h e' (by simp [he'])), List.length_cons, Nat.succ_mul]
    omega

/-- A composite of a list; append onto nil. -/
def bslK (T : Tab) (t : TypeId) (len : Nat) (parts : List (Nat × Operand)) (f : Fr) (nn : Nat) (k : Out → Prop) : Prop :=
  match tyL T.ty t with
  | some (.lst e, _) => Need (1 ≤ len ∧ len * e.sz ≤ 65536) (partK len (fun i => [.idx i]) f parts (.leaf (.arr len e) (Ty.arr len e).zero) fun v => denK v (.arr len e) fun g => k ⟨.a (.of (.leaf (.lst e) (.nm nn, ownL e g 0 len))), .none, 1, [], true, true⟩)
  | _ => False
def nilA : AV → Bool
  | .raw (.slice none 0 0) => true
  | .of (.leaf (.lst _) (.conc (.slice none 0 0), [])) => true
  | _ => false
theorem nilA_val {s : AV} (h : nilA s = true) (E : Env) : s.val E = .slice none 0 0 := by
  unfold nilA at h
  split at h
  · rfl
  · rfl
  · cases h
def emptyA : AV → Bool
  | .raw (.slice none 0 0) => true
  | .of (.leaf (.lst _) (.conc (.slice none 0 0), [])) => true
  | .emp _ => true
  | _ => false
theorem emptyA_val {s : AV} (h : emptyA s = true) (c : Cx) (hs : s.ok c) : ∃ ad, s.val c.E = .slice ad 0 0 := by
  unfold emptyA at h
  split at h
  · exact ⟨none, rfl⟩
  · exact ⟨none, rfl⟩
  · obtain ⟨_, a, l, k, hv⟩ := hs
    exact ⟨a, by simp only [AV.val, hv]⟩
  · cases h
/-- An empty list, made on the spot. -/
def bs0K (T : Tab) (t : TypeId) (parts : List (Nat × Operand)) (nn : Nat) (k : Out → Prop) : Prop :=
  match tyL T.ty t with
  | some (.lst e, _) => match parts with
    | [] => k ⟨.a (.emp (.nm nn)), .none, 1, [], true, true⟩
    | _ => False
  | _ => False
def appK (T : Tab) (c : Call) (f : Fr) (nn : Nat) (k : Out → Prop) : Prop :=
  match c.args.toList with
  | [x, y] => match c.argTypes.toList with
    | [t, u] => match tyL T.ty t with
      | some (.lst e, _) => match Nat.beq u t with
        | true => match evS f x with
          | some (.a s) => match emptyA s with
            | true => match evS f y with
              | some (.a (.of v)) => denK v (.lst e) fun d => Need (d.2.length ≤ 140737488355328 ∧ d.2.length * e.byt ≤ 140737488355328) (k ⟨.a (.of (.leaf (.lst e) (.nm nn, d.2))), .none, 1, [], true, true⟩)
              | _ => False
            | false => False
          | _ => False
        | false => False
      | _ => False
    | _ => False
  | _ => False

section
variable {P : Program} {w0 : World} {F0 : Old}
theorem lst_info {id : TypeId} {t : Ty} (h : lstB P id t = true) : ∃ e i z, P.underlying id = some (.slice e) ∧ P.info? e = some i ∧ i.size = t.sz ∧ 1 ≤ t.sz ∧ i.zero = some z ∧ zeroB P e t = true ∧ i.bytes ≤ t.byt := by
  unfold lstB at h
  split at h
  · rename_i e hu
    simp only [Bool.and_eq_true, beq_iff_eq] at h
    obtain ⟨⟨⟨⟨h1, h2⟩, h3⟩, h4⟩, h5⟩ := h
    cases hi : P.info? e with
    | none => rw [hi] at h1; simp at h1
    | some i =>
      have hz := h3
      unfold zeroB at hz
      rw [hi] at hz h5
      simp only [Option.bind_some] at hz
      split at hz
      · rename_i z hzz
        exact ⟨e, i, z, hu, hi, by simpa [hi] using h1, Nat.le_of_ble_eq_true h4, hzz, h3, Nat.le_of_ble_eq_true h5⟩
      · cases hz
  · cases h

theorem appK_sound {T : Tab} (hT : TabOk P T) {o : Oper} {c : Call} (ho : o.op = .call c) (hc : c.callee = .builtin .append) {f : Fr} {get : Nat → Option V} {bl nn : Nat} {k : Out → Prop} (h : appK T c f nn k) : ∃ out, k out ∧ Does P w0 F0 o f get bl nn out := by
  unfold appK at h
  split at h
  · rename_i x y hxy
    split at h
    · rename_i t u htu
      split at h
      · rename_i e n0 hty
        split at h
        · rename_i hu0
          obtain rfl : u = t := Nat.eq_of_beq_eq_true hu0
          split at h
          · rename_i s hs
            split at h
            · rename_i hnil
              split at h
              · rename_i v hy
                obtain ⟨d, h1, h2, h3, h4⟩ := denK_sound v (.lst e) _ h
                obtain ⟨hb, h1⟩ := h1
                refine ⟨_, h1, does_list fun cx ρ hw hρ => ?_⟩
                have hargs : c.args = #[x, y] := by apply Array.toList_inj.1; rw [hxy]
                have hats : c.argTypes = #[u, u] := by apply Array.toList_inj.1; rw [htu]
                obtain ⟨e1, e2⟩ := hρ x (by rw [ho]; simp [Op.operands, Call.operands, hc, hargs]) _ hs
                obtain ⟨e3, e4⟩ := hρ y (by rw [ho]; simp [Op.operands, Call.operands, hc, hargs]) _ hy
                obtain ⟨ad0, hx0⟩ := emptyA_val hnil cx e2
                have hx : ρ x = .slice ad0 0 0 := by rw [e1]; exact hx0
                have hwok : wokc cx (.lst e) d := h4 _ _ _ _ e4
                have hyv : ρ y = d.1.val cx.E.B := by
                  rw [e3]
                  show v.val cx.E.B = _
                  rw [val_leaf h2 (h3 cx.E.B)]
                  rfl
                obtain ⟨el, i, z, u1, u2, u3, u4, u5, u6, u7⟩ := lst_info (tyB_lst (hT.ty.at hty))
                have hu' := u1
                have hrun : ∀ (v' : Value) (x' : World), (Builtin.append_ #[u, u] o.type #[ρ x, ρ y]).run P cx.x = .ok v' x' → (execOp ρ o).run P cx.x = .ok (.value v') x' := fun v' x' hr => by
                  unfold execOp
                  simp only [ho, resolve, hc, invoke, builtin, Sem.run_bind, Sem.run_pure, Result.andThen_ok, hargs, hats, List.map_toArray, List.map_cons, List.map_nil, hr]
                obtain ⟨_, hd⟩ := hwok
                rcases hd with ⟨hnl, ad, cap, hdv⟩ | ⟨b, o', cap, hdv, c1, c2, c3, c4, c5⟩
                · refine ⟨fun e' he' => (by rw [hnl] at he'; cases he'), .slice ad0 0 0, cx.x, hrun _ _ ?_, same_refl _ _, Or.inl ⟨hnl, ad0, 0, rfl⟩⟩
                  rw [hx, hyv, hdv]
                  have hsrc : Src P i.size u (.slice ad 0 cap) 0 [] cx.x := by
                    cases ad with
                    | none => exact Src.ofNil cx.x hu' cap
                    | some a => exact Src.ofSlice cx.x hu' a 0 cap [] (by simp) (by simp) (by simp)
                  exact run_append_nothing cx.x _ _ _ _ i u1 u2 ad0 0 0 (Nat.le_refl _) _ hsrc
                · by_cases h0 : d.2 = []
                  · refine ⟨fun e' he' => (by rw [h0] at he'; cases he'), .slice ad0 0 0, cx.x, hrun _ _ ?_, same_refl _ _, Or.inl ⟨h0, ad0, 0, rfl⟩⟩
                    rw [hx, hyv, hdv]
                    have hl0 : d.2.length = 0 := by rw [h0]; rfl
                    rw [hl0]
                    exact run_append_nothing cx.x _ _ _ _ i u1 u2 ad0 0 0 (Nat.le_refl _) _ (Src.ofSlice cx.x hu' _ 0 cap [] (by simp) (by simp) (by simp))
                  · have hpos : 0 < d.2.length := List.length_pos_iff.2 h0
                    have hmul := hb.1
                    have hb := hb.2
                    have hfl : ∀ e' ∈ d.2, (flat cx.E.B e e').length = e.sz := fun e' _ => flat_len _ _ _
                    have hlen : (d.2.flatMap (flat cx.E.B e)).length = d.2.length * e.sz := flatMap_len _ hfl
                    have hcell : ∀ j u, (d.2.flatMap (flat cx.E.B e))[j]? = some u → cx.x.cell? ((⟨b, o', none⟩ : Addr).add j) = some u := fun j w hj => by
                      have hj' : j = (j / e.sz) * e.sz + j % e.sz := by rw [Nat.mul_comm]; exact (Nat.div_add_mod j e.sz).symm
                      have hm : j % e.sz < e.sz := Nat.mod_lt _ (by omega)
                      rw [hj', flatMap_get _ hfl _ _ hm] at hj
                      cases hq : d.2[j / e.sz]? with
                      | none => rw [hq] at hj; cases hj
                      | some q =>
                        rw [hq] at hj
                        have := (c5 _ q hq).1 _ hm
                        rw [Addr.add_mid, hj', ← Nat.add_assoc]
                        rw [this]
                        exact hj
                    have hby : d.2.length * i.bytes ≤ 281474976710656 := by
                      have := Nat.mul_le_mul_left d.2.length u7
                      omega
                    have hone : ∀ w ∈ d.2.flatMap (flat cx.E.B e), w.oneCell' = true := fun w hm => by
                      obtain ⟨q, hq, hm⟩ := List.mem_flatMap.1 hm
                      obtain ⟨j, hj⟩ := List.getElem?_of_mem hq
                      exact flat_one e q (c5 j q hj).2 w hm
                    have hsrc : Src P i.size u (.slice (some ⟨b, o', none⟩) d.2.length cap) d.2.length (d.2.flatMap (flat cx.E.B e)) cx.x := Src.ofSlice cx.x hu' _ _ cap _ (by rw [hlen, u3]) hcell hone
                    have hold0 : (Builtin.firstCells i.size 0 (.slice ad0 0 0)).run P cx.x.drew = .ok ([] : List Value).toArray cx.x.drew := by
                      cases ad0 with
                      | none => exact run_firstCells_none _ _ _ _ _
                      | some a => exact run_firstCells_some _ _ _ _ _ _ _ (by simp) (by simp)
                    have hr := run_append_grow_src (P := P) cx.x u u o.type el i z u1 u2 u5 ad0 0 0 [] hold0 _ d.2.length _ hsrc (by omega) (by omega) (by rw [Nat.zero_add, nextslicecap_zero hpos]; exact hby)
                    simp only [Nat.zero_add, List.nil_append] at hr
                    refine ⟨fun e' he' => ?_, .slice (some ⟨cx.x.heap.size, 0, none⟩) d.2.length (grownCap cx.x d.2.length 0 el), cx.x.drew.alloc (.cells ((d.2.flatMap (flat cx.E.B e)).toArray ++ Builtin.zeroCells z.cells (grownCap cx.x d.2.length 0 el - d.2.length)) el), hrun _ _ ?_, ?_, Or.inr ⟨cx.x.heap.size, grownCap cx.x d.2.length 0 el, rfl, grownCap_ge _ _ _ _, grownCap_le_maxLen _ _ _ _ (by unfold maxLen; omega), Nat.le_refl _, ?_, ?_⟩⟩
                    · obtain ⟨q, hq⟩ := List.getElem?_of_mem he'
                      exact (c5 q e' hq).2
                    · rw [hx, hyv, hdv]
                      exact hr
                    · exact ⟨rfl, rfl, rfl, by rw [size_alloc']; exact Nat.le_succ _, fun k hk _ => Below.heap_alloc _ _ _ hk⟩
                    · rw [size_alloc']; exact Nat.lt_succ_self _
                    · intro q e' hq j hj
                      have hblk : (cx.x.drew.alloc (.cells ((d.2.flatMap (flat cx.E.B e)).toArray ++ Builtin.zeroCells z.cells (grownCap cx.x d.2.length 0 el - d.2.length)) el)).heap[cx.x.heap.size]? = _ := heap_alloc_at cx.x.drew _
                      rw [cell_of_block hblk]
                      have hlt : q * e.sz + j < d.2.length * e.sz := by
                        have hq' : q < d.2.length := (List.getElem?_eq_some_iff.1 hq).1
                        have : q * e.sz + e.sz ≤ d.2.length * e.sz := by rw [← Nat.succ_mul]; exact Nat.mul_le_mul_right _ hq'
                        omega
                      rw [Array.getElem?_append_left (by simpa [hlen] using hlt)]
                      simp only [List.getElem?_toArray]
                      rw [flatMap_get _ hfl _ _ hj, hq]
                      rfl
              · exact h.elim
            · exact h.elim
          · exact h.elim
        · exact h.elim
      · exact h.elim
    · exact h.elim
  · exact h.elim

theorem bs0K_sound {T : Tab} (hT : TabOk P T) {o : Oper} {t : TypeId} {parts : Array (Nat × Operand)} (ho : o.op = .buildSlice t 0 parts) {f : Fr} {get : Nat → Option V} {bl nn : Nat} {k : Out → Prop} (h : bs0K T t parts.toList nn k) : ∃ out, k out ∧ Does P w0 F0 o f get bl nn out := by
  unfold bs0K at h
  split at h
  · rename_i e n0 hty
    split at h
    · rename_i hp
      have hparts : parts = #[] := by apply Array.toList_inj.1; rw [hp]
      obtain ⟨el, i, z, u1, u2, u3, u4, u5, u6, u7⟩ := lst_info (tyB_lst (hT.ty.at hty))
      refine ⟨_, h, fun h => (by cases h), ?_⟩
      intro c ρ hw hρ ht _ hq
      have hX := hq rfl
      have hrun : (execOp ρ o).run P c.x = .ok (.value (.slice (some ⟨c.x.heap.size, 0, none⟩) 0 0)) (c.x.alloc (.cells #[] el)) := by
        unfold execOp
        simp only [ho, Instr.buildSlice, Sem.run_bind, run_underlying u1, sizeOf, typeInfo, run_program, u2, Sem.run_pure, Result.andThen_ok, hparts]
        rw [if_neg (by omega : ¬ 0 * i.size > 2 ^ 24)]
        have h0 : ∀ g : Nat → Value, Array.map g (Array.range 0) = #[] := fun g => by apply Array.ext'; simp
        simp [Instr.fill, newRow, run_newObj_alloc, h0]
      rw [hrun]
      let E : Env := ⟨c.E.A, fun n => if n = nn then .slice (some ⟨c.x.heap.size, 0, none⟩) 0 0 else c.E.B n, c.E.F⟩
      have hBn : E.B nn = .slice (some ⟨c.x.heap.size, 0, none⟩) 0 0 := if_pos rfl
      have hsz : (c.x.alloc (.cells #[] el)).heap.size = c.x.heap.size + 1 := size_alloc' _ _
      refine ⟨E, ?_, ⟨Or.inr ⟨Nat.le_refl _, Nat.lt_succ_self _⟩, _, _, _, hBn⟩, fun _ _ => rfl, fun n hn => if_neg (by have := (hX n).1 hn; omega), fun _ _ h => h, fun _ _ _ h => h, fun b e he => ?_, ⟨rfl, rfl, rfl, by omega, fun k hk _ => Below.heap_alloc _ _ _ hk⟩, (fun y hy => by cases hy), (fun i y hy => by cases hy)⟩
      · show _ = (match E.B nn with | .slice a _ _ => Value.slice a 0 0 | _ => undef)
        rw [hBn]
      · have := hw.fhi b e he; omega
    · exact h.elim
  · exact h.elim
theorem rows_idx {α : Type} {g : Nat → List α} {s n : Nat} (h : ∀ i, i < n → (g i).length = s) {i j : Nat} (hi : i < n) (hj : j < s) : (rows n g)[i * s + j]? = (g i)[j]? := by
  rw [← rows_get n h i hi, List.getElem?_take, if_pos hj, List.getElem?_drop]
theorem zero_rows {B : Nat → Value} {e : Ty} {len : Nat} {zc : Array Value} (hz : zc = (flat B e e.zero).toArray) (h1 : 1 ≤ e.sz) : (Array.range (len * e.sz)).map (fun q => zc[q % zc.size]!) = (flat B (.arr len e) (Ty.arr len e).zero).toArray := by
  have hs : zc.size = e.sz := by rw [hz]; simp [flat_len]
  apply Array.ext_getElem?
  intro q
  rcases Nat.lt_or_ge q (len * e.sz) with hq | hq
  · have hq' : q = (q / e.sz) * e.sz + q % e.sz := by rw [Nat.mul_comm]; exact (Nat.div_add_mod q e.sz).symm
    have hm : q % e.sz < e.sz := Nat.mod_lt _ (by omega)
    have hd : q / e.sz < len := (Nat.div_lt_iff_lt_mul (by omega)).2 hq
    have e1 : ((flat B (.arr len e) (Ty.arr len e).zero).toArray)[q]? = (flat B e e.zero)[q % e.sz]? := by
      rw [List.getElem?_toArray]
      conv => lhs; rw [hq']
      exact rows_idx (g := fun i => flat B e ((Ty.arr len e).zero i)) (fun i _ => flat_len B e _) hd hm
    rw [e1]
    have hlt : q % e.sz < (flat B e e.zero).length := by rw [flat_len]; exact hm
    have hr : (Array.range (len * e.sz))[q]? = some q := by simp [hq]
    simp only [Array.getElem?_map, hr, Option.map_some, hs]
    rw [getElem!_pos zc (q % e.sz) (by rw [hs]; exact hm), List.getElem?_eq_getElem hlt]
    congr 1
    simp [hz]
  · rw [Array.getElem?_eq_none (by simpa using hq), Array.getElem?_eq_none (by
      have := flat_len B (.arr len e) (Ty.arr len e).zero
      simp only [Ty.sz] at this
      simpa [this] using hq)]

theorem bslK_sound {T : Tab} (hT : TabOk P T) {o : Oper} {t : TypeId} {len : Nat} {parts : Array (Nat × Operand)} (ho : o.op = .buildSlice t len parts) {f : Fr} {get : Nat → Option V} {bl nn : Nat} {k : Out → Prop} (h : bslK T t len parts.toList f nn k) : ∃ out, k out ∧ Does P w0 F0 o f get bl nn out := by
  unfold bslK at h
  split at h
  · rename_i e n0 hty
    obtain ⟨hlen, h⟩ := h
    obtain ⟨el, i, z, u1, u2, u3, u4, u5, u6, u7⟩ := lst_info (tyB_lst (hT.ty.at hty))
    obtain ⟨v', h1, h2, h3⟩ := part_sound (path := fun i => [.idx i]) (place := fun i => some (i * e.sz, e.sz)) (ty := .arr len e) (fun i hi => ⟨i * e.sz, e, ⟨hi, 0, by unfold At; exact ⟨rfl, rfl⟩, by omega⟩, rfl⟩) _ _ _ rfl h
    obtain ⟨g, hk, g2, g3, g4⟩ := denK_sound v' (.arr len e) _ h1
    refine ⟨_, hk, does_list fun c ρ hw hρ => ?_⟩
    have hops : ∀ q ∈ parts.toList, ∀ s, evS f q.2 = some s → ρ q.2 = s.val c.E ∧ s.ok c := fun q hq s hs => hρ q.2 (by
      rw [ho]
      simp only [Op.operands, List.mem_toArray, List.mem_map]
      exact ⟨q, hq, rfl⟩) s hs
    obtain ⟨p1, p2⟩ := h3 c ρ (zero_wok _ _ _ _ (.arr len e)) hops
    obtain ⟨zv, z1, z2⟩ := zero_run u6 c.E.B c.x
    have hwk : wokc c (.arr len e) g := g4 _ _ _ _ p2
    have hxl : (ownL e g 0 len).length = len := by simp [ownL]
    have hget : ∀ (q : Nat) (y : e.D), (ownL e g 0 len)[q]? = some y → q < len ∧ y = g q := fun q y hq => by
      have hlt : q < len := by rw [← hxl]; exact (List.getElem?_eq_some_iff.1 hq).1
      refine ⟨hlt, ?_⟩
      have : (ownL e g 0 len)[q]? = some (g (0 + q)) := by simp [ownL, hlt]
      rw [this, Nat.zero_add] at hq
      exact (Option.some.inj hq).symm
    refine ⟨fun y hy => ?_, .slice (some ⟨c.x.heap.size, 0, none⟩) len len, c.x.alloc (.cells (v'.cells c.E.B).toArray el), ?_, ⟨rfl, rfl, rfl, by rw [size_alloc']; exact Nat.le_succ _, fun k hk _ => Below.heap_alloc _ _ _ hk⟩, Or.inr ⟨c.x.heap.size, len, by rw [hxl], by rw [hxl]; exact Nat.le_refl _, ?_, Nat.le_refl _, by rw [size_alloc']; exact Nat.lt_succ_self _, ?_⟩⟩
    · obtain ⟨q, hq⟩ := List.getElem?_of_mem hy
      obtain ⟨hlt, rfl⟩ := hget q y hq
      exact hwk q hlt
    · have hpos : 1 ≤ len * e.sz := Nat.mul_pos hlen.1 u4
      unfold execOp
      simp only [ho, Instr.buildSlice, Sem.run_bind, run_underlying u1, sizeOf, typeInfo, run_program, u2, Sem.run_pure, Result.andThen_ok, u3]
      rw [if_neg (by omega : ¬ len * e.sz > 2 ^ 24)]
      try simp only [Sem.run_pure, Sem.run_bind, Result.andThen_ok]
      rw [if_neg (by omega : ¬ len * e.sz = 0)]
      simp only [Sem.run_bind, z1, Result.andThen_ok, Sem.run_pure, Array.toList_map]
      rw [zero_rows z2 u4]
      rw [show Instr.fill (fun i => some (i * e.sz, e.sz)) (flat c.E.B (.arr len e) (Ty.arr len e).zero).toArray (parts.toList.map fun (e : Nat × Operand) => match e with | (i, x) => (i, ρ x)) = some (v'.cells c.E.B).toArray from p1]
      simp only [newRow, Sem.run_bind, Sem.run_pure, Result.andThen_ok, run_newObj_alloc]
    · have := hlen.2
      have h2 : len ≤ len * e.sz := Nat.le_mul_of_pos_right _ (by omega)
      unfold maxLen
      omega
    · intro q y hq j hj
      obtain ⟨hlt, rfl⟩ := hget q y hq
      rw [cell_of_block (heap_alloc_at c.x _), ← g3 c.E.B, List.getElem?_toArray]
      exact rows_idx (g := fun i => flat c.E.B e (g i)) (fun i _ => flat_len c.E.B e _) hlt hj
  · exact h.elim
end

/-- A function made on the spot. -/
def capK (f : Fr) : List Operand → (List (Nat × Nat × List Step × Ty) → Prop) → Prop
  | [], k => k []
  | x :: r, k => match evS f x with
    | some (.a (.ptr i off p u)) => capK f r fun l => k ((i, off, p, u) :: l)
    | _ => False
def mkfK (fn : Fn) (first captured : List Operand) (f : Fr) (k : Out → Prop) : Prop :=
  match fn with
  | .func g => match first with
    | [] => capK f captured fun cs => k (.val (.a (.clo g cs)))
    | _ => False
  | _ => False
def nilK (T : Tab) (x : Operand) (f : Fr) (bl : List V) (k : Out → Prop) : Prop :=
  match evS f x with
  | some (.a (.clo g cs)) => k (.val (.a (.clo g cs)))
  | some (.a (.elt t h xs j off p u)) => k (.val (.a (.elt t h xs j off p u)))
  | _ => sopK T (.nilCheck x) f bl k

section
variable {P : Program} {w0 : World} {F0 : Old}
theorem capK_sound {f : Fr} : ∀ (xs : List Operand) (k : List (Nat × Nat × List Step × Ty) → Prop), capK f xs k → ∃ cs, k cs ∧ ∀ (c : Cx) (ρ : Operand → Value), (∀ y ∈ xs, ∀ s, evS f y = some s → ρ y = s.val c.E ∧ s.ok c) →
    xs.map ρ = cs.map (fun q => Value.pointer (some ⟨c.E.A q.1, q.2.1, none⟩)) ∧ ∀ q ∈ cs, c.XA q.1 ∧ ∃ t, c.ty q.1 = some t ∧ At t q.2.2.1 q.2.1 q.2.2.2
  | [], k, h => ⟨[], h, fun c ρ _ => ⟨rfl, fun q hq => by cases hq⟩⟩
  | x :: r, k, h => by
    unfold capK at h
    split at h
    · rename_i i off p u hx
      obtain ⟨cs, h1, h2⟩ := capK_sound r _ h
      refine ⟨_, h1, fun c ρ hρ => ?_⟩
      obtain ⟨e1, e2⟩ := hρ x (by simp) _ hx
      obtain ⟨e3, e4⟩ := h2 c ρ (fun y hy => hρ y (by simp [hy]))
      refine ⟨by rw [List.map_cons, e3, e1]; rfl, fun q hq => ?_⟩
      rcases List.mem_cons.1 hq with rfl | hq
      · exact e2
      · exact e4 q hq
    · exact h.elim
theorem mkfK_sound {o : Oper} {fn : Fn} {first captured : Array Operand} (ho : o.op = .makeFunc fn first captured) {f : Fr} {get : Nat → Option V} {bl nn : Nat} {k : Out → Prop} (h : mkfK fn first.toList captured.toList f k) : ∃ out, k out ∧ Does P w0 F0 o f get bl nn out := by
  unfold mkfK at h
  split at h
  · rename_i g
    split at h
    · rename_i hf
      obtain ⟨cs, h1, h2⟩ := capK_sound _ _ h
      refine ⟨_, h1, does_val fun c ρ hw hρ _ => ?_⟩
      have hfirst : first = #[] := by apply Array.toList_inj.1; rw [hf]
      obtain ⟨e1, e2⟩ := h2 c ρ (fun y hy => hρ y (by rw [ho]; simp only [Op.operands, Array.mem_append]; exact Or.inr (by simpa using hy)))
      refine ⟨?_, e2⟩
      unfold execOp
      simp only [ho, Instr.makeFunc, hfirst, Sem.run_bind, Sem.run_pure, Result.andThen_ok, SV.val, AV.val]
      have : captured.map ρ = (cs.map fun q => Value.pointer (some ⟨c.E.A q.1, q.2.1, none⟩)).toArray := by
        apply Array.toList_inj.1
        rw [Array.toList_map, e1]
      rw [this, Array.map_empty]
    · exact h.elim
  · exact h.elim
theorem elt_ptr {c : Cx} {t : Ty} {h : Hd} {xs : List t.D} {k off : Nat} {p : List Step} {u : Ty} (h2 : (AV.elt t h xs k off p u).ok c) : ∃ a, (AV.elt t h xs k off p u).val c.E = .pointer (some a) := by
  obtain ⟨hwk, hq, _⟩ := h2
  rcases hwk.2 with ⟨hnil, _⟩ | ⟨b, o', cap, f1, _⟩
  · simp at hnil
    subst hnil
    simp at hq
  · have f1' : h.val c.E.B = .slice (some ⟨b, o', none⟩) xs.length cap := f1
    exact ⟨⟨b, o' + k * t.sz + off, none⟩, by simp only [AV.val, f1']⟩
theorem nilK_sound {T : Tab} (hT : TabOk P T) {o : Oper} {x : Operand} (ho : o.op = .nilCheck x) {f : Fr} {bl : List V} {nn : Nat} {k : Out → Prop} (h : nilK T x f bl k) : ∃ out, k out ∧ Does P w0 F0 o f (fun i => bl[i]?) bl.length nn out := by
  unfold nilK at h
  split at h
  · rename_i g cs hx
    refine ⟨_, h, does_val fun c ρ hw hρ _ => ?_⟩
    obtain ⟨h1, h2⟩ := hρ x (by rw [ho]; simp [Op.operands]) _ hx
    refine ⟨?_, h2⟩
    unfold execOp
    simp only [ho, h1, SV.val, AV.val]
    rfl
  · rename_i t0 h0 xs0 k0 off0 p0 u0 hx
    refine ⟨_, h, does_val fun c ρ hw hρ _ => ?_⟩
    obtain ⟨h1, h2⟩ := hρ x (by rw [ho]; simp [Op.operands]) _ hx
    refine ⟨?_, h2⟩
    obtain ⟨ad, e1⟩ := elt_ptr h2
    unfold execOp
    simp only [ho, h1, SV.val, e1]
    rfl
  · rw [← ho] at h
    exact sopK_sound hT h
end

end Go.Proofs.YtjbbgpacijageabGreat.M

/- Lists of one's own: append onto them; parts of lists; the least of two; nil pointers. No program is named here. -/
namespace Go.Proofs.YtjbbgpacijageabGreat.M
open Go.RowKit
set_option linter.unusedVariables false
set_option linter.unusedSimpArgs false

/-- A list in a slot; an empty one without room counts as nil. -/
def lstA (e : Ty) (s : AV) (k : Hd → List e.D → Prop) : Prop :=
  match s with
  | .of v => denK v (.lst e) fun d => k d.1 d.2
  | .raw (.slice none 0 0) => k nilH []
  | .emp _ => k nilH []
  | _ => False
/-- Append onto a list of one's own: the token with that list's name is turned. -/
structure AppW (e : Ty) (h : Hd) (xs ys : List e.D) (nn : NS) (k : SV → NS → Prop) : Prop where
  ex : ∃ i, nn.tk[i]? = some (h, e.sz) ∧ (xs.length + ys.length ≤ 140737488355328 ∧ (xs.length + ys.length) * e.byt ≤ 140737488355328) ∧ k (.a (.of (.leaf (.lst e) (.nm nn.n, xs ++ ys)))) ⟨nn.n + 1, nn.tk.set i (.nm nn.n, e.sz)⟩
def isOwn (T : Tab) (o : Oper) : Bool :=
  match o.op with
  | .call c => match c.callee with
    | .builtin .append => match c.argTypes.toList with
      | [t, _] => inL T.tks t
      | _ => false
    | _ => false
  | _ => false
def ownK (T : Tab) (o : Oper) (f : Fr) (nn : NS) (k : SV → NS → Prop) : Prop :=
  match o.op with
  | .call c => match c.callee with
    | .builtin .append => match c.args.toList with
      | [x, y] => match c.argTypes.toList with
        | [t, u] => match tyL T.ty t with
          | some (.lst e, _) => match Nat.beq u t with
            | true => match evS f x with
              | some (.a s) => lstA e s fun h xs => match evS f y with
                | some (.a (.of v)) => denK v (.lst e) fun d => AppW e h xs d.2 nn k
                | some (.a (.raw (.slice none 0 0))) => AppW e h xs [] nn k
                | _ => False
              | _ => False
            | false => False
          | _ => False
        | _ => False
      | _ => False
    | _ => False
  | _ => False

section
variable {P : Program} {w0 : World} {F0 : Old}

theorem src_of {c : Cx} {e : Ty} {h : Hd} {ys : List e.D} {u el : TypeId} (hu : P.underlying u = some (.slice el)) (h1 : 1 ≤ e.sz) (hw : wokc c (.lst e) (h, ys)) : Src P e.sz u (h.val c.E.B) ys.length (ys.flatMap (flat c.E.B e)) c.x := by
  have hfl : ∀ e' ∈ ys, (flat c.E.B e e').length = e.sz := fun e' _ => flat_len _ _ _
  obtain ⟨_, hd⟩ := hw
  rcases hd with ⟨hnl, ad, cap, hdv⟩ | ⟨b, o', cap, hdv, c1, c2, c3, c4, c5⟩
  · have hnl : ys = [] := hnl
    have hdv : h.val c.E.B = .slice ad 0 cap := hdv
    subst hnl
    rw [hdv]
    cases ad with
    | none => exact Src.ofNil c.x hu cap
    | some a => exact Src.ofSlice c.x hu a 0 cap [] (by simp) (by simp) (by simp)
  · have hdv : h.val c.E.B = .slice (some ⟨b, o', none⟩) ys.length cap := hdv
    rw [hdv]
    refine Src.ofSlice c.x hu _ _ cap _ (flatMap_len _ hfl) (fun j w hj => ?_) (fun w hm => ?_)
    · have hj' : j = (j / e.sz) * e.sz + j % e.sz := by rw [Nat.mul_comm]; exact (Nat.div_add_mod j e.sz).symm
      have hm : j % e.sz < e.sz := Nat.mod_lt _ (by omega)
      rw [hj', flatMap_get _ hfl _ _ hm] at hj
      cases hq : ys[j / e.sz]? with
      | none => rw [hq] at hj; cases hj
      | some q =>
        rw [hq] at hj
        have := (c5 _ q hq).1 _ hm
        rw [Addr.add_mid, hj', ← Nat.add_assoc, this]
        exact hj
    · obtain ⟨q, hq, hm⟩ := List.mem_flatMap.1 hm
      obtain ⟨j, hj⟩ := List.getElem?_of_mem hq
      exact flat_one e q (c5 j q hj).2 w hm

/-- A list that is made, or has grown, at the end of a block that nothing else wants. -/
theorem grown {bl : List V} {nn : NS} {c : Cx} (hr : Real w0 F0 bl nn c) {x' : World} {e : Ty} {zs : List e.D} {i : Nat} {h : Hd} (hi : nn.tk[i]? = some (h, e.sz)) {b o cap : Nat} {C : Array Value} {t : TypeId}
    (hsame : Same c.x x' (fun k => k = b)) (hb0 : w0.heap.size ≤ b) (hsz1 : 1 ≤ e.sz) (hb1 : ∀ i, c.XA i → c.E.A i ≠ b) (hB : HB x' b C t) (hl : zs.length ≤ cap) (hc : cap ≤ maxLen) (hC : o + cap * e.sz ≤ C.size)
    (hF : ∀ e', c.E.F b e' → e' ≤ o + zs.length * e.sz) (hK : ∀ e', c.E.F b e' → ∀ j, j < e' → x'.cell? ⟨b, j, none⟩ = c.x.cell? ⟨b, j, none⟩)
    (hoth : ∀ q s' j, j ≠ i → nn.tk[j]? = some (q, s') → ∀ o' l' k', q.val c.E.B = .slice (some ⟨b, o', none⟩) l' k' → (0 < s' → 0 < k' → False) ∧ (i < j → s' = 0 → l' = 0))
    (hz : ∀ (q : Nat) z, zs[q]? = some z → (∀ j, j < e.sz → x'.cell? ⟨b, o + q * e.sz + j, none⟩ = (flat c.E.B e z)[j]?) ∧ wokc c e z) :
    ∃ c', Real w0 F0 bl ⟨nn.n + 1, nn.tk.set i (.nm nn.n, e.sz)⟩ c' ∧ c.Le c' ∧ c'.E.B nn.n = .slice (some ⟨b, o, none⟩) zs.length cap ∧ wokc c' (.lst e) (.nm nn.n, zs) ∧ c'.x = x' := by
  have hX := hr.XB
  let E' : Env := ⟨c.E.A, fun n => if n = nn.n then .slice (some ⟨b, o, none⟩) zs.length cap else c.E.B n, fun d k => c.E.F d k ∨ (d = b ∧ k = o + zs.length * e.sz)⟩
  let c' : Cx := { XA := c.XA, XB := fun n => n < nn.n + 1, ty := c.ty, E := E', x := x' }
  have hBn : E'.B nn.n = .slice (some ⟨b, o, none⟩) zs.length cap := if_pos rfl
  have hBo : ∀ n, c.XB n → E'.B n = c.E.B n := fun n hn => if_neg (by have := (hX n).1 hn; omega)
  have hle : c.Le c' := by
    refine ⟨fun i hi => ⟨hi, rfl, rfl⟩, fun n hn => ⟨Nat.lt_succ_of_lt ((hX n).1 hn), hBo n hn⟩, fun _ _ h => Or.inl h, fun d k hd j hj => ?_, hsame.size⟩
    by_cases hdb : d = b
    · subst hdb
      exact hK k hd j hj
    · exact World.cell?_of_block (hsame.block d (hr.wf.fhi d k hd) hdb)
  have hbx : b < x'.heap.size := hB.lt
  have hwf : c'.Wf w0 F0 := by
    refine ⟨hr.wf.below.trans (hsame.below hr.wf.below.size fun k hk hkb => ?_), hr.wf.lo, fun i hi => Nat.lt_of_lt_of_le (hr.wf.hi i hi) hsame.size, hr.wf.inj, fun d k hd => ?_, fun i hi k hk => ?_, fun d k hd => ?_, fun n hn => ⟨Nat.lt_succ_of_lt ((hX n).1 (hr.wf.oldB n hn).1), (hBo n (hr.wf.oldB n hn).1).trans (hr.wf.oldB n hn).2⟩, hr.wf.le.trans hle⟩
    · omega
    · rcases hd with hd | ⟨rfl, _⟩
      · exact Nat.lt_of_lt_of_le (hr.wf.fhi d k hd) hsame.size
      · exact hbx
    · rcases hk with hk | ⟨hk, _⟩
      · exact hr.wf.own i hi k hk
      · exact hb1 i hi hk
    · constructor
      · rintro (h1 | ⟨h1, _⟩)
        · exact (hr.wf.old d k hd).1 h1
        · omega
      · exact fun h1 => Or.inl ((hr.wf.old d k hd).2 h1)
  have hval : ∀ q : Hd, q.ok c.XB → q.val E'.B = q.val c.E.B := fun q hq => hdVal_congr hBo hq
  refine ⟨c', ⟨hwf, hr.XA, fun n => Iff.rfl, hr.ty, fun j v hv => ?_, ?_⟩, hle, hBn, ⟨Nat.lt_succ_self _, ?_⟩, rfl⟩
  · obtain ⟨⟨t', h1⟩, h2⟩ := hr.blk j v hv
    have hXA := (hr.XA j).2 (List.getElem?_eq_some_iff.1 hv).1
    refine ⟨⟨t', ?_⟩, V.okc_mono hle h2⟩
    have hcells : v.cells E'.B = v.cells c.E.B := V.cellsc hle h2
    show HB x' (c.E.A j) (v.cells E'.B).toArray t'
    rw [hcells]
    unfold HB
    rw [hsame.block _ h1.lt (hb1 j hXA)]
    exact h1
  · have htok : ∀ q s', (q, s') ∈ nn.tk → TokOk w0 c q s' := fun q s' hq => hr.tk.ok (q, s') hq
    have hilt : i < nn.tk.length := (List.getElem?_eq_some_iff.1 hi).1
    have hme : TokOk w0 c' (.nm nn.n) e.sz := ⟨Nat.lt_succ_self _, fun _ => Or.inr ⟨b, o, zs.length, cap, C, t, hBn, hb0, hb1, hB, hl, hc, hC, fun e' he' => by
      rcases he' with he' | ⟨_, he'⟩
      · exact hF e' he'
      · omega⟩, fun h => by omega⟩
    have hot : ∀ j q s', j ≠ i → nn.tk[j]? = some (q, s') → TokOk w0 c' q s' := fun j q s' hj hq => by
      obtain ⟨g0, g, g'⟩ := htok q s' (List.mem_of_getElem? hq)
      refine ⟨?_, fun hs => ?_, fun hs => (g' hs).val (hval q g0) hsame.size⟩
      · cases q with
        | conc u => trivial
        | nm k => exact Nat.lt_succ_of_lt ((hX k).1 g0)
      rcases g hs with ⟨ad, g⟩ | ⟨b', o', len', cap', C', t', g1, g2, g3, g4, g5, g6, g7, g8⟩
      · exact Or.inl ⟨ad, (hval q g0).trans g⟩
      · rcases Nat.eq_zero_or_pos cap' with h0 | h0
        · subst h0
          obtain rfl : len' = 0 := by omega
          exact Or.inl ⟨_, (hval q g0).trans g1⟩
        have hne : b' ≠ b := fun hbb => by
          subst hbb
          exact (hoth q s' j hj hq o' len' cap' g1).1 hs h0
        refine Or.inr ⟨b', o', len', cap', C', t', (hval q g0).trans g1, g2, g3, ?_, g5, g6, g7, fun e' he' => ?_⟩
        · show x'.heap[b']? = _
          rw [hsame.block b' g4.lt hne]
          exact g4
        · rcases he' with he' | ⟨he', _⟩
          · exact g8 e' he'
          · exact absurd he' hne
    refine ⟨fun p hp => ?_, ?_⟩
    · obtain ⟨j, hj⟩ := List.getElem?_of_mem hp
      have hj : (nn.tk.set i (.nm nn.n, e.sz))[j]? = some p := hj
      rw [List.getElem?_set] at hj
      split at hj
      · cases hj
        exact hme
      · rename_i hne
        exact hot j p.1 p.2 (Ne.symm hne) hj
    · have hap : ∀ j q s', j ≠ i → nn.tk[j]? = some (q, s') → (i < j → Apart E'.B (.nm nn.n, e.sz) (q, s')) ∧ Apart E'.B (q, s') (.nm nn.n, e.sz) := fun j q s' hj hq => by
        have g0 := (htok q s' (List.mem_of_getElem? hq)).1
        constructor
        · intro hij _ b1 o1 l1 k1 o2 l2 k2 h1 h2 _
          have e1 : E'.B nn.n = .slice (some ⟨b1, o1, none⟩) l1 k1 := h1
          rw [hBn] at e1
          cases e1
          have e2 : q.val E'.B = .slice (some ⟨b, o2, none⟩) l2 k2 := h2
          rw [hval q g0] at e2
          obtain ⟨k3, k4⟩ := hoth q s' j hj hq _ _ _ e2
          exact ⟨k3, k4 hij⟩
        · intro z1 b1 o1 l1 k1 o2 l2 k2 h1 h2 h3
          have e1 : E'.B nn.n = .slice (some ⟨b1, o2, none⟩) l2 k2 := h2
          rw [hBn] at e1
          cases e1
          have e2 : q.val E'.B = .slice (some ⟨b, o1, none⟩) l1 k1 := h1
          rw [hval q g0] at e2
          exact ((hoth q s' j hj hq _ _ _ e2).1 z1 h3).elim
      show (nn.tk.set i (.nm nn.n, e.sz)).Pairwise (Apart E'.B)
      rw [List.pairwise_iff_getElem]
      intro j k hj hk hjk
      rw [List.length_set] at hj hk
      have hgj : nn.tk[j]? = some nn.tk[j] := List.getElem?_eq_getElem hj
      have hgk : nn.tk[k]? = some nn.tk[k] := List.getElem?_eq_getElem hk
      rw [List.getElem_set, List.getElem_set]
      by_cases hij : i = j
      · rw [if_pos hij, if_neg (by omega)]
        exact (hap k nn.tk[k].1 nn.tk[k].2 (by omega) hgk).1 (by omega)
      · rw [if_neg hij]
        by_cases hik : i = k
        · rw [if_pos hik]
          exact (hap j nn.tk[j].1 nn.tk[j].2 (by omega) hgj).2
        · rw [if_neg hik]
          have h0 := (List.pairwise_iff_getElem.1 hr.tk.ne) j k hj hk hjk
          intro z1 b1 o1 l1 k1 o2 l2 k2 h1 h2 h3
          exact h0 z1 b1 o1 l1 k1 o2 l2 k2 ((hval _ (htok _ _ (List.mem_of_getElem? hgj)).1).symm.trans h1) ((hval _ (htok _ _ (List.mem_of_getElem? hgk)).1).symm.trans h2) h3
  · refine Or.inr ⟨b, o, cap, hBn, hl, hc, hbx, ⟨_, Nat.le_refl _, Or.inr ⟨rfl, rfl⟩⟩, fun q z hq => ?_⟩
    obtain ⟨g1, g2⟩ := hz q z hq
    refine ⟨fun j hj => ?_, wokc_mono hle g2⟩
    rw [show flat c'.E.B e z = flat c.E.B e z from flat_congr hBo e z g2]
    exact g1 j hj
/-- Nothing is appended onto nothing. -/
theorem grown0 {bl : List V} {nn : NS} {c : Cx} (hr : Real w0 F0 bl nn c) {e : Ty} {i : Nat} {h : Hd} (hi : nn.tk[i]? = some (h, e.sz)) (ad : Option Addr) :
    ∃ c', Real w0 F0 bl ⟨nn.n + 1, nn.tk.set i (.nm nn.n, e.sz)⟩ c' ∧ c.Le c' ∧ c'.E.B nn.n = .slice ad 0 0 ∧ wokc c' (.lst e) (.nm nn.n, []) ∧ c'.x = c.x := by
  have hX := hr.XB
  let E' : Env := ⟨c.E.A, fun n => if n = nn.n then .slice ad 0 0 else c.E.B n, c.E.F⟩
  let c' : Cx := { XA := c.XA, XB := fun n => n < nn.n + 1, ty := c.ty, E := E', x := c.x }
  have hBn : E'.B nn.n = .slice ad 0 0 := if_pos rfl
  have hBo : ∀ n, c.XB n → E'.B n = c.E.B n := fun n hn => if_neg (by have := (hX n).1 hn; omega)
  have hle : c.Le c' := ⟨fun i hi => ⟨hi, rfl, rfl⟩, fun n hn => ⟨Nat.lt_succ_of_lt ((hX n).1 hn), hBo n hn⟩, fun _ _ h => h, fun d k hd j hj => rfl, Nat.le_refl _⟩
  have hval : ∀ q : Hd, q.ok c.XB → q.val E'.B = q.val c.E.B := fun q hq => hdVal_congr hBo hq
  have hwf : c'.Wf w0 F0 := ⟨hr.wf.below, hr.wf.lo, hr.wf.hi, hr.wf.inj, hr.wf.fhi, hr.wf.own, hr.wf.old, fun n hn => ⟨Nat.lt_succ_of_lt ((hX n).1 (hr.wf.oldB n hn).1), (hBo n (hr.wf.oldB n hn).1).trans (hr.wf.oldB n hn).2⟩, hr.wf.le.trans hle⟩
  refine ⟨c', ⟨hwf, hr.XA, fun n => Iff.rfl, hr.ty, fun j v hv => ?_, ?_⟩, hle, hBn, ⟨Nat.lt_succ_self _, Or.inl ⟨rfl, ad, 0, hBn⟩⟩, rfl⟩
  · obtain ⟨⟨t', h1⟩, h2⟩ := hr.blk j v hv
    refine ⟨⟨t', ?_⟩, V.okc_mono hle h2⟩
    have hcells : v.cells E'.B = v.cells c.E.B := V.cellsc hle h2
    show HB c.x (c.E.A j) (v.cells E'.B).toArray t'
    rw [hcells]
    exact h1
  · have htok : ∀ q s', (q, s') ∈ nn.tk → TokOk w0 c q s' := fun q s' hq => hr.tk.ok (q, s') hq
    have hilt : i < nn.tk.length := (List.getElem?_eq_some_iff.1 hi).1
    refine ⟨fun p hp => ?_, ?_⟩
    · obtain ⟨j, hj⟩ := List.getElem?_of_mem hp
      have hj : (nn.tk.set i (.nm nn.n, e.sz))[j]? = some p := hj
      rw [List.getElem?_set] at hj
      split at hj
      · cases hj
        exact ⟨Nat.lt_succ_self _, fun _ => Or.inl ⟨ad, hBn⟩, fun _ => ⟨ad, 0, 0, hBn, Or.inl rfl⟩⟩
      · obtain ⟨g0, g, g'⟩ := htok p.1 p.2 (List.mem_of_getElem? hj)
        refine ⟨?_, fun hs => ?_, fun hs => (g' hs).val (hval _ g0) (Nat.le_refl _)⟩
        · cases hp1 : p.1 with
          | conc u => trivial
          | nm k => rw [hp1] at g0; exact Nat.lt_succ_of_lt ((hX k).1 g0)
        rcases g hs with ⟨ad', g⟩ | ⟨b', o', len', cap', C', t', g1, g2⟩
        · exact Or.inl ⟨ad', (hval _ g0).trans g⟩
        · exact Or.inr ⟨b', o', len', cap', C', t', (hval _ g0).trans g1, g2⟩
    · show (nn.tk.set i (.nm nn.n, e.sz)).Pairwise (Apart E'.B)
      rw [List.pairwise_iff_getElem]
      intro j k hj hk hjk
      rw [List.length_set] at hj hk
      have hgj : nn.tk[j]? = some nn.tk[j] := List.getElem?_eq_getElem hj
      have hgk : nn.tk[k]? = some nn.tk[k] := List.getElem?_eq_getElem hk
      rw [List.getElem_set, List.getElem_set]
      intro z1 b1 o1 l1 k1 o2 l2 k2 h1 h2 h3
      by_cases hij : i = j
      · rw [if_pos hij] at h1
        have e1 : E'.B nn.n = .slice (some ⟨b1, o1, none⟩) l1 k1 := h1
        rw [hBn] at e1
        cases e1
        omega
      · rw [if_neg hij] at h1
        by_cases hik : i = k
        · rw [if_pos hik] at h2
          have e1 : E'.B nn.n = .slice (some ⟨b1, o2, none⟩) l2 k2 := h2
          rw [hBn] at e1
          cases e1
          exact ⟨fun _ h0 => absurd h0 (Nat.lt_irrefl _), fun _ => rfl⟩
        · rw [if_neg hik] at h2
          rw [if_neg hik]
          rw [if_neg hij] at z1
          have h0 := (List.pairwise_iff_getElem.1 hr.tk.ne) j k hj hk hjk
          exact h0 z1 b1 o1 l1 k1 o2 l2 k2 ((hval _ (htok _ _ (List.mem_of_getElem? hgj)).1).symm.trans h1) ((hval _ (htok _ _ (List.mem_of_getElem? hgk)).1).symm.trans h2) h3
/-- A part of a list. -/
def subK (e : Ty) (x : Operand) (low high max : Option Operand) (f : Fr) (nn : Nat) (k : Out → Prop) : Prop :=
  match max with
  | some _ => False
  | none => match evS f x with
    | some (.a (.of v)) => denK v (.lst e) fun d => bndK f low 0 fun lo => bndK f high d.2.length fun hi => Need (0 ≤ lo ∧ lo ≤ hi ∧ hi ≤ (d.2.length : Int)) (k ⟨.a (.of (.leaf (.lst e) (.nm nn, (d.2.drop lo.toNat).take (hi.toNat - lo.toNat)))), .none, 1, [], true, true⟩)
    | _ => False
theorem bounds_run2 {len cap : Nat} {lo hi : Int} {low high : Option Value} (hlo : (low = none ∧ lo = 0) ∨ low = some (.int .i64 lo)) (hhi : (high = none ∧ hi = (len : Int)) ∨ high = some (.int .i64 hi)) (hb : 0 ≤ lo ∧ lo ≤ hi ∧ hi ≤ (len : Int)) (hc : len ≤ cap) (x : World) :
    (Instr.sliceBounds true len cap low high none).run P x = .ok (lo.toNat, hi.toNat, cap) x := by
  have hcast : ((hi.toNat : Nat) : Int) = hi := by omega
  have hbnd : ∀ (z : Int) (y : Nat) (code : BoundsCode), 0 ≤ z ∧ z ≤ (y : Int) → (Instr.sliceBound (.int .i64 z) y code).run P x = .ok z.toNat x := fun z y code hz => by
    unfold Instr.sliceBound
    simp only [asIntOf, Sem.run_bind, Sem.run_pure, Result.andThen_ok]
    rw [if_pos hz]
    rfl
  unfold Instr.sliceBounds
  rcases hhi with ⟨rfl, rfl⟩ | rfl <;> rcases hlo with ⟨rfl, rfl⟩ | rfl
  · simp
  · simp only [Sem.run_bind, Sem.run_pure, Result.andThen_ok, hbnd lo len _ ⟨by omega, by omega⟩, Int.toNat_natCast]
  · simp only [Sem.run_bind, Sem.run_pure, Result.andThen_ok, hbnd hi cap _ ⟨by omega, by omega⟩]
    rfl
  · simp only [Sem.run_bind, Sem.run_pure, Result.andThen_ok, hbnd hi cap _ ⟨by omega, by omega⟩, hbnd lo hi.toNat _ ⟨by omega, by omega⟩]
theorem subK_sound {T : Tab} (hT : TabOk P T) {o : Oper} {t : TypeId} {x : Operand} {low high max : Option Operand} (ho : o.op = .slice t x low high max) {e : Ty} {n0 : Nat} (hty : tyL T.ty t = some (.lst e, n0)) {f : Fr} {get : Nat → Option V} {bl nn : Nat} {k : Out → Prop} (h : subK e x low high max f nn k) : ∃ out, k out ∧ Does P w0 F0 o f get bl nn out := by
  unfold subK at h
  split at h
  · exact h.elim
  split at h
  · rename_i v hx
    obtain ⟨d, h1, h2, h3, h4⟩ := denK_sound v (.lst e) _ h
    obtain ⟨lo, h1, hlo⟩ := bndK_sound h1
    obtain ⟨hi, h1, hhi⟩ := bndK_sound h1
    obtain ⟨hb, h5⟩ := h1
    obtain ⟨el, i, z, u1, u2, u3, u4, u5, u6, u7⟩ := lst_info (tyB_lst (hT.ty.at hty))
    refine ⟨_, h5, fun h => (by cases h), ?_⟩
    intro c ρ hw hρ ht _ hq
    have hX := hq rfl
    obtain ⟨e1, e2⟩ := hρ x (by rw [ho]; simp [Op.operands]) _ hx
    have elo := hlo ρ c (fun y hy s hs => hρ y (by rw [ho, hy]; simp [Op.operands]) s hs)
    have ehi := hhi ρ c (fun y hy s hs => hρ y (by rw [ho, hy]; simp [Op.operands]) s hs)
    have hwk : wokc c (.lst e) d := h4 _ _ _ _ e2
    have hval : ρ x = d.1.val c.E.B := by rw [e1]; exact val_leaf h2 (h3 c.E.B)
    -- the shape of the list
    have hshape : ∃ ad cap, d.1.val c.E.B = .slice ad d.2.length cap ∧ d.2.length ≤ cap := by
      rcases hwk.2 with ⟨g1, ad, cap, g2⟩ | ⟨b, o', cap, g1, g2, _⟩
      · exact ⟨ad, cap, by rw [g1]; exact g2, by rw [g1]; exact Nat.zero_le _⟩
      · exact ⟨some ⟨b, o', none⟩, cap, g1, g2⟩
    obtain ⟨ad, cap, hsh, hcap⟩ := hshape
    have hbr := bounds_run2 (P := P) (len := d.2.length) (cap := cap) (lo := lo) (hi := hi) (low := low.map ρ) (high := high.map ρ) (by
      rcases elo with ⟨h, h'⟩ | h
      · exact Or.inl ⟨by rw [h]; rfl, h'⟩
      · exact Or.inr h) (by
      rcases ehi with ⟨h, h'⟩ | h
      · exact Or.inl ⟨by rw [h]; rfl, h'⟩
      · exact Or.inr h) hb hcap c.x
    let v' : Value := .slice (if cap = lo.toNat then ad else ad.map (·.add (lo.toNat * e.sz))) (hi.toNat - lo.toNat) (cap - lo.toNat)
    have hrun : (execOp ρ o).run P c.x = .ok (.value v') c.x := by
      unfold execOp
      simp only [ho, hval, hsh, Instr.sliceAt, Instr.slice, Sem.run_bind, run_underlying u1, Result.andThen_ok, Option.map_none, hbr, sizeOf, typeInfo, run_program, u2, Sem.run_pure, u3]
      rfl
    rw [hrun]
    let E : Env := ⟨c.E.A, fun n => if n = nn then v' else c.E.B n, c.E.F⟩
    have hBn : E.B nn = v' := if_pos rfl
    have hBo : ∀ n, c.XB n → E.B n = c.E.B n := fun n hn => if_neg (by have := (hX n).1 hn; omega)
    have hlen : ((d.2.drop lo.toNat).take (hi.toNat - lo.toNat)).length = hi.toNat - lo.toNat := by simp; omega
    refine ⟨E, hBn.symm, ⟨Or.inr ⟨Nat.le_refl _, Nat.lt_succ_self _⟩, ?_⟩, fun _ _ => rfl, hBo, fun _ _ h => h, fun _ _ _ h => h, hw.fhi, same_refl _ _, (fun y hy => by cases hy), (fun i y hy => by cases hy)⟩
    by_cases h0 : hi.toNat - lo.toNat = 0
    · refine Or.inl ⟨List.length_eq_zero_iff.1 (by rw [hlen]; exact h0), (if cap = lo.toNat then ad else ad.map (·.add (lo.toNat * e.sz))), cap - lo.toNat, ?_⟩
      show E.B nn = _
      rw [hBn]
      show Value.slice _ (hi.toNat - lo.toNat) _ = _
      rw [h0]
    · rcases hwk.2 with ⟨g1, _⟩ | ⟨b, o', cap', g1, g2, g3, g4, ⟨fe, g5, g6⟩, g7⟩
      · have hl0 : d.2.length = 0 := by rw [g1]; rfl
        omega
      · rw [hsh] at g1
        obtain ⟨q1, _, q3⟩ := Value.slice.inj g1
        subst q1
        subst q3
        have hmul : lo.toNat * e.sz + (hi.toNat - lo.toNat) * e.sz ≤ d.2.length * e.sz := by rw [← Nat.add_mul]; exact Nat.mul_le_mul_right _ (by omega)
        refine Or.inr ⟨b, o' + lo.toNat * e.sz, cap - lo.toNat, ?_, by rw [hlen]; omega, by omega, g4, ⟨fe, ?_, g6⟩, fun j y hj => ?_⟩
        · show E.B nn = .slice _ ((d.2.drop lo.toNat).take (hi.toNat - lo.toNat)).length _
          rw [hBn, hlen]
          show Value.slice (if cap = lo.toNat then _ else _) _ _ = _
          rw [if_neg (by omega), Option.map_some, Addr.add_mid]
        · show o' + lo.toNat * e.sz + ((d.2.drop lo.toNat).take (hi.toNat - lo.toNat)).length * e.sz ≤ fe
          rw [hlen]; omega
        · have hj' : d.2[lo.toNat + j]? = some y := by
            rw [List.getElem?_take] at hj
            split at hj
            · rw [List.getElem?_drop] at hj; exact hj
            · cases hj
          obtain ⟨k1, k2⟩ := g7 _ y hj'
          have hle : c.Le (c.ext ⟨.a (.of (.leaf (.lst e) (.nm nn, (d.2.drop lo.toNat).take (hi.toNat - lo.toNat)))), .none, 1, [], true, true⟩ bl nn E c.x) := ⟨fun i hi => ⟨Or.inl hi, rfl, rfl⟩, fun n hn => ⟨Or.inl hn, hBo n hn⟩, fun _ _ h => h, fun _ _ _ _ _ => rfl, Nat.le_refl _⟩
          refine ⟨fun q hq' => ?_, wokc_mono hle k2⟩
          show c.x.cell? _ = (flat E.B e y)[q]?
          rw [show flat E.B e y = flat c.E.B e y from flat_congr hBo e y k2, ← k1 q hq']
          congr 2
          rw [Nat.add_mul]; omega
  · exact h.elim

/-- The lesser of two. -/
def minK (c : Call) (f : Fr) (k : Out → Prop) : Prop :=
  match c.args.toList with
  | [x, y] => match evS f x with
    | some (.a (.of (.leaf .int a))) => match evS f y with
      | some (.a (.of (.leaf .int b))) => k (.val (.a (.of (.leaf .int (if (b : Int) < a then b else a)))))
      | _ => False
    | _ => False
  | _ => False
theorem minK_sound {o : Oper} {c : Call} (ho : o.op = .call c) (hc : c.callee = .builtin .min) {f : Fr} {get : Nat → Option V} {bl nn : Nat} {k : Out → Prop} (h : minK c f k) : ∃ out, k out ∧ Does P w0 F0 o f get bl nn out := by
  unfold minK at h
  split at h <;> first | exact h.elim | skip
  rename_i x y hxy
  split at h <;> first | exact h.elim | skip
  rename_i a hx
  split at h <;> first | exact h.elim | skip
  rename_i b hy
  refine ⟨_, h, does_val fun cx ρ hw hρ _ => ⟨?_, trivial⟩⟩
  have hargs : c.args = #[x, y] := by apply Array.toList_inj.1; rw [hxy]
  obtain ⟨e1, _⟩ := hρ x (by rw [ho]; simp [Op.operands, Call.operands, hc, hargs]) _ hx
  obtain ⟨e2, _⟩ := hρ y (by rw [ho]; simp [Op.operands, Call.operands, hc, hargs]) _ hy
  have e1' : ρ x = .int .i64 a := e1
  have e2' : ρ y = .int .i64 b := e2
  unfold execOp
  simp only [ho, resolve, hc, invoke, builtin, Sem.run_bind, Sem.run_pure, Result.andThen_ok, hargs, List.map_toArray, List.map_cons, List.map_nil, e1', e2', Builtin.min_, Builtin.min2, List.foldlM_cons, List.foldlM_nil]
  rfl

theorem eq_slice_nil {t e : TypeId} (h : P.underlying t = some (.slice e)) (w : World) (a : Option Addr) (l c : Nat) : (Op.equal t (.slice a l c) (.slice none 0 0)).run P w = .ok a.isNone w := by
  show (Op.equalIn (9999 + 1) t (.slice a l c) (.slice none 0 0)).run P w = _
  unfold Op.equalIn
  rw [Sem.run_bind, run_underlying h]
  cases a <;> rfl
theorem eq_ptr_nil {t e : TypeId} (h : P.underlying t = some (.pointer e)) (w : World) (a : Option Addr) : (Op.equal t (.pointer a) (.pointer none)).run P w = .ok a.isNone w := by
  show (Op.equalIn (9999 + 1) t (.pointer a) (.pointer none)).run P w = _
  unfold Op.equalIn
  rw [Sem.run_bind, run_underlying h]
  cases a <;> rfl
theorem bin_slice_nil {t e : TypeId} (h : P.underlying t = some (.slice e)) (w : World) (a : Option Addr) (l c : Nat) (x y : Operand) : (do eqGuard .eql t x y (.slice a l c) (.slice none 0 0); binOp .eql t (.slice a l c) (.slice none 0 0) : Sem Value).run P w = .ok (.bool a.isNone) w := by
  show (do pure (.bool (← Op.equal t (.slice a l c) (.slice none 0 0))) : Sem Value).run P w = _
  rw [Sem.run_bind, eq_slice_nil h]
  rfl
theorem bin_ptr_nil {t e : TypeId} (h : P.underlying t = some (.pointer e)) (w : World) (a : Option Addr) (x y : Operand) (ne : Bool) : (do eqGuard (match ne with | true => .neq | false => .eql) t x y (.pointer a) (.pointer none); binOp (match ne with | true => .neq | false => .eql) t (.pointer a) (.pointer none) : Sem Value).run P w = .ok (.bool (ne != a.isNone)) w := by
  cases ne
  · show (do pure (.bool (← Op.equal t (.pointer a) (.pointer none))) : Sem Value).run P w = _
    rw [Sem.run_bind, eq_ptr_nil h]
    cases a <;> rfl
  · show (do pure (.bool (!(← Op.equal t (.pointer a) (.pointer none)))) : Sem Value).run P w = _
    rw [Sem.run_bind, eq_ptr_nil h]
    cases a <;> rfl
/-- A pointer against nil. -/
def peqK (T : Tab) (ne : Bool) (t : TypeId) (x : Operand) (f : Fr) (k : Out → Prop) : Prop :=
  match inL T.ptrs t with
  | true => match evS f x with
    | some (.a (.ptr _ _ _ _)) => k (.val (.a (.of (.leaf .bool ne))))
    | some (.a (.elt _ _ _ _ _ _ _)) => k (.val (.a (.of (.leaf .bool ne))))
    | some (.a (.raw (.pointer none))) => k (.val (.a (.of (.leaf .bool (!ne)))))
    | _ => False
  | false => False
theorem peqK_sound {T : Tab} (hT : TabOk P T) {o : Oper} {ne : Bool} {t u : TypeId} {x : Operand} (ho : o.op = .binOp (match ne with | true => .neq | false => .eql) t x (.const (.pointer none)) u) {f : Fr} {get : Nat → Option V} {bl nn : Nat} {k : Out → Prop} (h : peqK T ne t x f k) : ∃ out, k out ∧ Does P w0 F0 o f get bl nn out := by
  unfold peqK at h
  split at h <;> first | exact h.elim | skip
  rename_i hin
  have hp := List.all_eq_true.1 hT.ptr _ (inL_mem _ _ hin)
  unfold ptrB at hp
  split at hp <;> first | (cases hp; done) | skip
  rename_i el hu
  have hc : ∀ ρ : Operand → Value, ∀ c : Cx, (∀ y ∈ o.op.operands, ∀ s, evS f y = some s → ρ y = s.val c.E ∧ s.ok c) → ρ (.const (.pointer none)) = .pointer none := fun ρ c hρ => (hρ (.const (.pointer none)) (by rw [ho]; simp [Op.operands]) _ rfl).1
  split at h <;> first | exact h.elim | skip
  · rename_i i off p u' hx
    refine ⟨_, h, does_val fun cx ρ hw hρ _ => ⟨?_, trivial⟩⟩
    obtain ⟨e1, _⟩ := hρ x (by rw [ho]; simp [Op.operands]) _ hx
    have e1' : ρ x = .pointer (some ⟨cx.E.A i, off, none⟩) := e1
    have hb := bin_ptr_nil (P := P) hu cx.x (some ⟨cx.E.A i, off, none⟩) x (.const (.pointer none)) ne
    unfold execOp
    simp only [ho, e1', hc ρ cx hρ]
    rw [Sem.run_bind]
    refine (congrArg (Result.andThen · _) hb).trans ?_
    cases ne <;> rfl
  · rename_i t0 h0 xs0 k0 off0 p0 u0 hx
    refine ⟨_, h, does_val fun cx ρ hw hρ _ => ⟨?_, trivial⟩⟩
    obtain ⟨e1, e2⟩ := hρ x (by rw [ho]; simp [Op.operands]) _ hx
    obtain ⟨ad, e1'⟩ := elt_ptr e2
    rw [show SV.val cx.E (.a (.elt t0 h0 xs0 k0 off0 p0 u0)) = AV.val cx.E (.elt t0 h0 xs0 k0 off0 p0 u0) from rfl, e1'] at e1
    have hb := bin_ptr_nil (P := P) hu cx.x (some ad) x (.const (.pointer none)) ne
    unfold execOp
    simp only [ho, e1, hc ρ cx hρ]
    rw [Sem.run_bind]
    refine (congrArg (Result.andThen · _) hb).trans ?_
    cases ne <;> rfl
  · rename_i hx
    refine ⟨_, h, does_val fun cx ρ hw hρ _ => ⟨?_, trivial⟩⟩
    obtain ⟨e1, _⟩ := hρ x (by rw [ho]; simp [Op.operands]) _ hx
    have e1' : ρ x = .pointer none := e1
    have hb := bin_ptr_nil (P := P) hu cx.x none x (.const (.pointer none)) ne
    unfold execOp
    simp only [ho, e1', hc ρ cx hρ]
    rw [Sem.run_bind]
    refine (congrArg (Result.andThen · _) hb).trans ?_
    cases ne <;> rfl

/-- A list against nil. -/
structure NilW {α : Type} (xs : List α) (k : Bool → Prop) : Prop where
  t : xs = [] → k true
  f : k false
def isNil (T : Tab) (o : Oper) : Bool :=
  match o.op with
  | .binOp .eql t _ (.const (.slice none 0 0)) _ => match tyL T.ty t with
    | some (.lst _, _) => true
    | _ => false
  | _ => false
def nilW (T : Tab) (o : Oper) (f : Fr) (k : SV → Prop) : Prop :=
  match o.op with
  | .binOp .eql t x (.const (.slice none 0 0)) _ => match tyL T.ty t with
    | some (.lst e, _) => match evS f x with
      | some (.a (.of v)) => denK v (.lst e) fun d => NilW d.2 fun b => k (.a (.of (.leaf .bool b)))
      | some (.a (.raw (.slice none 0 0))) => k (.a (.of (.leaf .bool true)))
      | _ => False
    | _ => False
  | _ => False
theorem nilW_sound {T : Tab} (hT : TabOk P T) {o : Oper} {f : Fr} {k : SV → Prop} (h : nilW T o f k) {c : Cx} {ρ : Operand → Value} (hρ : ∀ y s, evS f y = some s → ρ y = s.val c.E ∧ s.ok c) :
    ∃ b, k (.a (.of (.leaf .bool b))) ∧ (execOp ρ o).run P c.x = .ok (.value (.bool b)) c.x := by
  unfold nilW at h
  split at h <;> first | exact h.elim | skip
  rename_i t x u ho
  split at h <;> first | exact h.elim | skip
  rename_i e n0 hty
  obtain ⟨el, i, z, u1, u2, u3, u4, u5, u6, u7⟩ := lst_info (tyB_lst (hT.ty.at hty))
  have hc : ρ (.const (.slice none 0 0)) = .slice none 0 0 := (hρ (.const (.slice none 0 0)) _ rfl).1
  have hrun : ∀ ad l k', ρ x = .slice ad l k' → (execOp ρ o).run P c.x = .ok (.value (.bool ad.isNone)) c.x := fun ad l k' hx => by
    have hb := bin_slice_nil (P := P) u1 c.x ad l k' x (.const (.slice none 0 0))
    unfold execOp
    simp only [ho, hx, hc]
    rw [Sem.run_bind]
    exact (congrArg (Result.andThen · _) hb).trans rfl
  split at h <;> first | exact h.elim | skip
  · rename_i v hx
    obtain ⟨d, h1, h2, h3, h4⟩ := denK_sound v (.lst e) _ h
    obtain ⟨e1, e2⟩ := hρ x _ hx
    have hval : ρ x = d.1.val c.E.B := by rw [e1]; exact val_leaf h2 (h3 c.E.B)
    rcases (h4 _ _ _ _ e2).2 with ⟨g1, ad, cap, g2⟩ | ⟨b, o', cap, g1, _⟩
    · cases ad with
      | none => exact ⟨true, h1.t g1, hrun _ _ _ (hval.trans g2)⟩
      | some a => exact ⟨false, h1.f, hrun _ _ _ (hval.trans g2)⟩
    · exact ⟨false, h1.f, hrun _ _ _ (hval.trans g1)⟩
  · rename_i hx
    obtain ⟨e1, e2⟩ := hρ x _ hx
    exact ⟨true, h, hrun none 0 0 e1⟩
/-- An element of a slice of one's own array. -/
def idxK (T : Tab) (t : TypeId) (x y : Operand) (f : Fr) (bl : List V) (k : Out → Prop) : Prop :=
  match evS f x with
  | some (.a (.slc i off p n e lo len cap)) => match evS f y with
    | some (.a (.of (.leaf .int z))) => match tyL T.ty t with
      | some (.lst e', _) => match decEq e e' with
        | .isTrue _ => Need ((0 : Int) ≤ z ∧ (z : Int) < (len : Int)) (appP p [.idx (lo + Int.toNat z)] fun p' => k (.val (.a (.ptr i (off + (lo + Int.toNat z) * e.sz) p' e))))
        | .isFalse _ => False
      | _ => False
    | _ => False
  | _ => sopK T (.indexAddr t x y) f bl k
theorem idxK_sound {T : Tab} (hT : TabOk P T) {o : Oper} {t : TypeId} {x y : Operand} (ho : o.op = .indexAddr t x y) {f : Fr} {bl : List V} {nn : Nat} {k : Out → Prop} (h : idxK T t x y f bl k) : ∃ out, k out ∧ Does P w0 F0 o f (fun i => bl[i]?) bl.length nn out := by
  unfold idxK at h
  split at h
  · rename_i i off p n e lo len cap hx
    split at h <;> first | exact h.elim | skip
    rename_i z hy
    split at h <;> first | exact h.elim | skip
    rename_i e' n0 hty
    split at h <;> first | exact h.elim | skip
    rename_i he _
    subst he
    obtain ⟨hz, h⟩ := h
    obtain ⟨el, inf, zz, u1, u2, u3, u4, u5, u6, u7⟩ := lst_info (tyB_lst (hT.ty.at hty))
    refine ⟨_, appP_elim _ _ _ h, does_val fun c ρ hw hρ _ => ?_⟩
    obtain ⟨h1, h2⟩ := hρ x (by rw [ho]; simp [Op.operands]) _ hx
    obtain ⟨h3, _⟩ := hρ y (by rw [ho]; simp [Op.operands]) _ hy
    obtain ⟨k1, ⟨T', k2, k3⟩, k4, k5, k6⟩ := h2
    have hzn : Int.toNat z < len := (Int.toNat_lt hz.1).2 hz.2
    have hlt : lo + Int.toNat z < n := by omega
    refine ⟨?_, k1, T', k2, ?_⟩
    · have h3' : ρ y = .int .i64 z := h3
      have hc0 : cap ≠ 0 := by omega
      have h1' : ρ x = .slice (some ⟨c.E.A i, off + lo * e.sz, none⟩) len cap := by rw [h1]; simp only [SV.val, AV.val, if_neg hc0]
      unfold execOp
      simp only [ho, h1', h3', SV.val, AV.val, Instr.indexAt, asIntOf, Sem.run_bind, Sem.run_pure, Result.andThen_ok, run_underlying u1]
      rw [if_pos hz]
      simp only [sizeOf, typeInfo, Sem.run_bind, run_program, Result.andThen_ok, u2, Sem.run_pure, u3, Addr.add_mid]
      rw [show off + lo * e.sz + Int.toNat z * e.sz = off + (lo + Int.toNat z) * e.sz from by rw [Nat.add_mul]; omega]
    · refine At.append p T' off _ _ _ e k3 ⟨hlt, 0, ?_, by omega⟩
      unfold At
      exact ⟨rfl, rfl⟩
  · rw [← ho] at h
    exact sopK_sound hT h
def lenA (T : Tab) (c : Call) (f : Fr) (bl : List V) (nn : Nat) (k : Out → Prop) (S : List (Nat × Spec)) : Prop :=
  match c.args.toList with
  | [x] => match c.argTypes.toList with
    | [t] => match tyL T.ty t with
      | some (.lst _, _) => match evS f x with
        | some (.a (.slc _ _ _ _ _ _ len _)) => k (.val (.a (.of (.leaf .int (len : Int)))))
        | some (.a (.raw (.slice none 0 0))) => k (.val (.a (.of (.leaf .int 0))))
        | _ => callK T S c f bl nn k
      | _ => False
    | _ => False
  | _ => False
theorem lenA_sound {T : Tab} (hT : TabOk P T) {S : List (Nat × Spec)} (hS : SpecsOk P S) {o : Oper} {c : Call} (ho : o.op = .call c) (hc : c.callee = .builtin .len) {f : Fr} {bl : List V} {nn : Nat} {k : Out → Prop} (h : lenA T c f bl nn k S) : ∃ out, k out ∧ Does P w0 F0 o f (fun i => bl[i]?) bl.length nn out := by
  unfold lenA at h
  split at h <;> first | exact h.elim | skip
  rename_i x hx
  split at h <;> first | exact h.elim | skip
  rename_i t ht
  split at h <;> first | exact h.elim | skip
  rename_i e n0 hty
  obtain ⟨el, inf, zz, u1, u2, u3, u4, u5, u6, u7⟩ := lst_info (tyB_lst (hT.ty.at hty))
  have hargs : c.args = #[x] := by apply Array.toList_inj.1; rw [hx]
  have hats : c.argTypes = #[t] := by apply Array.toList_inj.1; rw [ht]
  have key : ∀ (ρ : Operand → Value) (cx : Cx) ad l cap, ρ x = .slice ad l cap → (execOp ρ o).run P cx.x = .ok (.value (.int .i64 (l : Int))) cx.x := fun ρ cx ad l cap hsl => by
    unfold execOp
    simp only [ho, resolve, hc, hargs, hats, Sem.run_bind, Sem.run_pure, Result.andThen_ok, invoke]
    simp only [builtin, Builtin.len_, Sem.run_bind]
    simp [hsl, run_underlying u1, goInt]
  split at h
  · rename_i i off p n e' lo len cap hv
    refine ⟨_, h, does_val fun cx ρ hw hρ _ => ⟨?_, trivial⟩⟩
    obtain ⟨h1, _⟩ := hρ x (by rw [ho]; simp [Op.operands, Call.operands, hc, hargs]) _ hv
    exact key ρ cx _ len cap h1
  · rename_i hv
    refine ⟨_, h, does_val fun cx ρ hw hρ _ => ⟨?_, trivial⟩⟩
    obtain ⟨h1, _⟩ := hρ x (by rw [ho]; simp [Op.operands, Call.operands, hc, hargs]) _ hv
    exact key ρ cx none 0 0 h1
  · exact callK_sound hT hS ho h
end
end Go.Proofs.YtjbbgpacijageabGreat.M

/- States, frames, regions in the order of the text. No program is named here. -/
namespace Go.Proofs.YtjbbgpacijageabGreat.M
open Go.RowKit
set_option linter.unusedVariables false
set_option linter.unusedSimpArgs false

structure FR (N : Nat) (c : Cx) (f : Fr) (a : Act) : Prop where
  size : a.tmps.size = N
  defers : a.defers = []
  get : ∀ t s, look f t = some s → a.tmps[t]? = some (s.val c.E) ∧ s.ok c

def opK (T : Tab) (S : List (Nat × Spec)) (o : Oper) (f : Fr) (bl : List V) (nn : Nat) (k : Out → Prop) : Prop :=
  match o.op with
  | .call c => match c.callee with
    | .builtin .copy => copyK T c f bl k
    | .builtin .append => appK T c f nn k
    | .builtin .min => minK c f k
    | .builtin .len => lenA T c f bl nn k S
    | _ => callK T S c f bl nn k
  | .buildSlice t 0 parts => bs0K T t parts.toList nn k
  | .buildSlice t len parts => bslK T t len parts.toList f nn k
  | .makeFunc fn first captured => mkfK fn first.toList captured.toList f k
  | .nilCheck x => nilK T x f bl k
  | .indexAddr t x y => idxK T t x y f bl k
  | .slice t x low high max => match tyL T.ty t with
    | some (.lst e, _) => subK e x low high max f nn k
    | _ => sliceK T t x low high max f k
  | .binOp .eql t x (.const (.pointer none)) _ => peqK T false t x f k
  | .binOp .neq t x (.const (.pointer none)) _ => peqK T true t x f k
  | op => sopK T op f bl k

def setB : List V → Nat → V → (List V → Prop) → Prop
  | [], _, _, _ => False
  | b :: r, n, y, k => match Nat.beq n 0 with | true => k (y :: r) | false => setB r (n - 1) y fun r' => k (b :: r')
def appB : List V → V → (List V → Prop) → Prop
  | [], y, k => k [y]
  | b :: r, y, k => appB r y fun r' => k (b :: r')
theorem setB_elim : ∀ (l : List V) (i : Nat) (y : V) (k : List V → Prop), setB l i y k → k (l.set i y) ∧ i < l.length
  | [], _, _, _, h => h.elim
  | b :: r, i, y, k, h => by
    unfold setB at h
    split at h
    · rename_i hb
      have := Nat.eq_of_beq_eq_true hb
      subst this
      exact ⟨h, by simp⟩
    · rename_i hb
      obtain ⟨h1, h2⟩ := setB_elim r _ y _ h
      cases i with
      | zero => simp at hb
      | succ i => exact ⟨h1, by simp at h2 ⊢; exact h2⟩
theorem appB_elim : ∀ (l : List V) (y : V) (k : List V → Prop), appB l y k → k (l ++ [y])
  | [], _, _, h => h
  | b :: r, y, k, h => appB_elim r y _ h
def efK (bl : List V) (ef : Ef) (k : List V → Prop) : Prop :=
  match ef with
  | .none => k bl
  | .set i y => setB bl i y k
  | .new y => appB bl y k
def putK (N : Nat) (d : Option Tmp) (s : SV) (f : Fr) (k : Fr → Prop) : Prop :=
  match d with
  | some d => match Nat.ble (d + 1) N with | true => k ((d, s) :: f) | false => False
  | none => k f
def lit (b : Bool) : SV := .a (.of (.leaf .bool b))
/-- The slots that the operations of a region write. -/
def dstK : List Oper → (List (Option Tmp) → Prop) → Prop
  | [], k => k []
  | o :: r, k => match o.dst with
    | some t => dstK r fun l => k (some t :: l)
    | none => dstK r fun l => k (none :: l)
theorem dstK_elim : ∀ (l : List Oper) (k : List (Option Tmp) → Prop), dstK l k → k (l.map (·.dst))
  | [], k, h => h
  | o :: r, k, h => by
    unfold dstK at h
    rw [List.map_cons]
    split at h
    · rename_i t ht
      rw [ht]; exact dstK_elim r _ h
    · rename_i ht
      rw [ht]; exact dstK_elim r _ h
def nthT : List (Option Tmp) → Nat → Option Tmp
  | [], _ => none
  | b :: r, n => match Nat.beq n 0 with | true => b | false => nthT r (n - 1)
theorem nthT_eq : ∀ (l : List (Option Tmp)) (i : Nat), nthT l i = (l[i]?).join
  | [], i => rfl
  | b :: r, i => by
    unfold nthT
    split
    · rename_i h
      have := Nat.eq_of_beq_eq_true h
      subst this; rfl
    · rename_i h
      rw [nthT_eq r]
      cases i with
      | zero => simp at h
      | succ i => simp
/-- Is it wanted? What was asked is known from then on. -/
def guardK (ds : List (Option Tmp)) (g : Option (Nat × Bool)) (f : Fr) (yes no : Fr → Prop) : Prop :=
  match g with
  | none => yes f
  | some (j, want) => match nthT ds j with
    | some t => match look f t with
      | some (.a (.of (.leaf .bool b))) => match want with
        | true => Way b (yes ((t, lit true) :: f)) (no ((t, lit false) :: f))
        | false => Way b (no ((t, lit true) :: f)) (yes ((t, lit false) :: f))
      | some (.a (.raw (.tuple _))) => no f
      | _ => False
    | none => False
def addK (nn : NS) (cr : Bool) (m : Nat) (k : NS → Prop) : Prop := match nn with | ⟨n, tk⟩ => match cr with | true => k ⟨n + m, tk⟩ | false => k ⟨n, tk⟩

def evsK (f : Fr) : List Operand → (List AV → Prop) → Prop
  | [], k => k []
  | x :: r, k => match evS f x with
    | some (.a s) => evsK f r fun l => k (s :: l)
    | _ => False
def capA (c : Nat × Nat × List Step × Ty) : AV := .ptr c.1 c.2.1 c.2.2.1 c.2.2.2
def capsK : List (Nat × Nat × List Step × Ty) → (List AV → Prop) → Prop
  | [], k => k []
  | c :: cs, k => capsK cs fun l => k (capA c :: l)
def apsK (cs : List (Nat × Nat × List Step × Ty)) : List AV → (List AV → Prop) → Prop
  | [], k => capsK cs k
  | s :: r, k => apsK cs r fun l => k (s :: l)
/-- A call of a function that is walked there: what it is known by, its operands, what it has captured. -/
def mOf (S : List (Nat × Spec)) (f : Fr) (o : Oper) : Option (MTr × List Operand × List (Nat × Nat × List Step × Ty) × Bool) :=
  match o.op with
  | .call c => match c.callee with
    | .value x => match evS f x with
      | some (.a (.clo g cs)) => match spL S g with
        | some ⟨_, _, _, _, _, _, some tr, _, tp⟩ => some (tr, c.args.toList, cs, tp)
        | _ => none
      | _ => match x with
        | .func g => match spL S g with
          | some ⟨_, _, _, _, _, _, some tr, _, tp⟩ => some (tr, c.args.toList, [], tp)
          | _ => none
        | _ => none
    | _ => none
  | _ => none
/-- No list in it. -/
def AV.pl : AV → Bool
  | .of v => v.ty.nolst
  | .ptr _ _ _ _ => true
  | .elt _ _ _ _ _ _ _ => false
  | .slc _ _ _ _ _ _ _ _ => true
  | .clo _ _ => true
  | .emp _ => false
  | .raw _ => true
def SV.pl : SV → Bool
  | .a x => x.pl
  | .tup l => l.all AV.pl
/-- A store into a list of one's own: which list, what it is then, the tokens, and its own. -/
structure StP where
  te : Ty
  h : Hd
  xs : List te.D
  n : Nat
  xs' : List te.D
  tk : List (Hd × Nat)
  i : Nat
/-- Behind such a store: that list by its new name; others that are known to lie elsewhere as they were. -/
def Kept1 (p : StP) (t : Ty) (a b : Hd × List t.D) : Prop := t.nolst = true ∧ ((a = b ∧ (a.2 = [] ∨ ∃ j s, j ≠ p.i ∧ (0 < s ∨ p.i < j) ∧ p.tk[j]? = some (a.1, s))) ∨ ∃ e : p.te = t, a = (p.h, e ▸ p.xs) ∧ b = (.nm p.n, e ▸ p.xs'))
def keptD (p : StP) : (t : Ty) → t.D → t.D → Prop
  | .int, a, b => a = b
  | .bool, a, b => a = b
  | .one t, a, b => keptD p t a b
  | .pair s t, a, b => keptD p s a.1 b.1 ∧ keptD p t a.2 b.2
  | .arr n t, f, g => ∀ i, i < n → keptD p t (f i) (g i)
  | .lst t, a, b => Kept1 p t a b
def V.dn0 : (v : V) → v.ty.D
  | .leaf _ v => v
  | .one x => x.dn0
  | .node x y => (x.dn0, y.dn0)
def keptBs (p : StP) : List V → List V → Prop
  | [], [] => True
  | v :: r, w :: s => (∃ d, w = .leaf v.ty d ∧ keptD p v.ty v.dn0 d) ∧ keptBs p r s
  | _, _ => False
/-- The frame behind it. -/
def frOk (p : StP) (f : Fr) : Fr → Prop
  | [] => True
  | (t, s) :: r => ((look f t = some s ∧ s.pl = true) ∨ ∃ v d, look f t = some (.a (.of v)) ∧ s = .a (.of (.leaf v.ty d)) ∧ keptD p v.ty v.dn0 d) ∧ frOk p f r
structure StoreW (te : Ty) (h : Hd) (xs xs' : List te.D) (f : Fr) (bl : List V) (nn : NS) (K : Fr → List V → NS → Prop) : Prop where
  nol : te.nolst = true
  ex : ∃ i g bl', nn.tk[i]? = some (h, te.sz) ∧ keptBs ⟨te, h, xs, nn.n, xs', nn.tk, i⟩ bl bl' ∧ frOk ⟨te, h, xs, nn.n, xs', nn.tk, i⟩ f g ∧ K g bl' ⟨nn.n + 1, nn.tk.set i (.nm nn.n, te.sz)⟩
def isElt (T : Tab) (o : Oper) (f : Fr) : Bool :=
  match T.top with
  | true => match o.op with
    | .store _ x _ => match evS f x with
      | some (.a (.elt _ _ _ _ _ _ _)) => true
      | _ => false
    | _ => false
  | false => false
def stwK (T : Tab) (o : Oper) (f : Fr) (bl : List V) (nn : NS) (K : Fr → List V → NS → Prop) : Prop :=
  match o.op with
  | .store t x y => match o.dst with
    | none => match evS f x with
      | some (.a (.elt te h xs j off p u)) => match tyL T.ty t with
        | some (ty, _) => match decEq u ty with
          | .isTrue _ => match evS f y with
            | some (.a s) => match asV ty s with
              | some new => match Nat.ble 1 te.sz with
                | true => setK p (.leaf te (nthD te xs j)) new fun z => denK z te fun e => StoreW te h xs (xs.set j e) f bl nn K
                | false => False
              | none => False
            | _ => False
          | .isFalse _ => False
        | none => False
      | _ => False
    | some _ => False
  | _ => False
def inN : List Nat → Nat → Bool
  | [], _ => false
  | a :: r, n => match Nat.beq n a with | true => true | false => inN r n
/-- The frame without what holds lists. -/
def plK : List Nat → Fr → (Fr → Prop) → Prop
  | _, [], k => k []
  | seen, (t, s) :: r, k => match inN seen t with
    | true => plK seen r k
    | false => match s.pl with
      | true => plK (t :: seen) r fun g => k ((t, s) :: g)
      | false => plK (t :: seen) r k
def oneK (T : Tab) (S : List (Nat × Spec)) (N : Nat) (o : Oper) (f : Fr) (bl : List V) (nn : NS) (K : Fr → List V → NS → Prop) : Prop :=
  match isOwn T o with
  | true => ownK T o f nn fun v nn' => putK N o.dst v f fun f' => K f' bl nn'
  | false => match isNil T o with
    | true => nilW T o f fun v => putK N o.dst v f fun f' => K f' bl nn
    | false => match isElt T o f with
      | true => stwK T o f bl nn K
      | false => match mOf S f o with
  | some (tr, xs, cs, false) => evsK f xs fun l => apsK cs l fun l => tr l bl nn fun r bl' nn' => putK N o.dst r f fun f' => K f' bl' nn'
  | some (tr, xs, cs, true) => match T.top with
    | true => evsK f xs fun l => apsK cs l fun l => plK [] f fun g => tr l bl nn fun r bl' nn' => putK N o.dst r g fun f' => K f' bl' nn'
    | false => False
  | none => opK T S o f bl nn.n fun
        | ⟨v, ef, m, _, _, cr⟩ => efK bl ef fun bl' => putK N o.dst v f fun f' => addK nn cr m fun nn' => K f' bl' nn'

def seqK (T : Tab) (S : List (Nat × Spec)) (N : Nat) (ds : List (Option Tmp)) : List Oper → Fr → List V → NS → (Fr → List V → NS → Prop) → Prop
  | [], f, bl, nn, K => K f bl nn
  | o :: r, f, bl, nn, K => guardK ds o.guard f
      (fun f => oneK T S N o f bl nn fun f' bl' nn' => seqK T S N ds r f' bl' nn' K)
      (fun f => putK N o.dst und f fun f' => seqK T S N ds r f' bl nn K)

section
variable {P : Program} {T : Tab} {S : List (Nat × Spec)} {w0 : World} {F0 : Old} {N : Nat}

theorem evS_sound {c : Cx} {f : Fr} {a : Act} (h : FR N c f a) {x : Operand} {s : SV} (hx : evS f x = some s) : a.eval x = s.val c.E ∧ s.ok c := by
  cases x with
  | tmp t =>
    obtain ⟨h1, h2⟩ := h.get t s hx
    exact ⟨by simp only [Act.eval, Array.getD_eq_getD_getElem?, h1]; rfl, h2⟩
  | const v => cases hx; exact ⟨(constA_val _ v).symm, constA_ok _ v⟩
  | func g => cases hx; exact ⟨rfl, fun q hq => by cases hq⟩
  | global g => cases hx
theorem FR.mono {c c' : Cx} {f : Fr} {a : Act} (h : FR N c f a) (hle : c.Le c') : FR N c' f a :=
  ⟨h.size, h.defers, fun t s ht => by
    obtain ⟨h1, h2⟩ := h.get t s ht
    exact ⟨by rw [h1, SV.val_mono hle h2], SV.ok_mono hle h2⟩⟩
theorem FR.put {c : Cx} {f : Fr} {a : Act} (h : FR N c f a) {d : Nat} (hd : d < N) {s : SV} (hs : s.ok c) : FR N c ((d, s) :: f) (a.put (some d) (s.val c.E)) := by
  refine ⟨by simp [Act.put, h.size], h.defers, fun t u ht => ?_⟩
  unfold look at ht
  split at ht
  · rename_i hb
    have := Nat.eq_of_beq_eq_true hb
    subst this
    cases ht
    refine ⟨?_, hs⟩
    simp [Act.put, h.size, hd]
  · rename_i hb
    have hne : d ≠ t := fun e => by subst e; simp at hb
    obtain ⟨h1, h2⟩ := h.get t u ht
    refine ⟨?_, h2⟩
    simp only [Act.put, Array.getElem?_setIfInBounds_ne hne]
    exact h1
theorem putK_sound {d : Option Tmp} {s : SV} {f : Fr} {k : Fr → Prop} (h : putK N d s f k) {c : Cx} {a : Act} (hf : FR N c f a) (hs : s.ok c) : ∃ f', k f' ∧ FR N c f' (a.put d (s.val c.E)) := by
  unfold putK at h
  split at h
  · split at h
    · rename_i hd
      exact ⟨_, h, hf.put (Nat.le_of_ble_eq_true hd) hs⟩
    · exact h.elim
  · exact ⟨f, h, hf⟩
/-- A slot may be known better. -/
theorem FR.better {c : Cx} {f : Fr} {a : Act} (h : FR N c f a) {t : Nat} {b b' : Bool} (ht : look f t = some (.a (.of (.leaf .bool b)))) (hb : b = b') : FR N c ((t, lit b') :: f) a := by
  refine ⟨h.size, h.defers, fun u s hu => ?_⟩
  unfold look at hu
  split at hu
  · rename_i hbt
    have := Nat.eq_of_beq_eq_true hbt
    subst this
    cases hu
    subst hb
    exact h.get u _ ht
  · exact h.get u s hu

theorem guardK_sound {ops : List Oper} {o : Oper} {f : Fr} {yes no : Fr → Prop} (h : guardK (ops.map (·.dst)) o.guard f yes no) {c : Cx} {a : Act} (hf : FR N c f a) :
    (Region.wanted o (yielded ops.toArray a.tmps) = true ∧ ∃ f', yes f' ∧ FR N c f' a) ∨ (Region.wanted o (yielded ops.toArray a.tmps) = false ∧ ∃ f', no f' ∧ FR N c f' a) := by
  unfold guardK at h
  split at h
  · rename_i hg
    exact Or.inl ⟨by unfold Region.wanted; rw [hg], f, h, hf⟩
  · rename_i j want hg
    · split at h
      · rename_i t hj
        rw [nthT_eq] at hj
        have hjt : (ops.toArray[j]?).bind (·.dst) = some t := by
          simp only [List.getElem?_map] at hj
          cases ho : ops[j]? with
          | none => rw [ho] at hj; cases hj
          | some oj => rw [ho] at hj; simp [ho]; simpa using hj
        split at h
        · rename_i b hb
          have h1 := (hf.get t _ hb).1
          have hy : yielded ops.toArray a.tmps j = some b := by unfold yielded; rw [hjt]; simp [h1, SV.val, AV.val, V.val]
          have hw : Region.wanted o (yielded ops.toArray a.tmps) = (b == want) := by
            unfold Region.wanted
            rw [hg]
            simp [hy]
          rw [hw]
          split at h
          · cases hbb : b with
            | true => exact Or.inl ⟨rfl, _, h.t hbb, hf.better hb hbb⟩
            | false => exact Or.inr ⟨rfl, _, h.f hbb, hf.better hb hbb⟩
          · cases hbb : b with
            | true => exact Or.inr ⟨rfl, _, h.t hbb, hf.better hb hbb⟩
            | false => exact Or.inl ⟨rfl, _, h.f hbb, hf.better hb hbb⟩
        · rename_i q hb
          have h1 := (hf.get t _ hb).1
          have hy : yielded ops.toArray a.tmps j = none := by unfold yielded; rw [hjt]; simp [h1, SV.val, AV.val]
          refine Or.inr ⟨?_, f, h, hf⟩
          unfold Region.wanted
          rw [hg]
          simp [hy]
        · exact h.elim
      · exact h.elim

theorem opK_sound (hT : TabOk P T) (hS : SpecsOk P S) {o : Oper} {f : Fr} {bl : List V} {nn : Nat} {k : Out → Prop} (h : opK T S o f bl nn k) : ∃ out, k out ∧ Does P w0 F0 o f (fun i => bl[i]?) bl.length nn out := by
  unfold opK at h
  split at h
  · rename_i c ho
    split at h
    · rename_i hc
      exact copyK_sound hT ho hc h
    · rename_i hc
      exact appK_sound hT ho hc h
    · rename_i hc
      exact minK_sound ho hc h
    · rename_i hc
      exact lenA_sound hT hS ho hc h
    · exact callK_sound hT hS ho h
  · rename_i t parts ho
    exact bs0K_sound hT ho h
  · rename_i t len parts _ ho
    exact bslK_sound hT ho h
  · rename_i fn first captured ho
    exact mkfK_sound ho h
  · rename_i x ho
    exact nilK_sound hT ho h
  · rename_i t x y ho
    exact idxK_sound hT ho h
  · rename_i t x low high max ho
    split at h
    · rename_i e n0 hty
      exact subK_sound hT ho hty h
    · exact sliceK_sound hT ho h
  · rename_i t x u ho
    exact peqK_sound (ne := false) hT ho h
  · rename_i t x u ho
    exact peqK_sound (ne := true) hT ho h
  · exact sopK_sound hT h

theorem lt_of_get {α : Type} {l : List α} {i : Nat} {b : α} (h : l[i]? = some b) : i < l.length := (List.getElem?_eq_some_iff.1 h).1

/-- The state behind an operation. -/
def efB (bl : List V) : Ef → List V
  | .none => bl
  | .set i y => bl.set i y
  | .new y => bl ++ [y]
theorem efK_elim {bl : List V} {ef : Ef} {k : List V → Prop} (h : efK bl ef k) : k (efB bl ef) := by
  cases ef with
  | none => exact h
  | set i y => exact (setB_elim _ _ _ _ h).1
  | new y => exact appB_elim _ _ _ h
theorem Real.step {bl : List V} {nn : NS} {c : Cx} (hr : Real w0 F0 bl nn c) {out : Out} {v : Value} {x' : World} {E : Env} (hp : Post w0 F0 c out bl.length nn.n v x' E) : Real w0 F0 (efB bl out.ef) ⟨nn.n + out.m, nn.tk⟩ (c.ext out bl.length nn.n E x') ∧ c.Le (c.ext out bl.length nn.n E x') := by
  have hnew : (∃ y, out.ef = .new y) → ¬ c.XA bl.length := fun _ h => Nat.lt_irrefl _ ((hr.XA _).1 h)
  have hle := hp.le hr.wf hnew
  have hwf := hp.wf hr.wf hnew
  have hkeep : ∀ i v, bl[i]? = some v → (∀ y, out.ef ≠ .set i y) → (∃ e, HB x' (E.A i) (v.cells E.B).toArray e) ∧ v.okc (c.ext out bl.length nn.n E x') := fun i v hi hne => by
    obtain ⟨⟨e, h1⟩, h2⟩ := hr.blk i v hi
    have hXA := (hr.XA i).2 (lt_of_get hi)
    refine ⟨⟨e, ?_⟩, V.okc_mono hle h2⟩
    have hcells : v.cells E.B = v.cells c.E.B := V.cellsc hle h2
    rw [hcells, hp.A i hXA]
    unfold HB
    rw [hp.same.block _ h1.lt (by
      rintro ⟨j, y, hy, hj⟩
      have : i = j := hr.wf.inj i j hXA (hp.set j y hy).1 hj
      subst this
      exact hne y hy)]
    exact h1
  refine ⟨⟨hwf, fun i => ?_, fun n => ?_, fun i v hi => ?_, fun i v hi => ?_, hr.tk.step hr.wf hnew hp⟩, hle⟩
  · show (c.XA i ∨ (i = bl.length ∧ ∃ y, out.ef = .new y)) ↔ _
    rw [hr.XA]
    cases hef : out.ef with
    | none => simp [efB]
    | set j y => simp [efB]
    | new y => simp [efB]; omega
  · show (c.XB n ∨ (nn.n ≤ n ∧ n < nn.n + out.m)) ↔ n < nn.n + out.m
    rw [hr.XB]
    omega
  · show (match out.ef with | .new y => if i = bl.length then some y.ty else c.ty i | _ => c.ty i) = some v.ty
    cases hef : out.ef with
    | none => rw [hef] at hi; exact hr.ty i v hi
    | set j y =>
      rw [hef] at hi
      simp only [efB] at hi
      rw [List.getElem?_set] at hi
      split at hi
      · rename_i hj
        subst hj
        split at hi
        · cases hi
          exact (hp.set j v hef).2.1
        · cases hi
      · exact hr.ty i v hi
    | new y =>
      rw [hef] at hi
      simp only [efB] at hi
      rw [List.getElem?_append] at hi
      split at hi
      · rename_i hlt
        simp only
        rw [if_neg (by omega)]
        exact hr.ty i v hi
      · rename_i hlt
        have : i = bl.length := by
          have := lt_of_get hi
          simp at this
          omega
        subst this
        simp at hi
        subst hi
        simp
  · cases hef : out.ef with
    | none => rw [hef] at hi; exact hkeep i v hi (fun y hy => by rw [hef] at hy; cases hy)
    | set j y =>
      rw [hef] at hi
      simp only [efB] at hi
      rw [List.getElem?_set] at hi
      split at hi
      · rename_i hj
        subst hj
        split at hi
        · cases hi
          exact (hp.set j v hef).2.2
        · cases hi
      · rename_i hj
        exact hkeep i v hi (fun z hz => by rw [hef] at hz; cases hz; exact hj rfl)
    | new y =>
      rw [hef] at hi
      simp only [efB] at hi
      rw [List.getElem?_append] at hi
      split at hi
      · exact hkeep i v hi (fun z hz => by rw [hef] at hz; cases hz)
      · rename_i hlt
        have : i = bl.length := by
          have := lt_of_get hi
          simp at this
          omega
        subst this
        simp at hi
        subst hi
        exact (hp.new y hef).2.2.2

/-- The worlds and frames that belong to what K holds. -/
def Sat (w0 : World) (F0 : Old) (N : Nat) (K : Fr → List V → NS → Prop) (a : Act) (x : World) : Prop := ∃ f bl nn c, K f bl nn ∧ Real w0 F0 bl nn c ∧ FR N c f a ∧ c.x = x

theorem und_ok (c : Cx) : und.ok c := trivial

theorem evsK_elim {f : Fr} : ∀ (xs : List Operand) (k : List AV → Prop), evsK f xs k → ∃ l, k l ∧ l.length = xs.length ∧ ∀ (c : Cx) (a : Act), FR N c f a → xs.map a.eval = l.map (AV.val c.E) ∧ ∀ s ∈ l, s.ok c
  | [], k, h => ⟨[], h, rfl, fun c a _ => ⟨rfl, fun s hs => by cases hs⟩⟩
  | x :: r, k, h => by
    unfold evsK at h
    split at h
    · rename_i s hs
      obtain ⟨l, h1, h2, h3⟩ := evsK_elim r _ h
      refine ⟨s :: l, h1, by simp [h2], fun c a hf => ?_⟩
      obtain ⟨e1, e2⟩ := h3 c a hf
      obtain ⟨e3, e4⟩ := evS_sound hf hs
      refine ⟨by rw [List.map_cons, List.map_cons, e1, e3]; rfl, fun y hy => ?_⟩
      rcases List.mem_cons.1 hy with rfl | hy
      · exact e4
      · exact e2 y hy
    · exact h.elim
theorem capsK_elim : ∀ (cs : List (Nat × Nat × List Step × Ty)) (k : List AV → Prop), capsK cs k → k (cs.map capA)
  | [], k, h => h
  | c :: cs, k, h => capsK_elim cs _ h
theorem apsK_elim {cs : List (Nat × Nat × List Step × Ty)} : ∀ (l : List AV) (k : List AV → Prop), apsK cs l k → k (l ++ cs.map capA)
  | [], k, h => capsK_elim cs k h
  | s :: r, k, h => apsK_elim r _ h

theorem lstA_sound {e : Ty} {s : AV} {k : Hd → List e.D → Prop} (h : lstA e s k) : ∃ hd xs, k hd xs ∧ ∀ c : Cx, s.ok c → (s.val c.E = hd.val c.E.B ∧ wokc c (.lst e) (hd, xs)) ∨ (hd = nilH ∧ xs = [] ∧ ∃ ad, s.val c.E = .slice ad 0 0) := by
  unfold lstA at h
  split at h
  · rename_i v
    obtain ⟨d, h1, h2, h3, h4⟩ := denK_sound v (.lst e) _ h
    exact ⟨d.1, d.2, h1, fun c hs => Or.inl ⟨val_leaf h2 (h3 c.E.B), h4 _ _ _ _ hs⟩⟩
  · exact ⟨_, _, h, fun c _ => Or.inl ⟨rfl, trivial, Or.inl ⟨rfl, none, 0, rfl⟩⟩⟩
  · rename_i hd
    refine ⟨_, _, h, fun c hs => Or.inr ⟨rfl, rfl, ?_⟩⟩
    obtain ⟨_, a, l, k', hv⟩ := hs
    exact ⟨a, by simp only [AV.val, hv]⟩
  · exact h.elim
theorem zeroCells_len (zc : Array Value) (k : Nat) : (Builtin.zeroCells zc k).size = k * zc.size := by
  simp [Builtin.zeroCells]
/-- What there is, and what comes behind it. -/
theorem app_run {bl : List V} {nn : NS} {c : Cx} (hr : Real w0 F0 bl nn c) {T : Tab} (hT : TabOk P T) {t : TypeId} {e : Ty} {n0 : Nat} (hty : tyL T.ty t = some (.lst e, n0)) {hd : Hd} {xs ys : List e.D} {vx vy : Value} (ty' : TypeId)
    (hx : (vx = hd.val c.E.B ∧ wokc c (.lst e) (hd, xs)) ∨ (hd = nilH ∧ xs = [] ∧ ∃ ad, vx = .slice ad 0 0)) {h' : Hd} (hy : vy = h'.val c.E.B) (hyw : wokc c (.lst e) (h', ys)) {k : SV → NS → Prop} (h : AppW e hd xs ys nn k) :
    ∃ v x', (Builtin.append_ #[t, t] ty' #[vx, vy]).run P c.x = .ok v x' ∧ ∃ r nn' c', k r nn' ∧ v = r.val c'.E ∧ r.ok c' ∧ Real w0 F0 bl nn' c' ∧ c.Le c' ∧ c'.x = x' := by
  obtain ⟨i, hi, ⟨hlen, hby⟩, hk⟩ := h
  obtain ⟨el, inf, z, u1, u2, u3, u4, u5, u6, u7⟩ := lst_info (tyB_lst (hT.ty.at hty))
  have hsrc := src_of (P := P) (u := t) u1 u4 hyw
  rw [← hy, ← u3] at hsrc
  have htok : OwnOk w0 c hd e.sz := (hr.tk.ok _ (List.mem_of_getElem? hi)).2.1 u4
  have hfl : ∀ (l : List e.D), ∀ e' ∈ l, (flat c.E.B e e').length = e.sz := fun _ e' _ => flat_len _ _ _
  have hzs : z.cells.size = e.sz := by
    obtain ⟨v, v1, v2⟩ := zero_run u6 c.E.B c.x
    have : v = z := by
      unfold zeroValue at v1
      simp only [typeInfo, Sem.run_bind, run_program, Result.andThen_ok, u2, Sem.run_pure, u5] at v1
      cases v1
      rfl
    rw [← this, v2]
    simp [flat_len]
  have hyel : ∀ (q : Nat) e', ys[q]? = some e' → wokc c e e' := fun q e' hq => by
    rcases hyw.2 with ⟨h1, _⟩ | ⟨_, _, _, _, _, _, _, _, h1⟩
    · have h1 : ys = [] := h1
      rw [h1] at hq; simp at hq
    · exact (h1 q e' hq).2
  -- the shape of what is appended to
  have hshape : ∃ ad cap, vx = .slice ad xs.length cap ∧ xs.length ≤ cap ∧ (∀ (q : Nat) e', xs[q]? = some e' → wokc c e e') ∧
      (cap = 0 ∨ ∃ b o C t', ad = some ⟨b, o, none⟩ ∧ w0.heap.size ≤ b ∧ (∀ i, c.XA i → c.E.A i ≠ b) ∧ HB c.x b C t' ∧ cap ≤ maxLen ∧ o + cap * e.sz ≤ C.size ∧ (∀ e', c.E.F b e' → e' ≤ o + xs.length * e.sz) ∧
        (∀ q s' j, j ≠ i → nn.tk[j]? = some (q, s') → ∀ o' l' k', q.val c.E.B = .slice (some ⟨b, o', none⟩) l' k' → (0 < s' → 0 < k' → False) ∧ (i < j → s' = 0 → l' = 0))) ∧
      (xs = [] ∨ ∃ b o, ad = some ⟨b, o, none⟩ ∧ ∀ (q : Nat) e', xs[q]? = some e' → ∀ j, j < e.sz → c.x.cell? ⟨b, o + q * e.sz + j, none⟩ = (flat c.E.B e e')[j]?) := by
    rcases hx with ⟨hv, hw⟩ | ⟨_, rfl, ad, hv⟩
    rotate_left
    · exact ⟨ad, 0, hv, Nat.le_refl _, fun q e' hq => by simp at hq, Or.inl rfl, Or.inl rfl⟩
    obtain ⟨_, hd2⟩ := hw
    rcases htok with ⟨ad, ht⟩ | ⟨b, o, len, cap, C, t', g1, g2, g3, g4, g5, g6, g7, g8⟩
    · have hnil : xs = [] := by
        rcases hd2 with ⟨h1, _⟩ | ⟨b, o', cap, h1, h2, _⟩
        · exact h1
        · have h1 : hd.val c.E.B = .slice (some ⟨b, o', none⟩) xs.length cap := h1
          rw [ht] at h1
          obtain ⟨_, h3, h4⟩ := Value.slice.inj h1
          exact List.length_eq_zero_iff.1 h3.symm
      subst hnil
      exact ⟨ad, 0, hv.trans ht, Nat.le_refl _, fun q e' hq => by simp at hq, Or.inl rfl, Or.inl rfl⟩
    · have hlx : len = xs.length := by
        rcases hd2 with ⟨h1, ad, cap', h2⟩ | ⟨b', o', cap', h1, h2, _⟩
        · have h1 : xs = [] := h1
          have h2 : hd.val c.E.B = .slice ad 0 cap' := h2
          rw [g1] at h2
          cases h2
          rw [h1]; rfl
        · have h1 : hd.val c.E.B = .slice (some ⟨b', o', none⟩) xs.length cap' := h1
          rw [g1] at h1
          cases h1
          rfl
      subst hlx
      have hap : cap = 0 ∨ (∀ q s' j, j ≠ i → nn.tk[j]? = some (q, s') → ∀ o' l' k', q.val c.E.B = .slice (some ⟨b, o', none⟩) l' k' → (0 < s' → 0 < k' → False) ∧ (i < j → s' = 0 → l' = 0)) := by
        rcases Nat.eq_zero_or_pos cap with h0 | h0
        · exact Or.inl h0
        refine Or.inr fun q s' j hj hq o' l' k' hv' => ?_
        have hjl : j < nn.tk.length := (List.getElem?_eq_some_iff.1 hq).1
        have hil : i < nn.tk.length := (List.getElem?_eq_some_iff.1 hi).1
        have hjv : nn.tk[j] = (q, s') := (List.getElem?_eq_some_iff.1 hq).2
        have hiv : nn.tk[i] = (hd, e.sz) := (List.getElem?_eq_some_iff.1 hi).2
        have hp := List.pairwise_iff_getElem.1 hr.tk.ne
        rcases Nat.lt_or_gt_of_ne hj with hlt | hlt
        · have := hp j i hjl hil hlt
          rw [hjv, hiv] at this
          exact ⟨fun hs' hk' => (this hs' _ _ _ _ _ _ _ hv' g1 hk').1 u4 h0, fun hij => by omega⟩
        · have := hp i j hil hjl hlt
          rw [hjv, hiv] at this
          have := this u4 _ _ _ _ _ _ _ g1 hv' h0
          exact ⟨this.1, fun _ => this.2⟩
      refine ⟨some ⟨b, o, none⟩, cap, hv.trans g1, g5, fun q e' hq => ?_, ?_, ?_⟩
      · rcases hd2 with ⟨h1, _⟩ | ⟨_, _, _, _, _, _, _, _, h1⟩
        · have h1 : xs = [] := h1
          rw [h1] at hq; simp at hq
        · exact (h1 q e' hq).2
      · rcases hap with h0 | hap
        · exact Or.inl h0
        · exact Or.inr ⟨b, o, C, t', rfl, g2, g3, g4, g6, g7, g8, hap⟩
      · rcases hd2 with ⟨h1, _⟩ | ⟨b', o', cap', h1, _, _, _, _, h2⟩
        · exact Or.inl h1
        · have h1 : hd.val c.E.B = .slice (some ⟨b', o', none⟩) xs.length cap' := h1
          rw [g1] at h1
          cases h1
          exact Or.inr ⟨_, _, rfl, fun q e' hq j hj => (h2 q e' hq).1 j hj⟩
  obtain ⟨ad, cap, hvx, hcap, hxel, hown, hcont⟩ := hshape
  subst hvx
  have hall : ∀ (q : Nat) e', (xs ++ ys)[q]? = some e' → wokc c e e' := fun q e' hq => by
    rw [List.getElem?_append] at hq
    split at hq
    · exact hxel q e' hq
    · exact hyel _ e' hq
  by_cases hroom : xs.length + ys.length ≤ cap
  · rcases Nat.eq_zero_or_pos cap with h0 | h0
    · -- nothing onto nothing
      subst h0
      have hx0 : xs = [] := List.length_eq_zero_iff.1 (by omega)
      have hy0 : ys = [] := List.length_eq_zero_iff.1 (by omega)
      subst hx0
      subst hy0
      obtain ⟨c', k1, k2, k3, k4, k5⟩ := grown0 hr hi ad
      refine ⟨_, _, run_append_nothing c.x t t ty' el inf u1 u2 ad 0 0 (Nat.le_refl _) vy hsrc, _, _, c', hk, ?_, k4, k1, k2, k5⟩
      exact k3.symm
    · -- there is room
      rcases hown with h1 | ⟨b, o, C, t', rfl, g2, g3, g4, g6, g7, g8, hap⟩
      · omega
      have hlN : (ys.flatMap (flat c.E.B e)).length = ys.length * e.sz := flatMap_len _ (hfl ys)
      have hmul : xs.length * e.sz + ys.length * e.sz ≤ cap * e.sz := by rw [← Nat.add_mul]; exact Nat.mul_le_mul_right _ hroom
      have hrun := run_append_room_src (P := P) c.x t t ty' el inf u1 u2 b o xs.length cap vy ys.length _ hsrc hroom (fun j hj => by
        rw [g4.cell]
        rw [hlN] at hj
        have : o + xs.length * inf.size + j < C.size := by rw [u3]; omega
        simp [this]) (fun j hj => g4.frozen _)
      rw [setCells_putB _ _ g4, u3] at hrun
      have hsz : (sets C (o + xs.length * e.sz) (ys.flatMap (flat c.E.B e))).size = C.size := sets_size _ _ _
      have hB' := g4.put (sets C (o + xs.length * e.sz) (ys.flatMap (flat c.E.B e)))
      have hout : ∀ j, j < o + xs.length * e.sz → (putB c.x b (sets C (o + xs.length * e.sz) (ys.flatMap (flat c.E.B e)))).cell? ⟨b, j, none⟩ = c.x.cell? ⟨b, j, none⟩ := fun j hj => by
        rw [hB'.cell, g4.cell, sets_out _ _ _ _ (Or.inl hj)]
      have hz : ∀ (q : Nat) e', (xs ++ ys)[q]? = some e' → ∀ j, j < e.sz → (putB c.x b (sets C (o + xs.length * e.sz) (ys.flatMap (flat c.E.B e)))).cell? ⟨b, o + q * e.sz + j, none⟩ = (flat c.E.B e e')[j]? := fun q e' hq j hj => by
        rw [List.getElem?_append] at hq
        split at hq
        · rename_i hlt
          rcases hcont with h1 | ⟨b1, o1, h1, h2⟩
          · rw [h1] at hlt; simp at hlt
          · cases h1
            have hle : q * e.sz + e.sz ≤ xs.length * e.sz := by rw [← Nat.succ_mul]; exact Nat.mul_le_mul_right _ hlt
            rw [hout _ (by omega)]
            exact h2 q e' hq j hj
        · rename_i hge
          have hq' : q - xs.length < ys.length := (List.getElem?_eq_some_iff.1 hq).1
          have hle : (q - xs.length) * e.sz + e.sz ≤ ys.length * e.sz := by rw [← Nat.succ_mul]; exact Nat.mul_le_mul_right _ hq'
          have hqe : q * e.sz = xs.length * e.sz + (q - xs.length) * e.sz := by rw [← Nat.add_mul]; congr 1; omega
          have hidx : o + q * e.sz + j = (o + xs.length * e.sz) + ((q - xs.length) * e.sz + j) := by omega
          rw [hB'.cell, hidx, sets_in _ _ _ _ (by rw [hlN]; omega) (by rw [hlN]; omega), flatMap_get _ (hfl ys) _ _ hj, hq]
          rfl
      obtain ⟨c', k1, k2, k3, k4, k5⟩ := grown (e := e) (zs := xs ++ ys) hr hi (x' := putB c.x b (sets C (o + xs.length * e.sz) (ys.flatMap (flat c.E.B e)))) (b := b) (o := o) (cap := cap)
        ⟨rfl, rfl, rfl, by rw [putB_size]; exact Nat.le_refl _, fun k _ hkb => putB_ne _ _ _ hkb⟩ g2 u4 g3 hB' (by rw [List.length_append]; exact hroom) g6 (by rw [hsz]; exact g7)
        (fun e' he' => by have := g8 e' he'; rw [List.length_append, Nat.add_mul]; omega) (fun e' he' j hj => hout j (by have := g8 e' he'; omega)) hap (fun q e' hq => ⟨fun j hj => hz q e' hq j hj, hall q e' hq⟩)
      refine ⟨_, _, hrun, _, _, c', hk, ?_, k4, k1, k2, k5⟩
      show _ = c'.E.B nn.n
      rw [k3, List.length_append]
  · -- a new block
    have hlX : (xs.flatMap (flat c.E.B e)).length = xs.length * e.sz := flatMap_len _ (hfl xs)
    have hlN : (ys.flatMap (flat c.E.B e)).length = ys.length * e.sz := flatMap_len _ (hfl ys)
    have hlA : ((xs ++ ys).flatMap (flat c.E.B e)).length = (xs ++ ys).length * e.sz := flatMap_len _ (hfl _)
    have hold : (Builtin.firstCells inf.size xs.length (.slice ad xs.length cap)).run P c.x.drew = .ok (xs.flatMap (flat c.E.B e)).toArray c.x.drew := by
      rcases hcont with h1 | ⟨b, o, rfl, h2⟩
      · subst h1
        cases ad with
        | none => exact run_firstCells_none _ _ _ _ _
        | some a => exact run_firstCells_some _ _ _ _ _ _ _ (by simp) (by simp)
      · refine run_firstCells_some _ _ _ _ _ _ _ (by rw [hlX, u3]) (fun j w hj => ?_)
        have hj' : j = (j / e.sz) * e.sz + j % e.sz := by rw [Nat.mul_comm]; exact (Nat.div_add_mod j e.sz).symm
        have hm : j % e.sz < e.sz := Nat.mod_lt _ (by omega)
        rw [hj', flatMap_get _ (hfl xs) _ _ hm] at hj
        cases hq : xs[j / e.sz]? with
        | none => rw [hq] at hj; cases hj
        | some q =>
          rw [hq] at hj
          have := h2 _ q hq _ hm
          have h3 : c.x.drew.cell? ((⟨b, o, none⟩ : Addr).add j) = c.x.cell? ((⟨b, o, none⟩ : Addr).add j) := rfl
          rw [h3, Addr.add_mid, hj', ← Nat.add_assoc, this]
          exact hj
    have hbyt : (xs.length + ys.length) * inf.bytes ≤ 140737488355328 := Nat.le_trans (Nat.mul_le_mul_left _ u7) hby
    have hrun := run_append_grow_src (P := P) c.x t t ty' el inf z u1 u2 u5 ad xs.length cap _ hold vy ys.length _ hsrc (by omega) (by omega) (growslice_fits (by omega) hbyt)
    rw [← List.flatMap_append] at hrun
    let g := grownCap c.x (xs.length + ys.length) cap el
    have hge : xs.length + ys.length ≤ g := grownCap_ge _ _ _ _
    have hsz : (((xs ++ ys).flatMap (flat c.E.B e)).toArray ++ Builtin.zeroCells z.cells (g - (xs.length + ys.length))).size = g * e.sz := by
      rw [Array.size_append, zeroCells_len, hzs]
      have h1 : ((xs ++ ys).flatMap (flat c.E.B e)).toArray.size = (xs.length + ys.length) * e.sz := by simpa using hlA
      rw [h1, ← Nat.add_mul]
      congr 1
      omega
    have hB' : HB (c.x.drew.alloc (.cells (((xs ++ ys).flatMap (flat c.E.B e)).toArray ++ Builtin.zeroCells z.cells (g - (xs.length + ys.length))) el)) c.x.heap.size (((xs ++ ys).flatMap (flat c.E.B e)).toArray ++ Builtin.zeroCells z.cells (g - (xs.length + ys.length))) el := heap_alloc_at c.x.drew _
    have hnoF : ∀ e', ¬ c.E.F c.x.heap.size e' := fun e' he' => Nat.lt_irrefl _ (hr.wf.fhi _ _ he')
    have hap : ∀ q s' j, j ≠ i → nn.tk[j]? = some (q, s') → ∀ o' l' k', q.val c.E.B = .slice (some ⟨c.x.heap.size, o', none⟩) l' k' → (0 < s' → 0 < k' → False) ∧ (i < j → s' = 0 → l' = 0) := fun q s' j hj hq o' l' k' hv' => by
      obtain ⟨_, g, g'⟩ := hr.tk.ok _ (List.mem_of_getElem? hq)
      constructor
      · intro hs' hk'
        rcases g hs' with ⟨ad', g⟩ | ⟨b', _, _, _, _, _, g1, _, _, g4, _⟩
        · have g : q.val c.E.B = .slice ad' 0 0 := g
          rw [hv'] at g
          obtain ⟨_, _, h3⟩ := Value.slice.inj g
          omega
        · have g1 : q.val c.E.B = _ := g1
          rw [hv'] at g1
          cases g1
          exact Nat.lt_irrefl _ g4.lt
      · intro _ hs'
        obtain ⟨ad', len', cap', g1, g2⟩ := g' hs'
        have g1 : q.val c.E.B = .slice ad' len' cap' := g1
        rw [hv'] at g1
        cases g1
        rcases g2 with g2 | ⟨b', o'', g2, g3⟩
        · exact g2
        · cases g2
          exact absurd g3 (Nat.lt_irrefl _)
    have hz : ∀ (q : Nat) e', (xs ++ ys)[q]? = some e' → ∀ j, j < e.sz → (c.x.drew.alloc (.cells (((xs ++ ys).flatMap (flat c.E.B e)).toArray ++ Builtin.zeroCells z.cells (g - (xs.length + ys.length))) el)).cell? ⟨c.x.heap.size, 0 + q * e.sz + j, none⟩ = (flat c.E.B e e')[j]? := fun q e' hq j hj => by
      have hlt : q < (xs ++ ys).length := (List.getElem?_eq_some_iff.1 hq).1
      have hle : q * e.sz + e.sz ≤ (xs ++ ys).length * e.sz := by rw [← Nat.succ_mul]; exact Nat.mul_le_mul_right _ hlt
      rw [hB'.cell, Nat.zero_add, Array.getElem?_append_left (by simp only [List.size_toArray, hlA]; omega)]
      simp only [List.getElem?_toArray]
      rw [flatMap_get _ (hfl _) _ _ hj, hq]
      rfl
    obtain ⟨c', k1, k2, k3, k4, k5⟩ := grown (e := e) (zs := xs ++ ys) hr hi (x' := c.x.drew.alloc (.cells (((xs ++ ys).flatMap (flat c.E.B e)).toArray ++ Builtin.zeroCells z.cells (g - (xs.length + ys.length))) el)) (b := c.x.heap.size) (o := 0) (cap := g)
      ⟨rfl, rfl, rfl, by rw [size_alloc']; exact Nat.le_succ _, fun k hk _ => Below.heap_alloc _ _ _ hk⟩ hr.wf.below.size u4 (fun i hi => Nat.ne_of_lt (hr.wf.hi i hi)) hB' (by rw [List.length_append]; exact hge) (grownCap_le_maxLen _ _ _ _ (by unfold maxLen; omega)) (by rw [hsz]; omega)
      (fun e' he' => absurd he' (hnoF e')) (fun e' he' => absurd he' (hnoF e')) hap (fun q e' hq => ⟨fun j hj => hz q e' hq j hj, hall q e' hq⟩)
    refine ⟨_, _, hrun, _, _, c', hk, ?_, k4, k1, k2, k5⟩
    show _ = c'.E.B nn.n
    rw [k3, List.length_append]
theorem own_sound (hT : TabOk P T) {o : Oper} {f : Fr} {nn : NS} {k : SV → NS → Prop} (h : ownK T o f nn k) {bl : List V} {c : Cx} {a : Act} (hr : Real w0 F0 bl nn c) (hf : FR N c f a) :
    ∃ v x', (execOp a.eval o).run P c.x = .ok (.value v) x' ∧ ∃ r nn' c', k r nn' ∧ v = r.val c'.E ∧ r.ok c' ∧ Real w0 F0 bl nn' c' ∧ c.Le c' ∧ c'.x = x' := by
  unfold ownK at h
  split at h <;> first | exact h.elim | skip
  rename_i cl ho
  split at h <;> first | exact h.elim | skip
  rename_i hc
  split at h <;> first | exact h.elim | skip
  rename_i x y hxy
  split at h <;> first | exact h.elim | skip
  rename_i t u htu
  split at h <;> first | exact h.elim | skip
  rename_i e n0 hty
  split at h <;> first | exact h.elim | skip
  rename_i hu0
  obtain rfl : u = t := Nat.eq_of_beq_eq_true hu0
  split at h <;> first | exact h.elim | skip
  rename_i s hs
  obtain ⟨hd, xs, h1, h2⟩ := lstA_sound h
  obtain ⟨e1, e2⟩ := evS_sound hf hs
  have hx := h2 c e2
  have hargs : cl.args = #[x, y] := by apply Array.toList_inj.1; rw [hxy]
  have hats : cl.argTypes = #[u, u] := by apply Array.toList_inj.1; rw [htu]
  have hexec : ∀ (v' : Value) (x' : World), (Builtin.append_ #[u, u] o.type #[a.eval x, a.eval y]).run P c.x = .ok v' x' → (execOp a.eval o).run P c.x = .ok (.value v') x' := fun v' x' hrun => by
    unfold execOp
    simp only [ho, resolve, hc, invoke, builtin, Sem.run_bind, Sem.run_pure, Result.andThen_ok, hargs, hats, List.map_toArray, List.map_cons, List.map_nil, hrun]
  have e1' : a.eval x = s.val c.E := e1
  split at h1
  · rename_i v hv
    obtain ⟨d, g1, g2, g3, g4⟩ := denK_sound v (.lst e) _ h1
    obtain ⟨e3, e4⟩ := evS_sound hf hv
    obtain ⟨v', x', hrun, hrest⟩ := app_run (P := P) hr hT hty (vx := a.eval x) (vy := a.eval y) o.type (by rw [e1']; exact hx) (h' := d.1) (by rw [e3]; exact val_leaf g2 (g3 c.E.B)) (g4 _ _ _ _ e4) g1
    exact ⟨v', x', hexec _ _ hrun, hrest⟩
  · rename_i hv
    obtain ⟨e3, e4⟩ := evS_sound hf hv
    obtain ⟨v', x', hrun, hrest⟩ := app_run (P := P) hr hT hty (vx := a.eval x) (vy := a.eval y) o.type (by rw [e1']; exact hx) (h' := nilH) e3 ⟨trivial, Or.inl ⟨rfl, none, 0, rfl⟩⟩ h1
    exact ⟨v', x', hexec _ _ hrun, hrest⟩
  · exact h1.elim

/-- A call that is walked there. -/
theorem inN_mem : ∀ (l : List Nat) (n : Nat), inN l n = false → n ∉ l
  | [], _, _ => by simp
  | a :: r, n, h => by
    unfold inN at h
    split at h
    · cases h
    · rename_i hb
      have := inN_mem r n h
      intro hm
      rcases List.mem_cons.1 hm with rfl | hm
      · simp at hb
      · exact this hm
theorem mem_inN : ∀ (l : List Nat) (n : Nat), inN l n = true → n ∈ l
  | [], _, h => by cases h
  | a :: r, n, h => by
    unfold inN at h
    split at h
    · rename_i hb
      rw [Nat.eq_of_beq_eq_true hb]; simp
    · exact List.mem_cons_of_mem _ (mem_inN r n h)
theorem look_ne {t t0 : Nat} {s0 : SV} {r : Fr} (h : t ≠ t0) : look ((t0, s0) :: r) t = look r t := by
  show (match Nat.beq t t0 with | true => some s0 | false => look r t) = look r t
  split
  · rename_i hb
    exact absurd (Nat.eq_of_beq_eq_true hb) h
  · rfl
theorem plK_elim : ∀ (seen : List Nat) (f : Fr) (k : Fr → Prop), plK seen f k → ∃ g, k g ∧ ∀ t s, look g t = some s → t ∉ seen ∧ look f t = some s ∧ s.pl = true
  | _, [], k, h => ⟨[], h, fun t s ht => by cases ht⟩
  | seen, (t0, s0) :: r, k, h => by
    unfold plK at h
    split at h
    · rename_i hin
      obtain ⟨g, h1, h2⟩ := plK_elim seen r k h
      refine ⟨g, h1, fun t s ht => ?_⟩
      obtain ⟨h0, h3, h4⟩ := h2 t s ht
      exact ⟨h0, by rw [look_ne (fun e => h0 (by rw [e]; exact mem_inN _ _ hin))]; exact h3, h4⟩
    · rename_i hin
      have hnin := inN_mem _ _ hin
      split at h
      · rename_i hp
        obtain ⟨g, h1, h2⟩ := plK_elim (t0 :: seen) r _ h
        refine ⟨_, h1, fun t s ht => ?_⟩
        by_cases htt : t = t0
        · subst htt
          have e : look ((t, s0) :: g) t = some s0 := by
            show (match Nat.beq t t with | true => some s0 | false => look g t) = some s0
            rw [Nat.beq_refl]
          rw [e] at ht
          cases ht
          refine ⟨hnin, ?_, hp⟩
          show (match Nat.beq t t with | true => some s0 | false => look r t) = some s0
          rw [Nat.beq_refl]
        · rw [look_ne htt] at ht
          obtain ⟨h0, h3, h4⟩ := h2 t s ht
          exact ⟨fun hm => h0 (List.mem_cons_of_mem _ hm), by rw [look_ne htt]; exact h3, h4⟩
      · obtain ⟨g, h1, h2⟩ := plK_elim (t0 :: seen) r _ h
        refine ⟨g, h1, fun t s ht => ?_⟩
        obtain ⟨h0, h3, h4⟩ := h2 t s ht
        exact ⟨fun hm => h0 (List.mem_cons_of_mem _ hm), by rw [look_ne (fun e => h0 (by rw [e]; simp))]; exact h3, h4⟩
theorem mOf_spec {o : Oper} {f : Fr} {tr : MTr} {xs : List Operand} {cs : List (Nat × Nat × List Step × Ty)} {tp : Bool} (hS : SpecsOk P S) (h : mOf S f o = some (tr, xs, cs, tp)) : ∃ g, ((tp = false → MOk P g tr) ∧ (tp = true → MOkT P g tr)) ∧ ∀ (c : Cx) (a : Act), FR N c f a →
    (execOp a.eval o).run P c.x = .ok (.enter g ((xs.map a.eval) ++ cs.map fun q => (capA q).val c.E).toArray) c.x ∧ ∀ q ∈ cs, (capA q).ok c := by
  unfold mOf at h
  split at h
  · rename_i cl ho
    split at h
    · rename_i x hx
      split at h
      · rename_i g cs' hg
        split at h
        · rename_i q1 q2 q3 q4 q5 q6 tr' q7 q8 hs
          obtain ⟨⟨_, hm, _⟩, hbody⟩ := hS _ (spL_mem _ _ _ hs)
          cases h
          refine ⟨g, hm tr rfl, fun c a hf => ?_⟩
          obtain ⟨e1, e2⟩ := evS_sound hf hg
          refine ⟨?_, fun q hq => e2 q hq⟩
          unfold execOp
          simp only [ho, resolve, hx, e1, SV.val, AV.val, Deferred.ofValue, Sem.run_bind, Sem.run_pure, Result.andThen_ok, invoke]
          simp only [Array.empty_append]
          rw [callFunc_run hbody]
          congr 2
          apply Array.toList_inj.1
          simp [capA, AV.val]
        · cases h
      · split at h
        · rename_i g _
          split at h
          · rename_i q1 q2 q3 q4 q5 q6 tr' q7 q8 hs
            obtain ⟨⟨_, hm, _⟩, hbody⟩ := hS _ (spL_mem _ _ _ hs)
            cases h
            refine ⟨g, hm tr rfl, fun c a hf => ?_⟩
            refine ⟨?_, fun q hq => by cases hq⟩
            have e1 : a.eval (.func g) = .func (.func g) #[] #[] := rfl
            unfold execOp
            simp only [ho, resolve, hx, e1, Deferred.ofValue, Sem.run_bind, Sem.run_pure, Result.andThen_ok, invoke]
            simp only [Array.empty_append]
            rw [callFunc_run hbody]
            congr 2
            apply Array.toList_inj.1
            simp
          · cases h
        · cases h
    · cases h
  · cases h

/-- Operations one after the other. -/
def tailL (P : Program) (ops : Array Oper) (Q : Act → World → Prop) : List Oper → Act → World → Prop
  | [], a, x => Q a x
  | o :: r, a, x => if Region.wanted o (yielded ops a.tmps) = true then upon4 P (fun v x' => tailL P ops Q r (a.put o.dst v) x') ((execOp a.eval o).run P x) else tailL P ops Q r (a.put o.dst undef) x

theorem upon4_mono {R R' : Value → World → Prop} (h : ∀ v x, R v x → R' v x) {r : Result Next} (hr : upon4 P R r) : upon4 P R' r := by
  cases r with
  | ok nx w' =>
    cases nx <;> simp only [upon4] at hr ⊢
    case value u => exact h _ _ hr
    case skip => exact h _ _ hr
    case enter g args => exact hr.mono fun e x' ⟨u, he, hu⟩ => ⟨u, he, h _ _ hu⟩
  | halt q w' => simp only [upon4] at hr

theorem tailL_list {ops : Array Oper} {Q : Exit → Act → World → Prop} : ∀ (l : List Oper) (a : Act) (x : World), tailL P ops (fun a x => Q .normal a x) l a x → wpList P ops Q l a x
  | [], a, x, h => h
  | o :: r, a, x, h => by
    unfold tailL at h
    unfold wpList
    split at h
    · rename_i hw
      rw [if_pos hw]
      refine Or.inl ?_
      unfold Oper.wp
      generalize (execOp a.eval o).run P x = res at h
      cases res with
      | ok nx w' =>
        cases nx <;> simp only [upon4] at h <;> simp only [Oper.upon]
        case value u => exact tailL_list r _ _ h
        case skip => exact tailL_list r _ _ h
        case enter g args =>
          exact h.mono fun e x' he => by
            obtain ⟨u, rfl, hu⟩ := he
            exact tailL_list r _ _ hu
      | halt q w' => simp only [upon4] at h
    · rename_i hw
      rw [if_neg hw]
      exact tailL_list r _ _ h

theorem flat_nolst (B B' : Nat → Value) : ∀ (t : Ty) (v : t.D), t.nolst = true → flat B t v = flat B' t v
  | .int, _, _ => rfl
  | .bool, _, _ => rfl
  | .one t, v, h => flat_nolst B B' t v h
  | .pair a b, v, h => by
    simp only [Ty.nolst, Bool.and_eq_true] at h
    simp only [flat]
    rw [flat_nolst B B' a _ h.1, flat_nolst B B' b _ h.2]
  | .arr n t, f, h => rows_congr n fun i _ => flat_nolst B B' t (f i) h
  | .lst t, v, h => by cases h
theorem V.cells_nolst (B B' : Nat → Value) : ∀ v : V, v.ty.nolst = true → v.cells B = v.cells B'
  | .leaf t v, h => flat_nolst B B' t v h
  | .one y, h => V.cells_nolst B B' y h
  | .node y z, h => by
    simp only [V.ty, Ty.nolst, Bool.and_eq_true] at h
    simp only [V.cells]
    rw [V.cells_nolst B B' y h.1, V.cells_nolst B B' z h.2]
theorem V.ok_nolst {XB : Nat → Prop} {B : Nat → Value} {F : Nat → Nat → Prop} {x : World} : ∀ v : V, v.ty.nolst = true → v.ok XB B F x
  | .leaf t v, h => wok_nolst t v h
  | .one y, h => V.ok_nolst y h
  | .node y z, h => by
    simp only [V.ty, Ty.nolst, Bool.and_eq_true] at h
    exact ⟨V.ok_nolst y h.1, V.ok_nolst z h.2⟩
theorem AV.pl_ok {c c' : Cx} (hA : ∀ i, c.XA i → c'.XA i ∧ c'.E.A i = c.E.A i ∧ c'.ty i = c.ty i) {s : AV} (hp : s.pl = true) (hs : s.ok c) : s.val c'.E = s.val c.E ∧ s.ok c' := by
  cases s with
  | of v =>
    refine ⟨?_, V.ok_nolst v hp⟩
    have hc := V.cells_nolst c'.E.B c.E.B v hp
    show v.val c'.E.B = v.val c.E.B
    unfold V.val
    split
    · rfl
    · rfl
    · cases hp
    · rw [hc]
  | ptr i off p u =>
    obtain ⟨h1, t, h2, h3⟩ := hs
    exact ⟨by simp only [AV.val, (hA i h1).2.1], (hA i h1).1, t, by rw [(hA i h1).2.2]; exact h2, h3⟩
  | elt t hd xs k off p u => cases hp
  | slc i off p n t lo len cap =>
    obtain ⟨h1, ⟨T, h2, h3⟩, h4⟩ := hs
    exact ⟨by simp only [AV.val, (hA i h1).2.1], (hA i h1).1, ⟨T, by rw [(hA i h1).2.2]; exact h2, h3⟩, h4⟩
  | clo g cs =>
    refine ⟨?_, fun q hq => ?_⟩
    · simp only [AV.val]
      congr 2
      apply List.map_congr_left
      intro q hq
      rw [(hA q.1 (hs q hq).1).2.1]
    · obtain ⟨h1, t, h2, h3⟩ := hs q hq
      exact ⟨(hA q.1 h1).1, t, by rw [(hA q.1 h1).2.2]; exact h2, h3⟩
  | emp hd => cases hp
  | raw v => exact ⟨rfl, trivial⟩
theorem SV.pl_ok {c c' : Cx} (hA : ∀ i, c.XA i → c'.XA i ∧ c'.E.A i = c.E.A i ∧ c'.ty i = c.ty i) {s : SV} (hp : s.pl = true) (hs : s.ok c) : s.val c'.E = s.val c.E ∧ s.ok c' := by
  cases s with
  | a x => exact AV.pl_ok hA hp hs
  | tup l =>
    simp only [SV.pl, List.all_eq_true] at hp
    refine ⟨?_, fun y hy => (AV.pl_ok hA (hp y hy) (hs y hy)).2⟩
    simp only [SV.val]
    congr 2
    apply List.map_congr_left
    intro y hy
    exact (AV.pl_ok hA (hp y hy) (hs y hy)).1
theorem frOk_look {p : StP} {f : Fr} : ∀ (g : Fr), frOk p f g → ∀ t s, look g t = some s → (look f t = some s ∧ s.pl = true) ∨ ∃ v d, look f t = some (.a (.of v)) ∧ s = .a (.of (.leaf v.ty d)) ∧ keptD p v.ty v.dn0 d
  | [], _, t, s, hl => by cases hl
  | (t', s') :: r, hg, t, s, hl => by
    unfold look at hl
    split at hl
    · rename_i hb
      have := Nat.eq_of_beq_eq_true hb
      subst this
      cases hl
      exact hg.1
    · exact frOk_look r hg.2 t s hl
theorem keptBs_get {p : StP} : ∀ (l l' : List V), keptBs p l l' → l'.length = l.length ∧ ∀ (k : Nat) w, l'[k]? = some w → ∃ v d, l[k]? = some v ∧ w = .leaf v.ty d ∧ keptD p v.ty v.dn0 d
  | [], [], _ => ⟨rfl, fun k w h => by simp at h⟩
  | v :: r, w :: s, h => by
    obtain ⟨⟨d, h1, h2⟩, h3⟩ := h
    obtain ⟨h4, h5⟩ := keptBs_get r s h3
    refine ⟨by simp [h4], fun k u hu => ?_⟩
    cases k with
    | zero =>
      have : w = u := by simpa using hu
      subst this
      exact ⟨v, d, rfl, h1, h2⟩
    | succ k => exact h5 k u (by simpa using hu)
  | [], _ :: _, h => h.elim
  | _ :: _, [], h => h.elim
theorem keptD_nol {p : StP} : ∀ (t : Ty) (a : t.D), t.nolst = true → keptD p t a a
  | .int, _, _ => rfl
  | .bool, _, _ => rfl
  | .one t, a, h => keptD_nol t a h
  | .pair s t, a, h => by
    simp only [Ty.nolst, Bool.and_eq_true] at h
    exact ⟨keptD_nol s a.1 h.1, keptD_nol t a.2 h.2⟩
  | .arr n t, f, h => fun i _ => keptD_nol t (f i) h
  | .lst t, a, h => by cases h
theorem keptBs_nol {p : StP} : ∀ (l : List V), (l.all fun v => v.ty.nolst) = true → keptBs p l (l.map fun v => .leaf v.ty v.dn0)
  | [], _ => trivial
  | v :: r, h => by
    simp only [List.all_cons, Bool.and_eq_true] at h
    exact ⟨⟨v.dn0, rfl, keptD_nol v.ty v.dn0 h.1⟩, keptBs_nol r h.2⟩
theorem V.dn0_flat (B : Nat → Value) : ∀ v : V, flat B v.ty v.dn0 = v.cells B
  | .leaf _ _ => rfl
  | .one x => V.dn0_flat B x
  | .node x y => by
    show flat B x.ty x.dn0 ++ flat B y.ty y.dn0 = x.cells B ++ y.cells B
    rw [V.dn0_flat B x, V.dn0_flat B y]
theorem V.dn0_ok {XB : Nat → Prop} {B : Nat → Value} {F : Nat → Nat → Prop} {w : World} : ∀ v : V, v.ok XB B F w → wok XB B F w v.ty v.dn0
  | .leaf _ _, h => h
  | .one x, h => V.dn0_ok x h
  | .node x y, h => ⟨V.dn0_ok x h.1, V.dn0_ok y h.2⟩
theorem kept_flat {p : StP} {c : Cx} {B' : Nat → Value} (hn : B' p.n = p.h.val c.E.B) (hB : ∀ n, c.XB n → B' n = c.E.B n) : ∀ (t : Ty) (a b : t.D), keptD p t a b → wok c.XB c.E.B c.E.F c.x t a → flat B' t b = flat c.E.B t a
  | .int, a, b, h, _ => by rw [show a = b from h]; rfl
  | .bool, a, b, h, _ => by rw [show a = b from h]; rfl
  | .one t, a, b, h, hw => kept_flat hn hB t a b h hw
  | .pair s t, a, b, h, hw => by simp only [flat]; rw [kept_flat hn hB s _ _ h.1 hw.1, kept_flat hn hB t _ _ h.2 hw.2]
  | .arr n t, f, g, h, hw => rows_congr n fun i hi => kept_flat hn hB t _ _ (h i hi) (hw i hi)
  | .lst t, a, b, h, hw => by
    simp only [flat]
    obtain ⟨_, ⟨rfl, _⟩ | ⟨e, rfl, rfl⟩⟩ := h
    · rw [hdVal_congr hB hw.1]
    · show [B' p.n] = [p.h.val c.E.B]
      rw [hn]
theorem kept_wok {p : StP} {c c' : Cx} {bb : Nat} (hX : ∀ n, c.XB n → c'.XB n) (hB : ∀ n, c.XB n → c'.E.B n = c.E.B n) (hF : ∀ d k, d ≠ bb → c.E.F d k → c'.E.F d k) (hcell : ∀ d j, d ≠ bb → c'.x.cell? ⟨d, j, none⟩ = c.x.cell? ⟨d, j, none⟩) (hs : c.x.heap.size ≤ c'.x.heap.size)
    (htok : ∀ j q s, j ≠ p.i → (0 < s ∨ p.i < j) → p.tk[j]? = some (q, s) → ∀ b o len cap, q.val c.E.B = .slice (some ⟨b, o, none⟩) len cap → len = 0 ∨ b ≠ bb) (hnew : wokc c' (.lst p.te) (.nm p.n, p.xs')) : ∀ (t : Ty) (a b : t.D), keptD p t a b → wok c.XB c.E.B c.E.F c.x t a → wok c'.XB c'.E.B c'.E.F c'.x t b
  | .int, a, b, h, _ => trivial
  | .bool, a, b, h, _ => trivial
  | .one t, a, b, h, hw => kept_wok hX hB hF hcell hs htok hnew t a b h hw
  | .pair s t, a, b, h, hw => ⟨kept_wok hX hB hF hcell hs htok hnew s _ _ h.1 hw.1, kept_wok hX hB hF hcell hs htok hnew t _ _ h.2 hw.2⟩
  | .arr n t, f, g, h, hw => fun i hi => kept_wok hX hB hF hcell hs htok hnew t _ _ (h i hi) (hw i hi)
  | .lst t, a, b, h, hw => by
    obtain ⟨hnl, ⟨rfl, hk⟩ | ⟨e, rfl, rfl⟩⟩ := h
    · refine ⟨?_, ?_⟩
      · cases hv : a.1 with
        | conc u => trivial
        | nm k => have := hw.1; rw [hv] at this; exact hX k this
      · rw [hdVal_congr hB hw.1]
        rcases hw.2 with h2 | ⟨b, o, cap, e1, e2, e3, e4, ⟨fe, e5, e6⟩, e7⟩
        · exact Or.inl h2
        · have hne : a.2 = [] ∨ b ≠ bb := by
            rcases hk with hk | ⟨j, s, hj, hj', hk⟩
            · exact Or.inl hk
            · rcases htok j a.1 s hj hj' hk b o _ cap e1 with h0 | h0
              · exact Or.inl (List.length_eq_zero_iff.1 h0)
              · exact Or.inr h0
          rcases hne with hne | hne
          · exact Or.inl ⟨hne, some ⟨b, o, none⟩, cap, by rw [e1, hne]; rfl⟩
          · refine Or.inr ⟨b, o, cap, e1, e2, e3, Nat.lt_of_lt_of_le e4 hs, ⟨fe, e5, hF _ _ hne e6⟩, fun i z hz => ⟨fun j hj => ?_, wok_nolst t z hnl⟩⟩
            rw [hcell _ _ hne, (e7 i z hz).1 j hj, flat_nolst c'.E.B c.E.B t z hnl]
    · cases e
      exact hnew

theorem splice_out {α : Type} {l n : List α} {off m : Nat} (h : off + n.length ≤ l.length) (hm : m < off ∨ off + n.length ≤ m) : (splice l off n)[m]? = l[m]? := by
  unfold splice
  rcases hm with hm | hm
  · rw [List.append_assoc, List.getElem?_append_left (by simp; omega), List.getElem?_take, if_pos hm]
  · rw [List.getElem?_append_right (by simp; omega), List.getElem?_drop]
    congr 1
    simp
    omega
theorem splice_in {α : Type} {l n : List α} {off k : Nat} (h : off + n.length ≤ l.length) (hk : k < n.length) : (splice l off n)[off + k]? = n[k]? := by
  unfold splice
  rw [List.getElem?_append_left (by simp; omega), List.getElem?_append_right (by simp; omega)]
  congr 1
  simp
  omega
/-- The world behind a store into a list of one's own. -/
theorem stored {bl bl' : List V} {nn : NS} {c : Cx} (hr : Real w0 F0 bl nn c) (htop : ∀ b e, F0.c.E.F b e → b < w0.heap.size) {te : Ty} (hsz1 : 1 ≤ te.sz) {xs xs' : List te.D} {i j : Nat} {h : Hd} (hnl : keptBs ⟨te, h, xs, nn.n, xs', nn.tk, i⟩ bl bl') (hi : nn.tk[i]? = some (h, te.sz)) (hw : wokc c (.lst te) (h, xs)) (hj : j < xs.length)
    {e : te.D} (hxs : xs' = xs.set j e) (he : wokc c te e) (hte : te.nolst = true) {off : Nat} {nc : List Value} (hoff : off + nc.length ≤ te.sz) (hfe : flat c.E.B te e = splice (flat c.E.B te (nthD te xs j)) off nc) :
    ∃ b o C t' c', HB c.x b C t' ∧ o + xs.length * te.sz ≤ C.size ∧ (∃ cap, h.val c.E.B = .slice (some ⟨b, o, none⟩) xs.length cap) ∧ c'.x = putB c.x b (sets C (o + j * te.sz + off) nc) ∧ Real w0 F0 bl' ⟨nn.n + 1, nn.tk.set i (.nm nn.n, te.sz)⟩ c' ∧ (∀ i, c.XA i → c'.XA i ∧ c'.E.A i = c.E.A i ∧ c'.ty i = c.ty i) ∧ c'.E.B nn.n = h.val c.E.B ∧
      (∀ (t : Ty) (a d : t.D), keptD ⟨te, h, xs, nn.n, xs', nn.tk, i⟩ t a d → wokc c t a → flat c'.E.B t d = flat c.E.B t a ∧ wokc c' t d) := by
  have hX := hr.XB
  have htok : OwnOk w0 c h te.sz := (hr.tk.ok _ (List.mem_of_getElem? hi)).2.1 hsz1
  obtain ⟨_, hd2⟩ := hw
  rcases hd2 with ⟨h1, _⟩ | ⟨b, o, cap, d1, d2, d3, d4, d5, d6⟩
  · have h1 : xs = [] := h1
    rw [h1] at hj; simp at hj
  have d1 : h.val c.E.B = .slice (some ⟨b, o, none⟩) xs.length cap := d1
  have d2 : xs.length ≤ cap := d2
  rcases htok with ⟨ad, ht⟩ | ⟨b', o', len, cap', C, t', g1, g2, g3, g4, g5, g6, g7, g8⟩
  · rw [d1] at ht
    obtain ⟨_, h2, _⟩ := Value.slice.inj ht
    omega
  rw [d1] at g1
  obtain ⟨q1, q2, q3⟩ := Value.slice.inj g1
  cases q1
  subst q2
  subst q3
  have hcap : 0 < cap := by omega
  let x' := putB c.x b (sets C (o + j * te.sz + off) nc)
  let E' : Env := ⟨c.E.A, fun n => if n = nn.n then h.val c.E.B else c.E.B n, fun d k => (d ≠ b ∧ c.E.F d k) ∨ (d = b ∧ k = o + xs.length * te.sz)⟩
  let c' : Cx := { XA := c.XA, XB := fun n => n < nn.n + 1, ty := c.ty, E := E', x := x' }
  have hBn : E'.B nn.n = h.val c.E.B := if_pos rfl
  have hBo : ∀ n, c.XB n → E'.B n = c.E.B n := fun n hn => if_neg (by have := (hX n).1 hn; omega)
  have hne : ∀ k, k ≠ b → x'.heap[k]? = c.x.heap[k]? := fun k hk => putB_ne _ _ _ hk
  have hB' : HB x' b (sets C (o + j * te.sz + off) nc) t' := g4.put _
  have hsz : x'.heap.size = c.x.heap.size := putB_size _ _ _
  have hval : ∀ q : Hd, q.ok c.XB → q.val E'.B = q.val c.E.B := fun q hq => hdVal_congr hBo hq
  have hsame : Same c.x x' (fun k => k = b) := ⟨rfl, rfl, rfl, by rw [hsz]; exact Nat.le_refl _, fun k _ hk => hne k hk⟩
  have hle0 : F0.c.Le c' := by
    have hl := hr.wf.le
    refine ⟨fun i hi => hl.A i hi, fun n hn => ⟨Nat.lt_succ_of_lt ((hX n).1 (hl.B n hn).1), (hBo n (hl.B n hn).1).trans (hl.B n hn).2⟩, fun d k hd => Or.inl ⟨?_, hl.F d k hd⟩, fun d k hd q hq => ?_, Nat.le_trans hl.S (by rw [hsz]; exact Nat.le_refl _)⟩
    · have := htop d k hd; omega
    · rw [← hl.K d k hd q hq]
      exact World.cell?_of_block (hne d (by have := htop d k hd; omega))
  have hwf : c'.Wf w0 F0 := by
    refine ⟨hr.wf.below.trans (hsame.below hr.wf.below.size fun k hk hkb => ?_), hr.wf.lo, fun i hi => by rw [show c'.x.heap.size = c.x.heap.size from hsz]; exact hr.wf.hi i hi, hr.wf.inj, fun d k hd => ?_, fun i hi k hk => ?_, fun d k hd => ?_, fun n hn => ⟨Nat.lt_succ_of_lt ((hX n).1 (hr.wf.oldB n hn).1), (hBo n (hr.wf.oldB n hn).1).trans (hr.wf.oldB n hn).2⟩, hle0⟩
    · omega
    · rw [show c'.x.heap.size = c.x.heap.size from hsz]
      rcases hd with ⟨_, hd⟩ | ⟨rfl, _⟩
      · exact hr.wf.fhi d k hd
      · exact g4.lt
    · rcases hk with ⟨_, hk⟩ | ⟨hk, _⟩
      · exact hr.wf.own i hi k hk
      · exact g3 i hi hk
    · constructor
      · rintro (⟨_, h1⟩ | ⟨h1, _⟩)
        · exact (hr.wf.old d k hd).1 h1
        · omega
      · exact fun h1 => Or.inl ⟨by omega, (hr.wf.old d k hd).2 h1⟩
  have hmulj : j * te.sz + te.sz ≤ xs.length * te.sz := by rw [← Nat.succ_mul]; exact Nat.mul_le_mul_right _ hj
  have hmulc : xs.length * te.sz ≤ cap * te.sz := Nat.mul_le_mul_right _ d2
  have hall : ∀ q s', (q, s') ∈ nn.tk → TokOk w0 c q s' := fun q s' hq => hr.tk.ok (q, s') hq
  have hilt : i < nn.tk.length := (List.getElem?_eq_some_iff.1 hi).1
  have hoth : ∀ k q s', k ≠ i → nn.tk[k]? = some (q, s') → ∀ o' l' k', q.val c.E.B = .slice (some ⟨b, o', none⟩) l' k' → (0 < s' → 0 < k' → False) ∧ (i < k → s' = 0 → l' = 0) := fun k q s' hk hq o' l' k' hv' => by
    have hjl : k < nn.tk.length := (List.getElem?_eq_some_iff.1 hq).1
    have hjv : nn.tk[k] = (q, s') := (List.getElem?_eq_some_iff.1 hq).2
    have hiv : nn.tk[i] = (h, te.sz) := (List.getElem?_eq_some_iff.1 hi).2
    have hp := List.pairwise_iff_getElem.1 hr.tk.ne
    rcases Nat.lt_or_gt_of_ne hk with hlt | hlt
    · have := hp k i hjl hilt hlt
      rw [hjv, hiv] at this
      exact ⟨fun hs' hk' => (this hs' _ _ _ _ _ _ _ hv' d1 hk').1 hsz1 hcap, fun hik => by omega⟩
    · have := hp i k hilt hjl hlt
      rw [hjv, hiv] at this
      have := this hsz1 _ _ _ _ _ _ _ d1 hv' hcap
      exact ⟨this.1, fun _ => this.2⟩
  have hnew : wokc c' (.lst te) (.nm nn.n, xs') := by
    refine ⟨Nat.lt_succ_self _, ?_⟩
    have hl' : xs'.length = xs.length := by rw [hxs, List.length_set]
    refine Or.inr ⟨b, o, cap, ?_, by show xs'.length ≤ cap; rw [hl']; exact d2, d3, by rw [show c'.x.heap.size = c.x.heap.size from hsz]; exact d4, ⟨o + xs.length * te.sz, by show o + xs'.length * te.sz ≤ _; rw [hl']; exact Nat.le_refl _, Or.inr ⟨rfl, rfl⟩⟩, fun q z hq => ?_⟩
    · show E'.B nn.n = .slice _ xs'.length cap
      rw [hBn, d1, hl']
    · have hq2 : xs'[q]? = some z := hq
      rw [hxs, List.getElem?_set] at hq2
      clear hq
      have hq := hq2
      clear hq2
      refine ⟨fun m hm => ?_, wok_nolst te z hte⟩
      show x'.cell? _ = (flat E'.B te z)[m]?
      rw [flat_nolst E'.B c.E.B te z hte, hB'.cell]
      split at hq
      · rename_i hjq
        subst hjq
        have hq := Option.some.inj hq
        subst hq
        have hold : xs[j]? = some (nthD te xs j) := by unfold nthD; rw [List.getElem?_eq_getElem hj]; rfl
        have hln : (flat c.E.B te (nthD te xs j)).length = te.sz := flat_len _ _ _
        rw [hfe]
        by_cases hin : m < off ∨ off + nc.length ≤ m
        · rw [sets_out _ _ _ _ (by omega), splice_out (by omega) hin, ← (d6 j _ hold).1 m hm, g4.cell]
        · obtain ⟨r, rfl⟩ : ∃ r, m = off + r := ⟨m - off, by omega⟩
          rw [← Nat.add_assoc, sets_in _ _ _ _ (by omega) (by omega), splice_in (by omega) (by omega)]
      · rename_i hjq
        have hq' : q < xs.length := (List.getElem?_eq_some_iff.1 hq).1
        have hdis : q * te.sz + te.sz ≤ j * te.sz ∨ j * te.sz + te.sz ≤ q * te.sz := by
          rcases Nat.lt_or_gt_of_ne hjq with h1 | h1
          · exact Or.inr (by rw [← Nat.succ_mul]; exact Nat.mul_le_mul_right _ h1)
          · exact Or.inl (by rw [← Nat.succ_mul]; exact Nat.mul_le_mul_right _ h1)
        rw [sets_out _ _ _ _ (by omega), ← (d6 q z hq).1 m hm, g4.cell]
  have hkept : ∀ (t : Ty) (a d : t.D), keptD ⟨te, h, xs, nn.n, xs', nn.tk, i⟩ t a d → wokc c t a → flat c'.E.B t d = flat c.E.B t a ∧ wokc c' t d := fun t a d hk hwk => by
    refine ⟨kept_flat hBn hBo t a d hk hwk, kept_wok (bb := b) (fun n hn => Nat.lt_succ_of_lt ((hX n).1 hn)) hBo (fun d k hd hF => Or.inl ⟨hd, hF⟩) (fun d j hd => World.cell?_of_block (hne d hd)) (by rw [show c'.x.heap.size = c.x.heap.size from hsz]; exact Nat.le_refl _) (fun k q s hk hks hq b1 o1 l1 k1 hv => ?_) hnew t a d hk hwk⟩
    by_cases hbb : b1 = b
    · subst hbb
      obtain ⟨z1, z2⟩ := hoth k q s hk hq _ _ _ hv
      rcases Nat.eq_zero_or_pos s with h0 | h0
      · rcases hks with hks | hks
        · omega
        · exact Or.inl (z2 hks h0)
      · obtain ⟨_, q1, _⟩ := hall q s (List.mem_of_getElem? hq)
        rcases q1 h0 with ⟨ad, e1⟩ | ⟨b2, o2, len2, cap2, C2, t2, e1, e2, e3, e4, e5, e6⟩
        · rw [hv] at e1
          cases e1
          exact Or.inl rfl
        · rw [hv] at e1
          cases e1
          rcases Nat.eq_zero_or_pos k1 with h1 | h1
          · exact Or.inl (by omega)
          · exact (z1 h0 h1).elim
    · exact Or.inr hbb
  obtain ⟨hlen, hget⟩ := keptBs_get _ _ hnl
  refine ⟨b, o, C, t', c', g4, by omega, ⟨cap, d1⟩, rfl, ⟨hwf, fun k => by rw [hlen]; exact hr.XA k, fun n => Iff.rfl, fun k w hw' => ?_, fun k w hw' => ?_, ?_⟩, fun i hi => ⟨hi, rfl, rfl⟩, hBn, hkept⟩
  · obtain ⟨v, d, hv, rfl, _⟩ := hget k w hw'
    exact hr.ty k v hv
  · obtain ⟨v, d, hv, rfl, hkd⟩ := hget k w hw'
    obtain ⟨⟨t1, h1⟩, h2⟩ := hr.blk k v hv
    have hXA := (hr.XA k).2 (List.getElem?_eq_some_iff.1 hv).1
    obtain ⟨k1, k2⟩ := hkept v.ty v.dn0 d hkd (V.dn0_ok v h2)
    refine ⟨⟨t1, ?_⟩, k2⟩
    show HB x' (c.E.A k) (flat E'.B v.ty d).toArray t1
    rw [show flat E'.B v.ty d = v.cells c.E.B from k1.trans (V.dn0_flat _ v)]
    unfold HB
    rw [hne _ (g3 k hXA)]
    exact h1
  · have hme : TokOk w0 c' (.nm nn.n) te.sz := ⟨Nat.lt_succ_self _, fun _ => Or.inr ⟨b, o, xs.length, cap, _, t', hBn.trans d1, g2, g3, hB', d2, g6, by rw [sets_size]; exact g7, fun e' he' => by
      rcases he' with ⟨he', _⟩ | ⟨_, he'⟩
      · exact absurd rfl he'
      · omega⟩, fun h0 => by omega⟩
    refine ⟨fun p hp => ?_, ?_⟩
    · obtain ⟨k, hk⟩ := List.getElem?_of_mem hp
      have hk : (nn.tk.set i (.nm nn.n, te.sz))[k]? = some p := hk
      rw [List.getElem?_set] at hk
      split at hk
      · cases hk
        exact hme
      · rename_i hne'
        obtain ⟨g0, g, g'⟩ := hall p.1 p.2 (List.mem_of_getElem? hk)
        refine ⟨?_, fun hs => ?_, fun hs => (g' hs).val (hval _ g0) (by rw [show c'.x.heap.size = c.x.heap.size from hsz]; exact Nat.le_refl _)⟩
        · cases hp1 : p.1 with
          | conc u => trivial
          | nm k => rw [hp1] at g0; exact Nat.lt_succ_of_lt ((hX k).1 g0)
        rcases g hs with ⟨ad, g⟩ | ⟨b2, o2, len2, cap2, C2, t2, k1, k2, k3, k4, k5, k6, k7, k8⟩
        · exact Or.inl ⟨ad, (hval _ g0).trans g⟩
        · rcases Nat.eq_zero_or_pos cap2 with h0 | h0
          · subst h0
            obtain rfl : len2 = 0 := by omega
            exact Or.inl ⟨_, (hval _ g0).trans k1⟩
          have hbne : b2 ≠ b := fun hbb => by
            subst hbb
            exact (hoth k p.1 p.2 (Ne.symm hne') hk _ _ _ k1).1 hs h0
          refine Or.inr ⟨b2, o2, len2, cap2, C2, t2, (hval _ g0).trans k1, k2, k3, ?_, k5, k6, k7, fun e' he' => ?_⟩
          · show x'.heap[b2]? = _
            rw [hne b2 hbne]
            exact k4
          · rcases he' with ⟨_, he'⟩ | ⟨he', _⟩
            · exact k8 e' he'
            · exact absurd he' hbne
    · show (nn.tk.set i (.nm nn.n, te.sz)).Pairwise (Apart E'.B)
      rw [List.pairwise_iff_getElem]
      intro j k hj hk hjk
      rw [List.length_set] at hj hk
      have hgj : nn.tk[j]? = some nn.tk[j] := List.getElem?_eq_getElem hj
      have hgk : nn.tk[k]? = some nn.tk[k] := List.getElem?_eq_getElem hk
      rw [List.getElem_set, List.getElem_set]
      intro z1 b1 o1 l1 k1 o2 l2 k2 h1 h2 h3
      by_cases hij : i = j
      · rw [if_pos hij] at h1
        have hnk : ¬ i = k := by omega
        rw [if_neg hnk] at h2 ⊢
        have e1 : E'.B nn.n = .slice (some ⟨b1, o1, none⟩) l1 k1 := h1
        rw [hBn, d1] at e1
        cases e1
        obtain ⟨y1, y2⟩ := hoth k nn.tk[k].1 nn.tk[k].2 (by omega) hgk _ _ _ ((hval _ (hall _ _ (List.mem_of_getElem? hgk)).1).symm.trans h2)
        exact ⟨y1, y2 (by omega)⟩
      · rw [if_neg hij] at h1 z1
        by_cases hik : i = k
        · rw [if_pos hik] at h2
          have e1 : E'.B nn.n = .slice (some ⟨b1, o2, none⟩) l2 k2 := h2
          rw [hBn, d1] at e1
          cases e1
          exact ((hoth j nn.tk[j].1 nn.tk[j].2 (by omega) hgj _ _ _ ((hval _ (hall _ _ (List.mem_of_getElem? hgj)).1).symm.trans h1)).1 z1 h3).elim
        · rw [if_neg hik] at h2 ⊢
          exact (List.pairwise_iff_getElem.1 hr.tk.ne) j k hj hk hjk z1 b1 o1 l1 k1 o2 l2 k2 ((hval _ (hall _ _ (List.mem_of_getElem? hgj)).1).symm.trans h1) ((hval _ (hall _ _ (List.mem_of_getElem? hgk)).1).symm.trans h2) h3
theorem stw_sound (hT : TabOk P T) {o : Oper} {f : Fr} {bl : List V} {nn : NS} {K : Fr → List V → NS → Prop} (h : stwK T o f bl nn K) {c : Cx} {a : Act} (hr : Real w0 F0 bl nn c) (hf : FR N c f a) (htop : ∀ b e, F0.c.E.F b e → b < w0.heap.size) :
    ∃ x', (execOp a.eval o).run P c.x = .ok .skip x' ∧ o.dst = none ∧ Sat w0 F0 N K a x' := by
  unfold stwK at h
  split at h <;> first | exact h.elim | skip
  rename_i t x y ho
  split at h <;> first | exact h.elim | skip
  rename_i hdst
  split at h <;> first | exact h.elim | skip
  rename_i te hd xs j off p u hx
  split at h <;> first | exact h.elim | skip
  rename_i ty n0 hty
  split at h <;> first | exact h.elim | skip
  rename_i he _
  subst he
  split at h <;> first | exact h.elim | skip
  rename_i s hs
  split at h <;> first | exact h.elim | skip
  rename_i new hnew
  split at h <;> first | exact h.elim | skip
  rename_i hsz0
  have hsz1 : 1 ≤ te.sz := Nat.le_of_ble_eq_true hsz0
  obtain ⟨z, h1, h2, h3⟩ := setK_sound _ _ _ _ h
  obtain ⟨e, h4, h5, h6, h7⟩ := denK_sound z te _ h1
  obtain ⟨hte, i, g, bl', hi, hnl, hg, hk⟩ := h4
  obtain ⟨e1, e2⟩ := evS_sound hf hx
  obtain ⟨e3, e4⟩ := evS_sound hf hs
  obtain ⟨e5, e6⟩ := asV_sound hnew e4
  obtain ⟨hwk, hj, hat⟩ := e2
  obtain ⟨k1, k2, k3, k4⟩ := h3 off u hat
  have hncl : (new.cells c.E.B).length = u.sz := by rw [V.cells_len, k1]
  obtain ⟨b, o', C, t', c', m1, m2, ⟨cap, m3⟩, m4, m5, m6, m7, m8⟩ := stored hr htop hsz1 hnl hi hwk hj (hxs := rfl) (e := e) (wok_nolst te e hte) hte (off := off) (nc := new.cells c.E.B) (by rw [hncl]; exact k2) (by rw [h6, k3]; rfl)
  have hmulj : j * te.sz + te.sz ≤ xs.length * te.sz := by rw [← Nat.succ_mul]; exact Nat.mul_le_mul_right _ hj
  have hk2 : off + u.sz ≤ te.sz := k2
  have hrun := storeVar_cells (P := P) (id := t) (y := new) (B := c.E.B) (by rw [k1]; exact tyB_1 (hT.ty.at hty)) (V.cells_one new e6) m1 (o := o' + j * te.sz + off) (by rw [k1]; omega)
  have e1' : a.eval x = .pointer (some ⟨b, o' + j * te.sz + off, none⟩) := by
    rw [e1]
    simp only [SV.val, AV.val, m3]
  have e3' : a.eval y = new.val c.E.B := e3.trans e5
  refine ⟨putB c.x b (sets C (o' + j * te.sz + off) (new.cells c.E.B)), ?_, hdst, g, bl', _, c', hk, m5, ⟨hf.size, hf.defers, fun q s' hq => ?_⟩, m4⟩
  · unfold execOp
    simp only [ho, e1', e3', Instr.storeAt, Instr.sureAddr, Sem.run_bind, Sem.run_pure, Result.andThen_ok, hrun]
  · rcases frOk_look g hg q s' hq with ⟨f1, f2⟩ | ⟨v, d, f1, rfl, f2⟩
    · obtain ⟨f3, f4⟩ := hf.get q s' f1
      obtain ⟨f5, f6⟩ := SV.pl_ok m6 f2 f4
      exact ⟨by rw [f5]; exact f3, f6⟩
    · obtain ⟨f3, f4⟩ := hf.get q _ f1
      obtain ⟨f5, f6⟩ := m8 v.ty v.dn0 d f2 (V.dn0_ok v f4)
      refine ⟨?_, f6⟩
      rw [f3]
      show some (v.val c.E.B) = some ((V.leaf v.ty d).val c'.E.B)
      have e0 : flat c'.E.B v.ty d = v.cells c.E.B := f5.trans (V.dn0_flat _ v)
      congr 1
      cases ha : v.ty.agg with
      | true => rw [V.val_agg ha, V.val_agg (x := .leaf v.ty d) ha]; simp only [V.cells, e0]
      | false =>
        have h8 := V.cells_sc (B := c.E.B) ha
        have h9 := V.cells_sc (B := c'.E.B) (y := .leaf v.ty d) ha
        have h10 : [v.val c.E.B] = [(V.leaf v.ty d).val c'.E.B] := by rw [← h8, ← h9]; exact e0.symm
        simpa using h10
/-- All that was known is so behind it. -/
def leOp (T : Tab) (S : List (Nat × Spec)) (o : Oper) (f : Fr) : Bool :=
  match isElt T o f with
  | true => false
  | false => match mOf S f o with
    | some (_, _, _, true) => false
    | _ => true
theorem oneK_soundL (hT : TabOk P T) (hS : SpecsOk P S) {o : Oper} {f : Fr} {bl : List V} {nn : NS} {K : Fr → List V → NS → Prop} (h : oneK T S N o f bl nn K) {c : Cx} {a : Act} (hr : Real w0 F0 bl nn c) (hf1 : FR N c f a) (htop : T.top = true → ∀ b e, F0.c.E.F b e → b < w0.heap.size) :
    upon4 P (fun v x' => ∃ f2 bl2 nn2 c2, K f2 bl2 nn2 ∧ Real w0 F0 bl2 nn2 c2 ∧ FR N c2 f2 (a.put o.dst v) ∧ c2.x = x' ∧ (leOp T S o f = true → c.Le c2)) ((execOp a.eval o).run P c.x) := by
  unfold oneK at h
  split at h
  · obtain ⟨v, x', hrun, r, nn', c', hk, hv, hro, hr', hle, rfl⟩ := own_sound hT h hr hf1
    rw [hrun]
    obtain ⟨f2, hk2, hf2⟩ := putK_sound hk (hf1.mono hle) hro
    rw [← hv] at hf2
    exact ⟨f2, bl, nn', c', hk2, hr', hf2, rfl, fun _ => hle⟩
  split at h
  · obtain ⟨b, hk, hrun⟩ := nilW_sound (P := P) hT h (c := c) (ρ := a.eval) (fun y s hs => evS_sound hf1 hs)
    rw [hrun]
    obtain ⟨f2, hk2, hf2⟩ := putK_sound hk hf1 (c := c) trivial
    exact ⟨f2, bl, nn, c, hk2, hr, hf2, rfl, fun _ => Cx.Le.refl _⟩
  split at h
  · rename_i hel
    have ht : T.top = true := by
      unfold isElt at hel
      split at hel
      · assumption
      · cases hel
    obtain ⟨x', hrun, hdst, f2, bl2, nn2, c2, s1, s2, s3, s4⟩ := stw_sound hT h hr hf1 (htop ht)
    rw [hrun]
    show ∃ f2 bl2 nn2 c2, K f2 bl2 nn2 ∧ Real w0 F0 bl2 nn2 c2 ∧ FR N c2 f2 (a.put o.dst undef) ∧ c2.x = x' ∧ (leOp T S o f = true → c.Le c2)
    rw [hdst]
    refine ⟨f2, bl2, nn2, c2, s1, s2, s3, s4, fun hl => ?_⟩
    unfold leOp at hl
    rw [hel] at hl
    cases hl
  split at h
  · rename_i tr xs cs hm
    obtain ⟨g, ⟨hok, _⟩, hex⟩ := mOf_spec (N := N) hS hm
    have hok := hok rfl
    obtain ⟨l, hk, _, hl⟩ := evsK_elim (N := N) xs _ h
    have hk := apsK_elim _ _ hk
    obtain ⟨e1, e2⟩ := hl c a hf1
    obtain ⟨e3, e4⟩ := hex c a hf1
    rw [e3]
    have hc := hok w0 F0 (l ++ cs.map capA) bl nn _ hk c hr (fun s hs => by
      rcases List.mem_append.1 hs with hs | hs
      · exact e2 s hs
      · obtain ⟨q, hq, rfl⟩ := List.mem_map.1 hs
        exact e4 q hq)
    have hargs : ((xs.map a.eval) ++ cs.map fun q => (capA q).val c.E) = (l ++ cs.map capA).map (AV.val c.E) := by
      rw [List.map_append, e1, List.map_map]; rfl
    simp only [upon4]
    rw [hargs]
    refine hc.mono fun e x' he => ?_
    obtain ⟨r, bl', nn', c', rfl, hk', hr', hle, hro, rfl⟩ := he
    refine ⟨_, rfl, ?_⟩
    obtain ⟨f2, hk2, hf2⟩ := putK_sound hk' (hf1.mono hle) hro
    exact ⟨f2, bl', nn', c', hk2, hr', hf2, rfl, fun _ => hle⟩
  · rename_i tr xs cs hm
    have hel : isElt T o f = false := by assumption
    split at h <;> first | exact h.elim | skip
    rename_i ht
    obtain ⟨g, ⟨_, hok⟩, hex⟩ := mOf_spec (N := N) hS hm
    have hok := hok rfl
    obtain ⟨l, hk, _, hl⟩ := evsK_elim (N := N) xs _ h
    have hk := apsK_elim _ _ hk
    obtain ⟨f1, hk, hpl⟩ := plK_elim _ _ _ hk
    obtain ⟨e1, e2⟩ := hl c a hf1
    obtain ⟨e3, e4⟩ := hex c a hf1
    rw [e3]
    have hc := hok w0 F0 (l ++ cs.map capA) bl nn _ hk (htop ht) c hr (fun s hs => by
      rcases List.mem_append.1 hs with hs | hs
      · exact e2 s hs
      · obtain ⟨q, hq, rfl⟩ := List.mem_map.1 hs
        exact e4 q hq)
    have hargs : ((xs.map a.eval) ++ cs.map fun q => (capA q).val c.E) = (l ++ cs.map capA).map (AV.val c.E) := by
      rw [List.map_append, e1, List.map_map]; rfl
    simp only [upon4]
    rw [hargs]
    refine hc.mono fun e x' he => ?_
    obtain ⟨r, bl', nn', c', rfl, hk', hr', hle, hro, rfl⟩ := he
    refine ⟨_, rfl, ?_⟩
    have hf2 : FR N c' f1 a := ⟨hf1.size, hf1.defers, fun t s ht => by
      obtain ⟨_, h2, h3⟩ := hpl t s ht
      obtain ⟨h4, h5⟩ := hf1.get t s h2
      obtain ⟨h6, h7⟩ := SV.pl_ok hle h3 h5
      exact ⟨by rw [h6]; exact h4, h7⟩⟩
    obtain ⟨f2, hk2, hf2⟩ := putK_sound hk' hf2 hro
    refine ⟨f2, bl', nn', c', hk2, hr', hf2, rfl, fun hl => ?_⟩
    unfold leOp at hl
    rw [hel, hm] at hl
    cases hl
  · obtain ⟨out, hk, hcr, hd⟩ := opK_sound (w0 := w0) (F0 := F0) hT hS h
    have hrun := hd c a.eval hr.wf (fun y _ s hs => evS_sound hf1 hs) (fun i hi v hv => ⟨(hr.XA i).2 (lt_of_get hv), hr.ty i v hv, hr.blk i v hv⟩) (fun _ h => Nat.lt_irrefl _ ((hr.XA _).1 h)) (fun _ => hr.XB)
    refine upon4_mono (fun v x' ⟨E, hp⟩ => ?_) hrun
    obtain ⟨hr', hle⟩ := hr.step hp
    have hk' := efK_elim hk
    obtain ⟨f2, hk2, hf2⟩ := putK_sound hk' (hf1.mono hle) hp.ok
    rw [show out.r.val (c.ext out bl.length nn.n E x').E = v from hp.val.symm] at hf2
    cases hc : out.cr with
    | true =>
      simp only [hc, addK] at hk2
      exact ⟨f2, _, _, _, hk2, hr', hf2, rfl, fun _ => hle⟩
    | false =>
      simp only [hc, addK] at hk2
      have h0 := hcr hc
      rw [h0, Nat.add_zero] at hr'
      exact ⟨f2, _, _, _, hk2, hr', hf2, rfl, fun _ => hle⟩
theorem oneK_sound (hT : TabOk P T) (hS : SpecsOk P S) {o : Oper} {f : Fr} {bl : List V} {nn : NS} {K : Fr → List V → NS → Prop} (h : oneK T S N o f bl nn K) {c : Cx} {a : Act} (hr : Real w0 F0 bl nn c) (hf1 : FR N c f a) (htop : T.top = true → ∀ b e, F0.c.E.F b e → b < w0.heap.size) :
    upon4 P (fun v x' => Sat w0 F0 N K (a.put o.dst v) x') ((execOp a.eval o).run P c.x) :=
  upon4_mono (fun v x' ⟨f2, bl2, nn2, c2, h1, h2, h3, h4, _⟩ => ⟨f2, bl2, nn2, c2, h1, h2, h3, h4⟩) (oneK_soundL hT hS h hr hf1 htop)

theorem seqK_tail (hT : TabOk P T) (hS : SpecsOk P S) {ops : List Oper} {Q : Act → World → Prop} {K : Fr → List V → NS → Prop} (htop : T.top = true → ∀ b e, F0.c.E.F b e → b < w0.heap.size) (hQ : ∀ a x, Sat w0 F0 N K a x → Q a x) : ∀ (l : List Oper) (f : Fr) (bl : List V) (nn : NS) (c : Cx) (a : Act), seqK T S N (ops.map (·.dst)) l f bl nn K → Real w0 F0 bl nn c → FR N c f a → tailL P ops.toArray Q l a c.x
  | [], f, bl, nn, c, a, h, hr, hf => hQ a c.x ⟨f, bl, nn, c, h, hr, hf, rfl⟩
  | o :: r, f, bl, nn, c, a, h, hr, hf => by
    unfold seqK at h
    unfold tailL
    rcases guardK_sound h hf with ⟨hw, f1, hy, hf1⟩ | ⟨hw, f1, hno, hf1⟩
    · rw [if_pos hw]
      refine upon4_mono (fun v x' hs => ?_) (oneK_sound hT hS hy hr hf1 htop)
      obtain ⟨f2, bl2, nn2, c2, hk, hr2, hf2, rfl⟩ := hs
      exact seqK_tail hT hS htop hQ r f2 bl2 nn2 c2 _ hk hr2 hf2
    · rw [if_neg (by rw [hw]; exact Bool.false_ne_true)]
      obtain ⟨f2, hk2, hf2⟩ := putK_sound hno hf1 (und_ok c)
      exact seqK_tail hT hS htop hQ r f2 bl nn c _ hk2 hr hf2
theorem seqK_sound (hT : TabOk P T) (hS : SpecsOk P S) {ops : List Oper} {Q : Exit → Act → World → Prop} {K : Fr → List V → NS → Prop} (htop : T.top = true → ∀ b e, F0.c.E.F b e → b < w0.heap.size) (hQ : ∀ a x, Sat w0 F0 N K a x → Q .normal a x) (l : List Oper) (f : Fr) (bl : List V) (nn : NS) (c : Cx) (a : Act) (h : seqK T S N (ops.map (·.dst)) l f bl nn K) (hr : Real w0 F0 bl nn c) (hf : FR N c f a) : wpList P ops.toArray Q l a c.x :=
  tailL_list l a c.x (seqK_tail hT hS htop hQ l f bl nn c a h hr hf)
end

end Go.Proofs.YtjbbgpacijageabGreat.M

/- A region that draws its order: an invariant over what is done. No program is named here. -/
namespace Go.Proofs.YtjbbgpacijageabGreat.M
open Go.RowKit
set_option linter.unusedVariables false
set_option linter.unusedSimpArgs false

def dstOf (ops : List Oper) (k : Nat) : Option Tmp := (ops[k]?).bind (·.dst)
def waitsB (ops : List Oper) (k i : Nat) : Bool :=
  match ops[k]? with
  | some o => o.after.toList.any fun e => Region.binds .any e && e.on == i
  | none => false
/-- Edges lead back; no slot is written twice; who looks at a slot that another one writes is in order with it. -/
def okRegion (ops : List Oper) : Bool :=
  Region.noSelect ops.toArray && (List.range ops.length).all fun i =>
    match ops[i]? with
    | none => true
    | some o =>
      o.after.toList.all (fun e => !Region.binds .any e || decide (e.on < i)) &&
      (List.range ops.length).all fun k =>
        match dstOf ops k with
        | none => true
        | some d => (k == i || o.dst != some d) && (!(o.looksAt ops.toArray).contains d || k == i || (decide (k < i) && waitsB ops i k) || (decide (i < k) && waitsB ops k i))

section
variable {P : Program} {ops : List Oper} {Q : Exit → Act → World → Prop}

theorem waitsB_spec {k i : Nat} (h : waitsB ops k i = true) : ∃ o e, ops[k]? = some o ∧ e ∈ o.after ∧ Region.binds .any e = true ∧ e.on = i := by
  unfold waitsB at h
  split at h
  · rename_i o ho
    simp only [List.any_eq_true, Bool.and_eq_true, beq_iff_eq] at h
    obtain ⟨e, he, hb, hon⟩ := h
    exact ⟨o, e, ho, by simpa using he, hb, hon⟩
  · cases h
theorem ok_edges {i : Nat} {o : Oper} (h : okRegion ops = true) (ho : ops[i]? = some o) : ∀ e ∈ o.after, Region.binds .any e = true → e.on < i := by
  simp only [okRegion, Bool.and_eq_true, List.all_eq_true, List.mem_range] at h
  have hi : i < ops.length := (List.getElem?_eq_some_iff.1 ho).1
  have h1 := h.2 i hi
  rw [ho] at h1
  simp only [Bool.and_eq_true, List.all_eq_true, Bool.or_eq_true, Bool.not_eq_true', decide_eq_true_iff] at h1
  intro e he hb
  rcases h1.1 e (by simpa using he) with h2 | h2
  · rw [hb] at h2; cases h2
  · exact h2
theorem ok_slots {i k d : Nat} {o : Oper} (h : okRegion ops = true) (ho : ops[i]? = some o) (hk : dstOf ops k = some d) :
    (k ≠ i → o.dst ≠ some d) ∧ (d ∈ o.looksAt ops.toArray → k = i ∨ (k < i ∧ waitsB ops i k = true) ∨ (i < k ∧ waitsB ops k i = true)) := by
  simp only [okRegion, Bool.and_eq_true, List.all_eq_true, List.mem_range] at h
  have hi : i < ops.length := (List.getElem?_eq_some_iff.1 ho).1
  have hk' : k < ops.length := by
    rcases Nat.lt_or_ge k ops.length with h' | h'
    · exact h'
    · simp [dstOf, List.getElem?_eq_none h'] at hk
  have h1 := h.2 i hi
  rw [ho] at h1
  simp only [Bool.and_eq_true, List.all_eq_true, List.mem_range] at h1
  have h2 := h1.2 k hk'
  rw [hk] at h2
  simp only [Bool.and_eq_true, Bool.or_eq_true, beq_iff_eq, bne_iff_ne, ne_eq, Bool.not_eq_true', decide_eq_true_iff] at h2
  refine ⟨fun hne => ?_, fun hd => ?_⟩
  · rcases h2.1 with h3 | h3
    · exact absurd h3 hne
    · exact h3
  · rcases h2.2 with ((h3 | h3) | h3) | h3
    · have : (o.looksAt ops.toArray).contains d = true := by simpa using hd
      rw [this] at h3; cases h3
    · exact Or.inl h3
    · exact Or.inr (Or.inl h3)
    · exact Or.inr (Or.inr h3)

/-- When operation i may go, what is done. -/
structure Adm (ops : List Oper) (i : Nat) (D : Nat → Bool) : Prop where
  un : D i = false
  ahead : ∀ k, waitsB ops i k = true → D k = true
  behind : ∀ k, waitsB ops k i = true → D k = false
  closed : ∀ k j, D k = true → waitsB ops k j = true → D j = true
/-- Waits, by others too. -/
def waitsT (ops : List Oper) : Nat → Nat → Nat → Bool
  | 0, _, _ => false
  | n + 1, k, i => match ops[k]? with
    | some o => o.after.toList.any fun e => Region.binds .any e && (e.on == i || waitsT ops n e.on i)
    | none => false
/-- Waits: at once, or by others. -/
def waitsD (ops : List Oper) (k i : Nat) : Bool := waitsB ops k i || waitsT ops ops.length k i
theorem waitsD_T {ops : List Oper} {k i : Nat} (h : waitsD ops k i = true) : waitsT ops ops.length k i = true := by
  unfold waitsD at h
  rw [Bool.or_eq_true] at h
  rcases h with h | h
  · obtain ⟨o, e, ho, he, hb, hon⟩ := waitsB_spec h
    have hk : k < ops.length := (List.getElem?_eq_some_iff.1 ho).1
    obtain ⟨n, hn⟩ : ∃ n, ops.length = n + 1 := ⟨ops.length - 1, by omega⟩
    rw [hn]
    unfold waitsT
    rw [ho]
    simp only [List.any_eq_true, Bool.and_eq_true, Bool.or_eq_true, beq_iff_eq]
    exact ⟨e, by simpa using he, hb, Or.inl hon⟩
  · exact h
theorem waitsT_done {ops : List Oper} {D : Nat → Bool} (hc : ∀ k j, D k = true → waitsB ops k j = true → D j = true) : ∀ (n k i : Nat), waitsT ops n k i = true → D k = true → D i = true
  | 0, _, _, h, _ => by cases h
  | n + 1, k, i, h, hk => by
    unfold waitsT at h
    split at h
    · rename_i o ho
      simp only [List.any_eq_true, Bool.and_eq_true, Bool.or_eq_true, beq_iff_eq] at h
      obtain ⟨e, he, hb, h1⟩ := h
      have hw : waitsB ops k e.on = true := by
        unfold waitsB
        rw [ho]
        simp only [List.any_eq_true, Bool.and_eq_true, beq_iff_eq]
        exact ⟨e, he, hb, rfl⟩
      have hd := hc k e.on hk hw
      rcases h1 with rfl | h1
      · exact hd
      · exact waitsT_done hc n _ _ h1 hd
    · cases h
theorem Adm.aheadT {ops : List Oper} {i : Nat} {D : Nat → Bool} (h : Adm ops i D) {n k : Nat} (hw : waitsT ops n i k = true) : D k = true := by
  cases n with
  | zero => cases hw
  | succ n =>
    unfold waitsT at hw
    split at hw
    · rename_i o ho
      simp only [List.any_eq_true, Bool.and_eq_true, Bool.or_eq_true, beq_iff_eq] at hw
      obtain ⟨e, he, hb, h1⟩ := hw
      have hd : D e.on = true := h.ahead e.on (by
        unfold waitsB
        rw [ho]
        simp only [List.any_eq_true, Bool.and_eq_true, beq_iff_eq]
        exact ⟨e, he, hb, rfl⟩)
      rcases h1 with rfl | h1
      · exact hd
      · exact waitsT_done h.closed n _ _ h1 hd
    · cases hw
theorem Adm.behindT {ops : List Oper} {i : Nat} {D : Nat → Bool} (h : Adm ops i D) {n k : Nat} (hw : waitsT ops n k i = true) : D k = false := by
  cases hk : D k with
  | false => rfl
  | true =>
    have := waitsT_done h.closed n k i hw hk
    rw [h.un] at this
    cases this
def setD (D : Nat → Bool) (i : Nat) : Nat → Bool := fun k => k == i || D k

theorem filter_set {F G : Nat → Bool} {i : Nat} (hF : F i = false) (hG : G i = true) (hFG : ∀ k, k ≠ i → F k = G k) : ∀ (l : List Nat), l.Nodup → i ∈ l → (l.filter G).length = (l.filter F).length + 1
  | [], _, hi => by cases hi
  | k :: l, hn, hi => by
    have hn' := List.nodup_cons.1 hn
    by_cases hk : k = i
    · subst hk
      have hsame : l.filter G = l.filter F := List.filter_congr fun j hj => (hFG j (fun e => hn'.1 (e ▸ hj))).symm
      rw [List.filter_cons_of_pos hG, List.filter_cons_of_neg (by rw [hF]; exact Bool.false_ne_true), hsame]
      rfl
    · have hi' : i ∈ l := by
        rcases List.mem_cons.1 hi with h | h
        · exact absurd h.symm hk
        · exact h
      have ih := filter_set hF hG hFG l hn'.2 hi'
      rw [List.filter_cons, List.filter_cons, hFG k hk]
      split <;> simp [ih]

theorem wp_region_inv (Inv : (Nat → Bool) → Act → World → Prop) {id : Nat} {a0 : Act} {w0 : World} (hm : P.follows .mixedOrders = true) (hok : okRegion ops = true)
    (h0 : Inv (fun _ => false) a0 { w0 with drawn := w0.drawn + 1 })
    (hstep : ∀ (i : Nat) (o : Oper), ops[i]? = some o → ∀ D a x, Adm ops i D → Inv D a x →
      if Region.wanted o (yielded ops.toArray a.tmps) = true then upon4 P (fun v x' => Inv (setD D i) (a.put o.dst v) x') ((execOp a.eval o).run P x) else Inv (setD D i) (a.put o.dst undef) x)
    (hend : ∀ D a x, (∀ k, k < ops.length → D k = true) → Inv D a x → Q .normal a x) : (Code.region id ops.toArray true).wp P Q a0 w0 := by
  have main : ∀ (fuel : Nat) (L : Array Bool) (a : Act) (w : World), L.size = ops.length → ops.length ≤ ((List.range ops.length).filter (fun k => L.getD k false)).length + fuel → (∀ k j, L.getD k false = true → waitsB ops k j = true → L.getD j false = true) →
      Inv (fun k => L.getD k false) a w → wpAny P .any ops.toArray Q fuel L a w := by
    have fromReady : ∀ (L : Array Bool), L.size = ops.length → Region.ready .any ops.toArray L = [] → ∀ k, k < ops.length → L.getD k false = true := fun L hL hr k => by
      induction k using Nat.strongRecOn with
      | ind k ih =>
        intro hk
        cases hc : L.getD k false with
        | true => rfl
        | false =>
          exfalso
          have hmem : k ∈ Region.ready .any ops.toArray L := by
            rw [mem_ready]
            refine ⟨?_, ops[k], by simp, fun e he hb => ?_⟩
            · have : k < L.size := by omega
              simp [this] at hc ⊢
              exact hc
            · have hlt := ok_edges hok (i := k) (o := ops[k]) (by simp) e he hb
              exact ih e.on hlt (by omega)
          rw [hr] at hmem
          cases hmem
    intro fuel
    induction fuel with
    | zero =>
      intro L a w hL hc hcl hw
      have hfull : ∀ k, k < ops.length → L.getD k false = true := fun k hk => by
        have hle := List.length_filter_le (fun k => L.getD k false) (List.range ops.length)
        have heq : ((List.range ops.length).filter (fun k => L.getD k false)).length = (List.range ops.length).length := by simp at hle hc ⊢; omega
        have := List.length_filter_eq_length_iff.1 heq k (by simpa using hk)
        simpa using this
      refine ⟨?_, hend _ a w hfull hw⟩
      rw [List.eq_nil_iff_forall_not_mem]
      intro k hk
      obtain ⟨h1, o, ho, _⟩ := mem_ready.1 hk
      have hk' : k < ops.length := by simpa using (Array.getElem?_eq_some_iff.1 ho).1
      have h2 := hfull k hk'
      have : k < L.size := by omega
      simp [this] at h1 h2
      rw [h2] at h1
      cases h1
    | succ fuel ih =>
      intro L a w hL hc hcl hw
      refine ⟨fun hr => hend _ a w (fromReady L hL hr) hw, fun i hi => ?_⟩
      obtain ⟨hun, o, ho', hwait⟩ := mem_ready.1 hi
      have ho : ops[i]? = some o := by simpa using ho'
      have hin : i < ops.length := (List.getElem?_eq_some_iff.1 ho).1
      have hiL : i < L.size := by omega
      have hunF : L.getD i false = false := by simp [hiL] at hun ⊢; exact hun
      have hsetG : (L.setIfInBounds i true).getD i false = true := by simp [hiL]
      have hsetFG : ∀ k, k ≠ i → L.getD k false = (L.setIfInBounds i true).getD k false := fun k hk => by
        simp only [Array.getD_eq_getD_getElem?, Array.getElem?_setIfInBounds_ne (Ne.symm hk)]
      have hL' : (L.setIfInBounds i true).size = ops.length := by simp [hL]
      have hcnt : ops.length ≤ ((List.range ops.length).filter (fun k => (L.setIfInBounds i true).getD k false)).length + fuel := by
        rw [filter_set (F := fun k => L.getD k false) (G := fun k => (L.setIfInBounds i true).getD k false) hunF hsetG hsetFG _ List.nodup_range (by simpa using hin)]
        omega
      have hwaitB : ∀ k, waitsB ops i k = true → L.getD k false = true := fun k hk => by
        obtain ⟨o', e', ho'', he', hb, hon⟩ := waitsB_spec hk
        rw [ho] at ho''
        cases ho''
        have := hwait e' he' hb
        rwa [hon] at this
      have hbeh : ∀ k, waitsB ops k i = true → L.getD k false = false := fun k hk => by
        cases hLk : L.getD k false with
        | false => rfl
        | true => rw [hcl k i hLk hk] at hunF; cases hunF
      have hcl' : ∀ k j, (L.setIfInBounds i true).getD k false = true → waitsB ops k j = true → (L.setIfInBounds i true).getD j false = true := fun k j hk hj => by
        have hLj : L.getD j false = true := by
          by_cases hki : k = i
          · subst hki; exact hwaitB j hj
          · exact hcl k j (by rw [hsetFG k hki]; exact hk) hj
        by_cases hji : j = i
        · subst hji; exact hsetG
        · rw [← hsetFG j hji]; exact hLj
      have hD : (fun k => (L.setIfInBounds i true).getD k false) = setD (fun k => L.getD k false) i := by
        funext k
        unfold setD
        by_cases hki : k = i
        · subst hki; rw [hsetG]; simp
        · rw [← hsetFG k hki]; simp [hki]
      have hs := hstep i o ho _ a w ⟨hunF, hwaitB, hbeh, hcl⟩ hw
      have hgo : ∀ a'' w'', Inv (setD (fun k => L.getD k false) i) a'' w'' → wpAny P .any ops.toArray Q fuel (L.setIfInBounds i true) a'' w'' := fun a'' w'' hI =>
        ih _ _ _ hL' hcnt hcl' (by rw [hD]; exact hI)
      unfold wpOp
      rw [ho']
      simp only []
      split
      · rename_i hwant
        rw [if_pos hwant] at hs
        refine Or.inl ?_
        unfold Oper.wp
        generalize (execOp a.eval o).run P w = res at hs
        cases res with
        | ok nx w' =>
          cases nx <;> simp only [upon4] at hs <;> simp only [Oper.upon]
          case value u => exact hgo _ _ hs
          case skip => exact hgo _ _ hs
          case enter f args => exact hs.mono fun en w'' ⟨u, hen, h1⟩ => by subst hen; exact hgo _ _ h1
        | halt x w' => simp only [upon4] at hs
      · rename_i hwant
        rw [if_neg hwant] at hs
        exact hgo _ _ hs
  refine wp_region_any hm ?_
  have hfalse : ∀ k, (Array.replicate ops.length false).getD k false = false := fun k => by
    simp [Array.getElem?_replicate]
    split <;> rfl
  have := main ops.length (Array.replicate ops.length false) a0 { w0 with drawn := w0.drawn + 1 } (by simp) (by omega) (fun k j hk => by rw [hfalse k] at hk; cases hk) (by
    rw [show (fun k => (Array.replicate ops.length false).getD k false) = fun _ => false from funext hfalse]
    exact h0)
  simpa using this
end

/-- What an operation of such a region has looked at, and written; whether it is a call, and makes names. -/
structure Lg where
  t : List Nat
  w : List Nat
  q : Bool
  cr : Bool
def efW (n : Nat) : Ef → List Nat
  | .none => []
  | .set i _ => [i]
  | .new _ => [n]
def meet : List Nat → List Nat → Bool
  | [], _ => false
  | a :: r, l => l.contains a || meet r l
def clash (a b : Lg) : Bool := meet a.w b.t || meet a.t b.w || (a.q && b.q && (a.cr || b.cr))
/-- Who would get into each other's way are in order. -/
def okLog (ops : List Oper) (l : List Lg) : Bool :=
  (List.range l.length).all fun j => (List.range j).all fun i => match l[i]?, l[j]? with
    | some a, some b => !clash a b || waitsD ops j i
    | _, _ => false
def okCr (l : List Lg) : Bool := l.all fun a => !a.cr || a.q

def drwK (T : Tab) (S : List (Nat × Spec)) (N : Nat) (ops : List Oper) (ds : List (Option Tmp)) : List Oper → List Lg → Fr → List V → NS → (Fr → List V → NS → Prop) → Prop
  | [], lg, f, bl, nn, K => Need ((okLog ops lg.reverse && okCr lg) = true) (K f bl nn)
  | o :: r, lg, f, bl, nn, K => guardK ds o.guard f
      (fun f => opK T S o f bl nn.n fun
        | ⟨v, ef, m, rd, q, cr⟩ => efK bl ef fun bl' => lenK bl 0 fun n => putK N o.dst v f fun f' => addK nn cr m fun nn' => drwK T S N ops ds r (⟨rd ++ efW n ef, efW n ef, q, cr⟩ :: lg) f' bl' nn' K)
      (fun f => putK N o.dst und f fun f' => drwK T S N ops ds r (⟨[], [], false, false⟩ :: lg) f' bl nn K)

/-- The walk, written down. -/
structure Tr (P : Program) (w0 : World) (F0 : Old) (N : Nat) (ops : List Oper) where
  f : Nat → Fr
  b : Nat → List V
  n : Nat → Nat
  o : Nat → Out
def Tr.lg {P : Program} {w0 : World} {F0 : Old} {N : Nat} {ops : List Oper} (T : Tr P w0 F0 N ops) (i : Nat) : Lg := ⟨(T.o i).rd ++ efW (T.b i).length (T.o i).ef, efW (T.b i).length (T.o i).ef, (T.o i).q, (T.o i).cr⟩

structure Tr.At {P : Program} {w0 : World} {F0 : Old} {N : Nat} {ops : List Oper} (T : Tr P w0 F0 N ops) (i : Nat) (o : Oper) : Prop where
  look : ∀ u, look (T.f (i + 1)) u = if o.dst = some u then some (T.o i).r else M.look (T.f i) u
  dst : ∀ d, o.dst = some d → d < N
  bl : T.b (i + 1) = efB (T.b i) (T.o i).ef
  nn : T.n (i + 1) = T.n i + (T.o i).m
  set : ∀ j y, (T.o i).ef = .set j y → j < (T.b i).length
  cr : (T.o i).cr = false → (T.o i).m = 0
  way : ((∀ (E : Env) (a : Act), (∀ t s, t ∈ o.looksAt ops.toArray → M.look (T.f i) t = some s → a.tmps[t]? = some (s.val E)) → Region.wanted o (yielded ops.toArray a.tmps) = true) ∧ Does P w0 F0 o (T.f i) (fun j => (T.b i)[j]?) (T.b i).length (T.n i) (T.o i)) ∨
    ((∀ (E : Env) (a : Act), (∀ t s, t ∈ o.looksAt ops.toArray → M.look (T.f i) t = some s → a.tmps[t]? = some (s.val E)) → Region.wanted o (yielded ops.toArray a.tmps) = false) ∧ T.o i = ⟨und, .none, 0, [], false, false⟩)

section
variable {P : Program} {T : Tab} {S : List (Nat × Spec)} {w0 : World} {F0 : Old} {N : Nat}

theorem guardK_all {ops : List Oper} {o : Oper} {f : Fr} {yes no : Fr → Prop} (h : guardK (ops.map (·.dst)) o.guard f yes no) :
    ((∀ (E : Env) (a : Act), (∀ t s, t ∈ o.looksAt ops.toArray → look f t = some s → a.tmps[t]? = some (s.val E)) → Region.wanted o (yielded ops.toArray a.tmps) = true) ∧ ∃ f', yes f' ∧ ∀ u, look f' u = look f u) ∨
    ((∀ (E : Env) (a : Act), (∀ t s, t ∈ o.looksAt ops.toArray → look f t = some s → a.tmps[t]? = some (s.val E)) → Region.wanted o (yielded ops.toArray a.tmps) = false) ∧ ∃ f', no f' ∧ ∀ u, look f' u = look f u) := by
  unfold guardK at h
  split at h
  · rename_i hg
    exact Or.inl ⟨fun E a _ => by unfold Region.wanted; rw [hg], f, h, fun _ => rfl⟩
  · rename_i j want hg
    split at h
    · rename_i t hj
      rw [nthT_eq] at hj
      have hjt : (ops.toArray[j]?).bind (·.dst) = some t := by
        simp only [List.getElem?_map] at hj
        cases ho : ops[j]? with
        | none => rw [ho] at hj; cases hj
        | some oj => rw [ho] at hj; simp [ho]; simpa using hj
      have hmem : t ∈ o.looksAt ops.toArray := by
        unfold Oper.looksAt
        rw [hg]
        simp only [List.mem_append]
        exact Or.inr (by rw [hjt]; simp)
      split at h
      · rename_i b hb
        have hw : ∀ (E : Env) (a : Act), (∀ t s, t ∈ o.looksAt ops.toArray → look f t = some s → a.tmps[t]? = some (s.val E)) → Region.wanted o (yielded ops.toArray a.tmps) = (b == want) := fun E a hl => by
          have h1 := hl t _ hmem hb
          have hy : yielded ops.toArray a.tmps j = some b := by unfold yielded; rw [hjt]; simp [h1, SV.val, AV.val, V.val]
          unfold Region.wanted
          rw [hg]
          simp [hy]
        have hlook : ∀ b', b = b' → ∀ u, look ((t, lit b') :: f) u = look f u := fun b' hbb u => by
          show (match Nat.beq u t with | true => some (lit b') | false => look f u) = look f u
          split
          · rename_i hu
            have := Nat.eq_of_beq_eq_true hu
            subst this
            rw [hb, ← hbb]
            rfl
          · rfl
        split at h
        · cases hbb : b with
          | true => exact Or.inl ⟨fun E a hl => by rw [hw E a hl, hbb]; rfl, _, h.t hbb, hlook _ hbb⟩
          | false => exact Or.inr ⟨fun E a hl => by rw [hw E a hl, hbb]; rfl, _, h.f hbb, hlook _ hbb⟩
        · cases hbb : b with
          | true => exact Or.inr ⟨fun E a hl => by rw [hw E a hl, hbb]; rfl, _, h.t hbb, hlook _ hbb⟩
          | false => exact Or.inl ⟨fun E a hl => by rw [hw E a hl, hbb]; rfl, _, h.f hbb, hlook _ hbb⟩
      · rename_i q hb
        refine Or.inr ⟨fun E a hl => ?_, f, h, fun _ => rfl⟩
        have h1 := hl t _ hmem hb
        have hy : yielded ops.toArray a.tmps j = none := by unfold yielded; rw [hjt]; simp [h1, SV.val, AV.val]
        unfold Region.wanted
        rw [hg]
        simp [hy]
      · exact h.elim
    · exact h.elim

theorem evS_congr {f f' : Fr} (h : ∀ u, look f' u = look f u) (x : Operand) : evS f' x = evS f x := by
  cases x with
  | tmp t => exact h t
  | _ => rfl
theorem Does.congr {o : Oper} {f f' : Fr} {get : Nat → Option V} {bl nn : Nat} {out : Out} (h : ∀ u, look f' u = look f u) (hd : Does P w0 F0 o f' get bl nn out) : Does P w0 F0 o f get bl nn out :=
  ⟨hd.1, fun c ρ hw hρ => hd.2 c ρ hw fun y hy s hs => hρ y hy s (by rw [← evS_congr h]; exact hs)⟩
theorem putK_look {d : Option Tmp} {s : SV} {f : Fr} {k : Fr → Prop} (h : putK N d s f k) : ∃ f', k f' ∧ (∀ u, look f' u = if d = some u then some s else look f u) ∧ ∀ t, d = some t → t < N := by
  unfold putK at h
  split at h
  · rename_i d
    split at h
    · rename_i hd
      refine ⟨_, h, fun u => ?_, fun t ht => by cases ht; exact Nat.le_of_ble_eq_true hd⟩
      show (match Nat.beq u d with | true => some s | false => look f u) = _
      split
      · rename_i hu
        have := Nat.eq_of_beq_eq_true hu
        subst this
        rw [if_pos rfl]
      · rename_i hu
        rw [if_neg fun h => by cases h; simp at hu]
    · exact h.elim
  · exact ⟨f, h, fun u => by rw [if_neg (fun h => by cases h)], fun t ht => by cases ht⟩

theorem drw_tr (hT : TabOk P T) (hS : SpecsOk P S) {ops : List Oper} {K : Fr → List V → NS → Prop} : ∀ (l : List Oper) (lg : List Lg) (f : Fr) (bl : List V) (nn : NS), drwK T S N ops (ops.map (·.dst)) l lg f bl nn K →
    ∃ t : Tr P w0 F0 N ops, t.f 0 = f ∧ t.b 0 = bl ∧ t.n 0 = nn.n ∧ (∀ i o, l[i]? = some o → t.At i o) ∧ K (t.f l.length) (t.b l.length) ⟨t.n l.length, nn.tk⟩ ∧ okLog ops (lg.reverse ++ (List.range l.length).map t.lg) = true ∧ okCr (lg.reverse ++ (List.range l.length).map t.lg) = true
  | [], lg, f, bl, nn, h => by
    obtain ⟨h1, h2⟩ := h
    rw [Bool.and_eq_true] at h1
    exact ⟨⟨fun _ => f, fun _ => bl, fun _ => nn.n, fun _ => ⟨und, .none, 0, [], false, false⟩⟩, rfl, rfl, rfl, fun i o hi => by simp at hi, h2, by simpa using h1.1, by simpa [okCr] using h1.2⟩
  | o :: r, lg, f, bl, nn, h => by
    unfold drwK at h
    -- what comes behind, shifted by one
    have shift : ∀ (out : Out) (f1 : Fr), (∀ u, look f1 u = if o.dst = some u then some out.r else look f u) → (∀ d, o.dst = some d → d < N) → (∀ j y, out.ef = .set j y → j < bl.length) → (out.cr = false → out.m = 0) →
        (((∀ (E : Env) (a : Act), (∀ t s, t ∈ o.looksAt ops.toArray → look f t = some s → a.tmps[t]? = some (s.val E)) → Region.wanted o (yielded ops.toArray a.tmps) = true) ∧ Does P w0 F0 o f (fun j => bl[j]?) bl.length nn.n out) ∨
          ((∀ (E : Env) (a : Act), (∀ t s, t ∈ o.looksAt ops.toArray → look f t = some s → a.tmps[t]? = some (s.val E)) → Region.wanted o (yielded ops.toArray a.tmps) = false) ∧ out = ⟨und, .none, 0, [], false, false⟩)) →
        drwK T S N ops (ops.map (·.dst)) r (⟨out.rd ++ efW bl.length out.ef, efW bl.length out.ef, out.q, out.cr⟩ :: lg) f1 (efB bl out.ef) ⟨nn.n + out.m, nn.tk⟩ K →
        ∃ t : Tr P w0 F0 N ops, t.f 0 = f ∧ t.b 0 = bl ∧ t.n 0 = nn.n ∧ (∀ i o', (o :: r)[i]? = some o' → t.At i o') ∧ K (t.f (r.length + 1)) (t.b (r.length + 1)) ⟨t.n (r.length + 1), nn.tk⟩ ∧ okLog ops (lg.reverse ++ (List.range (r.length + 1)).map t.lg) = true ∧ okCr (lg.reverse ++ (List.range (r.length + 1)).map t.lg) = true := by
      intro out f1 hl hd hset hcr hway hrest
      obtain ⟨t, e1, e2, e3, e4, e5, e6, e7⟩ := drw_tr hT hS r _ f1 _ _ hrest
      let t' : Tr P w0 F0 N ops := ⟨fun i => match i with | 0 => f | i + 1 => t.f i, fun i => match i with | 0 => bl | i + 1 => t.b i, fun i => match i with | 0 => nn.n | i + 1 => t.n i, fun i => match i with | 0 => out | i + 1 => t.o i⟩
      have hlg : (List.range (r.length + 1)).map t'.lg = ⟨out.rd ++ efW bl.length out.ef, efW bl.length out.ef, out.q, out.cr⟩ :: (List.range r.length).map t.lg := by
        rw [List.range_succ_eq_map, List.map_cons, List.map_map]
        rfl
      refine ⟨t', rfl, rfl, rfl, fun i o' hi => ?_, e5, ?_, ?_⟩
      · cases i with
        | zero =>
          have : o = o' := by simpa using hi
          subst this
          refine ⟨fun u => ?_, hd, ?_, ?_, hset, hcr, hway⟩
          · show look (t.f 0) u = _
            rw [e1]; exact hl u
          · show t.b 0 = _
            rw [e2]
          · show t.n 0 = _
            rw [e3]
        | succ i =>
          have := e4 i o' (by simpa using hi)
          exact ⟨this.look, this.dst, this.bl, this.nn, this.set, this.cr, this.way⟩
      · rw [hlg]
        rw [List.reverse_cons, List.append_assoc] at e6
        exact e6
      · rw [hlg]
        rw [List.reverse_cons, List.append_assoc] at e7
        exact e7
    rcases guardK_all h with ⟨hw, f', hy, hlk⟩ | ⟨hw, f', hno, hlk⟩
    · obtain ⟨out, hk, hd⟩ := opK_sound (w0 := w0) (F0 := F0) hT hS hy
      have hk : efK bl out.ef fun bl' => lenK bl 0 fun n => putK N o.dst out.r f' fun f'' => addK nn out.cr out.m fun nn' => drwK T S N ops (ops.map (·.dst)) r (⟨out.rd ++ efW n out.ef, efW n out.ef, out.q, out.cr⟩ :: lg) f'' bl' nn' K := by
        cases out; exact hk
      have hset : ∀ j y, out.ef = .set j y → j < bl.length := fun j y hj => by
        rw [hj] at hk
        exact (setB_elim _ _ _ _ hk).2
      have hk := lenK_elim _ _ _ (efK_elim hk)
      rw [Nat.add_zero] at hk
      obtain ⟨f1, hk1, hl1, hd1⟩ := putK_look hk
      have hk2 : drwK T S N ops (ops.map (·.dst)) r (⟨out.rd ++ efW bl.length out.ef, efW bl.length out.ef, out.q, out.cr⟩ :: lg) f1 (efB bl out.ef) ⟨nn.n + out.m, nn.tk⟩ K := by
        cases hc : out.cr with
        | true => simp only [hc, addK] at hk1; exact hk1
        | false =>
          simp only [hc, addK] at hk1
          rw [hd.1 hc, Nat.add_zero]
          exact hk1
      exact shift out f1 (fun u => by rw [hl1 u, hlk u]) hd1 hset hd.1 (Or.inl ⟨hw, hd.congr hlk⟩) hk2
    · obtain ⟨f1, hk1, hl1, hd1⟩ := putK_look hno
      exact shift ⟨und, .none, 0, [], false, false⟩ f1 (fun u => by rw [hl1 u, hlk u]) hd1 (fun j y hj => by cases hj) (fun _ => rfl) (Or.inr ⟨hw, rfl⟩) hk1
end

end Go.Proofs.YtjbbgpacijageabGreat.M

/- One walk in the order of the text serves every order. No program is named here. -/
namespace Go.Proofs.YtjbbgpacijageabGreat.M
open Go.RowKit
set_option linter.unusedVariables false
set_option linter.unusedSimpArgs false

section
variable {P : Program} {w0 : World} {F0 : Old} {N : Nat} {ops : List Oper}

theorem meet_of {a b : List Nat} {x : Nat} (ha : x ∈ a) (hb : x ∈ b) : meet a b = true := by
  induction a with
  | nil => cases ha
  | cons y r ih =>
    unfold meet
    rcases List.mem_cons.1 ha with rfl | ha
    · simp [hb]
    · rw [ih ha]; simp

variable (t : Tr P w0 F0 N ops)
def Tr.wr (k b : Nat) : Prop := b ∈ efW (t.b k).length (t.o k).ef
def Tr.isNew (k : Nat) : Prop := ∃ y, (t.o k).ef = .new y

variable {t}
section
variable (hAt : ∀ i o, ops[i]? = some o → t.At i o) (hlog : okLog ops ((List.range ops.length).map t.lg) = true) (hcr : okCr ((List.range ops.length).map t.lg) = true)
include hAt
theorem at_of {i : Nat} (hi : i < ops.length) : ∃ o, ops[i]? = some o ∧ t.At i o := ⟨ops[i], by simp [hi], hAt i _ (by simp [hi])⟩
theorem blk_same {i b : Nat} (hi : i < ops.length) (hb : ¬ t.wr i b) : (t.b (i + 1))[b]? = (t.b i)[b]? := by
  obtain ⟨o, _, ha⟩ := at_of hAt hi
  rw [ha.bl]
  unfold Tr.wr at hb
  cases hef : (t.o i).ef with
  | none => rfl
  | set j y =>
    rw [hef] at hb
    simp only [efW, List.mem_singleton] at hb
    simp only [efB, List.getElem?_set]
    rw [if_neg (Ne.symm hb)]
  | new y =>
    rw [hef] at hb
    simp only [efW, List.mem_singleton] at hb
    simp only [efB]
    rw [List.getElem?_append]
    split
    · rfl
    · rename_i hlt
      rw [List.getElem?_eq_none (by simp; omega), List.getElem?_eq_none (by omega)]
theorem len_step {i : Nat} (hi : i < ops.length) : ((t.b (i + 1)).length = (t.b i).length + 1 ∧ t.isNew i) ∨ ((t.b (i + 1)).length = (t.b i).length ∧ ¬ t.isNew i) := by
  obtain ⟨o, _, ha⟩ := at_of hAt hi
  rw [ha.bl]
  unfold Tr.isNew
  cases hef : (t.o i).ef with
  | none => exact Or.inr ⟨rfl, fun ⟨y, hy⟩ => by cases hy⟩
  | set j y => exact Or.inr ⟨by simp [efB], fun ⟨y, hy⟩ => by cases hy⟩
  | new y => exact Or.inl ⟨by simp [efB], y, rfl⟩
theorem len_mono {i j : Nat} (hij : i ≤ j) (hj : j ≤ ops.length) : (t.b i).length ≤ (t.b j).length := by
  induction j with
  | zero => have : i = 0 := by omega
            subst this; exact Nat.le_refl _
  | succ j ih =>
    by_cases h : i = j + 1
    · subst h; exact Nat.le_refl _
    · have := ih (by omega) (by omega)
      rcases len_step hAt (i := j) (by omega) with ⟨h1, _⟩ | ⟨h1, _⟩ <;> omega
theorem made {b : Nat} : ∀ i, i ≤ ops.length → b < (t.b i).length → b < (t.b 0).length ∨ ∃ k, k < i ∧ t.isNew k ∧ b = (t.b k).length
  | 0, _, h => Or.inl h
  | i + 1, hi, h => by
    by_cases hb : b < (t.b i).length
    · rcases made i (by omega) hb with h1 | ⟨k, h1, h2⟩
      · exact Or.inl h1
      · exact Or.inr ⟨k, by omega, h2⟩
    · rcases len_step hAt (i := i) (by omega) with ⟨h1, h2⟩ | ⟨h1, _⟩
      · exact Or.inr ⟨i, by omega, h2, by omega⟩
      · omega
theorem lastw (b : Nat) : ∀ i, i ≤ ops.length → (∃ k, k < i ∧ t.wr k b ∧ (∀ k', k' < i → t.wr k' b → k' ≤ k) ∧ (t.b (k + 1))[b]? = (t.b i)[b]?) ∨ ((∀ k, k < i → ¬ t.wr k b) ∧ (t.b 0)[b]? = (t.b i)[b]?)
  | 0, _ => Or.inr ⟨fun k hk => by omega, rfl⟩
  | i + 1, hi => by
    by_cases hw : t.wr i b
    · exact Or.inl ⟨i, by omega, hw, fun k' hk' _ => by omega, rfl⟩
    · have hs := blk_same hAt (i := i) (by omega) hw
      rcases lastw b i (by omega) with ⟨k, h1, h2, h3, h4⟩ | ⟨h1, h2⟩
      · refine Or.inl ⟨k, by omega, h2, fun k' hk' hw' => ?_, by rw [hs]; exact h4⟩
        by_cases hk : k' = i
        · subst hk; exact absurd hw' hw
        · exact h3 k' (by omega) hw'
      · refine Or.inr ⟨fun k hk hw' => ?_, by rw [hs]; exact h2⟩
        by_cases hk' : k = i
        · subst hk'; exact hw hw'
        · exact h1 k (by omega) hw'
theorem names (n : Nat) : ∀ i, i ≤ ops.length → (n < t.n i ↔ n < t.n 0 ∨ ∃ k, k < i ∧ t.n k ≤ n ∧ n < t.n k + (t.o k).m)
  | 0, _ => ⟨Or.inl, fun h => by
      rcases h with h | ⟨k, hk, _⟩
      · exact h
      · omega⟩
  | i + 1, hi => by
    obtain ⟨o, _, ha⟩ := at_of hAt (i := i) (by omega)
    rw [ha.nn]
    have ih := names n i (by omega)
    constructor
    · intro h
      by_cases hn : n < t.n i
      · rcases ih.1 hn with h1 | ⟨k, h1, h2⟩
        · exact Or.inl h1
        · exact Or.inr ⟨k, by omega, h2⟩
      · exact Or.inr ⟨i, by omega, by omega, h⟩
    · intro h
      rcases h with h | ⟨k, h1, h2, h3⟩
      · have := ih.2 (Or.inl h); omega
      · by_cases hk : k = i
        · subst hk; omega
        · have := ih.2 (Or.inr ⟨k, by omega, h2, h3⟩); omega
theorem slots (hok : okRegion ops = true) (u : Nat) : ∀ i, i ≤ ops.length → (∃ k, k < i ∧ dstOf ops k = some u ∧ look (t.f i) u = some (t.o k).r) ∨ ((∀ k, k < i → dstOf ops k ≠ some u) ∧ look (t.f i) u = look (t.f 0) u)
  | 0, _ => Or.inr ⟨fun k hk => by omega, rfl⟩
  | i + 1, hi => by
    obtain ⟨o, ho, ha⟩ := at_of hAt (i := i) (by omega)
    have hd : dstOf ops i = o.dst := by simp [dstOf, ho]
    by_cases hu : o.dst = some u
    · exact Or.inl ⟨i, by omega, by rw [hd]; exact hu, by rw [ha.look, if_pos hu]⟩
    · rcases slots hok u i (by omega) with ⟨k, h1, h2, h3⟩ | ⟨h1, h2⟩
      · exact Or.inl ⟨k, by omega, h2, by rw [ha.look, if_neg hu]; exact h3⟩
      · refine Or.inr ⟨fun k hk hk' => ?_, by rw [ha.look, if_neg hu]; exact h2⟩
        by_cases hki : k = i
        · subst hki; rw [hd] at hk'; exact hu hk'
        · exact h1 k (by omega) hk'
end

theorem log_waits (hlog : okLog ops ((List.range ops.length).map t.lg) = true) {i j : Nat} (hij : i < j) (hj : j < ops.length) (hc : clash (t.lg i) (t.lg j) = true) : waitsT ops ops.length j i = true := by
  simp only [okLog, List.all_eq_true, List.mem_range, List.length_map, List.length_range] at hlog
  have h1 := hlog j hj i hij
  have hi : i < ops.length := by omega
  simp only [List.getElem?_map, List.getElem?_range hi, List.getElem?_range hj, Option.map_some, Bool.or_eq_true, Bool.not_eq_true'] at h1
  rcases h1 with h1 | h1
  · rw [hc] at h1; cases h1
  · exact waitsD_T h1
theorem cr_q (hcr : okCr ((List.range ops.length).map t.lg) = true) {i : Nat} (hi : i < ops.length) (h : (t.o i).cr = true) : (t.o i).q = true := by
  simp only [okCr, List.all_eq_true, List.mem_map, List.mem_range] at hcr
  have := hcr (t.lg i) ⟨i, hi, rfl⟩
  simp only [Tr.lg, h, Bool.not_true, Bool.false_or] at this
  exact this

/-- What a block holds, when D is done. -/
def Cont (t : Tr P w0 F0 N ops) (D : Nat → Bool) (b : Nat) (v : V) : Prop :=
  (∃ k, k < ops.length ∧ D k = true ∧ t.wr k b ∧ (∀ k', k' < ops.length → D k' = true → t.wr k' b → k' ≤ k) ∧ (t.b (k + 1))[b]? = some v) ∨ ((∀ k, k < ops.length → D k = true → ¬ t.wr k b) ∧ (t.b 0)[b]? = some v)

structure DInv (t : Tr P w0 F0 N ops) (tk : List (Hd × Nat)) (D : Nat → Bool) (a : Act) (c : Cx) : Prop where
  wf : c.Wf w0 F0
  tok : Toks w0 c tk
  XA : ∀ b, c.XA b ↔ (b < (t.b 0).length ∨ ∃ k, k < ops.length ∧ D k = true ∧ t.isNew k ∧ b = (t.b k).length)
  XB : ∀ n, c.XB n ↔ (n < t.n 0 ∨ ∃ k, k < ops.length ∧ D k = true ∧ t.n k ≤ n ∧ n < t.n k + (t.o k).m)
  blk : ∀ b v, c.XA b → Cont t D b v → c.ty b = some v.ty ∧ (∃ e, HB c.x (c.E.A b) (v.cells c.E.B).toArray e) ∧ v.okc c
  size : a.tmps.size = N
  defers : a.defers = []
  done : ∀ k u, k < ops.length → D k = true → dstOf ops k = some u → a.tmps[u]? = some ((t.o k).r.val c.E) ∧ (t.o k).r.ok c
  init : ∀ u s, (∀ k, k < ops.length → D k = true → dstOf ops k ≠ some u) → look (t.f 0) u = some s → a.tmps[u]? = some (s.val c.E) ∧ s.ok c

theorem dinv_slot (hAt : ∀ i o, ops[i]? = some o → t.At i o) (hok : okRegion ops = true) {tk : List (Hd × Nat)} {D : Nat → Bool} {a : Act} {c : Cx} (h : DInv t tk D a c) {i : Nat} {o : Oper} (ho : ops[i]? = some o) (hadm : Adm ops i D) {u : Nat} (hu : u ∈ o.looksAt ops.toArray) {s : SV} (hs : look (t.f i) u = some s) : a.tmps[u]? = some (s.val c.E) ∧ s.ok c := by
  have hi : i < ops.length := lt_of_get ho
  rcases slots hAt hok u i (by omega) with ⟨k, h1, h2, h3⟩ | ⟨h1, h2⟩
  · rw [h3] at hs
    cases hs
    refine h.done k u (by omega) (hadm.ahead k ?_) h2
    rcases (ok_slots hok ho h2).2 hu with h4 | ⟨_, h4⟩ | ⟨h4, _⟩
    · omega
    · exact h4
    · omega
  · rw [h2] at hs
    refine h.init u s (fun k hk hD hd => ?_) hs
    rcases (ok_slots hok ho hd).2 hu with h4 | ⟨h4, _⟩ | ⟨_, h4⟩
    · subst h4; rw [hadm.un] at hD; cases hD
    · exact h1 k h4 hd
    · rw [hadm.behind k h4] at hD; cases hD

theorem dinv_touch (hlog : okLog ops ((List.range ops.length).map t.lg) = true) {D : Nat → Bool} {i : Nat} (hi : i < ops.length) (hadm : Adm ops i D) {b : Nat} (hb : b ∈ (t.lg i).t) {k : Nat} (hk : k < ops.length) (hw : t.wr k b) : (k < i → D k = true) ∧ (D k = true → k < i) := by
  have hwt : b ∈ (t.lg k).w := hw
  have hww : b ∈ (t.lg k).t := List.mem_append.2 (Or.inr hw)
  refine ⟨fun hlt => hadm.aheadT (log_waits hlog hlt hi ?_), fun hD => ?_⟩
  · unfold clash; rw [meet_of hwt hb]; simp
  · rcases Nat.lt_trichotomy k i with h | h | h
    · exact h
    · subst h; rw [hadm.un] at hD; cases hD
    · exfalso
      have := hadm.behindT (log_waits hlog h hk (by unfold clash; rw [meet_of hb hwt]; simp))
      rw [this] at hD; cases hD

theorem dinv_cont (hAt : ∀ i o, ops[i]? = some o → t.At i o) (hlog : okLog ops ((List.range ops.length).map t.lg) = true) {D : Nat → Bool} {i : Nat} (hi : i < ops.length) (hadm : Adm ops i D) {b : Nat} (hb : b ∈ (t.lg i).t) {v : V} (hv : (t.b i)[b]? = some v) : Cont t D b v := by
  rcases lastw hAt b i (by omega) with ⟨k, h1, h2, h3, h4⟩ | ⟨h1, h2⟩
  · have hk : k < ops.length := by omega
    refine Or.inl ⟨k, hk, (dinv_touch hlog hi hadm hb hk h2).1 h1, h2, fun k' hk' hD' hw' => h3 k' ((dinv_touch hlog hi hadm hb hk' hw').2 hD') hw', by rw [h4]; exact hv⟩
  · exact Or.inr ⟨fun k hk hD hw => h1 k ((dinv_touch hlog hi hadm hb hk hw).2 hD) hw, by rw [h2]; exact hv⟩

theorem dinv_step (hAt : ∀ i o, ops[i]? = some o → t.At i o) (hok : okRegion ops = true) (hlog : okLog ops ((List.range ops.length).map t.lg) = true) {tk : List (Hd × Nat)} {D : Nat → Bool} {a : Act} {c : Cx} (h : DInv t tk D a c) {i : Nat} {o : Oper} (ho : ops[i]? = some o) (hadm : Adm ops i D) {v : Value} {x' : World} {E : Env}
    (hp : Post w0 F0 c (t.o i) (t.b i).length (t.n i) v x' E) : DInv t tk (setD D i) (a.put o.dst v) (c.ext (t.o i) (t.b i).length (t.n i) E x') := by
  have hi : i < ops.length := lt_of_get ho
  have ha := hAt i o ho
  have hdst : dstOf ops i = o.dst := by simp [dstOf, ho]
  have hnew : (∃ y, (t.o i).ef = .new y) → ¬ c.XA (t.b i).length := fun hn hx => by
    rcases (h.XA _).1 hx with h1 | ⟨k, hk, hD, hnk, hb⟩
    · have := len_mono hAt (i := 0) (j := i) (by omega) (by omega); omega
    · have hki : k ≠ i := fun e => by subst e; rw [hadm.un] at hD; cases hD
      rcases Nat.lt_or_gt_of_ne hki with hlt | hlt
      · have h1 := len_mono hAt (i := k + 1) (j := i) (by omega) (by omega)
        rcases len_step hAt (i := k) hk with ⟨h2, _⟩ | ⟨_, h2⟩
        · omega
        · exact h2 hnk
      · have h1 := len_mono hAt (i := i + 1) (j := k) (by omega) (by omega)
        rcases len_step hAt (i := i) hi with ⟨h2, _⟩ | ⟨_, h2⟩
        · omega
        · exact h2 hn
  have hle := hp.le h.wf hnew
  have hwf := hp.wf h.wf hnew
  have hDi : setD D i i = true := by simp [setD]
  have hDk : ∀ k, D k = true → setD D i k = true := fun k hk => by simp [setD, hk]
  have hDk' : ∀ k, setD D i k = true → k = i ∨ D k = true := fun k hk => by simpa [setD] using hk
  refine ⟨hwf, h.tok.step h.wf hnew hp, fun b => ?_, fun n => ?_, fun b u hx hcont => ?_, ?_, ?_, fun k u hk hD hd => ?_, fun u s hno hs => ?_⟩
  · show (c.XA b ∨ (b = (t.b i).length ∧ ∃ y, (t.o i).ef = .new y)) ↔ _
    rw [h.XA]
    constructor
    · rintro ((h1 | ⟨k, h1, h2, h3⟩) | ⟨h1, h2⟩)
      · exact Or.inl h1
      · exact Or.inr ⟨k, h1, hDk k h2, h3⟩
      · exact Or.inr ⟨i, hi, hDi, h2, h1⟩
    · rintro (h1 | ⟨k, h1, h2, h3, h4⟩)
      · exact Or.inl (Or.inl h1)
      · rcases hDk' k h2 with rfl | h2
        · exact Or.inr ⟨h4, h3⟩
        · exact Or.inl (Or.inr ⟨k, h1, h2, h3, h4⟩)
  · show (c.XB n ∨ (t.n i ≤ n ∧ n < t.n i + (t.o i).m)) ↔ _
    rw [h.XB]
    constructor
    · rintro ((h1 | ⟨k, h1, h2, h3⟩) | h1)
      · exact Or.inl h1
      · exact Or.inr ⟨k, h1, hDk k h2, h3⟩
      · exact Or.inr ⟨i, hi, hDi, h1⟩
    · rintro (h1 | ⟨k, h1, h2, h3⟩)
      · exact Or.inl (Or.inl h1)
      · rcases hDk' k h2 with rfl | h2
        · exact Or.inr h3
        · exact Or.inl (Or.inr ⟨k, h1, h2, h3⟩)
  · by_cases hw : t.wr i b
    · -- it was written just now
      have hbt : b ∈ (t.lg i).t := List.mem_append.2 (Or.inr hw)
      have hval : (t.b (i + 1))[b]? = some u := by
        rcases hcont with ⟨k, h1, h2, h3, h4, h5⟩ | ⟨h1, _⟩
        · have hik := h4 i hi hDi hw
          rcases hDk' k h2 with rfl | h2
          · exact h5
          · have := (dinv_touch hlog hi hadm hbt h1 h3).2 h2
            omega
        · exact absurd hw (h1 i hi hDi)
      rw [ha.bl] at hval
      unfold Tr.wr at hw
      cases hef : (t.o i).ef with
      | none => rw [hef] at hw; simp [efW] at hw
      | set j y =>
        rw [hef] at hw hval
        simp only [efW, List.mem_singleton] at hw
        subst hw
        obtain ⟨p1, p2, p3, p4⟩ := hp.set b y hef
        simp only [efB, List.getElem?_set, if_true, ha.set b y hef] at hval
        cases hval
        refine ⟨?_, p3, p4⟩
        rw [(hle.A b p1).2.2]; exact p2
      | new y =>
        rw [hef] at hw hval
        simp only [efW, List.mem_singleton] at hw
        subst hw
        obtain ⟨p1, p2, p3, p4, p5⟩ := hp.new y hef
        simp [efB] at hval
        subst hval
        refine ⟨?_, p4, p5⟩
        show (match (t.o i).ef with | .new y => if (t.b i).length = (t.b i).length then some y.ty else c.ty _ | _ => c.ty _) = some y.ty
        rw [hef]
        simp
    · have hcont' : Cont t D b u := by
        rcases hcont with ⟨k, h1, h2, h3, h4, h5⟩ | ⟨h1, h2⟩
        · rcases hDk' k h2 with rfl | h2
          · exact absurd h3 hw
          · exact Or.inl ⟨k, h1, h2, h3, fun k' hk' hD' => h4 k' hk' (hDk k' hD'), h5⟩
        · exact Or.inr ⟨fun k hk hD => h1 k hk (hDk k hD), h2⟩
      have hxa : c.XA b := by
        rcases hx with hx | ⟨hx, y, hy⟩
        · exact hx
        · exact absurd (by unfold Tr.wr; rw [hy, hx]; simp [efW]) hw
      obtain ⟨p1, ⟨e, p2⟩, p3⟩ := h.blk b u hxa hcont'
      refine ⟨by rw [(hle.A b hxa).2.2]; exact p1, ⟨e, ?_⟩, V.okc_mono hle p3⟩
      have hcells : u.cells E.B = u.cells c.E.B := V.cellsc hle p3
      show HB x' (E.A b) (u.cells E.B).toArray e
      rw [hcells, hp.A b hxa]
      unfold HB
      rw [hp.same.block _ p2.lt (by
        rintro ⟨j, y, hy, hj⟩
        have : b = j := h.wf.inj b j hxa (hp.set j y hy).1 hj
        subst this
        exact hw (by unfold Tr.wr; rw [hy]; simp [efW]))]
      exact p2
  · show (a.put o.dst v).tmps.size = N
    cases o.dst <;> simp [Act.put, h.size]
  · cases o.dst <;> simp [Act.put, h.defers]
  · have hne : ∀ {d}, o.dst = some d → k ≠ i → d ≠ u := fun hd' hki e => by
      subst e
      exact (ok_slots hok ho hd).1 hki hd'
    rcases hDk' k hD with rfl | hD'
    · rw [hdst] at hd
      rw [hd]
      have hlt := ha.dst u hd
      refine ⟨?_, hp.ok⟩
      simp only [Act.put]
      rw [hp.val]
      simp [h.size, hlt]
      rfl
    · have hki : k ≠ i := fun e => by subst e; rw [hadm.un] at hD'; cases hD'
      obtain ⟨p1, p2⟩ := h.done k u hk hD' hd
      refine ⟨?_, SV.ok_mono hle p2⟩
      rw [SV.val_mono hle p2, ← p1]
      cases hd' : o.dst with
      | none => rfl
      | some d => simp only [Act.put, Array.getElem?_setIfInBounds_ne (hne hd' hki)]
  · obtain ⟨p1, p2⟩ := h.init u s (fun k hk hD => hno k hk (hDk k hD)) hs
    refine ⟨?_, SV.ok_mono hle p2⟩
    rw [SV.val_mono hle p2, ← p1]
    cases hd' : o.dst with
    | none => rfl
    | some d =>
      have : d ≠ u := fun e => by
        subst e
        exact hno i hi hDi (by rw [hdst]; exact hd')
      simp only [Act.put, Array.getElem?_setIfInBounds_ne this]

theorem draw_inv0 {T : Tab} {S : List (Nat × Spec)} (hT : TabOk P T) (hS : SpecsOk P S) {f : Fr} {bl : List V} {nn : NS} {K : Fr → List V → NS → Prop} {c : Cx} {a : Act} (hok : okRegion ops = true) (h : drwK T S N ops (ops.map (·.dst)) ops [] f bl nn K) (hr : Real w0 F0 bl nn c) (hf : FR N c f a) :
    ∃ Inv : (Nat → Bool) → Act → World → Prop, Inv (fun _ => false) a c.x ∧
    (∀ (i : Nat) (o : Oper), ops[i]? = some o → ∀ D a x, Adm ops i D → Inv D a x →
      if Region.wanted o (yielded ops.toArray a.tmps) = true then upon4 P (fun v x' => Inv (setD D i) (a.put o.dst v) x') ((execOp a.eval o).run P x) else Inv (setD D i) (a.put o.dst undef) x) ∧
    (∀ D a x, (∀ k, k < ops.length → D k = true) → Inv D a x → Sat w0 F0 N K a x) := by
  obtain ⟨t, e1, e2, e3, hAt, hK, hlog, hcr⟩ := drw_tr (w0 := w0) (F0 := F0) hT hS ops [] f bl nn h
  rw [List.reverse_nil, List.nil_append] at hlog hcr
  refine ⟨fun D a x => ∃ c, DInv t nn.tk D a c ∧ c.x = x, ?_, ?_, ?_⟩
  · refine ⟨c, ⟨hr.wf, hr.tk, fun b => ?_, fun n => ?_, fun b v hx hc => ?_, hf.size, hf.defers, fun k u _ hD => (by cases hD), fun u s _ hs => ?_⟩, rfl⟩
    · show c.XA b ↔ _
      rw [hr.XA, e2]
      constructor
      · exact Or.inl
      · rintro (h1 | ⟨k, _, hD, _⟩)
        · exact h1
        · cases hD
    · show c.XB n ↔ _
      rw [hr.XB, e3]
      constructor
      · exact Or.inl
      · rintro (h1 | ⟨k, _, hD, _⟩)
        · exact h1
        · cases hD
    · rcases hc with ⟨k, _, hD, _⟩ | ⟨_, hc⟩
      · cases hD
      · rw [e2] at hc
        exact ⟨hr.ty b v hc, (hr.blk b v hc).1, (hr.blk b v hc).2⟩
    · rw [e1] at hs
      exact ⟨(hf.get u s hs).1, (hf.get u s hs).2⟩
  · rintro i o ho D a x hadm ⟨c, hI, rfl⟩
    have hi : i < ops.length := lt_of_get ho
    have ha := hAt i o ho
    have hsl : ∀ u s, u ∈ o.looksAt ops.toArray → look (t.f i) u = some s → a.tmps[u]? = some (s.val c.E) ∧ s.ok c := fun u s hu hs => dinv_slot hAt hok hI ho hadm hu hs
    rcases ha.way with ⟨hw, hd⟩ | ⟨hw, ho'⟩
    · rw [if_pos (hw c.E a fun u s hu hs => (hsl u s hu hs).1)]
      have hdo := hd.2 c a.eval hI.wf (fun y hy s hs => ?_) (fun b hb v hv => ?_) (fun hn hx => ?_) (fun hq n => ?_)
      · generalize (execOp a.eval o).run P c.x = res at hdo
        have step : ∀ v x', (∃ E, Post w0 F0 c (t.o i) (t.b i).length (t.n i) v x' E) → ∃ c', DInv t nn.tk (setD D i) (a.put o.dst v) c' ∧ c'.x = x' := fun v x' ⟨E, hp⟩ => ⟨_, dinv_step hAt hok hlog hI ho hadm hp, rfl⟩
        cases res with
        | ok nx w' =>
          cases nx <;> simp only [upon4] at hdo ⊢
          case value u => exact step _ _ hdo
          case skip => exact step _ _ hdo
          case enter g args => exact hdo.mono fun e x' ⟨u, he, hu⟩ => ⟨u, he, step _ _ hu⟩
        | halt q w' => simp only [upon4] at hdo
      · cases y with
        | tmp u =>
          have hu : u ∈ o.looksAt ops.toArray := by
            unfold Oper.looksAt
            simp only [List.mem_append, List.mem_filterMap]
            exact Or.inl ⟨.tmp u, by simpa using hy, rfl⟩
          obtain ⟨h1, h2⟩ := hsl u s hu hs
          exact ⟨by simp only [Act.eval, Array.getD_eq_getD_getElem?, h1]; rfl, h2⟩
        | const v => cases hs; exact ⟨(constA_val _ v).symm, constA_ok _ v⟩
        | func g => cases hs; exact ⟨rfl, fun q hq => by cases hq⟩
        | global g => cases hs
      · have hbt : b ∈ (t.lg i).t := by
          show b ∈ (t.o i).rd ++ efW (t.b i).length (t.o i).ef
          rcases hb with hb | ⟨y, hy⟩
          · exact List.mem_append.2 (Or.inl hb)
          · exact List.mem_append.2 (Or.inr (by rw [hy]; simp [efW]))
        have hxa : c.XA b := by
          rw [hI.XA]
          rcases made hAt i (by omega) (lt_of_get hv) with h1 | ⟨k, h1, h2, h3⟩
          · exact Or.inl h1
          · have hwr : t.wr k b := by
              obtain ⟨y, hy⟩ := h2
              unfold Tr.wr
              rw [hy, h3]; simp [efW]
            exact Or.inr ⟨k, by omega, (dinv_touch hlog hi hadm hbt (by omega) hwr).1 h1, h2, h3⟩
        exact ⟨hxa, hI.blk b v hxa (dinv_cont hAt hlog hi hadm hbt hv)⟩
      · rcases (hI.XA _).1 hx with h1 | ⟨k, hk, hD, hnk, hb⟩
        · have := len_mono hAt (i := 0) (j := i) (by omega) (by omega); omega
        · have hki : k ≠ i := fun e => by subst e; rw [hadm.un] at hD; cases hD
          rcases Nat.lt_or_gt_of_ne hki with hlt | hlt
          · have h1 := len_mono hAt (i := k + 1) (j := i) (by omega) (by omega)
            rcases len_step hAt (i := k) hk with ⟨h2, _⟩ | ⟨_, h2⟩
            · omega
            · exact h2 hnk
          · have h1 := len_mono hAt (i := i + 1) (j := k) (by omega) (by omega)
            rcases len_step hAt (i := i) hi with ⟨h2, _⟩ | ⟨_, h2⟩
            · omega
            · exact h2 hn
      · rw [hI.XB, names hAt n i (by omega)]
        have hcrk : ∀ k, k < ops.length → t.n k ≤ n → n < t.n k + (t.o k).m → (t.o k).cr = true := fun k hk h1 h2 => by
          obtain ⟨o', _, ha'⟩ := at_of hAt hk
          cases hc : (t.o k).cr with
          | true => rfl
          | false => have := ha'.cr hc; omega
        have hclash : ∀ k, k < ops.length → (t.o k).cr = true → clash (t.lg k) (t.lg i) = true ∧ clash (t.lg i) (t.lg k) = true := fun k hk hc => by
          have hqk := cr_q hcr hk hc
          unfold clash
          have h1 : (t.lg k).q = true := hqk
          have h2 : (t.lg i).q = true := hq
          have h3 : (t.lg k).cr = true := hc
          rw [h1, h2, h3]
          simp
        constructor
        · rintro (h1 | ⟨k, h1, h2, h3, h4⟩)
          · exact Or.inl h1
          · refine Or.inr ⟨k, ?_, h3, h4⟩
            have hc := hcrk k h1 h3 h4
            rcases Nat.lt_trichotomy k i with h | h | h
            · exact h
            · subst h; rw [hadm.un] at h2; cases h2
            · exfalso
              have := hadm.behindT (log_waits hlog h h1 (hclash k h1 hc).2)
              rw [this] at h2; cases h2
        · rintro (h1 | ⟨k, h1, h3, h4⟩)
          · exact Or.inl h1
          · have hk : k < ops.length := by omega
            have hc := hcrk k hk h3 h4
            exact Or.inr ⟨k, hk, hadm.aheadT (log_waits hlog h1 hi (hclash k hk hc).1), h3, h4⟩
    · rw [if_neg (by rw [hw c.E a fun u s hu hs => (hsl u s hu hs).1]; exact Bool.false_ne_true)]
      have hp : Post w0 F0 c (t.o i) (t.b i).length (t.n i) undef c.x c.E := by
        rw [ho']
        exact post_val hI.wf (und_ok c)
      exact ⟨_, dinv_step hAt hok hlog hI ho hadm hp, rfl⟩
  · rintro D a x hall ⟨c, hI, rfl⟩
    refine ⟨_, _, _, c, hK, ⟨hI.wf, fun i => ?_, fun n => ?_, fun i v hv => ?_, fun i v hv => ?_, hI.tok⟩, ⟨hI.size, hI.defers, fun u s hs => ?_⟩, rfl⟩
    · rw [hI.XA]
      constructor
      · rintro (h1 | ⟨k, hk, _, h2, h3⟩)
        · have := len_mono hAt (i := 0) (j := ops.length) (by omega) (by omega); omega
        · have h1 := len_mono hAt (i := k + 1) (j := ops.length) (by omega) (by omega)
          rcases len_step hAt (i := k) hk with ⟨h4, _⟩ | ⟨_, h4⟩
          · omega
          · exact absurd h2 h4
      · intro hlt
        rcases made hAt ops.length (Nat.le_refl _) hlt with h1 | ⟨k, h1, h2⟩
        · exact Or.inl h1
        · exact Or.inr ⟨k, h1, hall k h1, h2⟩
    · show c.XB n ↔ n < t.n ops.length
      rw [hI.XB, names hAt n ops.length (Nat.le_refl _)]
      constructor
      · rintro (h1 | ⟨k, h1, _, h2⟩)
        · exact Or.inl h1
        · exact Or.inr ⟨k, h1, h2⟩
      · rintro (h1 | ⟨k, h1, h2⟩)
        · exact Or.inl h1
        · exact Or.inr ⟨k, h1, hall k h1, h2⟩
    all_goals first
      | (have hxa : c.XA i := by
          rw [hI.XA]
          rcases made hAt ops.length (Nat.le_refl _) (lt_of_get hv) with h1 | ⟨k, h1, h2⟩
          · exact Or.inl h1
          · exact Or.inr ⟨k, h1, hall k h1, h2⟩
         have hc : Cont t D i v := by
          rcases lastw hAt i ops.length (Nat.le_refl _) with ⟨k, h1, h2, h3, h4⟩ | ⟨h1, h2⟩
          · exact Or.inl ⟨k, h1, hall k h1, h2, fun k' hk' _ => h3 k' hk', by rw [h4]; exact hv⟩
          · exact Or.inr ⟨fun k hk _ => h1 k hk, by rw [h2]; exact hv⟩
         first | exact (hI.blk i v hxa hc).1 | exact (hI.blk i v hxa hc).2)
      | skip
    rcases slots hAt hok u ops.length (Nat.le_refl _) with ⟨k, h1, h2, h3⟩ | ⟨h1, h2⟩
    · rw [h3] at hs
      cases hs
      exact hI.done k u h1 (hall k h1) h2
    · rw [h2] at hs
      exact hI.init u s (fun k hk _ => h1 k hk) hs
theorem real_drew {bl : List V} {nn : NS} {c : Cx} (hr : Real w0 F0 bl nn c) : Real w0 F0 bl nn { c with x := { c.x with drawn := c.x.drawn + 1 } } ∧ c.Le { c with x := { c.x with drawn := c.x.drawn + 1 } } := by
  have hle1 : c.Le { c with x := { c.x with drawn := c.x.drawn + 1 } } := ⟨fun i hi => ⟨hi, rfl, rfl⟩, fun n hn => ⟨hn, rfl⟩, fun _ _ h => h, fun _ _ _ _ _ => rfl, Nat.le_refl _⟩
  exact ⟨⟨⟨hr.wf.below.drew, hr.wf.lo, hr.wf.hi, hr.wf.inj, hr.wf.fhi, hr.wf.own, hr.wf.old, hr.wf.oldB, hr.wf.le.trans hle1⟩, hr.XA, hr.XB, hr.ty, fun i v hi => ⟨(hr.blk i v hi).1, V.okc_mono hle1 (hr.blk i v hi).2⟩, hr.tk.drew⟩, hle1⟩
theorem draw_inv {T : Tab} {S : List (Nat × Spec)} (hT : TabOk P T) (hS : SpecsOk P S) {f : Fr} {bl : List V} {nn : NS} {K : Fr → List V → NS → Prop} {c : Cx} {a : Act} (hok : okRegion ops = true) (h : drwK T S N ops (ops.map (·.dst)) ops [] f bl nn K) (hr : Real w0 F0 bl nn c) (hf : FR N c f a) :
    ∃ Inv : (Nat → Bool) → Act → World → Prop, Inv (fun _ => false) a { c.x with drawn := c.x.drawn + 1 } ∧
    (∀ (i : Nat) (o : Oper), ops[i]? = some o → ∀ D a x, Adm ops i D → Inv D a x →
      if Region.wanted o (yielded ops.toArray a.tmps) = true then upon4 P (fun v x' => Inv (setD D i) (a.put o.dst v) x') ((execOp a.eval o).run P x) else Inv (setD D i) (a.put o.dst undef) x) ∧
    (∀ D a x, (∀ k, k < ops.length → D k = true) → Inv D a x → Sat w0 F0 N K a x) := by
  obtain ⟨r1, l1⟩ := real_drew hr
  exact draw_inv0 hT hS hok h r1 (hf.mono l1)
theorem draw_sound {T : Tab} {S : List (Nat × Spec)} (hT : TabOk P T) (hS : SpecsOk P S) {id : Nat} {f : Fr} {bl : List V} {nn : NS} {K : Fr → List V → NS → Prop} {c : Cx} {a : Act} (hok : okRegion ops = true) (h : drwK T S N ops (ops.map (·.dst)) ops [] f bl nn K) (hr : Real w0 F0 bl nn c) (hf : FR N c f a)
    {Q : Exit → Act → World → Prop} (hQ : ∀ a x, Sat w0 F0 N K a x → Q .normal a x) : (Code.region id ops.toArray true).wp P Q a c.x := by
  obtain ⟨Inv, h0, hs, he⟩ := draw_inv hT hS hok h hr hf
  exact wp_region_inv Inv hT.mix hok h0 hs fun D a x hD hI => hQ a x (he D a x hD hI)

end

end Go.Proofs.YtjbbgpacijageabGreat.M

/- A region that draws its order, and then goes on one by one. No program is named here. -/
namespace Go.Proofs.YtjbbgpacijageabGreat.M
open Go.RowKit
set_option linter.unusedVariables false
set_option linter.unusedSimpArgs false

/-- From operation k on each waits for all ahead. -/
def tailOk (ops : List Oper) (k : Nat) : Bool :=
  okRegion ops && (okRegion (ops.take k) && (Nat.ble k ops.length && ((List.range ops.length).all (fun j => Nat.ble (j + 1) k || (List.range j).all fun i => waitsB ops j i) &&
  (ops.take k).all fun o => match o.guard with | none => true | some (j, _) => Nat.ble (j + 1) k)))

section
variable {P : Program} {ops : List Oper} {Q : Exit → Act → World → Prop} {k : Nat}

theorem tail_ok (h : tailOk ops k = true) : okRegion ops = true ∧ okRegion (ops.take k) = true ∧ k ≤ ops.length ∧ (∀ j, j < ops.length → k ≤ j → ∀ i, i < j → waitsB ops j i = true) ∧ ∀ o ∈ ops.take k, ∀ j w, o.guard = some (j, w) → j < k := by
  simp only [tailOk, Bool.and_eq_true, List.all_eq_true, List.mem_range, Bool.or_eq_true] at h
  obtain ⟨h1, h2, h3, h4, h5⟩ := h
  refine ⟨h1, h2, Nat.le_of_ble_eq_true h3, fun j hj hkj i hi => ?_, fun o ho j w hg => ?_⟩
  · rcases h4 j hj with h6 | h6
    · have := Nat.le_of_ble_eq_true h6; omega
    · exact h6 i hi
  · have := h5 o ho
    rw [hg] at this
    exact Nat.le_of_ble_eq_true this

theorem take_get {i : Nat} (hi : i < k) : (ops.take k)[i]? = ops[i]? := by rw [List.getElem?_take, if_pos hi]
theorem take_get_none {i : Nat} (hi : k ≤ i) : (ops.take k)[i]? = none := by rw [List.getElem?_take, if_neg (by omega)]
theorem waits_take {i j : Nat} (hi : i < k) : waitsB (ops.take k) i j = waitsB ops i j := by unfold waitsB; rw [take_get hi]
theorem waits_take_lt {i j : Nat} (h : waitsB (ops.take k) i j = true) : i < k := by
  rcases Nat.lt_or_ge i k with h1 | h1
  · exact h1
  · unfold waitsB at h; rw [take_get_none h1] at h; cases h
theorem wanted_take {o : Oper} (hg : ∀ j w, o.guard = some (j, w) → j < k) (tmps : Array Value) : Region.wanted o (yielded (ops.take k).toArray tmps) = Region.wanted o (yielded ops.toArray tmps) := by
  unfold Region.wanted
  cases h : o.guard with
  | none => rfl
  | some q =>
    obtain ⟨j, w⟩ := q
    have hj := hg j w h
    have : yielded (ops.take k).toArray tmps j = yielded ops.toArray tmps j := by
      unfold yielded
      have e : (ops.take k).toArray[j]? = ops.toArray[j]? := by simp [List.getElem?_take, hj]
      rw [e]
    simp only [this]

theorem wp_region_tail (Inv : (Nat → Bool) → Act → World → Prop) {id : Nat} {a0 : Act} {w0 : World} (hm : P.follows .mixedOrders = true) (ht : tailOk ops k = true)
    (h0 : Inv (fun _ => false) a0 { w0 with drawn := w0.drawn + 1 })
    (hstep : ∀ (i : Nat) (o : Oper), (ops.take k)[i]? = some o → ∀ D a x, Adm (ops.take k) i D → Inv D a x →
      if Region.wanted o (yielded (ops.take k).toArray a.tmps) = true then upon4 P (fun v x' => Inv (setD D i) (a.put o.dst v) x') ((execOp a.eval o).run P x) else Inv (setD D i) (a.put o.dst undef) x)
    (hend : ∀ D a x, (∀ j, j < (ops.take k).length → D j = true) → Inv D a x → tailL P ops.toArray (fun a x => Q .normal a x) (ops.drop k) a x) : (Code.region id ops.toArray true).wp P Q a0 w0 := by
  obtain ⟨t1, t2, t3, t4, t5⟩ := tail_ok ht
  have tailstep : ∀ (i : Nat) (o : Oper), ops[i]? = some o → k ≤ i → ∀ D a x, (∀ m, D m = true ↔ m < i) → tailL P ops.toArray (fun a x => Q .normal a x) (ops.drop i) a x →
      if Region.wanted o (yielded ops.toArray a.tmps) = true then upon4 P (fun v x' => (∀ m, setD D i m = true ↔ m < i + 1) ∧ tailL P ops.toArray (fun a x => Q .normal a x) (ops.drop (i + 1)) (a.put o.dst v) x') ((execOp a.eval o).run P x)
        else (∀ m, setD D i m = true ↔ m < i + 1) ∧ tailL P ops.toArray (fun a x => Q .normal a x) (ops.drop (i + 1)) (a.put o.dst undef) x := by
    intro i o ho hki D a x hD hl
    have hsD : ∀ m, setD D i m = true ↔ m < i + 1 := fun m => by
      unfold setD
      rw [Bool.or_eq_true, hD m, beq_iff_eq]
      omega
    have hi : i < ops.length := lt_of_get ho
    have hdrop : ops.drop i = o :: ops.drop (i + 1) := by
      rw [List.drop_eq_getElem_cons hi]
      congr 1
      exact Option.some.inj (by rw [← ho, List.getElem?_eq_getElem hi])
    rw [hdrop] at hl
    unfold tailL at hl
    split at hl
    · rename_i hw
      rw [if_pos hw]
      exact upon4_mono (fun v x' h => ⟨hsD, h⟩) hl
    · rename_i hw
      rw [if_neg hw]
      exact ⟨hsD, hl⟩
  refine wp_region_inv (fun D a x => ((∀ j, k ≤ j → D j = false) ∧ Inv D a x) ∨ ∃ j, k ≤ j ∧ j ≤ ops.length ∧ (∀ m, D m = true ↔ m < j) ∧ tailL P ops.toArray (fun a x => Q .normal a x) (ops.drop j) a x) hm t1 (Or.inl ⟨fun _ _ => rfl, h0⟩) ?_ ?_
  · intro i o ho D a x hadm hI
    have hi : i < ops.length := lt_of_get ho
    rcases hI with ⟨hno, hI⟩ | ⟨j, hkj, hjl, hD, hl⟩
    · by_cases hik : i < k
      · have ho' : (ops.take k)[i]? = some o := by rw [take_get hik]; exact ho
        have hs := hstep i o ho' D a x ⟨hadm.un, fun m hm => hadm.ahead m (by rw [← waits_take hik]; exact hm), fun m hm => hadm.behind m (by rw [← waits_take (waits_take_lt hm)]; exact hm), fun m q hm hq => hadm.closed m q hm (by rw [← waits_take (waits_take_lt hq)]; exact hq)⟩ hI
        rw [wanted_take (t5 o (List.mem_of_getElem? ho'))] at hs
        have hsD : ∀ j, k ≤ j → setD D i j = false := fun j hj => by
          unfold setD
          rw [hno j hj, Bool.or_false, beq_eq_false_iff_ne]
          omega
        split at hs
        · rename_i hw
          rw [if_pos hw]
          exact upon4_mono (fun v x' h => Or.inl ⟨hsD, h⟩) hs
        · rename_i hw
          rw [if_neg hw]
          exact Or.inl ⟨hsD, hs⟩
      · have hki : k ≤ i := by omega
        have hdone : ∀ m, m < i → D m = true := fun m hm => hadm.ahead m (t4 i hi hki m hm)
        have hik' : i = k := by
          rcases Nat.lt_or_ge k i with h | h
          · have h1 := hdone k h
            rw [hno k (Nat.le_refl _)] at h1
            cases h1
          · omega
        subst hik'
        have hl := hend D a x (fun j hj => hdone j (by simp at hj; omega)) hI
        have hD : ∀ m, D m = true ↔ m < i := fun m => Iff.intro (fun h => by
          rcases Nat.lt_or_ge m i with h1 | h1
          · exact h1
          · rw [hno m h1] at h; cases h) (hdone m)
        have hs := tailstep i o ho (Nat.le_refl _) D a x hD hl
        split at hs
        · rename_i hw
          rw [if_pos hw]
          exact upon4_mono (fun v x' h => Or.inr ⟨i + 1, by omega, by omega, h.1, h.2⟩) hs
        · rename_i hw
          rw [if_neg hw]
          exact Or.inr ⟨i + 1, by omega, by omega, hs.1, hs.2⟩
    · have hji : j = i := by
        have h1 : ¬ i < j := fun h => by have := (hD i).2 h; rw [hadm.un] at this; cases this
        rcases Nat.lt_or_ge j i with h | h
        · have h2 := hadm.ahead j (t4 i hi (by omega) j h)
          have := (hD j).1 h2
          omega
        · omega
      subst hji
      have hs := tailstep j o ho hkj D a x hD hl
      split at hs
      · rename_i hw
        rw [if_pos hw]
        exact upon4_mono (fun v x' h => Or.inr ⟨j + 1, by omega, by omega, h.1, h.2⟩) hs
      · rename_i hw
        rw [if_neg hw]
        exact Or.inr ⟨j + 1, by omega, by omega, hs.1, hs.2⟩
  · intro D a x hall hI
    rcases hI with ⟨hno, hI⟩ | ⟨j, hkj, hjl, hD, hl⟩
    · have hk : k = ops.length := by
        rcases Nat.lt_or_ge k ops.length with h | h
        · have h1 := hall k h
          rw [hno k (Nat.le_refl _)] at h1
          cases h1
        · omega
      have hl := hend D a x (fun j hj => hall j (by simp at hj; omega)) hI
      rw [List.drop_of_length_le (by omega)] at hl
      exact hl
    · have hj : j = ops.length := by
        rcases Nat.lt_or_ge j ops.length with h | h
        · have := (hD j).1 (hall j h)
          omega
        · omega
      rw [List.drop_of_length_le (by omega)] at hl
      exact hl
end

theorem draw_tail {P : Program} {T : Tab} {S : List (Nat × Spec)} {w0 : World} {F0 : Old} {N : Nat} {ops : List Oper} {k : Nat} (hT : TabOk P T) (hS : SpecsOk P S) {id : Nat} {f : Fr} {bl : List V} {nn : NS} {K : Fr → List V → NS → Prop} {c : Cx} {a : Act} (hok : tailOk ops k = true)
    (h : drwK T S N (ops.take k) ((ops.take k).map (·.dst)) (ops.take k) [] f bl nn fun f bl nn => seqK T S N (ops.map (·.dst)) (ops.drop k) f bl nn K) (hr : Real w0 F0 bl nn c) (hf : FR N c f a) (htop : T.top = true → ∀ b e, F0.c.E.F b e → b < w0.heap.size)
    {Q : Exit → Act → World → Prop} (hQ : ∀ a x, Sat w0 F0 N K a x → Q .normal a x) : (Code.region id ops.toArray true).wp P Q a c.x := by
  obtain ⟨t1, t2, t3, t4, t5⟩ := tail_ok hok
  obtain ⟨Inv, h0, hs, he⟩ := draw_inv hT hS t2 h hr hf
  refine wp_region_tail Inv hT.mix hok h0 hs fun D a x hD hI => ?_
  obtain ⟨f', bl', nn', c', hk, hr', hf', rfl⟩ := he D a x hD hI
  exact seqK_tail hT hS htop hQ _ f' bl' nn' c' a hk hr' hf'

end Go.Proofs.YtjbbgpacijageabGreat.M

/- A region that draws its order, with operations that all ahead come before and all behind come after. No program is named here. -/
namespace Go.Proofs.YtjbbgpacijageabGreat.M
open Go.RowKit
set_option linter.unusedVariables false
set_option linter.unusedSimpArgs false

/-- An operation that was done already. -/
def dumOp (o : Oper) : Oper := { o with op := .assign (.const undef), dst := none, guard := none }
def dum : Nat → List Oper → List Oper
  | 0, l => l
  | _ + 1, [] => []
  | s + 1, o :: l => dumOp o :: dum s l
theorem dum_get : ∀ (s : Nat) (l : List Oper) (i : Nat), (dum s l)[i]? = (l[i]?).map fun o => if i < s then dumOp o else o
  | 0, l, i => by
    unfold dum
    cases l[i]? <;> simp
  | s + 1, [], i => by simp [dum]
  | s + 1, o :: l, i => by
    unfold dum
    cases i with
    | zero => simp
    | succ i =>
      rw [List.getElem?_cons_succ, List.getElem?_cons_succ, dum_get s l i]
      cases l[i]? with
      | none => rfl
      | some o => simp
theorem dum_len : ∀ (s : Nat) (l : List Oper), (dum s l).length = l.length
  | 0, l => rfl
  | s + 1, [] => rfl
  | s + 1, o :: l => by unfold dum; rw [List.length_cons, List.length_cons, dum_len s l]
theorem dum_waits (s : Nat) (l : List Oper) (k i : Nat) : waitsB (dum s l) k i = waitsB l k i := by
  unfold waitsB
  rw [dum_get]
  cases l[k]? with
  | none => rfl
  | some o => simp only [Option.map_some]; split <;> rfl
/-- Guards of a part lie in it. -/
def grdOk (s e : Nat) (l : List Oper) : Bool := (l.take e).all fun o => match o.guard with | none => true | some (j, _) => Nat.ble s j && Nat.ble (j + 1) e
def grdOk' (s e : Nat) (l : List Oper) : Bool := (List.range e).all fun i => Nat.ble (i + 1) s || (match l[i]? with | some o => (match o.guard with | none => true | some (j, _) => Nat.ble s j && Nat.ble (j + 1) e) | none => true)
/-- The parts between such operations. -/
def segOk (ops : List Oper) : Nat → List Nat → Bool
  | s, [] => okRegion (dum s ops) && grdOk' s ops.length ops
  | s, k :: cs => okRegion (dum s (ops.take k)) && (grdOk' s k ops && (Nat.ble s k && (Nat.ble (k + 1) ops.length && ((List.range k).all (fun i => waitsD ops k i) && ((List.range ops.length).all (fun j => Nat.ble j k || waitsD ops j k) && segOk ops (k + 1) cs)))))

def barK (T : Tab) (S : List (Nat × Spec)) (N : Nat) (ds : List (Option Tmp)) (o : Oper) (f : Fr) (bl : List V) (nn : NS) (K : Fr → List V → NS → Prop) : Prop :=
  guardK ds o.guard f (fun f => oneK T S N o f bl nn K) (fun f => putK N o.dst und f fun f' => K f' bl nn)
def segK (T : Tab) (S : List (Nat × Spec)) (N : Nat) (ops : List Oper) : Nat → List Nat → Fr → List V → NS → (Fr → List V → NS → Prop) → Prop
  | s, [], f, bl, nn, K => drwK T S N (dum s ops) ((dum s ops).map (·.dst)) (dum s ops) [] f bl nn K
  | s, k :: cs, f, bl, nn, K => drwK T S N (dum s (ops.take k)) ((dum s (ops.take k)).map (·.dst)) (dum s (ops.take k)) [] f bl nn fun f bl nn =>
      match ops[k]? with
      | some o => barK T S N (ops.map (·.dst)) o f bl nn fun f bl nn => segK T S N ops (k + 1) cs f bl nn K
      | none => False

section
variable {P : Program} {T : Tab} {S : List (Nat × Spec)} {w0 : World} {F0 : Old} {N : Nat} {ops : List Oper}

/-- What goes on. -/
structure Goes (P : Program) (ops : List Oper) (s : Nat) (Q : Act → World → Prop) (Inv : (Nat → Bool) → Act → World → Prop) : Prop where
  step : ∀ (i : Nat) (o : Oper), ops[i]? = some o → ∀ D a x, Adm ops i D → (∀ j, j < s → D j = true) → Inv D a x →
    if Region.wanted o (yielded ops.toArray a.tmps) = true then upon4 P (fun v x' => Inv (setD D i) (a.put o.dst v) x') ((execOp a.eval o).run P x) else Inv (setD D i) (a.put o.dst undef) x
  fin : ∀ D a x, (∀ k, k < ops.length → D k = true) → Inv D a x → Q a x

theorem wanted_part {s e : Nat} {o : Oper} (hg : ∀ j w, o.guard = some (j, w) → s ≤ j ∧ j < e) (tmps : Array Value) : Region.wanted o (yielded (dum s (ops.take e)).toArray tmps) = Region.wanted o (yielded ops.toArray tmps) := by
  unfold Region.wanted
  cases h : o.guard with
  | none => rfl
  | some q =>
    obtain ⟨j, w⟩ := q
    have hj := hg j w h
    have : yielded (dum s (ops.take e)).toArray tmps j = yielded ops.toArray tmps j := by
      unfold yielded
      have e : (dum s (ops.take e)).toArray[j]? = ops.toArray[j]? := by
        simp only [List.getElem?_toArray]
        rw [dum_get, List.getElem?_take, if_pos hj.2]
        cases ops[j]? with
        | none => rfl
        | some o => simp only [Option.map_some]; rw [if_neg (by omega)]
      rw [e]
    simp only [this]

theorem grd_at {s e : Nat} (h : grdOk' s e ops = true) {i : Nat} {o : Oper} (ho : ops[i]? = some o) (hs : s ≤ i) (he : i < e) : ∀ j w, o.guard = some (j, w) → s ≤ j ∧ j < e := by
  unfold grdOk' at h
  have h1 := List.all_eq_true.1 h i (List.mem_range.2 he)
  rw [Bool.or_eq_true] at h1
  rcases h1 with h1 | h1
  · have := Nat.le_of_ble_eq_true h1; omega
  · rw [ho] at h1
    intro j w hg
    simp only [hg, Bool.and_eq_true] at h1
    exact ⟨Nat.le_of_ble_eq_true h1.1, Nat.le_of_ble_eq_true h1.2⟩

/-- A part that is drawn: what goes on in it. -/
theorem part_inv (hT : TabOk P T) (hS : SpecsOk P S) {s e : Nat} (he : e ≤ ops.length) (hse : s ≤ e) {f : Fr} {bl : List V} {nn : NS} {K : Fr → List V → NS → Prop} {c : Cx} {a : Act} (hedge : ∀ i o, ops[i]? = some o → ∀ q ∈ o.after, Region.binds .any q = true → q.on < i) (hok : okRegion (dum s (ops.take e)) = true) (hgr : grdOk' s e ops = true)
    (h : drwK T S N (dum s (ops.take e)) ((dum s (ops.take e)).map (·.dst)) (dum s (ops.take e)) [] f bl nn K) (hr : Real w0 F0 bl nn c) (hf : FR N c f a) :
    ∃ Inv : (Nat → Bool) → Act → World → Prop, Inv (fun i => decide (i < s)) a c.x ∧
    (∀ (i : Nat) (o : Oper), ops[i]? = some o → s ≤ i → i < e → ∀ D a x, Adm ops i D → Inv D a x →
      if Region.wanted o (yielded ops.toArray a.tmps) = true then upon4 P (fun v x' => Inv (setD D i) (a.put o.dst v) x') ((execOp a.eval o).run P x) else Inv (setD D i) (a.put o.dst undef) x) ∧
    (∀ D a x, (∀ k, k < e → D k = true) → Inv D a x → Sat w0 F0 N K a x) := by
  obtain ⟨Inv, h0, hs, hend⟩ := draw_inv0 hT hS hok h hr hf
  have hlen : (dum s (ops.take e)).length = e := by rw [dum_len, List.length_take]; omega
  have hget : ∀ i o, ops[i]? = some o → i < e → (dum s (ops.take e))[i]? = some (if i < s then dumOp o else o) := fun i o ho hi => by
    rw [dum_get, List.getElem?_take, if_pos hi, ho]
    rfl
  have hwt : ∀ k i, waitsB (dum s (ops.take e)) k i = true → k < e ∧ waitsB ops k i = true := fun k i hw => by
    rw [dum_waits] at hw
    have hk := waits_take_lt hw
    exact ⟨hk, by rw [← waits_take hk]; exact hw⟩
  refine ⟨Inv, ?_, fun i o ho hsi hie D a x hadm hI => ?_, fun D a x hD hI => hend D a x (fun k hk => hD k (by omega)) hI⟩
  · have main : ∀ n, n ≤ s → Inv (fun i => decide (i < n)) a c.x := fun n => by
      induction n with
      | zero => intro _; exact h0
      | succ n ih =>
        intro hn
        have hI := ih (by omega)
        obtain ⟨o, ho⟩ : ∃ o, ops[n]? = some o := ⟨ops[n]'(by omega), by simp [show n < ops.length by omega]⟩
        have hg := hget n o ho (by omega)
        rw [if_pos (by omega)] at hg
        have hadm : Adm (dum s (ops.take e)) n (fun i => decide (i < n)) := by
          refine ⟨by simp, fun k hk => ?_, fun k hk => ?_, fun k j hk hj => ?_⟩
          · obtain ⟨o', q, h1, h2, h3, h4⟩ := waitsB_spec (hwt n k hk).2
            have := hedge n o' h1 q h2 h3
            simp; omega
          · obtain ⟨o', q, h1, h2, h3, h4⟩ := waitsB_spec (hwt k n hk).2
            have := hedge k o' h1 q h2 h3
            simp; omega
          · obtain ⟨o', q, h1, h2, h3, h4⟩ := waitsB_spec (hwt k j hj).2
            have := hedge k o' h1 q h2 h3
            simp at hk ⊢; omega
        have hst := hs n _ hg _ a c.x hadm hI
        rw [if_pos (show Region.wanted (dumOp o) _ = true from rfl)] at hst
        have hx : (execOp a.eval (dumOp o)).run P c.x = .ok (.value undef) c.x := rfl
        rw [hx] at hst
        have h1 : Inv (setD (fun i => decide (i < n)) n) a c.x := hst
        rw [show (fun i => decide (i < n + 1)) = setD (fun i => decide (i < n)) n from ?_]
        · exact h1
        · funext i
          unfold setD
          by_cases h2 : i = n
          · subst h2; simp
          · have h3 : (i == n) = false := by simpa using h2
            rw [h3, Bool.false_or]
            congr 1
            exact propext ⟨fun g => by omega, fun g => by omega⟩
    exact main s (Nat.le_refl _)
  · have hg := hget i o ho hie
    rw [if_neg (by omega)] at hg
    have hst := hs i o hg D a x ⟨hadm.un, fun k hk => hadm.ahead k (hwt i k hk).2, fun k hk => hadm.behind k (hwt k i hk).2, fun k j hk hj => hadm.closed k j hk (hwt k j hj).2⟩ hI
    rw [wanted_part (grd_at hgr ho hsi hie)] at hst
    exact hst

theorem seg_sound (hT : TabOk P T) (hS : SpecsOk P S) (htop : T.top = true → ∀ b e, F0.c.E.F b e → b < w0.heap.size) (hedge : ∀ i o, ops[i]? = some o → ∀ q ∈ o.after, Region.binds .any q = true → q.on < i) {K : Fr → List V → NS → Prop} {Q : Act → World → Prop} (hQ : ∀ a x, Sat w0 F0 N K a x → Q a x) :
    ∀ (cs : List Nat) (s : Nat) (f : Fr) (bl : List V) (nn : NS) (c : Cx) (a : Act), s ≤ ops.length → segOk ops s cs = true → segK T S N ops s cs f bl nn K → Real w0 F0 bl nn c → FR N c f a → ∃ Inv, Goes P ops s Q Inv ∧ Inv (fun i => decide (i < s)) a c.x
  | [], s, f, bl, nn, c, a, hsl, hok, h, hr, hf => by
    unfold segOk at hok
    rw [Bool.and_eq_true] at hok
    unfold segK at h
    have htk : ops.take ops.length = ops := List.take_length
    obtain ⟨Inv, h0, hs, hend⟩ := part_inv (ops := ops) (s := s) (e := ops.length) hT hS (Nat.le_refl _) hsl hedge (by rw [htk]; exact hok.1) hok.2 (by rw [htk]; exact h) hr hf
    refine ⟨Inv, ⟨fun i o ho D a x hadm hD hI => ?_, fun D a x hD hI => hQ a x (hend D a x hD hI)⟩, h0⟩
    have hsi : s ≤ i := by
      rcases Nat.lt_or_ge i s with h1 | h1
      · have := hD i h1
        rw [hadm.un] at this
        cases this
      · exact h1
    exact hs i o ho hsi (lt_of_get ho) D a x hadm hI
  | k :: cs, s, f, bl, nn, c, a, hsl, hok, h, hr, hf => by
    unfold segOk at hok
    simp only [Bool.and_eq_true] at hok
    obtain ⟨ok1, ok2, ok3, ok4, ok5, ok6, ok7⟩ := hok
    have hsk := Nat.le_of_ble_eq_true ok3
    have hkl : k < ops.length := Nat.le_of_ble_eq_true ok4
    have hw1 : ∀ i, i < k → waitsT ops ops.length k i = true := fun i hi => waitsD_T (List.all_eq_true.1 ok5 i (List.mem_range.2 hi))
    have hw2 : ∀ j, j < ops.length → k < j → waitsT ops ops.length j k = true := fun j hj hkj => by
      have := List.all_eq_true.1 ok6 j (List.mem_range.2 hj)
      rw [Bool.or_eq_true] at this
      rcases this with h1 | h1
      · have := Nat.le_of_ble_eq_true h1; omega
      · exact waitsD_T h1
    unfold segK at h
    obtain ⟨Inv, h0, hs, hend⟩ := part_inv hT hS (Nat.le_of_lt hkl) hsk hedge ok1 ok2 h hr hf
    refine ⟨fun D a x => ((∀ j, k ≤ j → D j = false) ∧ Inv D a x) ∨ (∀ j, j < k + 1 → D j = true) ∧ ∃ Inv', Goes P ops (k + 1) Q Inv' ∧ Inv' D a x, ⟨?_, ?_⟩, Or.inl ⟨fun j hj => by simp; omega, h0⟩⟩
    · intro i o ho D a x hadm hD hI
      rcases hI with ⟨hno, hI⟩ | ⟨hyes, Inv', hG, hI⟩
      · by_cases hik : i < k
        · have hsi : s ≤ i := by
            rcases Nat.lt_or_ge i s with h1 | h1
            · have := hD i h1
              rw [hadm.un] at this
              cases this
            · exact h1
          have hst := hs i o ho hsi hik D a x hadm hI
          have hsD : ∀ j, k ≤ j → setD D i j = false := fun j hj => by
            unfold setD
            rw [hno j hj, Bool.or_false, beq_eq_false_iff_ne]
            omega
          split at hst
          · rename_i hw
            rw [if_pos hw]
            exact upon4_mono (fun v x' h => Or.inl ⟨hsD, h⟩) hst
          · rename_i hw
            rw [if_neg hw]
            exact Or.inl ⟨hsD, hst⟩
        · have hi : i < ops.length := lt_of_get ho
          have hik' : i = k := by
            rcases Nat.lt_or_ge k i with h1 | h1
            · have h2 := hadm.aheadT (hw2 i hi h1)
              rw [hno k (Nat.le_refl _)] at h2
              cases h2
            · omega
          subst hik'
          have hall : ∀ j, j < i → D j = true := fun j hj => hadm.aheadT (hw1 j hj)
          obtain ⟨f', bl', nn', c', hbar, hr', hf', rfl⟩ := hend D a x hall hI
          rw [ho] at hbar
          have hbar : barK T S N (ops.map (·.dst)) o f' bl' nn' fun f bl nn => segK T S N ops (i + 1) cs f bl nn K := hbar
          have hsD : ∀ j, j < i + 1 → setD D i j = true := fun j hj => by
            unfold setD
            by_cases h1 : j = i
            · subst h1; simp
            · rw [hall j (by omega), Bool.or_true]
          have hDeq : setD D i = fun j => decide (j < i + 1) := by
            funext j
            rcases Nat.lt_or_ge j (i + 1) with h1 | h1
            · rw [hsD j h1, decide_eq_true h1]
            · rw [decide_eq_false (by omega)]
              unfold setD
              rw [hno j (by omega), Bool.or_false, beq_eq_false_iff_ne]
              omega
          have next : ∀ a x, Sat w0 F0 N (fun f bl nn => segK T S N ops (i + 1) cs f bl nn K) a x → ((∀ j, i ≤ j → setD D i j = false) ∧ Inv (setD D i) a x) ∨ (∀ j, j < i + 1 → setD D i j = true) ∧ ∃ Inv', Goes P ops (i + 1) Q Inv' ∧ Inv' (setD D i) a x := fun a x hsat => by
            obtain ⟨f2, bl2, nn2, c2, hk2, hr2, hf2, rfl⟩ := hsat
            obtain ⟨Inv', hG, hI'⟩ := seg_sound hT hS htop hedge hQ cs (i + 1) f2 bl2 nn2 c2 a hkl ok7 hk2 hr2 hf2
            exact Or.inr ⟨hsD, Inv', hG, by rw [hDeq]; exact hI'⟩
          unfold barK at hbar
          rcases guardK_sound (ops := ops) hbar hf' with ⟨hw, f3, h3, hf3⟩ | ⟨hw, f3, h3, hf3⟩
          · rw [if_pos hw]
            exact upon4_mono (fun v x' h => next _ _ h) (oneK_sound hT hS h3 hr' hf3 htop)
          · rw [if_neg (by rw [hw]; decide)]
            obtain ⟨f4, h4, hf4⟩ := putK_sound h3 hf3 (und_ok c')
            exact next _ _ ⟨f4, bl', nn', c', h4, hr', hf4, rfl⟩
      · have hst := hG.step i o ho D a x hadm hyes hI
        have hsD : ∀ j, j < k + 1 → setD D i j = true := fun j hj => by
          unfold setD
          rw [hyes j hj, Bool.or_true]
        split at hst
        · rename_i hw
          rw [if_pos hw]
          exact upon4_mono (fun v x' h => Or.inr ⟨hsD, Inv', hG, h⟩) hst
        · rename_i hw
          rw [if_neg hw]
          exact Or.inr ⟨hsD, Inv', hG, hst⟩
    · intro D a x hD hI
      rcases hI with ⟨hno, hI⟩ | ⟨hyes, Inv', hG, hI⟩
      · have h1 := hD k hkl
        rw [hno k (Nat.le_refl _)] at h1
        cases h1
      · exact hG.fin D a x hD hI

theorem draw_seg (hT : TabOk P T) (hS : SpecsOk P S) (htop : T.top = true → ∀ b e, F0.c.E.F b e → b < w0.heap.size) {id : Nat} {cs : List Nat} {f : Fr} {bl : List V} {nn : NS} {K : Fr → List V → NS → Prop} {c : Cx} {a : Act} (hok : (okRegion ops && segOk ops 0 cs) = true) (h : segK T S N ops 0 cs f bl nn K) (hr : Real w0 F0 bl nn c) (hf : FR N c f a)
    {Q : Exit → Act → World → Prop} (hQ : ∀ a x, Sat w0 F0 N K a x → Q .normal a x) : (Code.region id ops.toArray true).wp P Q a c.x := by
  rw [Bool.and_eq_true] at hok
  obtain ⟨r1, l1⟩ := real_drew hr
  obtain ⟨Inv, hG, h0⟩ := seg_sound (Q := fun a x => Q .normal a x) hT hS htop (fun i o ho => ok_edges hok.1 ho) hQ cs 0 f bl nn _ a (Nat.zero_le _) hok.2 h r1 (hf.mono l1)
  exact wp_region_inv Inv hT.mix hok.1 h0 (fun i o ho D a x hadm hI => hG.step i o ho D a x hadm (fun j hj => absurd hj (Nat.not_lt_zero _)) hI) hG.fin
end
end Go.Proofs.YtjbbgpacijageabGreat.M

/- A region that draws its order, with operations that all ahead come before, and all behind come after but for some that only read. No program is named here. -/
namespace Go.Proofs.YtjbbgpacijageabGreat.M
open Go.RowKit
set_option linter.unusedVariables false
set_option linter.unusedSimpArgs false

/-- What comes of operations that only read. -/
abbrev Ex := List (Nat × SV)
def exL : Ex → Nat → Option SV
  | [], _ => none
  | (j, v) :: r, i => match Nat.beq i j with | true => some v | false => exL r i
def partL (keep : Nat → Bool) : Nat → List Oper → List Oper
  | _, [] => []
  | i, o :: l => (match keep i with | true => o | false => dumOp o) :: partL keep (i + 1) l
theorem partL_len (keep : Nat → Bool) : ∀ (i : Nat) (l : List Oper), (partL keep i l).length = l.length
  | _, [] => rfl
  | i, o :: l => by simp [partL, partL_len keep (i + 1) l]
theorem partL_get (keep : Nat → Bool) : ∀ (i : Nat) (l : List Oper) (j : Nat), (partL keep i l)[j]? = (l[j]?).map fun o => if keep (i + j) = true then o else dumOp o
  | _, [], j => by simp [partL]
  | i, o :: l, 0 => by
    simp only [partL, List.getElem?_cons_zero, Option.map_some, Nat.add_zero]
    cases keep i <;> rfl
  | i, o :: l, j + 1 => by
    simp only [partL, List.getElem?_cons_succ]
    rw [partL_get keep (i + 1) l j, show i + 1 + j = i + (j + 1) from by omega]
theorem partL_waits (keep : Nat → Bool) (l : List Oper) (k i : Nat) : waitsB (partL keep 0 l) k i = waitsB l k i := by
  unfold waitsB
  rw [partL_get]
  cases l[k]? with
  | none => rfl
  | some o => simp only [Option.map_some]; split <;> rfl
/-- Only read. -/
structure Pure (out : Out) : Prop where
  ef : out.ef = .none
  m : out.m = 0
  q : out.q = false
  cr : out.cr = false
/-- Is it as it should be? -/
def chkK (pu : Nat → Bool) (ex : Ex) (i : Nat) (v : SV) (ef : Ef) (q cr : Bool) (p : Prop) : Prop :=
  match pu i with
  | false => p
  | true => match ef, q, cr with
    | .none, false, false => match exL ex i with
      | none => p
      | some w => Need (v = w) p
    | _, _, _ => False
theorem chkK_sound {pu : Nat → Bool} {ex : Ex} {i : Nat} {v : SV} {ef : Ef} {q cr : Bool} {p : Prop} (h : chkK pu ex i v ef q cr p) : p ∧ (pu i = true → (ef = .none ∧ q = false ∧ cr = false) ∧ ∀ w, exL ex i = some w → v = w) := by
  unfold chkK at h
  split at h
  · rename_i hp
    exact ⟨h, fun h1 => by rw [hp] at h1; cases h1⟩
  · split at h
    · split at h
      · rename_i he
        exact ⟨h, fun _ => ⟨⟨rfl, rfl, rfl⟩, fun w hw => by rw [he] at hw; cases hw⟩⟩
      · rename_i w he
        exact ⟨h.r, fun _ => ⟨⟨rfl, rfl, rfl⟩, fun w' hw => by rw [he] at hw; cases hw; exact h.l⟩⟩
    · exact h.elim
def drxK (T : Tab) (S : List (Nat × Spec)) (N : Nat) (ops : List Oper) (ds : List (Option Tmp)) (pu : Nat → Bool) (ex : Ex) : Nat → List Oper → List Lg → Fr → List V → NS → (Fr → List V → NS → Prop) → Prop
  | _, [], lg, f, bl, nn, K => Need ((okLog ops lg.reverse && okCr lg) = true) (K f bl nn)
  | i, o :: r, lg, f, bl, nn, K => guardK ds o.guard f
      (fun f => opK T S o f bl nn.n fun
        | ⟨v, ef, m, rd, q, cr⟩ => chkK pu ex i v ef q cr (efK bl ef fun bl' => lenK bl 0 fun n => putK N o.dst v f fun f' => addK nn cr m fun nn' => drxK T S N ops ds pu ex (i + 1) r (⟨rd ++ efW n ef, efW n ef, q, cr⟩ :: lg) f' bl' nn' K))
      (fun f => chkK pu ex i und .none false false (putK N o.dst und f fun f' => drxK T S N ops ds pu ex (i + 1) r (⟨[], [], false, false⟩ :: lg) f' bl nn K))
section
variable {P : Program} {T : Tab} {S : List (Nat × Spec)} {w0 : World} {F0 : Old} {N : Nat}
theorem drx_tr (hT : TabOk P T) (hS : SpecsOk P S) {ops : List Oper} {pu : Nat → Bool} {ex : Ex} {K : Fr → List V → NS → Prop} : ∀ (l : List Oper) (i0 : Nat) (lg : List Lg) (f : Fr) (bl : List V) (nn : NS), drxK T S N ops (ops.map (·.dst)) pu ex i0 l lg f bl nn K →
    ∃ t : Tr P w0 F0 N ops, t.f 0 = f ∧ t.b 0 = bl ∧ t.n 0 = nn.n ∧ (∀ i o, l[i]? = some o → t.At i o ∧ (pu (i0 + i) = true → Pure (t.o i) ∧ ∀ w, exL ex (i0 + i) = some w → (t.o i).r = w)) ∧ K (t.f l.length) (t.b l.length) ⟨t.n l.length, nn.tk⟩ ∧ okLog ops (lg.reverse ++ (List.range l.length).map t.lg) = true ∧ okCr (lg.reverse ++ (List.range l.length).map t.lg) = true
  | [], i0, lg, f, bl, nn, h => by
    obtain ⟨h1, h2⟩ := h
    rw [Bool.and_eq_true] at h1
    exact ⟨⟨fun _ => f, fun _ => bl, fun _ => nn.n, fun _ => ⟨und, .none, 0, [], false, false⟩⟩, rfl, rfl, rfl, fun i o hi => by simp at hi, h2, by simpa using h1.1, by simpa [okCr] using h1.2⟩
  | o :: r, i0, lg, f, bl, nn, h => by
    unfold drxK at h
    have shift : ∀ (out : Out) (f1 : Fr), (∀ u, look f1 u = if o.dst = some u then some out.r else look f u) → (∀ d, o.dst = some d → d < N) → (∀ j y, out.ef = .set j y → j < bl.length) → (out.cr = false → out.m = 0) →
        (((∀ (E : Env) (a : Act), (∀ t s, t ∈ o.looksAt ops.toArray → look f t = some s → a.tmps[t]? = some (s.val E)) → Region.wanted o (yielded ops.toArray a.tmps) = true) ∧ Does P w0 F0 o f (fun j => bl[j]?) bl.length nn.n out) ∨
          ((∀ (E : Env) (a : Act), (∀ t s, t ∈ o.looksAt ops.toArray → look f t = some s → a.tmps[t]? = some (s.val E)) → Region.wanted o (yielded ops.toArray a.tmps) = false) ∧ out = ⟨und, .none, 0, [], false, false⟩)) →
        (pu i0 = true → Pure out ∧ ∀ w, exL ex i0 = some w → out.r = w) →
        drxK T S N ops (ops.map (·.dst)) pu ex (i0 + 1) r (⟨out.rd ++ efW bl.length out.ef, efW bl.length out.ef, out.q, out.cr⟩ :: lg) f1 (efB bl out.ef) ⟨nn.n + out.m, nn.tk⟩ K →
        ∃ t : Tr P w0 F0 N ops, t.f 0 = f ∧ t.b 0 = bl ∧ t.n 0 = nn.n ∧ (∀ i o', (o :: r)[i]? = some o' → t.At i o' ∧ (pu (i0 + i) = true → Pure (t.o i) ∧ ∀ w, exL ex (i0 + i) = some w → (t.o i).r = w)) ∧ K (t.f (r.length + 1)) (t.b (r.length + 1)) ⟨t.n (r.length + 1), nn.tk⟩ ∧ okLog ops (lg.reverse ++ (List.range (r.length + 1)).map t.lg) = true ∧ okCr (lg.reverse ++ (List.range (r.length + 1)).map t.lg) = true := by
      intro out f1 hl hd hset hcr hway hpu hrest
      obtain ⟨t, e1, e2, e3, e4, e5, e6, e7⟩ := drx_tr hT hS r (i0 + 1) _ f1 _ _ hrest
      let t' : Tr P w0 F0 N ops := ⟨fun i => match i with | 0 => f | i + 1 => t.f i, fun i => match i with | 0 => bl | i + 1 => t.b i, fun i => match i with | 0 => nn.n | i + 1 => t.n i, fun i => match i with | 0 => out | i + 1 => t.o i⟩
      have hlg : (List.range (r.length + 1)).map t'.lg = ⟨out.rd ++ efW bl.length out.ef, efW bl.length out.ef, out.q, out.cr⟩ :: (List.range r.length).map t.lg := by
        rw [List.range_succ_eq_map, List.map_cons, List.map_map]
        rfl
      refine ⟨t', rfl, rfl, rfl, fun i o' hi => ?_, e5, ?_, ?_⟩
      · cases i with
        | zero =>
          have : o = o' := by simpa using hi
          subst this
          refine ⟨⟨fun u => ?_, hd, ?_, ?_, hset, hcr, hway⟩, hpu⟩
          · show look (t.f 0) u = _
            rw [e1]; exact hl u
          · show t.b 0 = _
            rw [e2]
          · show t.n 0 = _
            rw [e3]
        | succ i =>
          obtain ⟨this, h9⟩ := e4 i o' (by simpa using hi)
          refine ⟨⟨this.look, this.dst, this.bl, this.nn, this.set, this.cr, this.way⟩, ?_⟩
          rw [show i0 + (i + 1) = i0 + 1 + i from by omega]
          exact h9
      · rw [hlg]
        rw [List.reverse_cons, List.append_assoc] at e6
        exact e6
      · rw [hlg]
        rw [List.reverse_cons, List.append_assoc] at e7
        exact e7
    rcases guardK_all h with ⟨hw, f', hy, hlk⟩ | ⟨hw, f', hno, hlk⟩
    · obtain ⟨out, hk, hd⟩ := opK_sound (w0 := w0) (F0 := F0) hT hS hy
      have hk : chkK pu ex i0 out.r out.ef out.q out.cr (efK bl out.ef fun bl' => lenK bl 0 fun n => putK N o.dst out.r f' fun f'' => addK nn out.cr out.m fun nn' => drxK T S N ops (ops.map (·.dst)) pu ex (i0 + 1) r (⟨out.rd ++ efW n out.ef, efW n out.ef, out.q, out.cr⟩ :: lg) f'' bl' nn' K) := by
        cases out; exact hk
      obtain ⟨hk, hpu⟩ := chkK_sound hk
      have hset : ∀ j y, out.ef = .set j y → j < bl.length := fun j y hj => by
        rw [hj] at hk
        exact (setB_elim _ _ _ _ hk).2
      have hk := lenK_elim _ _ _ (efK_elim hk)
      rw [Nat.add_zero] at hk
      obtain ⟨f1, hk1, hl1, hd1⟩ := putK_look hk
      have hk2 : drxK T S N ops (ops.map (·.dst)) pu ex (i0 + 1) r (⟨out.rd ++ efW bl.length out.ef, efW bl.length out.ef, out.q, out.cr⟩ :: lg) f1 (efB bl out.ef) ⟨nn.n + out.m, nn.tk⟩ K := by
        cases hc : out.cr with
        | true => simp only [hc, addK] at hk1; exact hk1
        | false =>
          simp only [hc, addK] at hk1
          rw [hd.1 hc, Nat.add_zero]
          exact hk1
      refine shift out f1 (fun u => by rw [hl1 u, hlk u]) hd1 hset hd.1 (Or.inl ⟨hw, hd.congr hlk⟩) (fun hp => ?_) hk2
      obtain ⟨⟨g1, g2, g3⟩, g4⟩ := hpu hp
      exact ⟨⟨g1, hd.1 g3, g2, g3⟩, g4⟩
    · obtain ⟨hno, hpu⟩ := chkK_sound hno
      obtain ⟨f1, hk1, hl1, hd1⟩ := putK_look hno
      exact shift ⟨und, .none, 0, [], false, false⟩ f1 (fun u => by rw [hl1 u, hlk u]) hd1 (fun j y hj => by cases hj) (fun _ => rfl) (Or.inr ⟨hw, rfl⟩) (fun hp => ⟨⟨rfl, rfl, rfl, rfl⟩, (hpu hp).2⟩) hk1
end

section
variable {P : Program} {w0 : World} {F0 : Old} {N : Nat} {ops : List Oper} {t : Tr P w0 F0 N ops}
/-- At the beginning. -/
theorem dinv_init {f : Fr} {bl : List V} {nn : NS} {c : Cx} {a : Act} (e1 : t.f 0 = f) (e2 : t.b 0 = bl) (e3 : t.n 0 = nn.n) (hr : Real w0 F0 bl nn c) (hf : FR N c f a) : DInv t nn.tk (fun _ => false) a c := by
  refine ⟨hr.wf, hr.tk, fun b => ?_, fun n => ?_, fun b v hx hc => ?_, hf.size, hf.defers, fun k u _ hD => (by cases hD), fun u s _ hs => ?_⟩
  · show c.XA b ↔ _
    rw [hr.XA, e2]
    constructor
    · exact Or.inl
    · rintro (h1 | ⟨k, _, hD, _⟩)
      · exact h1
      · cases hD
  · show c.XB n ↔ _
    rw [hr.XB, e3]
    constructor
    · exact Or.inl
    · rintro (h1 | ⟨k, _, hD, _⟩)
      · exact h1
      · cases hD
  · rcases hc with ⟨k, _, hD, _⟩ | ⟨_, hc⟩
    · cases hD
    · rw [e2] at hc
      exact ⟨hr.ty b v hc, (hr.blk b v hc).1, (hr.blk b v hc).2⟩
  · rw [e1] at hs
    exact ⟨(hf.get u s hs).1, (hf.get u s hs).2⟩
theorem Pure.wr {k b : Nat} (h : Pure (t.o k)) : ¬ t.wr k b := by
  unfold Tr.wr
  rw [h.ef]
  simp [efW]
theorem Pure.isNew {k : Nat} (h : Pure (t.o k)) : ¬ t.isNew k := by
  rintro ⟨y, hy⟩
  rw [h.ef] at hy
  cases hy
/-- One that only reads was done ahead. -/
theorem dinv_early {tk : List (Hd × Nat)} {D : Nat → Bool} {a : Act} {c : Cx} (h : DInv t tk D a c) {e : Nat} (hp : Pure (t.o e)) (hs : ∀ u, dstOf ops e = some u → a.tmps[u]? = some ((t.o e).r.val c.E) ∧ (t.o e).r.ok c) : DInv t tk (setD D e) a c := by
  have hD1 : ∀ k, D k = true → setD D e k = true := fun k hk => by simp [setD, hk]
  have hD2 : ∀ k, setD D e k = true → k = e ∨ D k = true := fun k hk => by simpa [setD] using hk
  refine ⟨h.wf, h.tok, fun b => ?_, fun n => ?_, fun b v hx hc => h.blk b v hx ?_, h.size, h.defers, fun k u hk hD hd => ?_, fun u s hno hs => h.init u s (fun k hk hD => hno k hk (hD1 k hD)) hs⟩
  · rw [h.XA]
    constructor
    · rintro (h1 | ⟨k, h1, h2, h3⟩)
      · exact Or.inl h1
      · exact Or.inr ⟨k, h1, hD1 k h2, h3⟩
    · rintro (h1 | ⟨k, h1, h2, h3, h4⟩)
      · exact Or.inl h1
      · rcases hD2 k h2 with rfl | h2
        · exact absurd h3 hp.isNew
        · exact Or.inr ⟨k, h1, h2, h3, h4⟩
  · rw [h.XB]
    constructor
    · rintro (h1 | ⟨k, h1, h2, h3⟩)
      · exact Or.inl h1
      · exact Or.inr ⟨k, h1, hD1 k h2, h3⟩
    · rintro (h1 | ⟨k, h1, h2, h3, h4⟩)
      · exact Or.inl h1
      · rcases hD2 k h2 with rfl | h2
        · rw [hp.m] at h4; omega
        · exact Or.inr ⟨k, h1, h2, h3, h4⟩
  · rcases hc with ⟨k, h1, h2, h3, h4, h5⟩ | ⟨h1, h2⟩
    · rcases hD2 k h2 with rfl | h2
      · exact absurd h3 hp.wr
      · exact Or.inl ⟨k, h1, h2, h3, fun k' hk' hD' => h4 k' hk' (hD1 k' hD'), h5⟩
    · exact Or.inr ⟨fun k hk hD => h1 k hk (hD1 k hD), h2⟩
  · rcases hD2 k hD with rfl | hD
    · exact hs u hd
    · exact h.done k u hk hD hd
/-- All from there on only read. -/
theorem dinv_mid (hAt : ∀ i o, ops[i]? = some o → t.At i o) (hok : okRegion ops = true) {tk : List (Hd × Nat)} {D : Nat → Bool} {a : Act} {c : Cx} (h : DInv t tk D a c) {k : Nat} (hD : ∀ i, i < k → D i = true) (hpu : ∀ i, k ≤ i → i < ops.length → Pure (t.o i)) {g : Fr}
    (hg : ∀ u s, look g u = some s → look (t.f ops.length) u = some s ∧ ∀ i, k ≤ i → i < ops.length → dstOf ops i ≠ some u) : Real w0 F0 (t.b ops.length) ⟨t.n ops.length, tk⟩ c ∧ FR N c g a := by
  have hnew : ∀ i, i < ops.length → t.isNew i → D i = true := fun i hi hn => by
    rcases Nat.lt_or_ge i k with h1 | h1
    · exact hD i h1
    · exact absurd hn (hpu i h1 hi).isNew
  have hwr : ∀ i b, i < ops.length → t.wr i b → D i = true := fun i b hi hw => by
    rcases Nat.lt_or_ge i k with h1 | h1
    · exact hD i h1
    · exact absurd hw (hpu i h1 hi).wr
  have hxa : ∀ i, c.XA i ↔ i < (t.b ops.length).length := fun i => by
    rw [h.XA]
    constructor
    · rintro (h1 | ⟨k, hk, _, h2, h3⟩)
      · have := len_mono hAt (i := 0) (j := ops.length) (by omega) (by omega); omega
      · have h1 := len_mono hAt (i := k + 1) (j := ops.length) (by omega) (by omega)
        rcases len_step hAt (i := k) hk with ⟨h4, _⟩ | ⟨_, h4⟩
        · omega
        · exact absurd h2 h4
    · intro hlt
      rcases made hAt ops.length (Nat.le_refl _) hlt with h1 | ⟨k, h1, h2⟩
      · exact Or.inl h1
      · exact Or.inr ⟨k, h1, hnew k h1 h2.1, h2⟩
  have hcont : ∀ i v, (t.b ops.length)[i]? = some v → Cont t D i v := fun i v hv => by
    rcases lastw hAt i ops.length (Nat.le_refl _) with ⟨k, h1, h2, h3, h4⟩ | ⟨h1, h2⟩
    · exact Or.inl ⟨k, h1, hwr k i h1 h2, h2, fun k' hk' _ => h3 k' hk', by rw [h4]; exact hv⟩
    · exact Or.inr ⟨fun k hk _ => h1 k hk, by rw [h2]; exact hv⟩
  refine ⟨⟨h.wf, hxa, fun n => ?_, fun i v hv => (h.blk i v ((hxa i).2 (lt_of_get hv)) (hcont i v hv)).1, fun i v hv => (h.blk i v ((hxa i).2 (lt_of_get hv)) (hcont i v hv)).2, h.tok⟩, ⟨h.size, h.defers, fun u s hs => ?_⟩⟩
  · show c.XB n ↔ n < t.n ops.length
    rw [h.XB, names hAt n ops.length (Nat.le_refl _)]
    constructor
    · rintro (h1 | ⟨k, h1, _, h2⟩)
      · exact Or.inl h1
      · exact Or.inr ⟨k, h1, h2⟩
    · rintro (h1 | ⟨k', h1, h2, h3⟩)
      · exact Or.inl h1
      · refine Or.inr ⟨k', h1, ?_, h2, h3⟩
        rcases Nat.lt_or_ge k' k with h4 | h4
        · exact hD k' h4
        · have := (hpu k' h4 h1).m
          omega
  · obtain ⟨hs, hno⟩ := hg u s hs
    rcases slots hAt hok u ops.length (Nat.le_refl _) with ⟨k', h1, h2, h3⟩ | ⟨h1, h2⟩
    · rw [h3] at hs
      cases hs
      refine h.done k' u h1 ?_ h2
      rcases Nat.lt_or_ge k' k with h4 | h4
      · exact hD k' h4
      · exact absurd h2 (hno k' h4 h1)
    · rw [h2] at hs
      exact h.init u s (fun k hk _ => h1 k hk) hs
/-- One operation of them. -/
theorem dinv_go (hAt : ∀ i o, ops[i]? = some o → t.At i o) (hok : okRegion ops = true) (hlog : okLog ops ((List.range ops.length).map t.lg) = true) (hcr : okCr ((List.range ops.length).map t.lg) = true) {tk : List (Hd × Nat)} {i : Nat} {o : Oper} (ho : ops[i]? = some o) {D : Nat → Bool} {a : Act} {c : Cx} (hadm : Adm ops i D) (hI : DInv t tk D a c) :
    if Region.wanted o (yielded ops.toArray a.tmps) = true then upon4 P (fun v x' => ∃ c', DInv t tk (setD D i) (a.put o.dst v) c' ∧ c'.x = x') ((execOp a.eval o).run P c.x) else ∃ c', DInv t tk (setD D i) (a.put o.dst undef) c' ∧ c'.x = c.x := by
  have hi : i < ops.length := lt_of_get ho
  have ha := hAt i o ho
  have hsl : ∀ u s, u ∈ o.looksAt ops.toArray → look (t.f i) u = some s → a.tmps[u]? = some (s.val c.E) ∧ s.ok c := fun u s hu hs => dinv_slot hAt hok hI ho hadm hu hs
  rcases ha.way with ⟨hw, hd⟩ | ⟨hw, ho'⟩
  · rw [if_pos (hw c.E a fun u s hu hs => (hsl u s hu hs).1)]
    have hdo := hd.2 c a.eval hI.wf (fun y hy s hs => ?_) (fun b hb v hv => ?_) (fun hn hx => ?_) (fun hq n => ?_)
    · generalize (execOp a.eval o).run P c.x = res at hdo
      have step : ∀ v x', (∃ E, Post w0 F0 c (t.o i) (t.b i).length (t.n i) v x' E) → ∃ c', DInv t tk (setD D i) (a.put o.dst v) c' ∧ c'.x = x' := fun v x' ⟨E, hp⟩ => ⟨_, dinv_step hAt hok hlog hI ho hadm hp, rfl⟩
      cases res with
      | ok nx w' =>
        cases nx <;> simp only [upon4] at hdo ⊢
        case value u => exact step _ _ hdo
        case skip => exact step _ _ hdo
        case enter g args => exact hdo.mono fun e x' ⟨u, he, hu⟩ => ⟨u, he, step _ _ hu⟩
      | halt q w' => simp only [upon4] at hdo
    · cases y with
      | tmp u =>
        have hu : u ∈ o.looksAt ops.toArray := by
          unfold Oper.looksAt
          simp only [List.mem_append, List.mem_filterMap]
          exact Or.inl ⟨.tmp u, by simpa using hy, rfl⟩
        obtain ⟨h1, h2⟩ := hsl u s hu hs
        exact ⟨by simp only [Act.eval, Array.getD_eq_getD_getElem?, h1]; rfl, h2⟩
      | const v => cases hs; exact ⟨(constA_val _ v).symm, constA_ok _ v⟩
      | func g => cases hs; exact ⟨rfl, fun q hq => by cases hq⟩
      | global g => cases hs
    · have hbt : b ∈ (t.lg i).t := by
        show b ∈ (t.o i).rd ++ efW (t.b i).length (t.o i).ef
        rcases hb with hb | ⟨y, hy⟩
        · exact List.mem_append.2 (Or.inl hb)
        · exact List.mem_append.2 (Or.inr (by rw [hy]; simp [efW]))
      have hxa : c.XA b := by
        rw [hI.XA]
        rcases made hAt i (by omega) (lt_of_get hv) with h1 | ⟨k, h1, h2, h3⟩
        · exact Or.inl h1
        · have hwr : t.wr k b := by
            obtain ⟨y, hy⟩ := h2
            unfold Tr.wr
            rw [hy, h3]; simp [efW]
          exact Or.inr ⟨k, by omega, (dinv_touch hlog hi hadm hbt (by omega) hwr).1 h1, h2, h3⟩
      exact ⟨hxa, hI.blk b v hxa (dinv_cont hAt hlog hi hadm hbt hv)⟩
    · rcases (hI.XA _).1 hx with h1 | ⟨k, hk, hD, hnk, hb⟩
      · have := len_mono hAt (i := 0) (j := i) (by omega) (by omega); omega
      · have hki : k ≠ i := fun e => by subst e; rw [hadm.un] at hD; cases hD
        rcases Nat.lt_or_gt_of_ne hki with hlt | hlt
        · have h1 := len_mono hAt (i := k + 1) (j := i) (by omega) (by omega)
          rcases len_step hAt (i := k) hk with ⟨h2, _⟩ | ⟨_, h2⟩
          · omega
          · exact h2 hnk
        · have h1 := len_mono hAt (i := i + 1) (j := k) (by omega) (by omega)
          rcases len_step hAt (i := i) hi with ⟨h2, _⟩ | ⟨_, h2⟩
          · omega
          · exact h2 hn
    · rw [hI.XB, names hAt n i (by omega)]
      have hcrk : ∀ k, k < ops.length → t.n k ≤ n → n < t.n k + (t.o k).m → (t.o k).cr = true := fun k hk h1 h2 => by
        obtain ⟨o', _, ha'⟩ := at_of hAt hk
        cases hc : (t.o k).cr with
        | true => rfl
        | false => have := ha'.cr hc; omega
      have hclash : ∀ k, k < ops.length → (t.o k).cr = true → clash (t.lg k) (t.lg i) = true ∧ clash (t.lg i) (t.lg k) = true := fun k hk hc => by
        have hqk := cr_q hcr hk hc
        unfold clash
        have h1 : (t.lg k).q = true := hqk
        have h2 : (t.lg i).q = true := hq
        have h3 : (t.lg k).cr = true := hc
        rw [h1, h2, h3]
        simp
      constructor
      · rintro (h1 | ⟨k, h1, h2, h3, h4⟩)
        · exact Or.inl h1
        · refine Or.inr ⟨k, ?_, h3, h4⟩
          have hc := hcrk k h1 h3 h4
          rcases Nat.lt_trichotomy k i with h | h | h
          · exact h
          · subst h; rw [hadm.un] at h2; cases h2
          · exfalso
            have := hadm.behindT (log_waits hlog h h1 (hclash k h1 hc).2)
            rw [this] at h2; cases h2
      · rintro (h1 | ⟨k, h1, h3, h4⟩)
        · exact Or.inl h1
        · have hk : k < ops.length := by omega
          have hc := hcrk k hk h3 h4
          exact Or.inr ⟨k, hk, hadm.aheadT (log_waits hlog h1 hi (hclash k hk hc).1), h3, h4⟩
  · rw [if_neg (by rw [hw c.E a fun u s hu hs => (hsl u s hu hs).1]; exact Bool.false_ne_true)]
    have hp : Post w0 F0 c (t.o i) (t.b i).length (t.n i) undef c.x c.E := by
      rw [ho']
      exact post_val hI.wf (und_ok c)
    exact ⟨_, dinv_step hAt hok hlog hI ho hadm hp, rfl⟩
end

def dropK : List Nat → Fr → (Fr → Prop) → Prop
  | _, [], k => k []
  | ts, (t, s) :: r, k => match inN ts t with
    | true => dropK ts r k
    | false => dropK ts r fun g => k ((t, s) :: g)
theorem dropK_elim (ts : List Nat) : ∀ (f : Fr) (k : Fr → Prop), dropK ts f k → ∃ g, k g ∧ ∀ u s, look g u = some s → inN ts u = false ∧ look f u = some s
  | [], k, h => ⟨[], h, fun u s hu => by cases hu⟩
  | (t, s) :: r, k, h => by
    unfold dropK at h
    split at h
    · rename_i hin
      obtain ⟨g, h1, h2⟩ := dropK_elim ts r k h
      refine ⟨g, h1, fun u v hu => ?_⟩
      obtain ⟨h3, h4⟩ := h2 u v hu
      exact ⟨h3, by rw [look_ne (fun e => by rw [e, hin] at h3; cases h3)]; exact h4⟩
    · rename_i hin
      obtain ⟨g, h1, h2⟩ := dropK_elim ts r _ h
      refine ⟨_, h1, fun u v hu => ?_⟩
      by_cases hut : u = t
      · subst hut
        have e : ∀ (r : Fr), look ((u, s) :: r) u = some s := fun r => by
          show (match Nat.beq u u with | true => some s | false => look r u) = some s
          rw [Nat.beq_refl]
        rw [e] at hu
        cases hu
        exact ⟨hin, e r⟩
      · rw [look_ne hut] at hu
        obtain ⟨h3, h4⟩ := h2 u v hu
        exact ⟨h3, by rw [look_ne hut]; exact h4⟩
def exK (ds : List (Option Tmp)) (f : Fr) : List Nat → (Ex → List Nat → Prop) → Prop
  | [], k => k [] []
  | e :: r, k => match nthT ds e with
    | some u => match look f u with
      | some v => exK ds f r fun x ts => k ((e, v) :: x) (u :: ts)
      | none => False
    | none => False
theorem exK_elim {ops : List Oper} {f : Fr} : ∀ (fl : List Nat) (k : Ex → List Nat → Prop), exK (ops.map (·.dst)) f fl k → ∃ x ts, k x ts ∧ (∀ e v, exL x e = some v → e ∈ fl ∧ ∃ u, dstOf ops e = some u ∧ look f u = some v) ∧ (∀ e, e ∈ fl → ∃ v, exL x e = some v) ∧ ∀ e, e ∈ fl → ∀ u, dstOf ops e = some u → inN ts u = true
  | [], k, h => ⟨[], [], h, fun e v he => (by cases he), fun e he => (by cases he), fun e he => (by cases he)⟩
  | e :: r, k, h => by
    unfold exK at h
    split at h
    · rename_i u hu
      split at h
      · rename_i v hv
        obtain ⟨x, ts, h1, h2, h3, h4⟩ := exK_elim r _ h
        have hd : dstOf ops e = some u := by
          rw [nthT_eq, List.getElem?_map] at hu
          unfold dstOf
          cases ho : ops[e]? with
          | none => rw [ho] at hu; cases hu
          | some o => rw [ho] at hu; simpa using hu
        refine ⟨_, _, h1, fun e' v' he => ?_, fun e' he => ?_, fun e' he u' hu' => ?_⟩
        · unfold exL at he
          split at he
          · rename_i hb
            have := Nat.eq_of_beq_eq_true hb
            subst this
            cases he
            exact ⟨by simp, u, hd, hv⟩
          · obtain ⟨g1, g2⟩ := h2 e' v' he
            exact ⟨List.mem_cons_of_mem _ g1, g2⟩
        · unfold exL
          split
          · exact ⟨v, rfl⟩
          · rename_i hb
            rcases List.mem_cons.1 he with rfl | he
            · simp at hb
            · exact h3 e' he
        · unfold inN
          split
          · rfl
          · rename_i hb
            rcases List.mem_cons.1 he with rfl | he
            · rw [hd] at hu'
              cases hu'
              simp at hb
            · exact h4 e' he u' hu'
      · exact h.elim
    · exact h.elim
def inX (ex : Ex) (i : Nat) : Bool := match exL ex i with | some _ => true | none => false
theorem inX_of {ex : Ex} {i : Nat} {v : SV} (h : exL ex i = some v) : inX ex i = true := by unfold inX; rw [h]
def keepA (s i : Nat) : Bool := Nat.ble s i
def keepB (s k : Nat) (fl : List Nat) (i : Nat) : Bool := (Nat.ble s i && Nat.ble (i + 1) k) || inN fl i
def grdX (keep : Nat → Bool) (ops : List Oper) : Bool := (List.range ops.length).all fun i => !keep i || (match ops[i]? with | some o => (match o.guard with | none => true | some (j, _) => keep j) | none => true)
def segXok (ops : List Oper) : Nat → List Nat → List (Nat × List Nat) → Bool
  | s, _, [] => okRegion (partL (keepA s) 0 ops) && grdX (keepA s) ops
  | s, xs, (k, fl) :: cs => okRegion (partL (keepB s k fl) 0 ops) && (grdX (keepB s k fl) ops && (Nat.ble s k && (Nat.ble (k + 1) ops.length && ((List.range k).all (fun i => waitsD ops k i) && ((List.range ops.length).all (fun j => Nat.ble j k || (inN fl j || waitsD ops j k)) &&
      (fl.all (fun j => Nat.ble (k + 1) j) && (xs.all (fun j => Nat.ble (j + 1) k || inN fl j) && segXok ops (k + 1) fl cs)))))))
def segX (T : Tab) (S : List (Nat × Spec)) (N : Nat) (ops : List Oper) : Nat → Ex → List (Nat × List Nat) → Fr → List V → NS → (Fr → List V → NS → Prop) → Prop
  | s, ex, [], f, bl, nn, K => drxK T S N (partL (keepA s) 0 ops) ((partL (keepA s) 0 ops).map (·.dst)) (fun i => !keepA s i || inX ex i) ex 0 (partL (keepA s) 0 ops) [] f bl nn K
  | s, ex, (k, fl) :: cs, f, bl, nn, K => drxK T S N (partL (keepB s k fl) 0 ops) ((partL (keepB s k fl) 0 ops).map (·.dst)) (fun i => !keepB s k fl i || (inN fl i || inX ex i)) ex 0 (partL (keepB s k fl) 0 ops) [] f bl nn fun f bl nn =>
      match ops[k]? with
      | some o => match o.guard with
        | none => exK (ops.map (·.dst)) f fl fun ex' ts => dropK ts f fun g => match leOp T S o g with
          | true => oneK T S N o g bl nn fun f bl nn => segX T S N ops (k + 1) ex' cs f bl nn K
          | false => False
        | some _ => False
      | none => False

section
variable {P : Program} {T : Tab} {S : List (Nat × Spec)} {w0 : World} {F0 : Old} {N : Nat} {ops : List Oper}
theorem inN_iff {l : List Nat} {n : Nat} : inN l n = true ↔ n ∈ l := ⟨mem_inN l n, fun h => by
  cases hb : inN l n with
  | true => rfl
  | false => exact absurd h (inN_mem l n hb)⟩
theorem partL_dst {keep : Nat → Bool} {i u : Nat} (h : dstOf (partL keep 0 ops) i = some u) : keep i = true ∧ dstOf ops i = some u := by
  unfold dstOf at h ⊢
  rw [partL_get, Nat.zero_add] at h
  cases ho : ops[i]? with
  | none => rw [ho] at h; cases h
  | some o =>
    rw [ho] at h
    simp only [Option.map_some, Option.bind_some] at h ⊢
    split at h
    · rename_i hk
      exact ⟨hk, h⟩
    · cases h
theorem partL_dst' {keep : Nat → Bool} {i u : Nat} (hk : keep i = true) (h : dstOf ops i = some u) : dstOf (partL keep 0 ops) i = some u := by
  unfold dstOf at h ⊢
  rw [partL_get, Nat.zero_add]
  cases ho : ops[i]? with
  | none => rw [ho] at h; cases h
  | some o =>
    rw [ho] at h
    simp only [Option.map_some, Option.bind_some] at h ⊢
    rw [if_pos hk]
    exact h
theorem dinv_set {t : Tr P w0 F0 N ops} {tk : List (Hd × Nat)} {D : Nat → Bool} {a : Act} {c : Cx} (h : DInv t tk (fun _ => false) a c) (hp : ∀ e, e < ops.length → D e = true → Pure (t.o e) ∧ ∀ u, dstOf ops e = some u → a.tmps[u]? = some ((t.o e).r.val c.E) ∧ (t.o e).r.ok c) : DInv t tk D a c := by
  refine ⟨h.wf, h.tok, fun b => ?_, fun n => ?_, fun b v hx hc => h.blk b v hx ?_, h.size, h.defers, fun k u hk hD hd => (hp k hk hD).2 u hd, fun u s _ hs => h.init u s (fun k _ hD => by cases hD) hs⟩
  · rw [h.XA]
    constructor
    · rintro (h1 | ⟨k, _, hD, _⟩)
      · exact Or.inl h1
      · cases hD
    · rintro (h1 | ⟨k, h1, h2, h3, _⟩)
      · exact Or.inl h1
      · exact absurd h3 (hp k h1 h2).1.isNew
  · rw [h.XB]
    constructor
    · rintro (h1 | ⟨k, _, hD, _⟩)
      · exact Or.inl h1
      · cases hD
    · rintro (h1 | ⟨k, h1, h2, h3, h4⟩)
      · exact Or.inl h1
      · have := (hp k h1 h2).1.m
        omega
  · rcases hc with ⟨k, h1, h2, h3, _⟩ | ⟨_, h2⟩
    · exact absurd h3 (hp k h1 h2).1.wr
    · exact Or.inr ⟨fun k _ hD => (by cases hD), h2⟩
theorem wanted_keep {keep : Nat → Bool} (hg : grdX keep ops = true) {i : Nat} {o : Oper} (ho : ops[i]? = some o) (hk : keep i = true) (tmps : Array Value) : Region.wanted o (yielded (partL keep 0 ops).toArray tmps) = Region.wanted o (yielded ops.toArray tmps) := by
  unfold Region.wanted
  cases h : o.guard with
  | none => rfl
  | some q =>
    obtain ⟨j, w⟩ := q
    have hi : i < ops.length := lt_of_get ho
    have h1 := List.all_eq_true.1 hg i (List.mem_range.2 hi)
    rw [hk, ho] at h1
    simp only [h, Bool.not_true, Bool.false_or] at h1
    have : yielded (partL keep 0 ops).toArray tmps j = yielded ops.toArray tmps j := by
      unfold yielded
      have e : (partL keep 0 ops).toArray[j]? = ops.toArray[j]? := by
        simp only [List.getElem?_toArray]
        rw [partL_get, Nat.zero_add, h1]
        cases ops[j]? with
        | none => rfl
        | some o => simp
      rw [e]
    simp only [this]
theorem Adm.part {keep : Nat → Bool} {i : Nat} {D : Nat → Bool} (h : Adm ops i D) : Adm (partL keep 0 ops) i D :=
  ⟨h.un, fun k hk => h.ahead k (by rw [← partL_waits keep]; exact hk), fun k hk => h.behind k (by rw [← partL_waits keep]; exact hk), fun k j hk hj => h.closed k j hk (by rw [← partL_waits keep]; exact hj)⟩
/-- What goes on in a part. -/
theorem part_go {keep : Nat → Bool} {t : Tr P w0 F0 N (partL keep 0 ops)} (hAt : ∀ i o, (partL keep 0 ops)[i]? = some o → t.At i o) (hok : okRegion (partL keep 0 ops) = true) (hgr : grdX keep ops = true) (hlog : okLog (partL keep 0 ops) ((List.range (partL keep 0 ops).length).map t.lg) = true) (hcr : okCr ((List.range (partL keep 0 ops).length).map t.lg) = true) {tk : List (Hd × Nat)}
    {i : Nat} {o : Oper} (ho : ops[i]? = some o) (hk : keep i = true) {D : Nat → Bool} {a : Act} {x : World} (hadm : Adm ops i D) (hI : ∃ c, DInv t tk D a c ∧ c.x = x) :
    if Region.wanted o (yielded ops.toArray a.tmps) = true then upon4 P (fun v x' => ∃ c', DInv t tk (setD D i) (a.put o.dst v) c' ∧ c'.x = x') ((execOp a.eval o).run P x) else ∃ c', DInv t tk (setD D i) (a.put o.dst undef) c' ∧ c'.x = x := by
  obtain ⟨c, hI, rfl⟩ := hI
  have ho' : (partL keep 0 ops)[i]? = some o := by
    rw [partL_get, ho, Nat.zero_add]
    simp [hk]
  have := dinv_go hAt hok hlog hcr ho' hadm.part hI
  rw [wanted_keep hgr ho hk] at this
  exact this

theorem segX_sound (hT : TabOk P T) (hS : SpecsOk P S) (htop : T.top = true → ∀ b e, F0.c.E.F b e → b < w0.heap.size) (hokO : okRegion ops = true) {K : Fr → List V → NS → Prop} {Q : Act → World → Prop} (hQ : ∀ a x, Sat w0 F0 N K a x → Q a x) :
    ∀ (cs : List (Nat × List Nat)) (s : Nat) (xs : List Nat) (ex : Ex) (f : Fr) (bl : List V) (nn : NS) (c : Cx) (a : Act), s ≤ ops.length → segXok ops s xs cs = true → (∀ e v, exL ex e = some v → e ∈ xs) → segX T S N ops s ex cs f bl nn K → Real w0 F0 bl nn c → FR N c f a →
      ∃ Inv, Goes P ops s Q Inv ∧ ∀ E : Nat → Bool, (∀ e, E e = true → ∃ v, exL ex e = some v ∧ ∀ u, dstOf ops e = some u → a.tmps[u]? = some (v.val c.E) ∧ v.ok c) → Inv (fun i => decide (i < s) || E i) a c.x
  | [], s, xs, ex, f, bl, nn, c, a, hsl, hok, hxs, h, hr, hf => by
    unfold segXok at hok
    rw [Bool.and_eq_true] at hok
    unfold segX at h
    obtain ⟨t, e1, e2, e3, hAt, hK, hlog, hcr⟩ := drx_tr (w0 := w0) (F0 := F0) hT hS _ 0 [] f bl nn h
    rw [List.reverse_nil, List.nil_append] at hlog hcr
    have hA : ∀ i o, (partL (keepA s) 0 ops)[i]? = some o → t.At i o := fun i o ho => (hAt i o ho).1
    have hlen := partL_len (keepA s) 0 ops
    have hget : ∀ i, i < ops.length → ∃ o, (partL (keepA s) 0 ops)[i]? = some o := fun i hi => ⟨_, List.getElem?_eq_getElem (by rw [hlen]; exact hi)⟩
    have hpu : ∀ i, i < ops.length → (!keepA s i || inX ex i) = true → Pure (t.o i) ∧ ∀ w, exL ex i = some w → (t.o i).r = w := fun i hi hp => by
      obtain ⟨o, ho⟩ := hget i hi
      have := (hAt i o ho).2
      rw [Nat.zero_add] at this
      exact this hp
    refine ⟨fun D a x => ∃ c, DInv t nn.tk D a c ∧ c.x = x, ⟨fun i o ho D a x hadm hD hI => ?_, fun D a x hD hI => ?_⟩, fun E hE => ⟨c, dinv_set (dinv_init e1 e2 e3 hr hf) (fun e he hDe => ?_), rfl⟩⟩
    · have hsi : keepA s i = true := Nat.ble_eq_true_of_le (by
        rcases Nat.lt_or_ge i s with h1 | h1
        · have := hD i h1
          rw [hadm.un] at this
          cases this
        · exact h1)
      exact part_go hA hok.1 hok.2 hlog hcr ho hsi hadm hI
    · obtain ⟨c', hI, rfl⟩ := hI
      obtain ⟨r1, r2⟩ := dinv_mid hA hok.1 hI (k := (partL (keepA s) 0 ops).length) (fun i hi => hD i (by rw [← hlen]; exact hi)) (fun i h1 h2 => by omega) (g := t.f (partL (keepA s) 0 ops).length) (fun u v hu => ⟨hu, fun i h1 h2 => by omega⟩)
      exact hQ a _ ⟨_, _, _, c', hK, r1, r2, rfl⟩
    · rw [hlen] at he
      have hpe : (!keepA s e || inX ex e) = true := by
        rw [Bool.or_eq_true] at hDe ⊢
        rcases hDe with h1 | h1
        · left
          have h1 := of_decide_eq_true h1
          cases hb : keepA s e with
          | false => rfl
          | true => have := Nat.le_of_ble_eq_true hb; omega
        · obtain ⟨v, hv, _⟩ := hE e h1
          exact Or.inr (inX_of hv)
      obtain ⟨p1, p2⟩ := hpu e he hpe
      refine ⟨p1, fun u hu => ?_⟩
      obtain ⟨g1, g2⟩ := partL_dst hu
      rw [Bool.or_eq_true] at hDe
      rcases hDe with h1 | h1
      · have h1 := of_decide_eq_true h1
        have := Nat.le_of_ble_eq_true g1
        omega
      · obtain ⟨v, hv, hs⟩ := hE e h1
        rw [p2 v hv]
        exact hs u g2
  | (k, fl) :: cs, s, xs, ex, f, bl, nn, c, a, hsl, hok, hxs, h, hr, hf => by
    unfold segXok at hok
    simp only [Bool.and_eq_true] at hok
    obtain ⟨ok1, ok2, ok3, ok4, ok5, ok6, ok7, ok8, ok9⟩ := hok
    have hsk := Nat.le_of_ble_eq_true ok3
    have hkl : k < ops.length := Nat.le_of_ble_eq_true ok4
    have hw1 : ∀ i, i < k → waitsT ops ops.length k i = true := fun i hi => waitsD_T (List.all_eq_true.1 ok5 i (List.mem_range.2 hi))
    have hw2 : ∀ j, j < ops.length → k < j → inN fl j = false → waitsT ops ops.length j k = true := fun j hj hkj hn => by
      have := List.all_eq_true.1 ok6 j (List.mem_range.2 hj)
      rw [hn, Bool.false_or, Bool.or_eq_true] at this
      rcases this with h1 | h1
      · have := Nat.le_of_ble_eq_true h1; omega
      · exact waitsD_T h1
    have hfl : ∀ j, j ∈ fl → k < j := fun j hj => Nat.le_of_ble_eq_true (List.all_eq_true.1 ok7 j hj)
    unfold segX at h
    obtain ⟨t, e1, e2, e3, hAt, hK, hlog, hcr⟩ := drx_tr (w0 := w0) (F0 := F0) hT hS _ 0 [] f bl nn h
    rw [List.reverse_nil, List.nil_append] at hlog hcr
    have hA : ∀ i o, (partL (keepB s k fl) 0 ops)[i]? = some o → t.At i o := fun i o ho => (hAt i o ho).1
    have hlen := partL_len (keepB s k fl) 0 ops
    have hget : ∀ i, i < ops.length → ∃ o, (partL (keepB s k fl) 0 ops)[i]? = some o := fun i hi => ⟨_, List.getElem?_eq_getElem (by rw [hlen]; exact hi)⟩
    have hpu : ∀ i, i < ops.length → (!keepB s k fl i || (inN fl i || inX ex i)) = true → Pure (t.o i) ∧ ∀ w, exL ex i = some w → (t.o i).r = w := fun i hi hp => by
      obtain ⟨o, ho⟩ := hget i hi
      have := (hAt i o ho).2
      rw [Nat.zero_add] at this
      exact this hp
    have hnk : ∀ i, (i < s ∨ k ≤ i) → inN fl i = false → keepB s k fl i = false := fun i hi hn => by
      unfold keepB
      rw [hn, Bool.or_false]
      cases h1 : Nat.ble s i with
      | false => rfl
      | true =>
        cases h2 : Nat.ble (i + 1) k with
        | false => rfl
        | true =>
          have := Nat.le_of_ble_eq_true h1
          have := Nat.le_of_ble_eq_true h2
          omega
    have htail : ∀ i, k ≤ i → i < ops.length → Pure (t.o i) := fun i h1 h2 => by
      refine (hpu i h2 ?_).1
      cases hb : inN fl i with
      | true => simp
      | false => rw [hnk i (Or.inr h1) hb]; rfl
    obtain ⟨o, ho⟩ : ∃ o, ops[k]? = some o := ⟨_, List.getElem?_eq_getElem hkl⟩
    rw [ho] at hK
    simp only at hK
    split at hK
    rotate_left
    · exact hK.elim
    rename_i hgu
    obtain ⟨ex', ts, hK, x1, x2, x3⟩ := exK_elim fl _ hK
    obtain ⟨g, hK, hgl⟩ := dropK_elim ts _ _ hK
    split at hK
    rotate_left
    · exact hK.elim
    rename_i hle
    have hgo : ∀ u v, look g u = some v → look (t.f (partL (keepB s k fl) 0 ops).length) u = some v ∧ ∀ i, k ≤ i → i < (partL (keepB s k fl) 0 ops).length → dstOf (partL (keepB s k fl) 0 ops) i ≠ some u := fun u v hu => by
      obtain ⟨h1, h2⟩ := hgl u v hu
      refine ⟨h2, fun i hi _ hd => ?_⟩
      obtain ⟨d1, d2⟩ := partL_dst hd
      have hif : i ∈ fl := by
        rw [← inN_iff]
        cases hb : inN fl i with
        | true => rfl
        | false => rw [hnk i (Or.inr hi) hb] at d1; cases d1
      rw [x3 i hif u d2] at h1
      cases h1
    refine ⟨fun D a x => (D k = false ∧ (∀ j, k ≤ j → D j = true → j ∈ fl) ∧ ∃ c, DInv t nn.tk D a c ∧ c.x = x) ∨ (∀ j, j < k + 1 → D j = true) ∧ ∃ Inv', Goes P ops (k + 1) Q Inv' ∧ Inv' D a x, ⟨?_, ?_⟩, fun E hE => Or.inl ⟨?_, fun j hj hD => ?_, c, dinv_set (dinv_init e1 e2 e3 hr hf) (fun e he hDe => ?_), rfl⟩⟩
    · intro i oi hoi D a x hadm hD hI
      rcases hI with ⟨hno, hfD, hI⟩ | ⟨hyes, Inv', hG, hI⟩
      · have hi : i < ops.length := lt_of_get hoi
        have hsi : s ≤ i := by
          rcases Nat.lt_or_ge i s with h1 | h1
          · have := hD i h1
            rw [hadm.un] at this
            cases this
          · exact h1
        by_cases hik : i = k
        · subst hik
          rw [ho] at hoi
          cases hoi
          have hall : ∀ j, j < i → D j = true := fun j hj => hadm.aheadT (hw1 j hj)
          obtain ⟨c1, hI, rfl⟩ := hI
          obtain ⟨r1, r2⟩ := dinv_mid hA ok1 hI (k := i) hall (fun j h1 h2 => htail j h1 (by rw [← hlen]; exact h2)) hgo
          have hwant : Region.wanted o (yielded ops.toArray a.tmps) = true := by unfold Region.wanted; rw [hgu]
          rw [if_pos hwant]
          refine upon4_mono (fun v x' hs => ?_) (oneK_soundL hT hS hK r1 r2 htop)
          obtain ⟨f2, bl2, nn2, c2, k1, k2, k3, k4, k5⟩ := hs
          subst k4
          have hle2 := k5 hle
          obtain ⟨Inv', hG, hI'⟩ := segX_sound hT hS htop hokO hQ cs (i + 1) fl ex' f2 bl2 nn2 c2 (a.put o.dst v) hkl ok9 (fun e v he => (x1 e v he).1) k1 k2 k3
          refine Or.inr ⟨fun j hj => ?_, Inv', hG, ?_⟩
          · unfold setD
            by_cases h1 : j = i
            · subst h1; simp
            · rw [hall j (by omega), Bool.or_true]
          · have hDeq : setD D i = fun j => decide (j < i + 1) || (D j && Nat.ble (i + 1) j) := by
              funext j
              unfold setD
              rcases Nat.lt_trichotomy j i with h1 | h1 | h1
              · rw [hall j h1, Bool.or_true, decide_eq_true (show j < i + 1 by omega), Bool.true_or]
              · subst h1
                simp
              · have hb : (j == i) = false := by rw [beq_eq_false_iff_ne]; omega
                rw [hb, Bool.false_or, decide_eq_false (show ¬ j < i + 1 by omega), Bool.false_or, Nat.ble_eq_true_of_le (show i + 1 ≤ j by omega), Bool.and_true]
            rw [hDeq]
            refine hI' _ fun e he => ?_
            rw [Bool.and_eq_true] at he
            have hef : e ∈ fl := hfD e (by have := Nat.le_of_ble_eq_true he.2; omega) he.1
            obtain ⟨w, hw⟩ := x2 e hef
            refine ⟨w, hw, fun u hu => ?_⟩
            obtain ⟨_, u', d1, d2⟩ := x1 e w hw
            rw [hu] at d1
            cases d1
            have hke : keepB s i fl e = true := by unfold keepB; rw [inN_iff.2 hef, Bool.or_true]
            have hdL := partL_dst' hke hu
            have heL : e < (partL (keepB s i fl) 0 ops).length := by
              rw [hlen]
              unfold dstOf at hu
              cases hoe : ops[e]? with
              | none => rw [hoe] at hu; cases hu
              | some q => exact lt_of_get hoe
            have hres : (t.o e).r = w := by
              rcases slots hA ok1 u _ (Nat.le_refl _) with ⟨k', h1, h2, h3⟩ | ⟨h1, _⟩
              · have : k' = e := by
                  by_cases hke' : k' = e
                  · exact hke'
                  · exfalso
                    obtain ⟨q, hq⟩ := hget k' (by rw [← hlen]; exact h1)
                    have h4 := (ok_slots ok1 hq hdL).1 (Ne.symm hke')
                    apply h4
                    unfold dstOf at h2
                    rw [hq] at h2
                    exact h2
                subst this
                rw [h3] at d2
                exact Option.some.inj d2
              · exact absurd hdL (h1 e heL)
            obtain ⟨s1, s2⟩ := hI.done e u heL he.1 hdL
            rw [hres] at s1 s2
            refine ⟨?_, SV.ok_mono hle2 s2⟩
            rw [SV.val_mono hle2 s2, ← s1]
            cases hd' : o.dst with
            | none => rfl
            | some d =>
              have hne : d ≠ u := fun e0 => by
                subst e0
                have hke2 : e ≠ i := by have := hfl e hef; omega
                exact (ok_slots hokO ho hu).1 hke2 hd'
              simp only [Act.put, Array.getElem?_setIfInBounds_ne hne]
        · have hkeep : keepB s k fl i = true := by
            unfold keepB
            rcases Nat.lt_or_ge i k with h1 | h1
            · rw [Nat.ble_eq_true_of_le hsi, Nat.ble_eq_true_of_le (show i + 1 ≤ k from h1)]; rfl
            · cases hb : inN fl i with
              | true => simp
              | false =>
                have h2 := hadm.aheadT (hw2 i hi (by omega) hb)
                rw [hno] at h2
                cases h2
          have hst := part_go hA ok1 ok2 hlog hcr hoi hkeep hadm hI
          have hsD : setD D i k = false := by
            unfold setD
            rw [hno, Bool.or_false, beq_eq_false_iff_ne]
            omega
          have hfD' : ∀ j, k ≤ j → setD D i j = true → j ∈ fl := fun j hj hDj => by
            unfold setD at hDj
            rw [Bool.or_eq_true] at hDj
            rcases hDj with h1 | h1
            · have : j = i := by simpa using h1
              subst this
              rw [← inN_iff]
              cases hb : inN fl j with
              | true => rfl
              | false => rw [hnk j (Or.inr hj) hb] at hkeep; cases hkeep
            · exact hfD j hj h1
          split at hst
          · rename_i hw
            rw [if_pos hw]
            exact upon4_mono (fun v x' h => Or.inl ⟨hsD, hfD', h⟩) hst
          · rename_i hw
            rw [if_neg hw]
            exact Or.inl ⟨hsD, hfD', hst⟩
      · have hst := hG.step i oi hoi D a x hadm hyes hI
        have hsD : ∀ j, j < k + 1 → setD D i j = true := fun j hj => by
          unfold setD
          rw [hyes j hj, Bool.or_true]
        split at hst
        · rename_i hw
          rw [if_pos hw]
          exact upon4_mono (fun v x' h => Or.inr ⟨hsD, Inv', hG, h⟩) hst
        · rename_i hw
          rw [if_neg hw]
          exact Or.inr ⟨hsD, Inv', hG, hst⟩
    · intro D a x hD hI
      rcases hI with ⟨hno, _⟩ | ⟨hyes, Inv', hG, hI⟩
      · have h1 := hD k hkl
        rw [hno] at h1
        cases h1
      · exact hG.fin D a x hD hI
    · have h1 : decide (k < s) = false := decide_eq_false (by omega)
      show (decide (k < s) || E k) = false
      rw [h1, Bool.false_or]
      cases hEk : E k with
      | false => rfl
      | true =>
        obtain ⟨v, hv, _⟩ := hE k hEk
        have := List.all_eq_true.1 ok8 k (hxs k v hv)
        rw [Bool.or_eq_true] at this
        rcases this with h2 | h2
        · have := Nat.le_of_ble_eq_true h2; omega
        · have := hfl k (inN_iff.1 h2); omega
    · have h1 : decide (j < s) = false := decide_eq_false (by omega)
      have hD : (decide (j < s) || E j) = true := hD
      rw [h1, Bool.false_or] at hD
      obtain ⟨v, hv, _⟩ := hE j hD
      have := List.all_eq_true.1 ok8 j (hxs j v hv)
      rw [Bool.or_eq_true] at this
      rcases this with h2 | h2
      · have := Nat.le_of_ble_eq_true h2; omega
      · exact inN_iff.1 h2
    · rw [hlen] at he
      have hfs : ∀ i, i < s → inN fl i = false := fun i hi => by
        cases hb : inN fl i with
        | false => rfl
        | true => have := hfl i (inN_iff.1 hb); omega
      have hpe : (!keepB s k fl e || (inN fl e || inX ex e)) = true := by
        rw [Bool.or_eq_true] at hDe
        rcases hDe with h1 | h1
        · have h1 := of_decide_eq_true h1
          rw [hnk e (Or.inl h1) (hfs e h1)]
          rfl
        · obtain ⟨v, hv, _⟩ := hE e h1
          rw [inX_of hv]
          simp
      obtain ⟨p1, p2⟩ := hpu e he hpe
      refine ⟨p1, fun u hu => ?_⟩
      obtain ⟨g1, g2⟩ := partL_dst hu
      rw [Bool.or_eq_true] at hDe
      rcases hDe with h1 | h1
      · have h1 := of_decide_eq_true h1
        rw [hnk e (Or.inl h1) (hfs e h1)] at g1
        cases g1
      · obtain ⟨v, hv, hs⟩ := hE e h1
        rw [p2 v hv]
        exact hs u g2

theorem draw_segX (hT : TabOk P T) (hS : SpecsOk P S) (htop : T.top = true → ∀ b e, F0.c.E.F b e → b < w0.heap.size) {id : Nat} {cs : List (Nat × List Nat)} {f : Fr} {bl : List V} {nn : NS} {K : Fr → List V → NS → Prop} {c : Cx} {a : Act} (hok : (okRegion ops && segXok ops 0 [] cs) = true) (h : segX T S N ops 0 [] cs f bl nn K) (hr : Real w0 F0 bl nn c) (hf : FR N c f a)
    {Q : Exit → Act → World → Prop} (hQ : ∀ a x, Sat w0 F0 N K a x → Q .normal a x) : (Code.region id ops.toArray true).wp P Q a c.x := by
  rw [Bool.and_eq_true] at hok
  obtain ⟨r1, l1⟩ := real_drew hr
  obtain ⟨Inv, hG, h0⟩ := segX_sound (Q := fun a x => Q .normal a x) hT hS htop hok.1 hQ cs 0 [] [] f bl nn _ a (Nat.zero_le _) hok.2 (fun e v he => by cases he) h r1 (hf.mono l1)
  have h1 := h0 (fun _ => false) (fun e he => by cases he)
  refine wp_region_inv Inv hT.mix hok.1 ?_ (fun i o ho D a x hadm hI => hG.step i o ho D a x hadm (fun j hj => absurd hj (Nat.not_lt_zero _)) hI) hG.fin
  have e : (fun i : Nat => decide (i < 0) || false) = fun _ => false := by funext i; simp
  rw [e] at h1
  exact h1
end
end Go.Proofs.YtjbbgpacijageabGreat.M
