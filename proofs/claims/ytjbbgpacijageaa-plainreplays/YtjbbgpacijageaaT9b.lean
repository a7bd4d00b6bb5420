/- Slices of arrays, and copies into them. No program is named here. -/
import Derived.Test.YtjbbgpacijageaaT9
import Derived.Deep.AppendSrc
namespace Go.Proofs.Ytjbbgpacijageaa.M
open Go.RowKit
set_option linter.unusedVariables false
set_option linter.unusedSimpArgs false

/-- A bound of a slice: told or not. -/
def bndK (f : Fr) (x : Option Operand) (dflt : Int) (k : Int → Prop) : Prop :=
  match x with
  | none => k dflt
  | some x => match evS f x with
    | some (.a (.of (.leaf .int z))) => k z
    | _ => False
def sliceK (T : Tab) (t : TypeId) (x : Operand) (low high max : Option Operand) (f : Fr) (k : Out → Prop) : Prop :=
  match max with
  | some _ => False
  | none => match evS f x with
    | some (.a (.ptr i off p u)) => match tyL T.ty t with
      | some (.arr n e, _) => match decEq u (.arr n e) with
        | .isTrue _ => match Nat.ble n 4294967296 with
          | true => bndK f low 0 fun lo => bndK f high n fun hi => Need (0 ≤ lo ∧ lo ≤ hi ∧ hi ≤ (n : Int)) (k (.val (.a (.slc i off p n e lo.toNat (hi.toNat - lo.toNat) (n - lo.toNat)))))
          | false => False
        | .isFalse _ => False
      | _ => False
    | _ => False

def cpy {α : Type} (g : Nat → α) (lo m : Nat) (src : Nat → α) : Nat → α := fun q => if lo ≤ q ∧ q < lo + m then src (q - lo) else g q
/-- What is copied: its cells, how many, the blocks that it lies in. -/
def srcK (bl : List V) (s : AV) (e : Ty) (k : (Nat → e.D) → Nat → List Nat → Prop) : Prop :=
  match s with
  | .slc j off p n e' lo len cap => match decEq e' e with
    | .isTrue _ => match nthB bl j with
      | some b => match getV b p with
        | some y => denK y (.arr n e) fun g => k (fun q => g (lo + q)) len [j]
        | none => False
      | none => False
    | .isFalse _ => False
  | .of v => denK v (.lst e) fun d => k (fun q => nthD e d.2 q) d.2.length []
  | _ => False
def copyK (T : Tab) (c : Call) (f : Fr) (bl : List V) (k : Out → Prop) : Prop :=
  match c.args.toList with
  | [x, y] => match c.argTypes.toList with
    | [t, _] => match tyL T.ty t with
      | some (.lst e0, _) => match evS f x with
        | some (.a (.slc i off p n e lo len cap)) => match decEq e e0 with
          | .isTrue _ => match evS f y with
            | some (.a s) => srcK bl s e fun src m rd => match nthB bl i with
              | some b => match getV b p with
                | some y0 => denK y0 (.arr n e) fun g => setK p b (.leaf (.arr n e) (cpy g lo (min m len) src)) fun b' => k ⟨.a (.of (.leaf .int ((min m len : Nat) : Int))), .set i b', 0, rd, false, false⟩
                | none => False
              | none => False
            | _ => False
          | .isFalse _ => False
        | _ => False
      | _ => False
    | _ => False
  | _ => False

theorem splice_adj {α : Type} {l a b : List α} {o : Nat} (h : o + a.length + b.length ≤ l.length) : splice (splice l o a) (o + a.length) b = splice l o (a ++ b) := by
  unfold splice
  have h1 : (List.take o l ++ a).length = o + a.length := by simp; omega
  rw [List.take_append_of_le_length (by omega), List.take_of_length_le (by omega)]
  rw [List.drop_append, List.drop_of_length_le (by omega), h1, List.drop_drop]
  rw [show o + a.length + (o + a.length + b.length - (o + a.length)) = o + (a ++ b).length from by simp; omega]
  simp
theorem rows_cpy {α β : Type} {g src : Nat → α} {fl : α → List β} {s lo n : Nat} (hs : ∀ x, (fl x).length = s) : ∀ m, lo + m ≤ n → rows n (fun q => fl (cpy g lo m src q)) = splice (rows n fun q => fl (g q)) (lo * s) (rows m fun q => fl (src q))
  | 0, h => by
    have h1 : (fun q => fl (cpy g lo 0 src q)) = fun q => fl (g q) := by
      funext q
      unfold cpy
      rw [if_neg (by omega)]
    rw [h1, rows_zero]
    unfold splice
    simp
  | m + 1, h => by
    have ih := rows_cpy (g := g) (src := src) (lo := lo) (n := n) hs m (by omega)
    have h1 : (fun q => fl (cpy g lo (m + 1) src q)) = fun q => if q = lo + m then fl (src m) else fl (cpy g lo m src q) := by
      funext q
      unfold cpy
      by_cases hq : q = lo + m
      · subst hq
        rw [if_pos (by omega), if_pos rfl, Nat.add_sub_cancel_left]
      · rw [if_neg hq]
        by_cases h2 : lo ≤ q ∧ q < lo + m
        · rw [if_pos (by omega), if_pos h2]
        · rw [if_neg (by omega), if_neg h2]
    rw [h1, rows_set (hs _) n (fun i _ => hs _) (lo + m) (by omega), ih, rows_succ]
    have hl : (rows m fun q => fl (src q)).length = m * s := rows_len m (fun i _ => hs _)
    have hn : (rows n fun q => fl (g q)).length = n * s := rows_len n (fun i _ => hs _)
    rw [show (lo + m) * s = lo * s + (rows m fun q => fl (src q)).length from by rw [hl, Nat.add_mul]]
    rw [splice_adj (by
      rw [hl, hs, hn]
      have : (lo + (m + 1)) * s ≤ n * s := Nat.mul_le_mul_right _ h
      rw [Nat.add_mul, Nat.add_mul] at this
      omega)]

section
variable {P : Program} {T : Tab} {w0 : World} {F0 : Old} {nn : Nat}

theorem bndK_sound {f : Fr} {x : Option Operand} {dflt : Int} {k : Int → Prop} (h : bndK f x dflt k) : ∃ z, k z ∧ ∀ (ρ : Operand → Value) (c : Cx), (∀ y, x = some y → ∀ s, evS f y = some s → ρ y = s.val c.E ∧ s.ok c) → (x = none ∧ z = dflt) ∨ (x.map ρ = some (.int .i64 z)) := by
  unfold bndK at h
  split at h
  · exact ⟨_, h, fun ρ c _ => Or.inl ⟨rfl, rfl⟩⟩
  · rename_i y
    split at h
    · rename_i z hz
      refine ⟨z, h, fun ρ c hρ => Or.inr ?_⟩
      rw [Option.map_some, (hρ y rfl _ hz).1]
      rfl
    · exact h.elim

theorem bounds_run {n : Nat} {lo hi : Int} {low high : Option Value} (hlo : (low = none ∧ lo = 0) ∨ low = some (.int .i64 lo)) (hhi : (high = none ∧ hi = (n : Int)) ∨ high = some (.int .i64 hi)) (hb : 0 ≤ lo ∧ lo ≤ hi ∧ hi ≤ (n : Int)) (x : World) :
    (Instr.sliceBounds false n n low high none).run P x = .ok (lo.toNat, hi.toNat, n) x := by
  have hcast : ((hi.toNat : Nat) : Int) = hi := by omega
  have hbnd : ∀ (z : Int) (y : Nat) (code : BoundsCode), 0 ≤ z ∧ z ≤ (y : Int) → (Instr.sliceBound (.int .i64 z) y code).run P x = .ok z.toNat x := fun z y code hz => by
    unfold Instr.sliceBound
    simp only [asIntOf, Sem.run_bind, Sem.run_pure, Result.andThen_ok]
    rw [if_pos hz]
    rfl
  unfold Instr.sliceBounds
  rcases hhi with ⟨rfl, rfl⟩ | rfl <;> rcases hlo with ⟨rfl, rfl⟩ | rfl
  · simp
  · simp only [Sem.run_bind, Sem.run_pure, Result.andThen_ok, hbnd lo n _ ⟨by omega, by omega⟩, Int.toNat_natCast]
  · simp only [Sem.run_bind, Sem.run_pure, Result.andThen_ok, hbnd hi n _ ⟨by omega, by omega⟩]
    rfl
  · simp only [Sem.run_bind, Sem.run_pure, Result.andThen_ok, hbnd hi n _ ⟨by omega, by omega⟩, hbnd lo hi.toNat _ ⟨by omega, by omega⟩]

theorem sliceK_sound (hT : TabOk P T) {o : Oper} {t : TypeId} {x : Operand} {low high max : Option Operand} (ho : o.op = .slice t x low high max) {f : Fr} {bl : List V} {k : Out → Prop} (h : sliceK T t x low high max f k) : ∃ out, k out ∧ Does P w0 F0 o f (fun i => bl[i]?) bl.length nn out := by
  unfold sliceK at h
  split at h
  · exact h.elim
  · split at h
    · rename_i i off p u hx
      split at h
      · rename_i n e n0 hty
        split at h
        · rename_i he _
          subst he
          split at h
          · rename_i hn
            have hn' := Nat.le_of_ble_eq_true hn
            obtain ⟨lo, h1, hlo⟩ := bndK_sound h
            obtain ⟨hi, h2, hhi⟩ := bndK_sound h1
            obtain ⟨hb, h3⟩ := h2
            refine ⟨_, h3, does_val fun c ρ hw hρ _ => ?_⟩
            obtain ⟨e1, e2⟩ := hρ x (by rw [ho]; simp [Op.operands]) _ hx
            have elo := hlo ρ c (fun y hy s hs => hρ y (by rw [ho, hy]; simp [Op.operands]) s hs)
            have ehi := hhi ρ c (fun y hy s hs => hρ y (by rw [ho, hy]; simp [Op.operands]) s hs)
            obtain ⟨e3, T', e4, e5⟩ := e2
            refine ⟨?_, e3, ⟨T', e4, e5⟩, by omega, by omega, hn'⟩
            have ha := tyB_arr (hT.ty.at hty)
            unfold arrB at ha
            split at ha
            · rename_i l el hu
              simp only [Bool.and_eq_true, beq_iff_eq] at ha
              obtain ⟨⟨rfl, hs⟩, _⟩ := ha
              cases hi' : P.info? el with
              | none => rw [hi'] at hs; simp at hs
              | some inf =>
                have hsz : inf.size = e.sz := by simpa [hi'] using hs
                have e1' : ρ x = .pointer (some ⟨c.E.A i, off, none⟩) := e1
                have hbr := bounds_run (P := P) (n := l) (lo := lo) (hi := hi) (low := low.map ρ) (high := high.map ρ) (by
                  rcases elo with ⟨h, h'⟩ | h
                  · exact Or.inl ⟨by rw [h]; rfl, h'⟩
                  · exact Or.inr h) (by
                  rcases ehi with ⟨h, h'⟩ | h
                  · exact Or.inl ⟨by rw [h]; rfl, h'⟩
                  · exact Or.inr h) hb c.x
                unfold execOp
                simp only [ho, e1', Instr.sliceAt, Sem.run_bind, run_underlying hu, Result.andThen_ok, Instr.sureAddr, Sem.run_pure, Option.map_none, hbr, sizeOf, typeInfo, run_program, hi', hsz, SV.val, AV.val]
                congr 2
                congr 1
                congr 1
                by_cases hc : l = lo.toNat
                · rw [if_pos hc, if_pos (by omega)]
                · rw [if_neg hc, if_neg (by omega)]
                  unfold Addr.add
                  split
                  · rename_i h0; rw [h0]; rfl
                  · rfl
            · cases ha
          · exact h.elim
        · exact h.elim
      · exact h.elim
    · exact h.elim

theorem rows_at {α : Type} {g : Nat → List α} {s n : Nat} (h : ∀ i, i < n → (g i).length = s) {q j : Nat} (hq : q < n) (hj : j < s) : (rows n g)[q * s + j]? = (g q)[j]? := by
  rw [← rows_get n h q hq, drop_take_get hj]
theorem rows_cell {g : Nat → List Value} {s n : Nat} (h : ∀ i, i < n → (g i).length = s) {x : World} {b o : Nat} (hc : ∀ q, q < n → ∀ j, j < s → x.cell? ⟨b, o + q * s + j, none⟩ = (g q)[j]?) (k : Nat) (hk : k < n * s) : x.cell? ⟨b, o + k, none⟩ = (rows n g)[k]? := by
  have hs : 0 < s := by
    rcases Nat.eq_zero_or_pos s with h0 | h0
    · subst h0; simp at hk
    · exact h0
  have hd : k = k / s * s + k % s := by
    have := Nat.div_add_mod k s
    rw [Nat.mul_comm] at this
    omega
  have hq : k / s < n := Nat.div_lt_of_lt_mul (by rw [Nat.mul_comm]; exact hk)
  have hj : k % s < s := Nat.mod_lt _ hs
  rw [hd, rows_at h hq hj, ← hc _ hq _ hj, Nat.add_assoc]

theorem srcK_sound {bl : List V} {s : AV} {e : Ty} {k : (Nat → e.D) → Nat → List Nat → Prop} (h : srcK bl s e k) : ∃ src m rd, k src m rd ∧ ∀ (c : Cx), s.ok c → (∀ i, i ∈ rd → ∀ v, bl[i]? = some v → c.XA i ∧ c.ty i = some v.ty ∧ (∃ e, HB c.x (c.E.A i) (v.cells c.E.B).toArray e) ∧ v.okc c) →
    ∃ ad cap, s.val c.E = .slice ad m cap ∧ (∀ q, q < m → wokc c e (src q)) ∧ (m = 0 ∨ ∃ b o, ad = some ⟨b, o, none⟩ ∧ ∀ q, q < m → ∀ j, j < e.sz → c.x.cell? ⟨b, o + q * e.sz + j, none⟩ = (flat c.E.B e (src q))[j]?) := by
  unfold srcK at h
  split at h
  · rename_i i off p n e' lo len cap
    split at h
    · rename_i he _
      subst he
      split at h
      · rename_i b hb
        split at h
        · rename_i y hy
          rw [nthB_eq] at hb
          obtain ⟨g, h1, h2, h3, h4⟩ := denK_sound y (.arr n e') _ h
          refine ⟨_, _, _, h1, fun c hs ht => ?_⟩
          obtain ⟨g2, g3, ⟨ee, g4⟩, g5⟩ := ht i (by simp) b hb
          obtain ⟨k1, ⟨T', k2, k3⟩, k4, k5, k6⟩ := hs
          rw [g3] at k2
          cases k2
          obtain ⟨m1, m2, m3⟩ := getV_sound c.E.B p b y off _ hy k3
          have hgok : ∀ q, q < n → wokc c e' (g q) := fun q hq => h4 _ _ _ _ (getV_ok p b y off _ hy k3 g5) q hq
          refine ⟨_, _, rfl, fun q hq => hgok (lo + q) (by omega), ?_⟩
          by_cases hl : len = 0
          · exact Or.inl hl
          · refine Or.inr ⟨c.E.A i, off + lo * e'.sz, by rw [if_neg (by omega)], fun q hq j hj => ?_⟩
            have hlt : lo + q < n := by omega
            have hle' : (lo + q) * e'.sz + e'.sz ≤ n * e'.sz := by rw [← Nat.succ_mul]; exact Nat.mul_le_mul_right _ hlt
            have hy2 : y.cells c.E.B = rows n fun i => flat c.E.B e' (g i) := (h3 c.E.B).symm
            have hidx : off + lo * e'.sz + q * e'.sz + j = off + ((lo + q) * e'.sz + j) := by rw [Nat.add_mul]; omega
            rw [hidx, hb_cell g4, ← drop_take_get (n := (Ty.arr n e').sz) (by simp only [Ty.sz]; omega), ← m3, hy2, rows_at (fun i _ => flat_len c.E.B e' (g i)) hlt hj]
        · exact h.elim
      · exact h.elim
    · exact h.elim
  · rename_i v
    obtain ⟨d, h1, h2, h3, h4⟩ := denK_sound v (.lst e) _ h
    refine ⟨_, _, _, h1, fun c hs _ => ?_⟩
    have hw := h4 _ _ _ _ hs
    have hval : AV.val c.E (.of v) = d.1.val c.E.B := val_leaf h2 (h3 _)
    rcases hw.2 with ⟨hnil, ad, cap, hd⟩ | ⟨b, o, cap, e1, e2, e3, e4, e5, e6⟩
    · exact ⟨ad, cap, by rw [hval, hd, hnil]; rfl, fun q hq => by rw [hnil] at hq; simp at hq, Or.inl (by rw [hnil]; rfl)⟩
    · have hget : ∀ q, q < d.2.length → d.2[q]? = some (nthD e d.2 q) := fun q hq => by
        unfold nthD
        rw [List.getElem?_eq_getElem hq]
        rfl
      exact ⟨_, cap, by rw [hval, e1], fun q hq => (e6 q _ (hget q hq)).2, Or.inr ⟨b, o, rfl, fun q hq j hj => (e6 q _ (hget q hq)).1 j hj⟩⟩
  · exact h.elim

/-- One block holds something else. -/
theorem does_put {o : Oper} {f : Fr} {get : Nat → Option V} {bl : Nat} {i : Nat} {b y : V} {r : SV} {rd : List Nat} (hb : get i = some b) (hty : y.ty = b.ty)
    (h : ∀ (c : Cx) (ρ : Operand → Value), c.Wf w0 F0 → (∀ y ∈ o.op.operands, ∀ s, evS f y = some s → ρ y = s.val c.E ∧ s.ok c) → (∀ j, j ∈ rd ∨ j = i → ∀ v, get j = some v → c.XA j ∧ c.ty j = some v.ty ∧ (∃ e, HB c.x (c.E.A j) (v.cells c.E.B).toArray e) ∧ v.okc c) →
      (execOp ρ o).run P c.x = .ok (.value (r.val c.E)) (putB c.x (c.E.A i) (y.cells c.E.B).toArray) ∧ r.ok c ∧ y.okc c) : Does P w0 F0 o f get bl nn ⟨r, .set i y, 0, rd, false, false⟩ := by
  refine ⟨fun _ => rfl, ?_⟩
  intro c ρ hw hρ ht _ _
  obtain ⟨g2, g3, ⟨e, g4⟩, g5⟩ := ht i (Or.inr ⟨y, rfl⟩) b hb
  obtain ⟨hrun, hro, k5⟩ := h c ρ hw hρ (fun j hj v hv => by
    rcases hj with hj | rfl
    · exact ht j (Or.inl hj) v hv
    · exact ht j (Or.inr ⟨y, rfl⟩) v hv)
  rw [hrun]
  have hput := HB.put g4 (y.cells c.E.B).toArray
  have hne : ∀ k, k ≠ c.E.A i → (putB c.x (c.E.A i) (y.cells c.E.B).toArray).heap[k]? = c.x.heap[k]? := fun k hk => putB_ne _ _ _ hk
  have hle : c.Le (c.ext ⟨r, .set i y, 0, rd, false, false⟩ bl nn c.E (putB c.x (c.E.A i) (y.cells c.E.B).toArray)) := by
    refine ⟨fun i hi => ⟨Or.inl hi, rfl, rfl⟩, fun n hn => ⟨Or.inl hn, rfl⟩, fun _ _ h => h, fun d k hd j hj => ?_, by show _ ≤ (putB _ _ _).heap.size; rw [putB_size]; exact Nat.le_refl _⟩
    exact World.cell?_of_block (hne d fun he => hw.own i g2 k (by rw [← he]; exact hd))
  refine ⟨c.E, rfl, SV.ok_mono hle hro, fun _ _ => rfl, fun _ _ => rfl, fun _ _ h => h, fun _ _ _ h => h, fun d k hd => by rw [putB_size]; exact hw.fhi d k hd, ⟨rfl, rfl, rfl, by rw [putB_size]; exact Nat.le_refl _, fun k hk hb' => hne k fun he => hb' ⟨i, y, rfl, he⟩⟩, (fun z hz => by cases hz), fun j z hz => ?_⟩
  cases hz
  exact ⟨g2, by rw [hty]; exact g3, ⟨e, hput⟩, V.okc_mono hle k5⟩

theorem copyK_sound (hT : TabOk P T) {o : Oper} {c : Call} (ho : o.op = .call c) (hcal : c.callee = .builtin .copy) {f : Fr} {bl : List V} {k : Out → Prop} (h : copyK T c f bl k) : ∃ out, k out ∧ Does P w0 F0 o f (fun i => bl[i]?) bl.length nn out := by
  unfold copyK at h
  split at h
  · rename_i x y hargs
    split at h
    · rename_i t t2 hats
      split at h
      · rename_i e0 n0 hty
        split at h
        · rename_i i off p n e lo len cap hx
          split at h
          · rename_i he _
            subst he
            split at h
            · rename_i s hy
              obtain ⟨src, m, rd, hk, hsrc⟩ := srcK_sound h
              split at hk
              · rename_i b hb
                split at hk
                · rename_i y0 hy0
                  rw [nthB_eq] at hb
                  obtain ⟨g, h1, h2, h3, h4⟩ := denK_sound y0 (.arr n e) _ hk
                  obtain ⟨b', h5, h6, h7⟩ := setK_sound _ _ _ _ h1
                  have hargs' : c.args = #[x, y] := by apply Array.toList_inj.1; rw [hargs]
                  have hats' : c.argTypes = #[t, t2] := by apply Array.toList_inj.1; rw [hats]
                  refine ⟨_, h5, does_put hb h6 fun cx ρ hw hρ ht => ?_⟩
                  obtain ⟨e1, e2⟩ := hρ x (by rw [ho]; simp [Op.operands, Call.operands, hcal, hargs']) _ hx
                  obtain ⟨e3, e4⟩ := hρ y (by rw [ho]; simp [Op.operands, Call.operands, hcal, hargs']) _ hy
                  obtain ⟨g2, g3, ⟨ee, g4⟩, g5⟩ := ht i (Or.inr rfl) b hb
                  obtain ⟨k1, ⟨T', k2, k3⟩, k4, k5, k6⟩ := e2
                  rw [g3] at k2
                  cases k2
                  obtain ⟨m1, m2, m3⟩ := getV_sound cx.E.B p b y0 off _ hy0 k3
                  obtain ⟨ad, cap', s1, s2, s3⟩ := hsrc cx e4 (fun j hj => ht j (Or.inl hj))
                  have hgok : wokc cx (.arr n e) g := h4 _ _ _ _ (getV_ok p b y0 off _ hy0 k3 g5)
                  have hnok : V.okc cx (.leaf (.arr n e) (cpy g lo (min m len) src)) := fun q hq => by
                    unfold cpy
                    split
                    · exact s2 _ (by omega)
                    · exact hgok q hq
                  obtain ⟨q1, q2, q3, q4⟩ := h7 off _ k3
                  refine ⟨?_, trivial, q4 _ _ _ _ g5 hnok⟩
                  -- the cells that are copied
                  have hrow : ∀ q, q < min m len → (flat cx.E.B e (src q)).length = e.sz := fun q _ => flat_len cx.E.B e (src q)
                  have hlenR : (rows (min m len) fun q => flat cx.E.B e (src q)).length = min m len * e.sz := rows_len _ hrow
                  have hbcell : (b.cells cx.E.B).toArray.size = b.ty.sz := by simp [V.cells_len]
                  have hle : (lo + min m len) * e.sz ≤ n * e.sz := Nat.mul_le_mul_right _ (by omega)
                  rw [Nat.add_mul] at hle
                  have m2' : off + n * e.sz ≤ b.ty.sz := m2
                  have hfirst : (Builtin.firstCells e.sz (min m len) (.slice ad m cap')).run P cx.x = .ok (rows (min m len) fun q => flat cx.E.B e (src q)).toArray cx.x := by
                    rcases s3 with rfl | ⟨bs, os, rfl, hcell⟩
                    · rw [Nat.zero_min, rows_zero]
                      cases ad with
                      | none => rfl
                      | some a =>
                        unfold Builtin.firstCells
                        rw [Nat.zero_mul]
                        rfl
                    · unfold Builtin.firstCells
                      have := run_loadCells_list (P := P) cx.x ⟨bs, os, none⟩ (rows (min m len) fun q => flat cx.E.B e (src q)) (fun j v hv => by
                        have hj : j < min m len * e.sz := by rw [← hlenR]; exact (List.getElem?_eq_some_iff.1 hv).1
                        rw [Addr.add_mid, rows_cell hrow (fun q hq j hj => hcell q (by omega) j hj) j hj]
                        exact hv)
                      rw [hlenR] at this
                      exact this
                  have hone : ∀ u ∈ (rows (min m len) fun q => flat cx.E.B e (src q)), u.oneCell' = true := fun u hu => by
                    simp only [rows, List.mem_flatMap, List.mem_range] at hu
                    obtain ⟨q, hq, hu⟩ := hu
                    exact flat_one e (src q) (s2 q (by omega)) u hu
                  have hstore : (storeCells ⟨cx.E.A i, if cap = 0 then off else off + lo * e.sz, none⟩ (rows (min m len) fun q => flat cx.E.B e (src q))).run P cx.x = .ok () (putB cx.x (cx.E.A i) (b'.cells cx.E.B).toArray) := by
                    have hcells : (b'.cells cx.E.B).toArray = sets (b.cells cx.E.B).toArray (off + lo * e.sz) (rows (min m len) fun q => flat cx.E.B e (src q)) := by
                      apply Array.toList_inj.1
                      rw [sets_splice _ _ _ (by rw [hbcell, hlenR]; omega), q3 cx.E.B]
                      show splice (b.cells cx.E.B) off (rows n fun q => flat cx.E.B e (cpy g lo (min m len) src q)) = _
                      rw [rows_cpy (fl := flat cx.E.B e) (s := e.sz) (fun z => flat_len cx.E.B e z) (min m len) (by omega)]
                      have hy2 : y0.cells cx.E.B = rows n fun i => flat cx.E.B e (g i) := (h3 cx.E.B).symm
                      rw [← hy2, m3]
                      simp only [Ty.sz]
                      rw [splice_splice (by rw [hlenR]; omega) (by rw [V.cells_len]; exact m2')]
                    by_cases hc0 : cap = 0
                    · have h0 : min m len = 0 := by omega
                      rw [hcells, h0, rows_zero]
                      have := setCells_putB [] (off + lo * e.sz) g4
                      rw [← this]
                      rfl
                    · rw [if_neg hc0, hcells]
                      have hst := run_storeCells_cells (P := P) (cx.E.A i) (off + lo * e.sz) (rows (min m len) fun q => flat cx.E.B e (src q)) 0 cx.x (fun j hj => by
                        rw [g4.cell]
                        simp [V.cells_len]
                        rw [hlenR] at hj
                        omega) (fun j hj => g4.frozen _) hone
                      rw [Nat.add_zero] at hst
                      rw [hst, setCells_putB _ _ g4]
                  have hl := tyB_lst (hT.ty.at hty)
                  unfold lstB at hl
                  split at hl
                  · rename_i el hu
                    simp only [Bool.and_eq_true, beq_iff_eq] at hl
                    obtain ⟨⟨⟨⟨hs, _⟩, _⟩, _⟩, _⟩ := hl
                    cases hi' : P.info? el with
                    | none => rw [hi'] at hs; simp at hs
                    | some inf =>
                      have hsz : inf.size = e.sz := by simpa [hi'] using hs
                      have e1' : ρ x = .slice (some ⟨cx.E.A i, if cap = 0 then off else off + lo * e.sz, none⟩) len cap := e1
                      have e3' : ρ y = .slice ad m cap' := e3.trans s1
                      unfold execOp
                      simp only [ho, resolve, hcal, hargs', hats', Sem.run_bind, Sem.run_pure, Result.andThen_ok, invoke]
                      simp only [builtin, Builtin.copy_, Sem.run_bind]
                      simp only [List.map_toArray, List.map_cons, List.map_nil, e1', e3', List.getElem?_toArray, List.getElem?_cons_zero, List.getElem?_cons_succ, Sem.run_bind, run_underlying hu, Result.andThen_ok, Builtin.lenOf, Sem.run_pure, sizeOf, typeInfo, run_program, hi', hsz]
                      rw [show Nat.min m len = min m len from rfl, hfirst]
                      simp only [Result.andThen_ok, Sem.run_bind]
                      rw [hstore]
                      rfl
                  · cases hl
                · exact hk.elim
              · exact hk.elim
            · exact h.elim
          · exact h.elim
        · exact h.elim
      · exact h.elim
    · exact h.elim
  · exact h.elim
end

end Go.Proofs.Ytjbbgpacijageaa.M
