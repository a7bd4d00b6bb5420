/- Lists that are made: a composite, a copy. No program is named here. -/
import Derived.Test.YtjbbgpacijageaaT9b
import Derived.Deep.AppendSrc
import Derived.Deep.Upon
namespace Go.Proofs.Ytjbbgpacijageaa.M
open Go.RowKit
set_option linter.unusedVariables false
set_option linter.unusedSimpArgs false

section
variable {P : Program} {w0 : World} {F0 : Old} {o : Oper} {f : Fr} {get : Nat → Option V} {bl nn : Nat}

/-- A new list. -/
theorem does_list {T : Ty} {xs : List T.D} (h : ∀ (c : Cx) (ρ : Operand → Value), c.Wf w0 F0 → (∀ y ∈ o.op.operands, ∀ s, evS f y = some s → ρ y = s.val c.E ∧ s.ok c) →
    (∀ e ∈ xs, wokc c T e) ∧ ∃ v x', (execOp ρ o).run P c.x = .ok (.value v) x' ∧ Same c.x x' (fun _ => False) ∧
      ((xs = [] ∧ ∃ ad cap, v = .slice ad 0 cap) ∨ ∃ b cap, v = .slice (some ⟨b, 0, none⟩) xs.length cap ∧ xs.length ≤ cap ∧ cap ≤ maxLen ∧ c.x.heap.size ≤ b ∧ b < x'.heap.size ∧
        ∀ (i : Nat) e, xs[i]? = some e → ∀ j, j < T.sz → x'.cell? ⟨b, i * T.sz + j, none⟩ = (flat c.E.B T e)[j]?)) :
    Does P w0 F0 o f get bl nn ⟨.a (.of (.leaf (.lst T) (.nm nn, xs))), .none, 1, [], true, true⟩ := by
  refine ⟨fun h => (by cases h), ?_⟩
  intro c ρ hw hρ ht _ hq
  have hX := hq rfl
  obtain ⟨hel, v, x', hrun, hsame, hv⟩ := h c ρ hw hρ
  rw [hrun]
  let E : Env := ⟨c.E.A, fun n => if n = nn then v else c.E.B n, fun b e => c.E.F b e ∨ (c.x.heap.size ≤ b ∧ b < x'.heap.size)⟩
  have hle : c.Le (c.ext ⟨.a (.of (.leaf (.lst T) (.nm nn, xs))), .none, 1, [], true, true⟩ bl nn E x') := by
    refine ⟨fun i hi => ⟨Or.inl hi, rfl, rfl⟩, fun n hn => ⟨Or.inl hn, if_neg ?_⟩, fun _ _ h => Or.inl h, fun b e he j hj => ?_, hsame.size⟩
    · have := (hX n).1 hn; omega
    · exact World.cell?_of_block (hsame.block b (hw.fhi b e he) (fun h => h))
  have hBn : E.B nn = v := if_pos rfl
  refine ⟨E, hBn.symm, ?_, fun _ _ => rfl, fun n hn => (hle.B n hn).2, fun _ _ h => Or.inl h, fun b e hb he => ?_, fun b e he => ?_, ⟨hsame.os, hsame.tape, hsame.output, hsame.size, fun k hk _ => hsame.block k hk (fun h => h)⟩, (fun y hy => by cases hy), (fun i y hy => by cases hy)⟩
  · refine ⟨Or.inr ⟨Nat.le_refl _, Nat.lt_succ_self _⟩, ?_⟩
    rcases hv with ⟨h1, ad, cap, h2⟩ | ⟨b, cap, h1, h2, h3, h4, h5, h6⟩
    · exact Or.inl ⟨h1, ad, cap, hBn.trans h2⟩
    · refine Or.inr ⟨b, 0, cap, hBn.trans h1, h2, h3, h5, ⟨_, Nat.le_refl _, Or.inr ⟨h4, h5⟩⟩, fun i e he => ⟨fun j hj => ?_, wokc_mono hle (hel e (List.mem_of_getElem? he))⟩⟩
      show x'.cell? ⟨b, 0 + i * T.sz + j, none⟩ = (flat E.B T e)[j]?
      have hfc : flat E.B T e = flat c.E.B T e := flat_congr (fun n hn => (hle.B n hn).2) T e (hel e (List.mem_of_getElem? he))
      rw [Nat.zero_add, h6 i e he j hj, hfc]
  · rcases he with he | ⟨h1, _⟩
    · exact he
    · omega
  · rcases he with he | ⟨_, h1⟩
    · exact Nat.lt_of_lt_of_le (hw.fhi b e he) hsame.size
    · exact h1
end

theorem flatMap_get {α : Type} {g : α → List Value} {s : Nat} : ∀ (xs : List α), (∀ e ∈ xs, (g e).length = s) → ∀ i j, j < s → (xs.flatMap g)[i * s + j]? = (xs[i]?).bind fun e => (g e)[j]?
  | [], _, i, j, _ => by simp
  | e :: r, h, i, j, hj => by
    have he := h e (by simp)
    rw [List.flatMap_cons]
    cases i with
    | zero =>
      rw [List.getElem?_append_left (by omega)]
      simp
    | succ i =>
      rw [List.getElem?_append_right (by rw [he, Nat.succ_mul]; omega), he, show (i + 1) * s + j - s = i * s + j from by rw [Nat.succ_mul]; omega, flatMap_get r (fun e' he' => h e' (by simp [he'])) i j hj]
      simp
theorem flatMap_len {α : Type} {g : α → List Value} {s : Nat} : ∀ (xs : List α), (∀ e ∈ xs, (g e).length = s) → (xs.flatMap g).length = xs.length * s
  | [], _ => by simp
  | e :: r, h => by
    rw [List.flatMap_cons, List.length_append, h e (by simp), flatMap_len r (fun e' he' => h e' (by simp [he'])), List.length_cons, Nat.succ_mul]
    omega

/-- A composite of a list; append onto nil. -/
def bslK (T : Tab) (t : TypeId) (len : Nat) (parts : List (Nat × Operand)) (f : Fr) (nn : Nat) (k : Out → Prop) : Prop :=
  match tyL T.ty t with
  | some (.lst e, _) => Need (1 ≤ len ∧ len * e.sz ≤ 65536) (partK len (fun i => [.idx i]) f parts (.leaf (.arr len e) (Ty.arr len e).zero) fun v => denK v (.arr len e) fun g => k ⟨.a (.of (.leaf (.lst e) (.nm nn, ownL e g 0 len))), .none, 1, [], true, true⟩)
  | _ => False
def nilA : AV → Bool
  | .raw (.slice none 0 0) => true
  | .of (.leaf (.lst _) (.conc (.slice none 0 0), [])) => true
  | _ => false
theorem nilA_val {s : AV} (h : nilA s = true) (E : Env) : s.val E = .slice none 0 0 := by
  unfold nilA at h
  split at h
  · rfl
  · rfl
  · cases h
def emptyA : AV → Bool
  | .raw (.slice none 0 0) => true
  | .of (.leaf (.lst _) (.conc (.slice none 0 0), [])) => true
  | .emp _ => true
  | _ => false
theorem emptyA_val {s : AV} (h : emptyA s = true) (c : Cx) (hs : s.ok c) : ∃ ad, s.val c.E = .slice ad 0 0 := by
  unfold emptyA at h
  split at h
  · exact ⟨none, rfl⟩
  · exact ⟨none, rfl⟩
  · obtain ⟨_, a, l, k, hv⟩ := hs
    exact ⟨a, by simp only [AV.val, hv]⟩
  · cases h
/-- An empty list, made on the spot. -/
def bs0K (T : Tab) (t : TypeId) (parts : List (Nat × Operand)) (nn : Nat) (k : Out → Prop) : Prop :=
  match tyL T.ty t with
  | some (.lst e, _) => match parts with
    | [] => k ⟨.a (.emp (.nm nn)), .none, 1, [], true, true⟩
    | _ => False
  | _ => False
def appK (T : Tab) (c : Call) (f : Fr) (nn : Nat) (k : Out → Prop) : Prop :=
  match c.args.toList with
  | [x, y] => match c.argTypes.toList with
    | [t, u] => match tyL T.ty t with
      | some (.lst e, _) => match Nat.beq u t with
        | true => match evS f x with
          | some (.a s) => match emptyA s with
            | true => match evS f y with
              | some (.a (.of v)) => denK v (.lst e) fun d => Need (d.2.length ≤ 140737488355328 ∧ d.2.length * e.byt ≤ 140737488355328) (k ⟨.a (.of (.leaf (.lst e) (.nm nn, d.2))), .none, 1, [], true, true⟩)
              | _ => False
            | false => False
          | _ => False
        | false => False
      | _ => False
    | _ => False
  | _ => False

section
variable {P : Program} {w0 : World} {F0 : Old}
theorem lst_info {id : TypeId} {t : Ty} (h : lstB P id t = true) : ∃ e i z, P.underlying id = some (.slice e) ∧ P.info? e = some i ∧ i.size = t.sz ∧ 1 ≤ t.sz ∧ i.zero = some z ∧ zeroB P e t = true ∧ i.bytes ≤ t.byt := by
  unfold lstB at h
  split at h
  · rename_i e hu
    simp only [Bool.and_eq_true, beq_iff_eq] at h
    obtain ⟨⟨⟨⟨h1, h2⟩, h3⟩, h4⟩, h5⟩ := h
    cases hi : P.info? e with
    | none => rw [hi] at h1; simp at h1
    | some i =>
      have hz := h3
      unfold zeroB at hz
      rw [hi] at hz h5
      simp only [Option.bind_some] at hz
      split at hz
      · rename_i z hzz
        exact ⟨e, i, z, hu, hi, by simpa [hi] using h1, Nat.le_of_ble_eq_true h4, hzz, h3, Nat.le_of_ble_eq_true h5⟩
      · cases hz
  · cases h

theorem appK_sound {T : Tab} (hT : TabOk P T) {o : Oper} {c : Call} (ho : o.op = .call c) (hc : c.callee = .builtin .append) {f : Fr} {get : Nat → Option V} {bl nn : Nat} {k : Out → Prop} (h : appK T c f nn k) : ∃ out, k out ∧ Does P w0 F0 o f get bl nn out := by
  unfold appK at h
  split at h
  · rename_i x y hxy
    split at h
    · rename_i t u htu
      split at h
      · rename_i e n0 hty
        split at h
        · rename_i hu0
          obtain rfl : u = t := Nat.eq_of_beq_eq_true hu0
          split at h
          · rename_i s hs
            split at h
            · rename_i hnil
              split at h
              · rename_i v hy
                obtain ⟨d, h1, h2, h3, h4⟩ := denK_sound v (.lst e) _ h
                obtain ⟨hb, h1⟩ := h1
                refine ⟨_, h1, does_list fun cx ρ hw hρ => ?_⟩
                have hargs : c.args = #[x, y] := by apply Array.toList_inj.1; rw [hxy]
                have hats : c.argTypes = #[u, u] := by apply Array.toList_inj.1; rw [htu]
                obtain ⟨e1, e2⟩ := hρ x (by rw [ho]; simp [Op.operands, Call.operands, hc, hargs]) _ hs
                obtain ⟨e3, e4⟩ := hρ y (by rw [ho]; simp [Op.operands, Call.operands, hc, hargs]) _ hy
                obtain ⟨ad0, hx0⟩ := emptyA_val hnil cx e2
                have hx : ρ x = .slice ad0 0 0 := by rw [e1]; exact hx0
                have hwok : wokc cx (.lst e) d := h4 _ _ _ _ e4
                have hyv : ρ y = d.1.val cx.E.B := by
                  rw [e3]
                  show v.val cx.E.B = _
                  rw [val_leaf h2 (h3 cx.E.B)]
                  rfl
                obtain ⟨el, i, z, u1, u2, u3, u4, u5, u6, u7⟩ := lst_info (tyB_lst (hT.ty.at hty))
                have hu' := u1
                have hrun : ∀ (v' : Value) (x' : World), (Builtin.append_ #[u, u] o.type #[ρ x, ρ y]).run P cx.x = .ok v' x' → (execOp ρ o).run P cx.x = .ok (.value v') x' := fun v' x' hr => by
                  unfold execOp
                  simp only [ho, resolve, hc, invoke, builtin, Sem.run_bind, Sem.run_pure, Result.andThen_ok, hargs, hats, List.map_toArray, List.map_cons, List.map_nil, hr]
                obtain ⟨_, hd⟩ := hwok
                rcases hd with ⟨hnl, ad, cap, hdv⟩ | ⟨b, o', cap, hdv, c1, c2, c3, c4, c5⟩
                · refine ⟨fun e' he' => (by rw [hnl] at he'; cases he'), .slice ad0 0 0, cx.x, hrun _ _ ?_, same_refl _ _, Or.inl ⟨hnl, ad0, 0, rfl⟩⟩
                  rw [hx, hyv, hdv]
                  have hsrc : Src P i.size u (.slice ad 0 cap) 0 [] cx.x := by
                    cases ad with
                    | none => exact Src.ofNil cx.x hu' cap
                    | some a => exact Src.ofSlice cx.x hu' a 0 cap [] (by simp) (by simp) (by simp)
                  exact run_append_nothing cx.x _ _ _ _ i u1 u2 ad0 0 0 (Nat.le_refl _) _ hsrc
                · by_cases h0 : d.2 = []
                  · refine ⟨fun e' he' => (by rw [h0] at he'; cases he'), .slice ad0 0 0, cx.x, hrun _ _ ?_, same_refl _ _, Or.inl ⟨h0, ad0, 0, rfl⟩⟩
                    rw [hx, hyv, hdv]
                    have hl0 : d.2.length = 0 := by rw [h0]; rfl
                    rw [hl0]
                    exact run_append_nothing cx.x _ _ _ _ i u1 u2 ad0 0 0 (Nat.le_refl _) _ (Src.ofSlice cx.x hu' _ 0 cap [] (by simp) (by simp) (by simp))
                  · have hpos : 0 < d.2.length := List.length_pos_iff.2 h0
                    have hmul := hb.1
                    have hb := hb.2
                    have hfl : ∀ e' ∈ d.2, (flat cx.E.B e e').length = e.sz := fun e' _ => flat_len _ _ _
                    have hlen : (d.2.flatMap (flat cx.E.B e)).length = d.2.length * e.sz := flatMap_len _ hfl
                    have hcell : ∀ j u, (d.2.flatMap (flat cx.E.B e))[j]? = some u → cx.x.cell? ((⟨b, o', none⟩ : Addr).add j) = some u := fun j w hj => by
                      have hj' : j = (j / e.sz) * e.sz + j % e.sz := by rw [Nat.mul_comm]; exact (Nat.div_add_mod j e.sz).symm
                      have hm : j % e.sz < e.sz := Nat.mod_lt _ (by omega)
                      rw [hj', flatMap_get _ hfl _ _ hm] at hj
                      cases hq : d.2[j / e.sz]? with
                      | none => rw [hq] at hj; cases hj
                      | some q =>
                        rw [hq] at hj
                        have := (c5 _ q hq).1 _ hm
                        rw [Addr.add_mid, hj', ← Nat.add_assoc]
                        rw [this]
                        exact hj
                    have hby : d.2.length * i.bytes ≤ 281474976710656 := by
                      have := Nat.mul_le_mul_left d.2.length u7
                      omega
                    have hone : ∀ w ∈ d.2.flatMap (flat cx.E.B e), w.oneCell' = true := fun w hm => by
                      obtain ⟨q, hq, hm⟩ := List.mem_flatMap.1 hm
                      obtain ⟨j, hj⟩ := List.getElem?_of_mem hq
                      exact flat_one e q (c5 j q hj).2 w hm
                    have hsrc : Src P i.size u (.slice (some ⟨b, o', none⟩) d.2.length cap) d.2.length (d.2.flatMap (flat cx.E.B e)) cx.x := Src.ofSlice cx.x hu' _ _ cap _ (by rw [hlen, u3]) hcell hone
                    have hold0 : (Builtin.firstCells i.size 0 (.slice ad0 0 0)).run P cx.x.drew = .ok ([] : List Value).toArray cx.x.drew := by
                      cases ad0 with
                      | none => exact run_firstCells_none _ _ _ _ _
                      | some a => exact run_firstCells_some _ _ _ _ _ _ _ (by simp) (by simp)
                    have hr := run_append_grow_src (P := P) cx.x u u o.type el i z u1 u2 u5 ad0 0 0 [] hold0 _ d.2.length _ hsrc (by omega) (by omega) (by rw [Nat.zero_add, nextslicecap_zero hpos]; exact hby)
                    simp only [Nat.zero_add, List.nil_append] at hr
                    refine ⟨fun e' he' => ?_, .slice (some ⟨cx.x.heap.size, 0, none⟩) d.2.length (grownCap cx.x d.2.length 0 el), cx.x.drew.alloc (.cells ((d.2.flatMap (flat cx.E.B e)).toArray ++ Builtin.zeroCells z.cells (grownCap cx.x d.2.length 0 el - d.2.length)) el), hrun _ _ ?_, ?_, Or.inr ⟨cx.x.heap.size, grownCap cx.x d.2.length 0 el, rfl, grownCap_ge _ _ _ _, grownCap_le_maxLen _ _ _ _ (by unfold maxLen; omega), Nat.le_refl _, ?_, ?_⟩⟩
                    · obtain ⟨q, hq⟩ := List.getElem?_of_mem he'
                      exact (c5 q e' hq).2
                    · rw [hx, hyv, hdv]
                      exact hr
                    · exact ⟨rfl, rfl, rfl, by rw [size_alloc']; exact Nat.le_succ _, fun k hk _ => Below.heap_alloc _ _ _ hk⟩
                    · rw [size_alloc']; exact Nat.lt_succ_self _
                    · intro q e' hq j hj
                      have hblk : (cx.x.drew.alloc (.cells ((d.2.flatMap (flat cx.E.B e)).toArray ++ Builtin.zeroCells z.cells (grownCap cx.x d.2.length 0 el - d.2.length)) el)).heap[cx.x.heap.size]? = _ := heap_alloc_at cx.x.drew _
                      rw [cell_of_block hblk]
                      have hlt : q * e.sz + j < d.2.length * e.sz := by
                        have hq' : q < d.2.length := (List.getElem?_eq_some_iff.1 hq).1
                        have : q * e.sz + e.sz ≤ d.2.length * e.sz := by rw [← Nat.succ_mul]; exact Nat.mul_le_mul_right _ hq'
                        omega
                      rw [Array.getElem?_append_left (by simpa [hlen] using hlt)]
                      simp only [List.getElem?_toArray]
                      rw [flatMap_get _ hfl _ _ hj, hq]
                      rfl
              · exact h.elim
            · exact h.elim
          · exact h.elim
        · exact h.elim
      · exact h.elim
    · exact h.elim
  · exact h.elim

theorem bs0K_sound {T : Tab} (hT : TabOk P T) {o : Oper} {t : TypeId} {parts : Array (Nat × Operand)} (ho : o.op = .buildSlice t 0 parts) {f : Fr} {get : Nat → Option V} {bl nn : Nat} {k : Out → Prop} (h : bs0K T t parts.toList nn k) : ∃ out, k out ∧ Does P w0 F0 o f get bl nn out := by
  unfold bs0K at h
  split at h
  · rename_i e n0 hty
    split at h
    · rename_i hp
      have hparts : parts = #[] := by apply Array.toList_inj.1; rw [hp]
      obtain ⟨el, i, z, u1, u2, u3, u4, u5, u6, u7⟩ := lst_info (tyB_lst (hT.ty.at hty))
      refine ⟨_, h, fun h => (by cases h), ?_⟩
      intro c ρ hw hρ ht _ hq
      have hX := hq rfl
      have hrun : (execOp ρ o).run P c.x = .ok (.value (.slice (some ⟨c.x.heap.size, 0, none⟩) 0 0)) (c.x.alloc (.cells #[] el)) := by
        unfold execOp
        simp only [ho, Instr.buildSlice, Sem.run_bind, run_underlying u1, sizeOf, typeInfo, run_program, u2, Sem.run_pure, Result.andThen_ok, hparts]
        rw [if_neg (by omega : ¬ 0 * i.size > 2 ^ 24)]
        have h0 : ∀ g : Nat → Value, Array.map g (Array.range 0) = #[] := fun g => by apply Array.ext'; simp
        simp [Instr.fill, newRow, run_newObj_alloc, h0]
      rw [hrun]
      let E : Env := ⟨c.E.A, fun n => if n = nn then .slice (some ⟨c.x.heap.size, 0, none⟩) 0 0 else c.E.B n, c.E.F⟩
      have hBn : E.B nn = .slice (some ⟨c.x.heap.size, 0, none⟩) 0 0 := if_pos rfl
      have hsz : (c.x.alloc (.cells #[] el)).heap.size = c.x.heap.size + 1 := size_alloc' _ _
      refine ⟨E, ?_, ⟨Or.inr ⟨Nat.le_refl _, Nat.lt_succ_self _⟩, _, _, _, hBn⟩, fun _ _ => rfl, fun n hn => if_neg (by have := (hX n).1 hn; omega), fun _ _ h => h, fun _ _ _ h => h, fun b e he => ?_, ⟨rfl, rfl, rfl, by omega, fun k hk _ => Below.heap_alloc _ _ _ hk⟩, (fun y hy => by cases hy), (fun i y hy => by cases hy)⟩
      · show _ = (match E.B nn with | .slice a _ _ => Value.slice a 0 0 | _ => undef)
        rw [hBn]
      · have := hw.fhi b e he; omega
    · exact h.elim
  · exact h.elim
theorem rows_idx {α : Type} {g : Nat → List α} {s n : Nat} (h : ∀ i, i < n → (g i).length = s) {i j : Nat} (hi : i < n) (hj : j < s) : (rows n g)[i * s + j]? = (g i)[j]? := by
  rw [← rows_get n h i hi, List.getElem?_take, if_pos hj, List.getElem?_drop]
theorem zero_rows {B : Nat → Value} {e : Ty} {len : Nat} {zc : Array Value} (hz : zc = (flat B e e.zero).toArray) (h1 : 1 ≤ e.sz) : (Array.range (len * e.sz)).map (fun q => zc[q % zc.size]!) = (flat B (.arr len e) (Ty.arr len e).zero).toArray := by
  have hs : zc.size = e.sz := by rw [hz]; simp [flat_len]
  apply Array.ext_getElem?
  intro q
  rcases Nat.lt_or_ge q (len * e.sz) with hq | hq
  · have hq' : q = (q / e.sz) * e.sz + q % e.sz := by rw [Nat.mul_comm]; exact (Nat.div_add_mod q e.sz).symm
    have hm : q % e.sz < e.sz := Nat.mod_lt _ (by omega)
    have hd : q / e.sz < len := (Nat.div_lt_iff_lt_mul (by omega)).2 hq
    have e1 : ((flat B (.arr len e) (Ty.arr len e).zero).toArray)[q]? = (flat B e e.zero)[q % e.sz]? := by
      rw [List.getElem?_toArray]
      conv => lhs; rw [hq']
      exact rows_idx (g := fun i => flat B e ((Ty.arr len e).zero i)) (fun i _ => flat_len B e _) hd hm
    rw [e1]
    have hlt : q % e.sz < (flat B e e.zero).length := by rw [flat_len]; exact hm
    have hr : (Array.range (len * e.sz))[q]? = some q := by simp [hq]
    simp only [Array.getElem?_map, hr, Option.map_some, hs]
    rw [getElem!_pos zc (q % e.sz) (by rw [hs]; exact hm), List.getElem?_eq_getElem hlt]
    congr 1
    simp [hz]
  · rw [Array.getElem?_eq_none (by simpa using hq), Array.getElem?_eq_none (by
      have := flat_len B (.arr len e) (Ty.arr len e).zero
      simp only [Ty.sz] at this
      simpa [this] using hq)]

theorem bslK_sound {T : Tab} (hT : TabOk P T) {o : Oper} {t : TypeId} {len : Nat} {parts : Array (Nat × Operand)} (ho : o.op = .buildSlice t len parts) {f : Fr} {get : Nat → Option V} {bl nn : Nat} {k : Out → Prop} (h : bslK T t len parts.toList f nn k) : ∃ out, k out ∧ Does P w0 F0 o f get bl nn out := by
  unfold bslK at h
  split at h
  · rename_i e n0 hty
    obtain ⟨hlen, h⟩ := h
    obtain ⟨el, i, z, u1, u2, u3, u4, u5, u6, u7⟩ := lst_info (tyB_lst (hT.ty.at hty))
    obtain ⟨v', h1, h2, h3⟩ := part_sound (path := fun i => [.idx i]) (place := fun i => some (i * e.sz, e.sz)) (ty := .arr len e) (fun i hi => ⟨i * e.sz, e, ⟨hi, 0, by unfold At; exact ⟨rfl, rfl⟩, by omega⟩, rfl⟩) _ _ _ rfl h
    obtain ⟨g, hk, g2, g3, g4⟩ := denK_sound v' (.arr len e) _ h1
    refine ⟨_, hk, does_list fun c ρ hw hρ => ?_⟩
    have hops : ∀ q ∈ parts.toList, ∀ s, evS f q.2 = some s → ρ q.2 = s.val c.E ∧ s.ok c := fun q hq s hs => hρ q.2 (by
      rw [ho]
      simp only [Op.operands, List.mem_toArray, List.mem_map]
      exact ⟨q, hq, rfl⟩) s hs
    obtain ⟨p1, p2⟩ := h3 c ρ (zero_wok _ _ _ _ (.arr len e)) hops
    obtain ⟨zv, z1, z2⟩ := zero_run u6 c.E.B c.x
    have hwk : wokc c (.arr len e) g := g4 _ _ _ _ p2
    have hxl : (ownL e g 0 len).length = len := by simp [ownL]
    have hget : ∀ (q : Nat) (y : e.D), (ownL e g 0 len)[q]? = some y → q < len ∧ y = g q := fun q y hq => by
      have hlt : q < len := by rw [← hxl]; exact (List.getElem?_eq_some_iff.1 hq).1
      refine ⟨hlt, ?_⟩
      have : (ownL e g 0 len)[q]? = some (g (0 + q)) := by simp [ownL, hlt]
      rw [this, Nat.zero_add] at hq
      exact (Option.some.inj hq).symm
    refine ⟨fun y hy => ?_, .slice (some ⟨c.x.heap.size, 0, none⟩) len len, c.x.alloc (.cells (v'.cells c.E.B).toArray el), ?_, ⟨rfl, rfl, rfl, by rw [size_alloc']; exact Nat.le_succ _, fun k hk _ => Below.heap_alloc _ _ _ hk⟩, Or.inr ⟨c.x.heap.size, len, by rw [hxl], by rw [hxl]; exact Nat.le_refl _, ?_, Nat.le_refl _, by rw [size_alloc']; exact Nat.lt_succ_self _, ?_⟩⟩
    · obtain ⟨q, hq⟩ := List.getElem?_of_mem hy
      obtain ⟨hlt, rfl⟩ := hget q y hq
      exact hwk q hlt
    · have hpos : 1 ≤ len * e.sz := Nat.mul_pos hlen.1 u4
      unfold execOp
      simp only [ho, Instr.buildSlice, Sem.run_bind, run_underlying u1, sizeOf, typeInfo, run_program, u2, Sem.run_pure, Result.andThen_ok, u3]
      rw [if_neg (by omega : ¬ len * e.sz > 2 ^ 24)]
      try simp only [Sem.run_pure, Sem.run_bind, Result.andThen_ok]
      rw [if_neg (by omega : ¬ len * e.sz = 0)]
      simp only [Sem.run_bind, z1, Result.andThen_ok, Sem.run_pure, Array.toList_map]
      rw [zero_rows z2 u4]
      rw [show Instr.fill (fun i => some (i * e.sz, e.sz)) (flat c.E.B (.arr len e) (Ty.arr len e).zero).toArray (parts.toList.map fun (e : Nat × Operand) => match e with | (i, x) => (i, ρ x)) = some (v'.cells c.E.B).toArray from p1]
      simp only [newRow, Sem.run_bind, Sem.run_pure, Result.andThen_ok, run_newObj_alloc]
    · have := hlen.2
      have h2 : len ≤ len * e.sz := Nat.le_mul_of_pos_right _ (by omega)
      unfold maxLen
      omega
    · intro q y hq j hj
      obtain ⟨hlt, rfl⟩ := hget q y hq
      rw [cell_of_block (heap_alloc_at c.x _), ← g3 c.E.B, List.getElem?_toArray]
      exact rows_idx (g := fun i => flat c.E.B e (g i)) (fun i _ => flat_len c.E.B e _) hlt hj
  · exact h.elim
end

/-- A function made on the spot. -/
def capK (f : Fr) : List Operand → (List (Nat × Nat × List Step × Ty) → Prop) → Prop
  | [], k => k []
  | x :: r, k => match evS f x with
    | some (.a (.ptr i off p u)) => capK f r fun l => k ((i, off, p, u) :: l)
    | _ => False
def mkfK (fn : Fn) (first captured : List Operand) (f : Fr) (k : Out → Prop) : Prop :=
  match fn with
  | .func g => match first with
    | [] => capK f captured fun cs => k (.val (.a (.clo g cs)))
    | _ => False
  | _ => False
def nilK (T : Tab) (x : Operand) (f : Fr) (bl : List V) (k : Out → Prop) : Prop :=
  match evS f x with
  | some (.a (.clo g cs)) => k (.val (.a (.clo g cs)))
  | _ => sopK T (.nilCheck x) f bl k

section
variable {P : Program} {w0 : World} {F0 : Old}
theorem capK_sound {f : Fr} : ∀ (xs : List Operand) (k : List (Nat × Nat × List Step × Ty) → Prop), capK f xs k → ∃ cs, k cs ∧ ∀ (c : Cx) (ρ : Operand → Value), (∀ y ∈ xs, ∀ s, evS f y = some s → ρ y = s.val c.E ∧ s.ok c) →
    xs.map ρ = cs.map (fun q => Value.pointer (some ⟨c.E.A q.1, q.2.1, none⟩)) ∧ ∀ q ∈ cs, c.XA q.1 ∧ ∃ t, c.ty q.1 = some t ∧ At t q.2.2.1 q.2.1 q.2.2.2
  | [], k, h => ⟨[], h, fun c ρ _ => ⟨rfl, fun q hq => by cases hq⟩⟩
  | x :: r, k, h => by
    unfold capK at h
    split at h
    · rename_i i off p u hx
      obtain ⟨cs, h1, h2⟩ := capK_sound r _ h
      refine ⟨_, h1, fun c ρ hρ => ?_⟩
      obtain ⟨e1, e2⟩ := hρ x (by simp) _ hx
      obtain ⟨e3, e4⟩ := h2 c ρ (fun y hy => hρ y (by simp [hy]))
      refine ⟨by rw [List.map_cons, e3, e1]; rfl, fun q hq => ?_⟩
      rcases List.mem_cons.1 hq with rfl | hq
      · exact e2
      · exact e4 q hq
    · exact h.elim
theorem mkfK_sound {o : Oper} {fn : Fn} {first captured : Array Operand} (ho : o.op = .makeFunc fn first captured) {f : Fr} {get : Nat → Option V} {bl nn : Nat} {k : Out → Prop} (h : mkfK fn first.toList captured.toList f k) : ∃ out, k out ∧ Does P w0 F0 o f get bl nn out := by
  unfold mkfK at h
  split at h
  · rename_i g
    split at h
    · rename_i hf
      obtain ⟨cs, h1, h2⟩ := capK_sound _ _ h
      refine ⟨_, h1, does_val fun c ρ hw hρ _ => ?_⟩
      have hfirst : first = #[] := by apply Array.toList_inj.1; rw [hf]
      obtain ⟨e1, e2⟩ := h2 c ρ (fun y hy => hρ y (by rw [ho]; simp only [Op.operands, Array.mem_append]; exact Or.inr (by simpa using hy)))
      refine ⟨?_, e2⟩
      unfold execOp
      simp only [ho, Instr.makeFunc, hfirst, Sem.run_bind, Sem.run_pure, Result.andThen_ok, SV.val, AV.val]
      have : captured.map ρ = (cs.map fun q => Value.pointer (some ⟨c.E.A q.1, q.2.1, none⟩)).toArray := by
        apply Array.toList_inj.1
        rw [Array.toList_map, e1]
      rw [this, Array.map_empty]
    · exact h.elim
  · exact h.elim
theorem nilK_sound {T : Tab} (hT : TabOk P T) {o : Oper} {x : Operand} (ho : o.op = .nilCheck x) {f : Fr} {bl : List V} {nn : Nat} {k : Out → Prop} (h : nilK T x f bl k) : ∃ out, k out ∧ Does P w0 F0 o f (fun i => bl[i]?) bl.length nn out := by
  unfold nilK at h
  split at h
  · rename_i g cs hx
    refine ⟨_, h, does_val fun c ρ hw hρ _ => ?_⟩
    obtain ⟨h1, h2⟩ := hρ x (by rw [ho]; simp [Op.operands]) _ hx
    refine ⟨?_, h2⟩
    unfold execOp
    simp only [ho, h1, SV.val, AV.val]
    rfl
  · rw [← ho] at h
    exact sopK_sound hT h
end

end Go.Proofs.Ytjbbgpacijageaa.M
