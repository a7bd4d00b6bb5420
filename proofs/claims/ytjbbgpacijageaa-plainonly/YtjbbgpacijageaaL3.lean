/- A copy of a list of instructions, made by append onto nil; a list that came in. -/
import Derived.Test.YtjbbgpacijageaaL2
import Derived.Test.YtjbbgpacijageaaArgs
import Derived.Deep.Slices
import Derived.Deep.AppendSrc
import Derived.Deep.Upon
import Derived.Deep.MidRow
namespace Go.Proofs.Ytjbbgpacijageaa
open Go.ChangeShapes Go.WideShapes Go.ChangeAt Go.RowKit Go.Deep
set_option maxRecDepth 8000
set_option linter.unusedSimpArgs false
set_option linter.unusedVariables false

/-- An instruction's cells. -/
def inCells (i : In) : List Value := [.int .i64 i.op, .int .i64 i.a, .int .i64 i.b, .int .i64 i.c, .int .i64 i.n]
def lstCells (l : List In) : List Value := l.flatMap inCells

theorem lstCells_length (l : List In) : (lstCells l).length = l.length * 5 := by
  induction l with
  | nil => rfl
  | cons i l ih =>
    rw [show lstCells (i :: l) = inCells i ++ lstCells l from by simp [lstCells], List.length_append, ih]
    simp [inCells]
    omega

theorem lstCells_get (l : List In) (j t : Nat) (ht : t < 5) : (lstCells l)[j * 5 + t]? = (l[j]?).bind fun i => (inCells i)[t]? := by
  induction l generalizing j with
  | nil => simp [lstCells]
  | cons i l ih =>
    have hc : lstCells (i :: l) = inCells i ++ lstCells l := by simp [lstCells]
    rw [hc]
    cases j with
    | zero =>
      rw [List.getElem?_append_left (by simp [inCells]; omega)]
      simp
    | succ j =>
      rw [List.getElem?_append_right (by simp [inCells]; omega)]
      have : (j + 1) * 5 + t - (inCells i).length = j * 5 + t := by simp [inCells]; omega
      rw [this, ih j]
      simp

theorem lstCells_one (l : List In) : ∀ u ∈ lstCells l, u.oneCell' = true := by
  intro u hu
  simp only [lstCells, List.mem_flatMap] at hu
  obtain ⟨i, _, hu⟩ := hu
  simp [inCells] at hu
  rcases hu with rfl | rfl | rfl | rfl | rfl <;> rfl

theorem Lst.cells {w : World} {b off : Nat} {l : List In} (h : ∀ (j : Nat) (i : In), l[j]? = some i → InAt w b (off + j * 5) i) : ∀ k u, (lstCells l)[k]? = some u → w.cell? ((⟨b, off, none⟩ : Addr).add k) = some u := by
  intro k u hu
  have hk : k = (k / 5) * 5 + k % 5 := by omega
  have hm : k % 5 < 5 := by omega
  rw [hk, lstCells_get l (k / 5) (k % 5) hm] at hu
  cases hi : l[k / 5]? with
  | none => simp [hi] at hu
  | some i =>
    obtain ⟨c0, c1, c2, c3, c4⟩ := h _ i hi
    simp only [hi, Option.bind_some] at hu
    rw [Addr.add_mid, hk]
    have : k % 5 = 0 ∨ k % 5 = 1 ∨ k % 5 = 2 ∨ k % 5 = 3 ∨ k % 5 = 4 := by omega
    rcases this with e | e | e | e | e <;> rw [e] at hu ⊢ <;> simp [inCells] at hu <;> subst hu
    · simpa using c0
    · simpa [Nat.add_assoc] using c1
    · simpa [Nat.add_assoc] using c2
    · simpa [Nat.add_assoc] using c3
    · simpa [Nat.add_assoc] using c4

/-- A block that begins with a list's cells holds that list. -/
theorem Lst.of_block {w : World} {g : Nat} {C : Array Value} {t : TypeId} {l : List In} {cap : Nat} (hb : w.heap[g]? = some (.cells C t)) (hC : ∀ k, k < l.length * 5 → C[k]? = (lstCells l)[k]?) (hl : l.length ≤ cap) (hm : cap ≤ maxLen) :
    Lst w (.slice (some ⟨g, 0, none⟩) l.length cap) l := by
  have hg : g < w.heap.size := by
    rcases Nat.lt_or_ge g w.heap.size with h' | h'
    · exact h'
    · rw [Array.getElem?_eq_none h'] at hb; cases hb
  refine Or.inr ⟨g, 0, cap, rfl, hl, hm, hg, fun j i hi => ?_⟩
  have hj : j < l.length := by
    rcases Nat.lt_or_ge j l.length with h' | h'
    · exact h'
    · rw [List.getElem?_eq_none h'] at hi; cases hi
  have key : ∀ t, t < 5 → w.cell? ⟨g, 0 + j * 5 + t, none⟩ = (inCells i)[t]? := fun t ht => by
    rw [cell_of_block hb, Nat.zero_add, hC _ (by omega), lstCells_get l j t ht, hi]
    rfl
  exact ⟨key 0 (by omega), key 1 (by omega), key 2 (by omega), key 3 (by omega), key 4 (by omega)⟩

/-- append onto nil of a list: a list of the same, in a world in which all is as it was. -/
theorem run_append_copy (w : World) (v : Value) (l : List In) (ty : TypeId) (hl : Lst w v l) (hb : l.length * 40 ≤ 140737488355328) :
    ∃ v' w', (Builtin.append_ #[22, 22] ty #[.slice none 0 0, v]).run Try.prog w = .ok v' w' ∧ Lst w' v' l ∧ Below w.heap.size w w' := by
  obtain ⟨i, hi⟩ : ∃ i, Try.prog.info? 27 = some i := info_of_underlying Try.underlying27
  have hsz : i.size = 5 := by
    have h : (Try.prog.info? 27).map (·.size) = some 5 := by kernel_rfl
    simpa [hi] using h
  have hby : i.bytes = 40 := by
    have h : (Try.prog.info? 27).map (·.bytes) = some 40 := by kernel_rfl
    simpa [hi] using h
  obtain ⟨z, hz⟩ : ∃ z, i.zero = some z := by
    have h : ((Try.prog.info? 27).bind (·.zero)).isSome = true := by kernel_rfl
    rw [hi] at h
    exact Option.isSome_iff_exists.1 h
  by_cases h0 : l = []
  · have hv : ∃ ad cap, v = .slice ad 0 cap := by
      rcases hl with ⟨_, h⟩ | ⟨b, off, cap, h, _⟩
      · exact h
      · exact ⟨_, cap, by rw [h, h0]; rfl⟩
    obtain ⟨ad, cap, rfl⟩ := hv
    have hs : Src Try.prog i.size 22 (.slice ad 0 cap) 0 [] w := by
      cases ad with
      | none => exact Src.ofNil w Try.underlying22 cap
      | some a => exact Src.ofSlice w Try.underlying22 a 0 cap [] (by simp) (by simp) (by simp)
    exact ⟨_, _, run_append_nothing w _ _ ty _ i Try.underlying22 hi none 0 0 (Nat.le_refl _) _ hs, Or.inl ⟨h0, none, 0, rfl⟩, Below.refl _ _⟩
  · rcases hl with ⟨h, _⟩ | ⟨b, off, cap, rfl, h2, h3, h4, h5⟩
    · exact absurd h h0
    · have hpos : 0 < l.length := List.length_pos_iff.2 h0
      have hr := run_append_nil (P := Try.prog) w 22 ty 27 i z Try.underlying22 hi hz ⟨b, off, none⟩ l.length cap (lstCells l) (by rw [lstCells_length, hsz]) (Lst.cells h5) hpos (by omega) (by rw [hby]; omega)
      refine ⟨_, _, hr, ?_, (Below.refl _ _).drew.alloc (by simp) _⟩
      refine Lst.of_block (t := 27) (C := (lstCells l).toArray ++ Builtin.zeroCells z.cells (grownCap w l.length 0 27 - l.length)) ?_ ?_ (grownCap_ge _ _ _ _) (grownCap_le_maxLen _ _ _ _ (by unfold maxLen; omega))
      · have := heap_alloc_at w.drew (.cells ((lstCells l).toArray ++ Builtin.zeroCells z.cells (grownCap w l.length 0 27 - l.length)) 27)
        simpa using this
      · intro k hk
        have : k < (lstCells l).length := by rw [lstCells_length]; exact hk
        rw [Array.getElem?_append_left (by simpa using this)]
        simp

/-- The same at the operation. -/
theorem wp_append_copy {o : Oper} {a : Act} {w : World} {K : Act → World → Prop} {Q : Exit → Act → World → Prop} (s x : Operand)
    (ho : o.op = .call { callee := .builtin .append, args := #[s, x], argTypes := #[22, 22] }) (hs : a.eval s = .slice none 0 0) (v : Value) (hx : a.eval x = v)
    (l : List In) (hl : Lst w v l) (hb : l.length * 40 ≤ 140737488355328) (h : ∀ v' w', Lst w' v' l → Below w.heap.size w w' → K (a.put o.dst v') w') : o.wp Try.prog a w K Q := by
  obtain ⟨v', w', hr, h2, h3⟩ := run_append_copy w v l o.type hl hb
  unfold Oper.wp execOp
  simp only [ho, resolve, invoke, builtin, Sem.run_bind, Sem.run_pure, Result.andThen_ok, List.map_toArray, List.map_cons, List.map_nil, hs, hx, hr]
  exact h v' w' h2 h3

/-- A list that came in. -/
theorem open_list {H : Type} {enc : TypeId × Value → H} {w : World} {base : Nat} {spare : Nat → Bool} {held : Bool} {r : Reach} {b0 : Nat} {v : Value} {d : DataW H} {ps : List MemPlace}
    (hv : Value.okWide Try.prog w r b0 22 v) (h : DataW.Trod enc Try.prog w base spare held 22 v d ps) : ∃ l : List In, Lst w v l ∧ ((d = .nil ∧ l = []) ∨ ∃ es sp, d = .slice es sp ∧ es.length = l.length) := by
  obtain ⟨a0, len, cap, rfl⟩ := okWide_slice Try.underlying22 hv
  obtain ⟨fuel, hf⟩ := h
  rcases open_slice Try.underlying22 hf with ⟨hcs, hx⟩ | ⟨a, len', cap', m, n, D, Pl, hcs, hb, hl, hm, hmm, hx, hel⟩
  · simp [Value.cells] at hcs
    obtain ⟨rfl, rfl, rfl⟩ := hcs
    simp at hx
    exact ⟨[], Or.inl ⟨rfl, none, 0, rfl⟩, Or.inl ⟨hx.1, rfl⟩⟩
  · simp [Value.cells] at hcs
    obtain ⟨rfl, rfl, rfl⟩ := hcs
    simp at hx
    have h5 : Try.prog.cellsOf 27 = 5 := by kernel_rfl
    rw [h5] at hel
    have hle : len ≤ m := by rw [hmm]; split <;> omega
    have hone : ∀ j, j < len → ∃ i : In, ∀ k, k < 5 → w.cell? ((a.add (j * 5)).add k) = (inCells i)[k]? := by
      intro j hj
      obtain ⟨cs', h1, h2⟩ := hel j (by omega)
      obtain ⟨_, hlen, hc⟩ := World.cells?_some h1
      obtain ⟨x0, e0, _⟩ := leaf_int (d := 4) (k := 0) (e := 3) (by kernel_rfl) Try.underlying3 h2
      obtain ⟨x1, e1, _⟩ := leaf_int (d := 4) (k := 1) (e := 3) (by kernel_rfl) Try.underlying3 h2
      obtain ⟨x2, e2, _⟩ := leaf_int (d := 4) (k := 2) (e := 3) (by kernel_rfl) Try.underlying3 h2
      obtain ⟨x3, e3, _⟩ := leaf_int (d := 4) (k := 3) (e := 3) (by kernel_rfl) Try.underlying3 h2
      obtain ⟨x4, e4, _⟩ := leaf_int (d := 4) (k := 4) (e := 3) (by kernel_rfl) Try.underlying3 h2
      refine ⟨⟨x0, x1, x2, x3, x4⟩, fun k hk => ?_⟩
      rw [hc k hk]
      have : k = 0 ∨ k = 1 ∨ k = 2 ∨ k = 3 ∨ k = 4 := by omega
      rcases this with rfl | rfl | rfl | rfl | rfl <;> simp [inCells, e0, e1, e2, e3, e4]
    have : Inhabited In := ⟨haltI⟩
    obtain ⟨f, hf'⟩ := choose_lt hone
    refine ⟨(List.range len).map f, ?_, Or.inr ⟨_, _, hx.1, by simp⟩⟩
    by_cases h0 : len = 0
    · subst h0
      exact Or.inl ⟨by simp, some a, cap, rfl⟩
    · obtain ⟨b, off, spot⟩ := a
      have hc := hf' 0 (by omega) 0 (by omega)
      have hspot : spot = none := by
        have h' : w.cell? ((⟨b, off, spot⟩ : Addr).add 0) = some (.int .i64 (f 0).op) := by simpa [inCells, Addr.add] using hc
        simpa [Addr.add] using World.cell?_spot h'
      subst hspot
      have hin : ∀ j, j < len → InAt w b (off + j * 5) (f j) := by
        intro j hj
        have hk := hf' j hj
        simp only [Addr.add_mid] at hk
        exact ⟨hk 0 (by omega), hk 1 (by omega), hk 2 (by omega), hk 3 (by omega), hk 4 (by omega)⟩
      have hblk : b < w.heap.size := by
        have h' := (hin 0 (by omega)).c0
        unfold World.cell? at h'
        rcases Nat.lt_or_ge b w.heap.size with h'' | h''
        · exact h''
        · rw [Array.getElem?_eq_none h''] at h'; cases h'
      refine Or.inr ⟨b, off, cap, by simp, by simp; exact hl, hm, hblk, fun j i hi => ?_⟩
      have hj : j < len := by
        rcases Nat.lt_or_ge j len with h' | h'
        · exact h'
        · rw [List.getElem?_eq_none (by simp; exact h')] at hi; cases hi
      have hi' : i = f j := by
        rw [List.getElem?_map, List.getElem?_range hj] at hi
        simpa using hi.symm
      rw [hi']
      exact hin j hj

end Go.Proofs.Ytjbbgpacijageaa
