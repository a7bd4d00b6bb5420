/- Arguments as values of the types. No program is named here. -/
import Derived.Test.YtjbbgpacijageabUC
import Derived.ProofKit
import Derived.OpenShut
import Derived.ChangeOld
import Derived.Below
import Derived.Carry
import Derived.Deep.Slices
import Derived.Deep.MidRow
import Derived.SizedLaws
namespace Go.Proofs.Ytjbbgpacijageab.M
open Go.ChangeShapes Go.WideShapes Go.ChangeAt Go.RowKit Go.Deep
set_option linter.unusedVariables false
set_option linter.unusedSimpArgs false

def fldsB (P : Program) (g : TypeId → Ty → Bool) : List Field → Ty → Nat → Bool
  | [f], T, o => f.offset == o && (P.cellsOf f.type == T.sz && g f.type T)
  | f :: r, .pair a b, o => f.offset == o && (P.cellsOf f.type == a.sz && (g f.type a && fldsB P g r b (o + a.sz)))
  | _, _, _ => false
/-- A type of the program has this shape. -/
def shp (P : Program) : Nat → TypeId → Ty → Bool
  | 0, _, _ => false
  | n + 1, t, T => P.cellsOf t == T.sz && match P.underlying t with
    | some (.int .i64) => decide (T = .int)
    | some .bool => decide (T = .bool)
    | some (.array m e) => match T with | .arr k U => k == m && (P.cellsOf e == U.sz && shp P n e U) | _ => false
    | some (.slice e) => match T with | .lst U => P.cellsOf e == U.sz && (decide (1 ≤ U.sz ∧ 1 ≤ P.bytesOf e ∧ U.byt ≤ P.bytesOf e) && shp P n e U) | _ => false
    | some (.struct fs) => match T with
      | .one U => (match fs.toList with | [f] => f.offset == 0 && (P.cellsOf f.type == U.sz && shp P n f.type U) | _ => false)
      | .pair a b => fldsB P (shp P n) fs.toList (.pair a b) 0
      | _ => false
    | _ => false

theorem choose_below {α : Type} (z : α) {n : Nat} {p : Nat → α → Prop} (h : ∀ i, i < n → ∃ a, p i a) : ∃ f : Nat → α, ∀ i, i < n → p i (f i) :=
  ⟨fun i => if hi : i < n then Classical.choose (h i hi) else z, fun i hi => by simp only [dif_pos hi]; exact Classical.choose_spec (h i hi)⟩
theorem rows_of {α : Type} {g : Nat → List α} {s : Nat} : ∀ (n : Nat) (cs : List α), cs.length = n * s → (∀ i, i < n → (cs.drop (i * s)).take s = g i) → cs = rows n g
  | 0, cs, hl, _ => by
    rw [Nat.zero_mul] at hl
    rw [List.length_eq_zero_iff.1 hl]
    rfl
  | n + 1, cs, hl, h => by
    rw [Nat.succ_mul] at hl
    have h1 := rows_of (g := g) (s := s) n (cs.take (n * s)) (by rw [List.length_take, hl]; exact Nat.min_eq_left (Nat.le_add_right _ _)) (fun i hi => by
      have hle : i * s + s ≤ n * s := by rw [← Nat.succ_mul]; exact Nat.mul_le_mul_right _ hi
      rw [← h i (by omega), List.drop_take, List.take_take, Nat.min_eq_left (by omega)])
    rw [rows_succ, ← h1, ← h n (by omega), List.take_of_length_le (l := cs.drop (n * s)) (by rw [List.length_drop]; omega)]
    exact (List.take_append_drop _ _).symm

section
variable {H : Type} {enc : TypeId × Value → H} {P : Program} {w : World} {base : Nat} {spare : Nat → Bool} {held : Bool} {B : Nat → Value}

/-- Its lists take up no more than there is. -/
def small : (t : Ty) → t.D → Prop
  | .int, _ => True
  | .bool, _ => True
  | .ref, _ => True
  | .one t, v => small t v
  | .pair a b, v => small a v.1 ∧ small b v.2
  | .arr n t, f => ∀ i, i < n → small t (f i)
  | .lst t, v => (v.2.length ≤ 140737488355328 ∧ v.2.length * t.byt ≤ 140737488355328) ∧ ∀ e ∈ v.2, small t e
def fits (P : Program) (t : TypeId) (x : DataW H) : Prop := ∀ n ∈ x.weights P t, n ≤ reachBytes
theorem weightsAll_mem {e : TypeId} : ∀ {l : List (DataW H)} {d : DataW H}, d ∈ l → ∀ n ∈ d.weights P e, n ∈ DataW.weightsAll P e l
  | [], d, h, _, _ => by cases h
  | a :: r, d, h, n, hn => by
    unfold DataW.weightsAll
    rw [List.mem_append]
    rcases List.mem_cons.1 h with rfl | h
    · exact Or.inl hn
    · exact Or.inr (weightsAll_mem h n hn)
/-- All that is there lies still. -/
def old (w : World) : Nat → Nat → Prop := fun b _ => b < w.heap.size
abbrev wokO (w : World) (B : Nat → Value) (T : Ty) (d : T.D) : Prop := wok (fun _ => False) B (old w) w T d

theorem open_flds {g : TypeId → Ty → Bool} (hg : ∀ t T fuel cs x, g t T = true → DataW.trod enc P w base spare held fuel t cs = some x → ∃ d : T.D, cs = flat B T d ∧ wokO w B T d ∧ (fits P t x.1 → small T d)) {Wt : Prop} {cs : List Value} :
    ∀ (fs : List Field) (T : Ty) (o : Nat), fldsB P g fs T o = true → o + T.sz ≤ cs.length → (∀ f ∈ fs, ∃ n y, DataW.trod enc P w base spare held n f.type ((cs.drop f.offset).take (P.cellsOf f.type)) = some y ∧ (Wt → fits P f.type y.1)) →
      ∃ d : T.D, (cs.drop o).take T.sz = flat B T d ∧ wokO w B T d ∧ (Wt → small T d)
  | [], T, o, h, _, _ => by unfold fldsB at h; cases h
  | [f], T, o, h, hl, hf => by
    have h : (f.offset == o && (P.cellsOf f.type == T.sz && g f.type T)) = true := by unfold fldsB at h; exact h
    simp only [Bool.and_eq_true, beq_iff_eq] at h
    obtain ⟨rfl, h2, h3⟩ := h
    obtain ⟨n, y, hy, hwt⟩ := hf f (by simp)
    rw [h2] at hy
    obtain ⟨d, e1, e2, e3⟩ := hg _ _ _ _ _ h3 hy
    exact ⟨d, e1, e2, fun h => e3 (hwt h)⟩
  | f :: f' :: r, T, o, h, hl, hf => by
    cases T with
    | pair a b =>
      have h : (f.offset == o && (P.cellsOf f.type == a.sz && (g f.type a && fldsB P g (f' :: r) b (o + a.sz)))) = true := by unfold fldsB at h; exact h
      simp only [Bool.and_eq_true, beq_iff_eq] at h
      obtain ⟨rfl, h2, h3, h4⟩ := h
      simp only [Ty.sz] at hl
      obtain ⟨n, y, hy, hwt⟩ := hf f (by simp)
      rw [h2] at hy
      obtain ⟨d, e1, e2, e5⟩ := hg _ _ _ _ _ h3 hy
      obtain ⟨d', e3, e4, e6⟩ := open_flds hg (f' :: r) b (f.offset + a.sz) h4 (by omega) (fun q hq => hf q (by simp only [List.mem_cons] at hq ⊢; exact Or.inr hq))
      refine ⟨(d, d'), ?_, ⟨e2, e4⟩, fun h => ⟨e5 (hwt h), e6 h⟩⟩
      simp only [Ty.sz, flat]
      rw [List.take_add, List.drop_drop, e1, e3]
    | _ => unfold fldsB at h; cases h

theorem open_shp : ∀ (n : Nat) (t : TypeId) (T : Ty) (fuel : Nat) (cs : List Value) (x : DataW H × List MemPlace), shp P n t T = true → DataW.trod enc P w base spare held fuel t cs = some x → ∃ d : T.D, cs = flat B T d ∧ wokO w B T d ∧ (fits P t x.1 → small T d)
  | 0, t, T, fuel, cs, x, hs, h => by unfold shp at hs; cases hs
  | n + 1, t, T, fuel, cs, x, hs, h => by
    have ih := open_shp n
    unfold shp at hs
    rw [Bool.and_eq_true, beq_iff_eq] at hs
    obtain ⟨hsz, hs⟩ := hs
    split at hs
    · rename_i hu
      have hT := of_decide_eq_true hs
      subst hT
      obtain ⟨z, e1, _⟩ := DataW.trod_int hu h
      exact ⟨z, e1, trivial, fun _ => trivial⟩
    · rename_i hu
      have hT := of_decide_eq_true hs
      subst hT
      obtain ⟨z, e1, _⟩ := DataW.trod_bool hu h
      exact ⟨z, e1, trivial, fun _ => trivial⟩
    · rename_i m e hu
      split at hs
      · rename_i k U
        simp only [Bool.and_eq_true, beq_iff_eq] at hs
        obtain ⟨rfl, h2, h3⟩ := hs
        obtain ⟨xs, m0, rfl, hx0, hlen, hxs, hall⟩ := DataW.trod_array hu h
        have hfit : fits P t x.1 → ∀ y ∈ xs, fits P e y.1 := fun hf y hy n hn => by
          refine hf n ?_
          rw [hx0]
          show n ∈ (DataW.agg (xs.map (·.1))).weights P t
          unfold DataW.weights
          rw [hu]
          exact weightsAll_mem (List.mem_map.2 ⟨y, hy, rfl⟩) n hn
        rw [h2] at hall
        rw [hsz] at hlen
        have hone : ∀ i, i < k → ∃ d : U.D, (cs.drop (i * U.sz)).take U.sz = flat B U d ∧ wokO w B U d ∧ (fits P t x.1 → small U d) := fun i hi => by
          have h1 := hall i hi
          have hx : ∃ y, xs[i]? = some y := ⟨xs[i]'(by omega), by simp⟩
          obtain ⟨y, hy⟩ := hx
          rw [hy] at h1
          obtain ⟨d, e1, e2, e3⟩ := ih e U m0 _ y h3 h1
          exact ⟨d, e1, e2, fun hf => e3 (hfit hf y (List.mem_of_getElem? hy))⟩
        obtain ⟨f, hf⟩ := choose_below U.zero hone
        exact ⟨f, rows_of k cs hlen (fun i hi => (hf i hi).1), fun i hi => (hf i hi).2.1, fun hw i hi => (hf i hi).2.2 hw⟩
      · cases hs
    · rename_i e hu
      split at hs
      · rename_i U
        simp only [Bool.and_eq_true, beq_iff_eq, decide_eq_true_iff] at hs
        obtain ⟨h2, h3, h4⟩ := hs
        rcases open_slice hu h with ⟨hcs, _⟩ | ⟨a, len, cap, m, n', D, Pl, hcs, hb, hl, hm, hmm, hx0, hel⟩
        · exact ⟨(nilH, []), hcs, ⟨trivial, Or.inl ⟨rfl, none, 0, rfl⟩⟩, fun _ => ⟨⟨Nat.zero_le _, by show 0 * U.byt ≤ _; rw [Nat.zero_mul]; exact Nat.zero_le _⟩, fun e he => by cases he⟩⟩
        · rw [h2] at hel
          have hle : len ≤ m := by rw [hmm]; split <;> omega
          have hwt : fits P t x.1 → len * P.bytesOf e ≤ reachBytes ∧ ∀ j, j < len → fits P e (D j) := fun hf => by
            have hwx : x.1.weights P t = (((List.range len).map D).length + ((List.range (m - len)).map fun j => D (len + j)).length) * P.bytesOf e :: (DataW.weightsAll P e ((List.range len).map D) ++ DataW.weightsAll P e ((List.range (m - len)).map fun j => D (len + j))) := by
              rw [hx0]
              show (DataW.slice ((List.range len).map D) ((List.range (m - len)).map fun j => D (len + j))).weights P t = _
              unfold DataW.weights
              rw [hu]
            refine ⟨?_, fun j hj n hn => hf n ?_⟩
            · have h1 := hf _ (by rw [hwx]; exact List.mem_cons_self)
              rw [List.length_map, List.length_range, Nat.add_mul] at h1
              omega
            · rw [hwx]
              refine List.mem_cons_of_mem _ (List.mem_append.2 (Or.inl (weightsAll_mem (List.mem_map.2 ⟨j, List.mem_range.2 hj, rfl⟩) n hn)))
          have hone : ∀ j, j < len → ∃ d : U.D, (∀ k, k < U.sz → w.cell? ((a.add (j * U.sz)).add k) = (flat B U d)[k]?) ∧ wokO w B U d ∧ (fits P t x.1 → small U d) := fun j hj => by
            obtain ⟨cs', g1, g2⟩ := hel j (by omega)
            obtain ⟨_, g3, g4⟩ := World.cells?_some g1
            obtain ⟨d, e1, e2, e3⟩ := ih e U n' cs' _ h4 g2
            exact ⟨d, fun k hk => by rw [g4 k hk, e1], e2, fun hf => e3 ((hwt hf).2 j hj)⟩
          obtain ⟨f, hf⟩ := choose_below U.zero hone
          refine ⟨(.conc (.slice (some a) len cap), (List.range len).map f), hcs, ⟨trivial, ?_⟩, fun hw => ⟨?_, fun q hq => ?_⟩⟩
          rotate_left
          · show ((List.range len).map f).length ≤ _ ∧ ((List.range len).map f).length * U.byt ≤ _
            rw [List.length_map, List.length_range]
            have h1 := (hwt hw).1
            have h5 : len * U.byt ≤ len * P.bytesOf e := Nat.mul_le_mul_left _ h3.2.2
            have h6 : len ≤ len * P.bytesOf e := Nat.le_mul_of_pos_right _ h3.2.1
            unfold reachBytes at h1
            omega
          · obtain ⟨j, hj, rfl⟩ := List.mem_map.1 hq
            exact (hf j (List.mem_range.1 hj)).2.2 hw
          by_cases h0 : len = 0
          · subst h0
            exact Or.inl ⟨rfl, some a, cap, rfl⟩
          · obtain ⟨b, off, spot⟩ := a
            have hfl := flat_len B U (f 0)
            obtain ⟨v0, hv0⟩ : ∃ v, (flat B U (f 0))[0]? = some v := ⟨(flat B U (f 0))[0]'(by omega), by simp⟩
            have hc := (hf 0 (by omega)).1 0 (by omega)
            rw [hv0] at hc
            have hspot : spot = none := by
              have h' : w.cell? ((⟨b, off, spot⟩ : Addr).add 0) = some v0 := by simpa [Addr.add] using hc
              simpa [Addr.add] using World.cell?_spot h'
            subst hspot
            have hblk : b < w.heap.size := by
              have h' : w.cell? ((⟨b, off, none⟩ : Addr).add 0) = some v0 := by simpa [Addr.add] using hc
              simp only [Addr.add_mid] at h'
              unfold World.cell? at h'
              rcases Nat.lt_or_ge b w.heap.size with h'' | h''
              · exact h''
              · rw [Array.getElem?_eq_none h''] at h'; cases h'
            have hlen : ((List.range len).map f).length = len := by simp
            refine Or.inr ⟨b, off, cap, by rw [hlen]; rfl, by rw [hlen]; exact hl, hm, hblk, ⟨_, Nat.le_refl _, hblk⟩, fun j e he => ?_⟩
            have hj : j < len := by rw [← hlen]; exact (List.getElem?_eq_some_iff.1 he).1
            have hi' : e = f j := by
              rw [List.getElem?_map, List.getElem?_range hj] at he
              simpa using he.symm
            subst hi'
            obtain ⟨g1, g2, _⟩ := hf j hj
            refine ⟨fun q hq => ?_, g2⟩
            have := g1 q hq
            simpa only [Addr.add_mid] using this
      · cases hs
    · rename_i fs hu
      obtain ⟨xs, m0, rfl, hx0, hlen, hxs, hall⟩ := DataW.trod_struct hu h
      rw [hsz] at hlen
      have hmem : ∀ f ∈ fs.toList, ∃ n y, DataW.trod enc P w base spare held n f.type ((cs.drop f.offset).take (P.cellsOf f.type)) = some y ∧ (fits P t x.1 → fits P f.type y.1) := fun f hf => by
        obtain ⟨i, hi⟩ := List.getElem?_of_mem hf
        have hi' : fs[i]? = some f := by simpa using hi
        have hi2 : i < fs.size := by
          rcases Nat.lt_or_ge i fs.size with h' | h'
          · exact h'
          · rw [Array.getElem?_eq_none h'] at hi'; cases hi'
        have h1 := hall i f hi'
        refine ⟨m0, xs[i]'(by omega), by rw [h1]; simp, fun hw n hn => hw n ?_⟩
        rw [hx0]
        show n ∈ (DataW.agg (xs.map (·.1))).weights P t
        unfold DataW.weights
        rw [hu]
        exact DataW.weights_mem_each (j := i) (t := f.type) (by simp [hi']) (by rw [List.getElem?_map, List.getElem?_eq_getElem (by omega)]; rfl) n hn
      split at hs
      · rename_i U
        split at hs
        · rename_i f hfs
          simp only [Bool.and_eq_true, beq_iff_eq] at hs
          obtain ⟨h1, h2, h3⟩ := hs
          obtain ⟨n', y, hy, hwt⟩ := hmem f (by rw [hfs]; simp)
          rw [h1, h2, List.drop_zero, List.take_of_length_le (by rw [hlen]; exact Nat.le_refl _)] at hy
          obtain ⟨d, e1, e2, e3⟩ := ih _ U n' cs y h3 hy
          exact ⟨d, e1, e2, fun hw => e3 (hwt hw)⟩
        · cases hs
      · obtain ⟨d, e1, e2, e3⟩ := open_flds ih fs.toList _ 0 hs (by rw [hlen, Nat.zero_add]; exact Nat.le_refl _) hmem
        rw [List.drop_zero, List.take_of_length_le (by rw [hlen]; exact Nat.le_refl _)] at e1
        exact ⟨d, e1, e2, e3⟩
      · cases hs
    · cases hs

/-- An argument. -/
theorem open_val {n : Nat} {t : TypeId} {T : Ty} (hs : shp P n t T = true) {r : Reach} {b0 : Nat} {v : Value} {d : DataW H} {ps : List MemPlace} (hv : Value.okWide P w r b0 t v) (h : DataW.Trod enc P w base spare held t v d ps) :
    ∃ a : T.D, v = (V.leaf T a).val B ∧ wokO w B T a ∧ (fits P t d → small T a) := by
  obtain ⟨fuel, hf⟩ := h
  obtain ⟨a, e1, e2, e3⟩ := open_shp (B := B) n t T fuel _ _ hs hf
  refine ⟨a, ?_, e2, e3⟩
  cases n with
  | zero => unfold shp at hs; cases hs
  | succ n =>
    unfold shp at hs
    rw [Bool.and_eq_true] at hs
    have hs := hs.2
    have hag : T.agg = true → (∃ cs, v = .agg cs) → v = (V.leaf T a).val B := fun hT ⟨cs, hc⟩ => by
      subst hc
      rw [V.val_agg (x := .leaf T a) hT]
      congr 1
      apply Array.toList_inj.1
      simpa [Value.cells, V.cells] using e1
    split at hs
    · rename_i hu
      have hT := of_decide_eq_true hs
      subst hT
      obtain ⟨z, rfl⟩ := okWide_int hu hv
      simpa [Value.cells, flat, V.val] using e1
    · rename_i hu
      have hT := of_decide_eq_true hs
      subst hT
      obtain ⟨z, rfl⟩ := okWide_bool hu hv
      simpa [Value.cells, flat, V.val] using e1
    · rename_i m e hu
      split at hs
      · refine hag rfl ?_
        simp only [Value.okWide, hu] at hv
        obtain ⟨cs, rfl, _⟩ := hv
        exact ⟨cs, rfl⟩
      · cases hs
    · rename_i e hu
      split at hs
      · obtain ⟨a0, len, cap, rfl⟩ := okWide_slice hu hv
        simpa [Value.cells, flat, V.val] using e1
      · cases hs
    · rename_i fs hu
      have hx : ∃ cs, v = .agg cs := by
        simp only [Value.okWide, hu] at hv
        obtain ⟨cs, rfl, _⟩ := hv
        exact ⟨cs, rfl⟩
      split at hs
      · exact hag rfl hx
      · exact hag rfl hx
      · cases hs
    · cases hs

def smallL : (ts : List Ty) → DL ts → Prop
  | [], _ => True
  | t :: r, d => small t d.1 ∧ smallL r d.2
def shpL (P : Program) (n : Nat) : List TypeId → List Ty → Bool
  | [], [] => true
  | t :: ts, T :: Ts => shp P n t T && shpL P n ts Ts
  | _, _ => false
/-- All arguments. -/
theorem open_all {n : Nat} {r : Reach} {b0 : Nat} : ∀ (ts : List TypeId) (Ts : List Ty) (vs : List Value) (ds : List (DataW H)) (ps : List MemPlace), shpL P n ts Ts = true → DataW.TrodAll enc P w base spare held ts vs ds ps →
    (∀ (j : Nat) t v, ts[j]? = some t → vs[j]? = some v → Value.okWide P w r b0 t v) → ∃ d : DL Ts, vs = (leafs Ts d).map (V.val B) ∧ wokL (fun _ => False) B (old w) w Ts d ∧ ((∀ n ∈ DataW.weightsEach P ts ds, n ≤ reachBytes) → smallL Ts d)
  | [], [], vs, ds, ps, hs, h, hv => by
    obtain ⟨rfl, _, _⟩ := trodAll_nil h
    exact ⟨(), rfl, trivial, fun _ => trivial⟩
  | [], T :: Ts, vs, ds, ps, hs, h, hv => by unfold shpL at hs; cases hs
  | t :: ts, [], vs, ds, ps, hs, h, hv => by unfold shpL at hs; cases hs
  | t :: ts, T :: Ts, vs, ds, ps, hs, h, hv => by
    unfold shpL at hs
    rw [Bool.and_eq_true] at hs
    obtain ⟨v, vs', d, ds', p, q, rfl, rfl, rfl, h1, h2⟩ := trodAll_cons h
    obtain ⟨a, e1, e2, e5⟩ := open_val (B := B) hs.1 (hv 0 t v rfl rfl) h1
    obtain ⟨d', e3, e4, e6⟩ := open_all ts Ts vs' ds' q hs.2 h2 (fun j t v ht hv' => hv (j + 1) t v (by simpa using ht) (by simpa using hv'))
    refine ⟨(a, d'), by rw [e1, e3]; rfl, ⟨e2, e4⟩, fun hw => ⟨e5 fun n hn => hw n ?_, e6 fun n hn => hw n ?_⟩⟩
    · unfold DataW.weightsEach; exact List.mem_append.2 (Or.inl hn)
    · unfold DataW.weightsEach; exact List.mem_append.2 (Or.inr hn)
end

section
variable {H : Type} {enc : TypeId × Value → H} {P : Program}
/-- The arguments read as they read. -/
theorem below_all (hl : laidOutB P = true) {W W' : World} (hb : Below W.heap.size W W') : ∀ (ts : List TypeId) (vs : List Value) (ds : List (DataW H)) (ps : List MemPlace), (ts.all fun t => P.readableRec t && decide (t < P.types.size)) = true → DataW.TrodAll enc P W 0 (fun _ => true) true ts vs ds ps →
    ∃ ps', DataW.TrodAll enc P W' 0 (fun b => decide (b < W.heap.size)) true ts vs ds ps'
  | [], vs, ds, ps, hs, h => by
    obtain ⟨rfl, rfl, rfl⟩ := trodAll_nil h
    exact ⟨[], rfl⟩
  | t :: ts, vs, ds, ps, hs, h => by
    obtain ⟨v, vs', d, ds', p, q, rfl, rfl, rfl, h1, h2⟩ := trodAll_cons h
    rw [List.all_cons, Bool.and_eq_true, Bool.and_eq_true] at hs
    obtain ⟨q', e⟩ := below_all hl hb ts vs' ds' q hs.2 h2
    have lt : ∀ x ∈ p, x.block < W.heap.size := by obtain ⟨m, hm⟩ := h1; exact DataW.trod_lt m _ _ _ hm
    exact ⟨p ++ q', trodAll_cons_mk (Below.trod hl hs.1.1 (of_decide_eq_true hs.1.2) h1 hb lt) e⟩

def zeroL : (ts : List Ty) → DL ts
  | [] => ()
  | t :: r => (t.zero, zeroL r)
abbrev zeros (ts : List Ty) : Array Value := ((leafs ts (zeroL ts)).map (V.val fun _ => undef)).toArray
/-- A law that is true of what takes up no more than there is. -/
abbrev lawZ (args : List Ty) : Spec := { args, res := [.bool], cr := false, m := fun _ => 0, fn := fun _ _ => (true, ()), pre := fun d => smallL args d }
theorem law_runZ {g : Nat} {Ts : List Ty} (hc : Ctr P g (lawZ Ts)) (W : World) (d : DL Ts) (hw : wokL (fun _ => False) (fun _ => undef) (old W) W Ts d) (hs : smallL Ts d) :
    Calls P g ((leafs Ts d).map (V.val fun _ => undef)).toArray W fun e W' => e = .returned (.bool true) ∧ Below W.heap.size W W' := by
  refine (hc.run (fun _ => undef) 0 W (old W) d (fun b e h => h) (wokL_mono (fun n hn => hn.elim) (fun _ _ => rfl) (fun _ _ h => h) (fun _ _ _ _ _ => rfl) (Nat.le_refl _) _ _ hw) hs).mono fun e W' he => ?_
  obtain ⟨B', F', _, _, _, _, he, _, bel⟩ := he
  exact ⟨he, bel⟩
/-- A law that is true: what is called returns true, and all is as it was. -/
abbrev lawS (args : List Ty) : Spec := { args, res := [.bool], cr := false, m := fun _ => 0, fn := fun _ _ => (true, ()), pre := fun _ => True }
theorem law_run {g : Nat} {Ts : List Ty} (hc : Ctr P g (lawS Ts)) (W : World) (d : DL Ts) (hw : wokL (fun _ => False) (fun _ => undef) (old W) W Ts d) :
    Calls P g ((leafs Ts d).map (V.val fun _ => undef)).toArray W fun e W' => e = .returned (.bool true) ∧ Below W.heap.size W W' := by
  refine (hc.run (fun _ => undef) 0 W (old W) d (fun b e h => h) (wokL_mono (fun n hn => hn.elim) (fun _ _ => rfl) (fun _ _ h => h) (fun _ _ _ _ _ => rfl) (Nat.le_refl _) _ _ hw) trivial).mono fun e W' he => ?_
  obtain ⟨B', F', _, _, _, _, he, _, bel⟩ := he
  exact ⟨he, bel⟩
end

end Go.Proofs.Ytjbbgpacijageab.M
