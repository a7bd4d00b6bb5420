/- The same, of the first operations of a region; those that wait for all ahead of them come behind. No program is named here. -/
import Derived.Test.YtjbbgpacijageaaAbs
namespace Go.Proofs.Ytjbbgpacijageaa
open Go.RowKit

section
variable {P : Program} {ops : List Oper} {Base : World → Prop} {Q : Exit → Act → World → Prop}

/-- From number k0 on each waits for all that stand ahead of it. -/
def okTail (k0 : Nat) (ops : List Oper) : Bool :=
  (List.range ops.length).all fun j => decide (j < k0) ||
    match ops[j]? with
    | none => true
    | some o => (List.range j).all fun i => o.after.toList.any fun e => Region.binds .any e && e.on == i

theorem okTail_spec {k0 j i : Nat} {o : Oper} (h : okTail k0 ops = true) (hj : k0 ≤ j) (ho : ops[j]? = some o) (hi : i < j) : ∃ e ∈ o.after, Region.binds .any e = true ∧ e.on = i := by
  have hjn : j < ops.length := (List.getElem?_eq_some_iff.1 ho).1
  simp only [okTail, List.all_eq_true, List.mem_range] at h
  have h1 := h j hjn
  rw [ho] at h1
  simp only [Bool.or_eq_true, decide_eq_true_iff, List.all_eq_true, List.mem_range, List.any_eq_true, Bool.and_eq_true, beq_iff_eq] at h1
  rcases h1 with h2 | h2
  · omega
  · obtain ⟨e, he, hb, hon⟩ := h2 i hi
    exact ⟨e, by simpa using he, hb, hon⟩

/-- Behind all the others: one after the other. -/
theorem wpAny_tail {k0 : Nat} (hok : okRegion ops = true) (htail : okTail k0 ops = true) : ∀ (tail : List Oper) (j fuel : Nat) (L : Array Bool) (a : Act) (w : World), k0 ≤ j → ops.drop j = tail → L.size = ops.length →
    (∀ i, i < j → i < ops.length → L.getD i false = true) → (∀ i, j ≤ i → i < ops.length → L.getD i true = false) → tail.length ≤ fuel → wpList P ops.toArray Q tail a w → wpAny P .any ops.toArray Q fuel L a w := by
  have hready : ∀ (j : Nat) (L : Array Bool), k0 ≤ j → L.size = ops.length → (∀ i, i < j → i < ops.length → L.getD i false = true) → (∀ i, j ≤ i → i < ops.length → L.getD i true = false) → ∀ i ∈ Region.ready .any ops.toArray L, i = j := by
    intro j L hj hL hlt hge i hi
    obtain ⟨hun, o, ho', hw⟩ := mem_ready.1 hi
    have ho : ops[i]? = some o := by simpa using ho'
    have hin : i < ops.length := (List.getElem?_eq_some_iff.1 ho).1
    rcases Nat.lt_trichotomy i j with h | h | h
    · have h1 := hlt i h hin
      have : i < L.size := by omega
      simp [this] at h1 hun
      rw [h1] at hun; cases hun
    · exact h
    · obtain ⟨e, he, hb, hon⟩ := okTail_spec htail (by omega) ho h
      have h1 := hw e he hb
      rw [hon] at h1
      have h2 := hge j (Nat.le_refl _) (by omega)
      have : j < L.size := by omega
      simp [this] at h1 h2
      rw [h1] at h2; cases h2
  intro tail
  induction tail with
  | nil =>
    intro j fuel L a w hj hd hL hlt hge _ h
    have hjn : ops.length ≤ j := by
      have := congrArg List.length hd
      simp at this
      omega
    have hnil : Region.ready .any ops.toArray L = [] := by
      rw [List.eq_nil_iff_forall_not_mem]
      intro i hi
      have hij := hready j L hj hL hlt hge i hi
      obtain ⟨_, o, ho', _⟩ := mem_ready.1 hi
      have hin : i < ops.length := by simpa using (Array.getElem?_eq_some_iff.1 ho').1
      omega
    cases fuel with
    | zero => exact ⟨hnil, h⟩
    | succ fuel => exact ⟨fun _ => h, fun i hi => by rw [hnil] at hi; cases hi⟩
  | cons o tail ih =>
    intro j fuel L a w hj hd hL hlt hge hf h
    have ho : ops[j]? = some o := by
      have := congrArg (·[0]?) hd
      simpa using this
    have hjn : j < ops.length := (List.getElem?_eq_some_iff.1 ho).1
    cases fuel with
    | zero => simp at hf
    | succ fuel =>
      refine ⟨fun hr => ?_, fun i hi => ?_⟩
      · exfalso
        have hno : ¬ (j ∈ Region.ready .any ops.toArray L) := by rw [hr]; simp
        refine hno (mem_ready.2 ⟨hge j (Nat.le_refl _) hjn, o, by simpa using ho, fun e he hb => ?_⟩)
        have hlt' := okRegion_edges hok ho e he hb
        exact hlt e.on hlt' (by omega)
      · have hij := hready j L hj hL hlt hge i hi
        subst hij
        unfold wpOp
        rw [show ops.toArray[i]? = some o from by simpa using ho]
        simp only []
        have hd' : ops.drop (i + 1) = tail := by
          have := congrArg (List.drop 1) hd
          simpa [Nat.add_comm] using this
        have hgo : ∀ a' w', wpList P ops.toArray Q tail a' w' → wpAny P .any ops.toArray Q fuel (L.setIfInBounds i true) a' w' := fun a' w' h' => by
          refine ih (i + 1) fuel (L.setIfInBounds i true) a' w' (by omega) hd' (by simp [hL]) (fun k hk hkn => ?_) (fun k hk hkn => ?_) (by simp at hf; omega) h'
          · by_cases hki : k = i
            · subst hki
              have : k < L.size := by omega
              simp [this]
            · rw [getD_set_ne false (Ne.symm hki)]
              exact hlt k (by omega) hkn
          · rw [getD_set_ne true (by omega)]
            exact hge k (by omega) hkn
        unfold wpList at h
        split
        · rename_i hw
          rw [if_pos hw] at h
          rcases h with h | h
          · refine Or.inl ?_
            unfold Oper.wp at *
            generalize (execOp a.eval o).run P w = res at h
            cases res with
            | ok nx w' =>
              cases nx <;> simp only [Oper.upon] at h ⊢
              case value u => exact hgo _ _ h
              case skip => exact hgo _ _ h
              case defer d => exact hgo _ _ h
              case enter f args =>
                refine Calls.mono h fun e w'' he => ?_
                cases e with
                | returned u => exact hgo _ _ he
                | panicked c => exact he
                | outgrown => exact he
              case row row args => exact Rows.mono h fun u w'' he => hgo _ _ he
            | halt x w' =>
              cases x <;> simp only [Oper.upon] at h ⊢
              case panic u => exact h
          · exact Or.inr h
        · rename_i hw
          rw [if_neg hw] at h
          exact hgo _ _ h

/-- **One walk in the order of the text serves every order**, of the first k0 operations; the others, each of which waits for all ahead of it, come behind. -/
theorem wp_region_abs2 {id : Nat} {a0 : Act} {w0 : World} (hm : P.follows .mixedOrders = true) (k0 : Nat) (hk0 : k0 ≤ ops.length) (hok : okRegion ops = true) (htail : okTail k0 ops = true) (hB : ∀ w w', Base w → Below w.heap.size w w' → Base w')
    (h0 : Base { w0 with drawn := w0.drawn + 1 }) (h : absWalk P ops Base (fun _ a w => wpList P ops.toArray Q (ops.drop k0) a w) (ops.take k0) a0 []) : (Code.region id ops.toArray true).wp P Q a0 w0 := by
  obtain ⟨es, hl', hf⟩ := facts_of_walk (ops.take k0) a0 [] h
  have hl : es.length = k0 := by rw [hl', List.length_take]; omega
  have hsel : ∀ (j : Nat) (o : Oper) cs b, ops.toArray[j]? = some o → o.op ≠ .select cs b := fun j o cs b ho => by
    simp only [okRegion, Bool.and_eq_true] at hok
    exact Region.noSelect_spec hok.1 j o cs b ho
  have htake : ∀ (j : Nat) (o : Oper), (ops.take k0)[j]? = some o → ops[j]? = some o ∧ j < k0 := fun j o ho => by
    rw [List.getElem?_take] at ho
    split at ho
    · rename_i h'; exact ⟨ho, h'⟩
    · cases ho
  have hdis : ∀ i o, ops[i]? = some o → ∀ k, k ≠ i → ∀ d, dstOf ops i = some d → dstOf ops k ≠ some d := fun i o ho k hk d hd hkd => by
    have h1 := (okRegion_slots hok ho hkd).1 hk
    apply h1
    simpa [dstOf, ho] using hd
  have hlex : ∀ (j : Nat) (o : Oper) (e : Eff), (ops.take k0)[j]? = some o → es[j]? = some e → foldP ops es (fun k => decide (k < j + 1)) (List.range k0) a0 = (foldP ops es (fun k => decide (k < j)) (List.range k0) a0).put o.dst e.1 := fun j o e ho' he => by
    obtain ⟨ho, hj⟩ := htake j o ho'
    have := foldP_set (ops := ops) (es := es) (F := fun k => decide (k < j)) (G := fun k => decide (k < j + 1)) (i := j) (by simp) (by simp) (fun k hk => by
      have : (k < j) ↔ (k < j + 1) := by omega
      simp [this]) (List.range k0) a0 List.nodup_range (by simpa using hj) (fun k _ hk => hdis j o ho k hk)
    rw [← this]
    simp [dstOf, valOf, ho, he]
  have hlex0 : foldP ops es (fun k => decide (k < 0)) (List.range k0) a0 = a0 := foldP_none _ _ (fun k _ => by simp)
  have hat := facts_at (ops.take k0) es a0 [] (fun j => foldP ops es (fun k => decide (k < j)) (List.range k0) a0) hf hlex0 hlex
  obtain ⟨hend, _, hapart⟩ := facts_end (ops.take k0) es a0 [] (fun j => foldP ops es (fun k => decide (k < j)) (List.range k0) a0) hf hlex0 hlex
  have htk : (ops.take k0).length = k0 := by rw [List.length_take]; omega
  have main : ∀ (fuel : Nat) (L : Array Bool) (w : World), L.size = ops.length → ops.length ≤ ((List.range k0).filter (fun k => L.getD k false)).length + fuel → (∀ i, k0 ≤ i → i < ops.length → L.getD i true = false) → Base w →
      (∀ (j : Nat) (e : Eff) (x : Nat × Array Value × TypeId), es[j]? = some e → e.2 = some x → L.getD j false = true → w.heap[x.1]? = some (.cells x.2.1 x.2.2)) →
      wpAny P .any ops.toArray Q fuel L (foldP ops es (fun k => L.getD k false) (List.range k0) a0) w := by
    have allDone : ∀ (fuel : Nat) (L : Array Bool) (w : World), L.size = ops.length → ops.length ≤ ((List.range k0).filter (fun k => L.getD k false)).length + fuel → (∀ i, k0 ≤ i → i < ops.length → L.getD i true = false) → Base w →
        (∀ (j : Nat) (e : Eff) (x : Nat × Array Value × TypeId), es[j]? = some e → e.2 = some x → L.getD j false = true → w.heap[x.1]? = some (.cells x.2.1 x.2.2)) →
        (∀ k, k < k0 → L.getD k false = true) → wpAny P .any ops.toArray Q fuel L (foldP ops es (fun k => L.getD k false) (List.range k0) a0) w := fun fuel L w hL hc ht hw hs hall => by
      have e1 : foldP ops es (fun k => L.getD k false) (List.range k0) a0 = foldP ops es (fun k => decide (k < k0)) (List.range k0) a0 :=
        foldP_congr _ _ (fun k hk => by
          have hk' : k < k0 := by simpa using hk
          rw [hall k hk']; simp [hk'])
      have hq := hend w hw (fun s hs' => by simp at hs') (fun j e x he hx => hs j e x he hx (hall j (by
        have := (List.getElem?_eq_some_iff.1 he).1
        omega)))
      rw [htk] at hq
      rw [e1]
      refine wpAny_tail hok htail (ops.drop k0) k0 fuel L _ w (Nat.le_refl _) rfl hL (fun i hi _ => hall i hi) ht ?_ hq
      have hle := List.length_filter_le (fun k => L.getD k false) (List.range k0)
      simp at hle hc ⊢
      omega
    have fromReady : ∀ (L : Array Bool), L.size = ops.length → Region.ready .any ops.toArray L = [] → ∀ k, k < k0 → L.getD k false = true := fun L hL hr k => by
      induction k using Nat.strongRecOn with
      | ind k ih =>
        intro hk
        cases hc : L.getD k false with
        | true => rfl
        | false =>
          exfalso
          have hkn : k < ops.length := by omega
          have hmem : k ∈ Region.ready .any ops.toArray L := by
            rw [mem_ready]
            refine ⟨?_, ops[k], by simp, fun e he hb => ?_⟩
            · have : k < L.size := by omega
              simp [this] at hc ⊢
              exact hc
            · have hlt := okRegion_edges hok (i := k) (o := ops[k]) (by simp) e he hb
              exact ih e.on hlt (by omega)
          rw [hr] at hmem
          cases hmem
    intro fuel
    induction fuel with
    | zero =>
      intro L w hL hc ht hw hs
      refine allDone 0 L w hL hc ht hw hs fun k hk => ?_
      have hle := List.length_filter_le (fun k => L.getD k false) (List.range k0)
      have heq : ((List.range k0).filter (fun k => L.getD k false)).length = (List.range k0).length := by simp at hle hc ⊢; omega
      have := List.length_filter_eq_length_iff.1 heq k (by simpa using hk)
      simpa using this
    | succ fuel ih =>
      intro L w hL hc ht hw hs
      by_cases hdone : ∀ k, k < k0 → L.getD k false = true
      · exact allDone (fuel + 1) L w hL hc ht hw hs hdone
      refine ⟨fun hr => absurd (fromReady L hL hr) hdone, fun i hi => ?_⟩
      obtain ⟨hun, o, ho', hwait⟩ := mem_ready.1 hi
      have ho : ops[i]? = some o := by simpa using ho'
      have hin : i < ops.length := (List.getElem?_eq_some_iff.1 ho).1
      have hik : i < k0 := by
        rcases Nat.lt_or_ge i k0 with h' | h'
        · exact h'
        · exfalso
          apply hdone
          intro k hk
          obtain ⟨e, he, hb, hon⟩ := okTail_spec htail h' ho (show k < i by omega)
          have := hwait e he hb
          rwa [hon] at this
      have hiL : i < L.size := by omega
      have hunF : L.getD i false = false := by simp [hiL] at hun ⊢; exact hun
      obtain ⟨e, he⟩ : ∃ e, es[i]? = some e := ⟨es[i]'(by omega), by simp⟩
      have hot : (ops.take k0)[i]? = some o := by rw [List.getElem?_take, if_pos hik]; exact ho
      have hsetG : (L.setIfInBounds i true).getD i false = true := by simp [hiL]
      have hsetFG : ∀ k, k ≠ i → L.getD k false = (L.setIfInBounds i true).getD k false := fun k hk => (getD_set_ne false (Ne.symm hk)).symm
      have hL' : (L.setIfInBounds i true).size = ops.length := by simp [hL]
      have ht' : ∀ j, k0 ≤ j → j < ops.length → (L.setIfInBounds i true).getD j true = false := fun j hj hjn => by rw [getD_set_ne true (by omega)]; exact ht j hj hjn
      have hcnt : ops.length ≤ ((List.range k0).filter (fun k => (L.setIfInBounds i true).getD k false)).length + fuel := by
        rw [filter_set (F := fun k => L.getD k false) (G := fun k => (L.setIfInBounds i true).getD k false) hunF hsetG hsetFG _ List.nodup_range (by simpa using hik)]
        omega
      have hput : ∀ v, v = e.1 → (foldP ops es (fun k => L.getD k false) (List.range k0) a0).put o.dst v = foldP ops es (fun k => (L.setIfInBounds i true).getD k false) (List.range k0) a0 := fun v hv => by
        have := foldP_set (ops := ops) (es := es) (F := fun k => L.getD k false) (G := fun k => (L.setIfInBounds i true).getD k false) (i := i) hunF hsetG hsetFG (List.range k0) a0 List.nodup_range (by simpa using hik) (fun k _ hk => hdis i o ho k hk)
        rw [← this, hv]
        simp [dstOf, valOf, ho, he]
      have hag : Ag ops o (foldP ops es (fun k => L.getD k false) (List.range k0) a0) (foldP ops es (fun k => decide (k < i)) (List.range k0) a0) :=
        foldP_ag _ _ _ (Ag.refl a0) (fun k _ d hd hlook => by
          obtain ⟨hki, e', he', hb', hon⟩ := (okRegion_slots hok ho hd).2 hlook
          have := hwait e' he' hb'
          rw [hon] at this
          rw [this]
          simp [hki])
      have hok' := hat i o e hot he
      unfold okEff at hok'
      unfold wpOp
      rw [ho']
      simp only []
      rw [hag.wanted]
      split
      · rename_i hwant
        rw [if_pos hwant] at hok'
        refine Or.inl ?_
        unfold Oper.wp
        rw [hag.exec (fun cs b => hsel i o cs b ho')]
        cases hx : e.2 with
        | none =>
          simp only [hx] at hok'
          have h1 := hok' w hw
          have hkeep : ∀ w'', Below w.heap.size w w'' → wpAny P .any ops.toArray Q fuel (L.setIfInBounds i true) ((foldP ops es (fun k => L.getD k false) (List.range k0) a0).put o.dst e.1) w'' := fun w'' hb => by
            rw [hput e.1 rfl]
            refine ih _ _ hL' hcnt ht' (hB w w'' hw hb) (fun j e' x hj hx' hlj => ?_)
            have hji : j ≠ i := fun h' => by subst h'; rw [he] at hj; cases hj; rw [hx] at hx'; cases hx'
            have hold := hs j e' x hj hx' (by rw [hsetFG j hji]; exact hlj)
            have hblt : x.1 < w.heap.size := by
              rcases Nat.lt_or_ge x.1 w.heap.size with h' | h'
              · exact h'
              · rw [Array.getElem?_eq_none h'] at hold; cases hold
            rw [hb.block x.1 hblt]
            exact hold
          generalize (execOp (foldP ops es (fun k => decide (k < i)) (List.range k0) a0).eval o).run P w = res at h1
          cases res with
          | ok nx w' =>
            cases nx <;> simp only [absUpon] at h1 <;> simp only [Oper.upon]
            case value u => obtain ⟨rfl, rfl⟩ := h1; exact hkeep _ (Below.refl _ _)
            case skip => obtain ⟨h2, rfl⟩ := h1; rw [← h2]; exact hkeep _ (Below.refl _ _)
            case enter f args =>
              obtain ⟨rfl, h2⟩ := h1
              exact h2.mono fun en w'' ⟨hen, hb⟩ => by subst hen; exact hkeep _ hb
          | halt x w' => simp only [absUpon] at h1
        | some x =>
          simp only [hx] at hok'
          obtain ⟨hv, h1⟩ := hok'
          obtain ⟨w', hrun, hbase, hblk, hoth⟩ := h1 w hw
          rw [hrun]
          show wpAny P .any ops.toArray Q fuel (L.setIfInBounds i true) ((foldP ops es (fun k => L.getD k false) (List.range k0) a0).put o.dst undef) w'
          rw [hput undef hv.symm]
          refine ih _ _ hL' hcnt ht' hbase (fun j e' y hj hy hlj => ?_)
          by_cases hji : j = i
          · subst hji; rw [he] at hj; cases hj; rw [hx] at hy; cases hy; exact hblk
          · have hold := hs j e' y hj hy (by rw [hsetFG j hji]; exact hlj)
            have hne : y.1 ≠ x.1 := by
              rcases Nat.lt_or_gt_of_ne hji with h' | h'
              · exact hapart j i e' e y x h' hj he hy hx
              · exact fun h'' => hapart i j e e' x y h' he hj hx hy h''.symm
            rw [hoth y.1 hne]
            exact hold
      · rename_i hwant
        rw [if_neg hwant] at hok'
        have hv : e.1 = undef := by rw [hok']
        have hn : e.2 = none := by rw [hok']
        rw [hput undef hv.symm]
        refine ih _ _ hL' hcnt ht' hw (fun j e' y hj hy hlj => ?_)
        have hji : j ≠ i := fun h' => by subst h'; rw [he] at hj; cases hj; rw [hn] at hy; cases hy
        exact hs j e' y hj hy (by rw [hsetFG j hji]; exact hlj)
  refine wp_region_any hm ?_
  have hz : foldP ops es (fun k => (Array.replicate ops.length false).getD k false) (List.range k0) a0 = a0 := foldP_none _ _ (fun k _ => by
    simp [Array.getElem?_replicate]
    split <;> rfl)
  have := main ops.length (Array.replicate ops.length false) { w0 with drawn := w0.drawn + 1 } (by simp) (by omega) (fun i _ hi => by simp [hi]) h0 (fun j e x hj hx hlj => by
    exfalso
    simp [Array.getElem?_replicate] at hlj
    split at hlj <;> simp at hlj)
  rw [hz] at this
  simpa using this

end
end Go.Proofs.Ytjbbgpacijageaa
