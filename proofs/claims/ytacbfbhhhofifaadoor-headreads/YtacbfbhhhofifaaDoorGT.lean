/- A region that draws its order, by a script, whose last operation may do what it likes: it waits for all others; behind it S is not asked. (Of no program.) -/
import Derived.Test.YtacbfbhhhofifaaDoorGS
namespace Go.Proofs.YtacbfbhhhofifaaDoor.E
set_option linter.unusedVariables false
section
variable {P : Program} {ops : Array Oper} {md : Region.Mode} {Q : Exit → Act → World → Prop} {S : World → Prop}

/-- Whatever order is picked; S holds behind every operation but number z. -/
def wpAnyZ (P : Program) (md : Region.Mode) (ops : Array Oper) (Q : Exit → Act → World → Prop) (S : World → Prop) (z : Nat) : Nat → Array Bool → Act → World → Prop
  | 0, listed, a, w => Region.ready md ops listed = [] ∧ Q .normal a w
  | fuel + 1, listed, a, w =>
    (Region.ready md ops listed = [] → Q .normal a w) ∧
    ∀ i ∈ Region.ready md ops listed, wpOp P ops Q i (fun a' w' => (i = z ∨ S w') ∧ wpAnyZ P md ops Q S z fuel (listed.setIfInBounds i true) a' w') a w
theorem wpAny_of_z {z : Nat} : ∀ (fuel : Nat) (listed : Array Bool) (a : Act) (w : World), wpAnyZ P md ops Q S z fuel listed a w → wpAny P md ops Q fuel listed a w
  | 0, _, _, _, h => h
  | fuel + 1, _, _, _, h => ⟨h.1, fun i hi => wpOp_mono (fun a' w' h' => wpAny_of_z fuel _ a' w' h'.2) (h.2 i hi)⟩
theorem wpAnyZ_first {z i : Nat} {oi : Oper} {v : Value} (hi : ops[i]? = some oi) (hsel : ∀ (j : Nat) (o : Oper) cs b, ops[j]? = some o → o.op ≠ .select cs b)
    (hQ : ∀ c a w, Q (.panic c) (a.put oi.dst v) w → Q (.panic c) a w) (hz : ∃ oz, ops[z]? = some oz ∧ ∃ e ∈ oz.after, Region.binds md e = true ∧ e.on = i) :
    ∀ (fuel : Nat) (listed : Array Bool) (a : Act) (w : World),
      (∀ j oj, ops[j]? = some oj → j ≠ i → listed.getD j true = false → (∀ e ∈ oj.after, Region.binds md e = true → e.on ≠ i) → oi.apart ops oj = true) →
      i ∈ Region.ready md ops listed → YieldsIf P ops S oi v a → S w →
      wpAnyZ P md ops Q S z fuel (listed.setIfInBounds i true) (a.put oi.dst v) w → wpAnyZ P md ops Q S z (fuel + 1) listed a w := by
  intro fuel
  induction fuel with
  | zero =>
    intro listed a w _ hr hy hS H
    refine ⟨fun h => (by rw [h] at hr; cases hr), fun j hj => ?_⟩
    by_cases hji : j = i
    · subst hji; exact hy.wpOp hi hS ⟨.inr hS, H⟩
    · have := ready_mono hj hji
      rw [H.1] at this
      cases this
  | succ fuel ih =>
    intro listed a w hfree hr hy hS H
    refine ⟨fun h => (by rw [h] at hr; cases hr), fun j hj => ?_⟩
    by_cases hji : j = i
    · subst hji; exact hy.wpOp hi hS ⟨.inr hS, H⟩
    · have h1 := H.2 j (ready_mono hj hji)
      obtain ⟨hjun, oj, hoj, hall⟩ := mem_ready.1 hj
      have hnot : ∀ e ∈ oj.after, Region.binds md e = true → e.on ≠ i := fun e he hb heq => by
        have h1 := hall e he hb
        have h0 := (mem_ready.1 hr).1
        rw [heq] at h1
        rcases Nat.lt_or_ge i listed.size with h' | h'
        · simp [h'] at h0 h1; rw [h0] at h1; cases h1
        · simp [Array.getElem?_eq_none h'] at h1
      have hjz : j ≠ z := fun e => by
        obtain ⟨oz, h1, ed, h2, h3, h4⟩ := hz
        rw [← e, hoj] at h1
        cases h1
        exact hnot ed h2 h3 h4
      have h2 := wpOp_putIf hoj (hfree j oj hoj hji hjun hnot) (fun cs b => hsel i oi cs b hi) (fun cs b => hsel j oj cs b hoj) hQ hy h1
      have hfree' : ∀ k ok, ops[k]? = some ok → k ≠ i → (listed.setIfInBounds j true).getD k true = false →
          (∀ e ∈ ok.after, Region.binds md e = true → e.on ≠ i) → oi.apart ops ok = true := fun k ok hk hki hun hno => by
        refine hfree k ok hk hki ?_ hno
        by_cases hjk : j = k
        · subst hjk; exact hjun
        · rw [getD_set_ne true hjk] at hun; exact hun
      refine wpOp_mono (fun a' w' h3 => ?_) h2
      have hs' : S w' := h3.2.1.resolve_left hjz
      refine ⟨.inr hs', ih (listed.setIfInBounds j true) a' w' hfree' (ready_mono hr (Ne.symm hji)) h3.1 hs' ?_⟩
      rw [Array.setIfInBounds_comm _ _ hji]
      exact h3.2.2
def waits (l : List Oper) (z i : Nat) : Bool := match l[z]? with
  | none => false
  | some oz => oz.after.toList.any fun e => Region.binds .any e && decide (e.on = i)
def pickZ (md : Region.Mode) (l : List Oper) (z : Nat) : List (Nat × Bool) → Array Bool → Bool
  | [], listed => decide (Region.ready md l.toArray listed = [z]) && (Region.ready md l.toArray (listed.setIfInBounds z true)).isEmpty
  | (i, true) :: is, listed => (Region.ready md l.toArray listed).contains i && Region.free md l.toArray listed i && waits l z i && pickZ md l z is (listed.setIfInBounds i true)
  | (i, false) :: is, listed => decide (Region.ready md l.toArray listed = [i]) && decide (i ≠ z) && pickZ md l z is (listed.setIfInBounds i true)
theorem waits_spec {l : List Oper} {z i : Nat} (h : waits l z i = true) : ∃ oz, l.toArray[z]? = some oz ∧ ∃ e ∈ oz.after, Region.binds .any e = true ∧ e.on = i := by
  unfold waits at h
  cases hq : l[z]? with
  | none => rw [hq] at h; cases h
  | some oz =>
    rw [hq] at h
    simp only [List.any_eq_true, Bool.and_eq_true, decide_eq_true_eq] at h
    obtain ⟨e, h1, h2, h3⟩ := h
    exact ⟨oz, by simpa using hq, e, by simpa using h1, h2, h3⟩
theorem wpAnyZ_script {l : List Oper} {z : Nat} {oz : Oper} (hoz : l[z]? = some oz) (hs : Region.noSelect l.toArray = true) : ∀ (is : List (Nat × Bool)) (listed : Array Bool) (a : Act) (w : World), (∀ p ∈ is, p.1 < l.length) →
    pickZ .any l z is listed = true → S w → wpS P l.toArray S (fun a w => wpList P l.toArray (OnlyS Q) [oz] a w) (selS l is) a w → wpAnyZ P .any l.toArray (OnlyS Q) S z (is.length + 1) listed a w
  | [], listed, a, w, _, hB, hS, h => by
    simp only [pickZ, Bool.and_eq_true, decide_eq_true_eq] at hB
    have h0 : l.toArray[z]? = some oz := by simpa using hoz
    refine ⟨fun h1 => (by rw [hB.1] at h1; cases h1), fun j hj => ?_⟩
    rw [hB.1] at hj
    obtain rfl : j = z := by simpa using hj
    have hw : wpOp P l.toArray (OnlyS Q) j (wpList P l.toArray (OnlyS Q) []) a w := by
      unfold wpOp
      simp only [h0]
      exact h
    exact wpOp_mono (fun a' w' h' => ⟨.inl rfl, by simpa using hB.2, h'⟩) hw
  | (i, true) :: is, listed, a, w, hl, hB, hS, h => by
    have hil : i < l.length := hl (i, true) (by simp)
    have h0 : l.toArray[i]? = some l[i] := by simp [hil]
    have hs' : selS l ((i, true) :: is) = (l[i], true) :: selS l is := by unfold selS; rw [List.filterMap_cons]; simp [List.getElem?_eq_getElem hil]
    rw [hs'] at h
    simp only [pickZ, Bool.and_eq_true] at hB
    obtain ⟨⟨⟨hr, hf⟩, hwt⟩, hB'⟩ := hB
    obtain ⟨v, hy, hK⟩ := h
    have := wpAnyZ_script hoz hs is (listed.setIfInBounds i true) (a.put l[i].dst v) w (fun p hp => hl p (List.mem_cons_of_mem _ hp)) hB' hS hK
    exact wpAnyZ_first h0 (Region.noSelect_spec hs) (fun c a w h => absurd h.1 (by simp)) (waits_spec hwt) (is.length + 1) listed a w (Region.free_spec h0 hf) (by simpa using hr) hy hS this
  | (i, false) :: is, listed, a, w, hl, hB, hS, h => by
    have hil : i < l.length := hl (i, false) (by simp)
    have h0 : l.toArray[i]? = some l[i] := by simp [hil]
    have hs' : selS l ((i, false) :: is) = (l[i], false) :: selS l is := by unfold selS; rw [List.filterMap_cons]; simp [List.getElem?_eq_getElem hil]
    rw [hs'] at h
    simp only [pickZ, Bool.and_eq_true, decide_eq_true_eq] at hB
    obtain ⟨⟨hr, hiz⟩, hB'⟩ := hB
    refine ⟨fun h1 => (by rw [hr] at h1; cases h1), fun j hj => ?_⟩
    rw [hr] at hj
    obtain rfl : j = i := by simpa using hj
    have hw : wpOp P l.toArray (OnlyS Q) j (fun a' w' => S w' ∧ wpS P l.toArray S (fun a w => wpList P l.toArray (OnlyS Q) [oz] a w) (selS l is) a' w') a w := by
      simp only [wpS, wpList] at h
      unfold wpOp
      simp only [h0]
      split
      · rename_i hwt
        simp only [hwt, if_true] at h
        rcases h with h | ⟨h, hl⟩
        · exact .inl (wp_swap h)
        · exact .inr ⟨h, lets_no hl⟩
      · rename_i hwt
        simp only [hwt] at h
        exact h.2
    exact wpOp_mono (fun a' w' h' => ⟨.inr h'.1, wpAnyZ_script hoz hs is _ a' w' (fun p hp => hl p (List.mem_cons_of_mem _ hp)) hB' h'.1 h'.2⟩) hw
def lastB (l : List Oper) (is : List (Nat × Bool)) (z : Nat) : Bool := Region.noSelect l.toArray && decide (is.length + 1 = l.length) && is.all (fun p => decide (p.1 < l.length)) && pickZ .any l z is (Array.replicate l.length false)
theorem wp_region_last {id : Nat} {a : Act} {w : World} {l : List Oper} (S : World → Prop) (is : List (Nat × Bool)) (z : Nat) (oz : Oper) (hoz : l[z]? = some oz) (hm : P.follows .mixedOrders = true) (hB : lastB l is z = true) (hS : S w.drew)
    (h : wpS P l.toArray S (fun a w => wpList P l.toArray (OnlyS Q) [oz] a w) (selS l is) a w.drew) : (Code.region id l.toArray true).wp P Q a w := by
  simp only [lastB, Bool.and_eq_true, decide_eq_true_eq, List.all_eq_true] at hB
  obtain ⟨⟨⟨hs, hn⟩, hf⟩, hp⟩ := hB
  refine Code.wp_mono (Q := OnlyS Q) (fun e a w h => by obtain ⟨rfl, h⟩ := h; exact h) ?_
  refine wp_region_any hm ?_
  have key := wpAny_of_z _ _ _ _ (wpAnyZ_script (P := P) (Q := Q) hoz hs is (Array.replicate l.length false) a w.drew hf hp hS h)
  rw [hn] at key
  simpa using key
end
end Go.Proofs.YtacbfbhhhofifaaDoor.E
