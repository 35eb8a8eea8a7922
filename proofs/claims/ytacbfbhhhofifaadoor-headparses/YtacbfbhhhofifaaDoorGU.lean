/- A region that draws its order, by a script, whose last operation may end in a panic, and waits for the others by any way. (Of no program.) -/
import Derived.Test.YtacbfbhhhofifaaDoorGT
namespace Go.Proofs.YtacbfbhhhofifaaDoor.E
set_option linter.unusedVariables false
section
variable {P : Program} {ops : Array Oper} {md : Region.Mode} {Q : Exit → Act → World → Prop} {S : World → Prop}

/-- What was taken, with all that it waits for. -/
def Clo (md : Region.Mode) (ops : Array Oper) (listed : Array Bool) : Prop := ∀ (j : Nat) (oj : Oper), ops[j]? = some oj → listed.getD j false = true → ∀ e ∈ oj.after, Region.binds md e = true → listed.getD e.on false = true
theorem Clo.start (n : Nat) : Clo md ops (Array.replicate n false) := by
  intro j oj _ h
  have : (Array.replicate n false).getD j false = false := by
    simp only [Array.getD_eq_getD_getElem?, Array.getElem?_replicate]
    split <;> rfl
  rw [this] at h
  cases h
theorem Clo.step {listed : Array Bool} (h : Clo md ops listed) {i : Nat} (hi : i ∈ Region.ready md ops listed) : Clo md ops (listed.setIfInBounds i true) := by
  obtain ⟨hiun, oi, hoi, hall⟩ := mem_ready.1 hi
  intro j oj hj hl e he hb
  by_cases hji : i = j
  · subst hji
    rw [hoi] at hj
    cases hj
    exact getD_set_true (hall e he hb)
  · rw [getD_set_ne false hji] at hl
    exact getD_set_true (h j oj hj hl e he hb)
/-- Number z waits for number i, by at most n steps. -/
def Rch (md : Region.Mode) (ops : Array Oper) (i : Nat) : Nat → Nat → Prop
  | 0, _ => False
  | n + 1, z => ∃ oz, ops[z]? = some oz ∧ ∃ e ∈ oz.after, Region.binds md e = true ∧ (e.on = i ∨ Rch md ops i n e.on)
theorem Rch.listed {listed : Array Bool} (hC : Clo md ops listed) {i : Nat} : ∀ (n z : Nat), Rch md ops i n z → (∀ oz, ops[z]? = some oz → ∀ e ∈ oz.after, Region.binds md e = true → listed.getD e.on false = true) → listed.getD i false = true
  | 0, _, h, _ => h.elim
  | n + 1, z, ⟨oz, ho, e, he, hb, h⟩, hz => by
    have h1 := hz oz ho e he hb
    rcases h with h | h
    · rw [← h]; exact h1
    · exact Rch.listed hC n e.on h (fun ok hk e' he' hb' => hC e.on ok hk h1 e' he' hb')
def rchB (md : Region.Mode) (l : List Oper) (i : Nat) : Nat → Nat → Bool
  | 0, _ => false
  | n + 1, z => match l[z]? with
    | none => false
    | some oz => oz.after.toList.any fun e => Region.binds md e && (decide (e.on = i) || rchB md l i n e.on)
theorem rch_spec {l : List Oper} {i : Nat} : ∀ (n z : Nat), rchB md l i n z = true → Rch md l.toArray i n z
  | 0, _, h => by cases h
  | n + 1, z, h => by
    unfold rchB at h
    cases hq : l[z]? with
    | none => rw [hq] at h; cases h
    | some oz =>
      rw [hq] at h
      simp only [List.any_eq_true, Bool.and_eq_true, Bool.or_eq_true, decide_eq_true_eq] at h
      obtain ⟨e, h1, h2, h3⟩ := h
      exact ⟨oz, by simpa using hq, e, by simpa using h1, h2, h3.imp id (rch_spec n e.on)⟩
/-- No other way out but a panic. -/
def OnlyP (Q : Exit → Act → World → Prop) : Exit → Act → World → Prop
  | .normal, a, w => Q .normal a w
  | .panic c, a, w => Q (.panic c) a w
  | _, _, _ => False
theorem onlyP_normal {a : Act} {w : World} (h : Q .normal a w) : OnlyP Q .normal a w := h
theorem wpAnyZ_firstP {z i : Nat} {oi : Oper} {v : Value} (hi : ops[i]? = some oi) (hsel : ∀ (j : Nat) (o : Oper) cs b, ops[j]? = some o → o.op ≠ .select cs b)
    (hQ : ∀ c a w, Q (.panic c) (a.put oi.dst v) w → Q (.panic c) a w) {n : Nat} (hz : Rch md ops i n z) :
    ∀ (fuel : Nat) (listed : Array Bool) (a : Act) (w : World), Clo md ops listed →
      (∀ j oj, ops[j]? = some oj → j ≠ i → listed.getD j true = false → (∀ e ∈ oj.after, Region.binds md e = true → e.on ≠ i) → oi.apart ops oj = true) →
      i ∈ Region.ready md ops listed → YieldsIf P ops S oi v a → S w →
      wpAnyZ P md ops Q S z fuel (listed.setIfInBounds i true) (a.put oi.dst v) w → wpAnyZ P md ops Q S z (fuel + 1) listed a w := by
  intro fuel
  induction fuel with
  | zero =>
    intro listed a w _ _ hr hy hS H
    refine ⟨fun h => (by rw [h] at hr; cases hr), fun j hj => ?_⟩
    by_cases hji : j = i
    · subst hji; exact hy.wpOp hi hS ⟨.inr hS, H⟩
    · have := ready_mono hj hji
      rw [H.1] at this
      cases this
  | succ fuel ih =>
    intro listed a w hC hfree hr hy hS H
    refine ⟨fun h => (by rw [h] at hr; cases hr), fun j hj => ?_⟩
    by_cases hji : j = i
    · subst hji; exact hy.wpOp hi hS ⟨.inr hS, H⟩
    · have h1 := H.2 j (ready_mono hj hji)
      obtain ⟨hjun, oj, hoj, hall⟩ := mem_ready.1 hj
      have hnot : ∀ e ∈ oj.after, Region.binds md e = true → e.on ≠ i := fun e he hb heq => by
        have h1 := hall e he hb
        have h0 := (mem_ready.1 hr).1
        rw [heq] at h1
        rcases Nat.lt_or_ge i listed.size with h' | h'
        · simp [h'] at h0 h1; rw [h0] at h1; cases h1
        · simp [Array.getElem?_eq_none h'] at h1
      have hjz : j ≠ z := fun e => by
        have h5 := Rch.listed hC n z hz (fun oz ho ed hed hbd => by
          rw [← e, hoj] at ho
          cases ho
          exact hall ed hed hbd)
        have h0 := (mem_ready.1 hr).1
        rcases Nat.lt_or_ge i listed.size with h' | h'
        · simp [h'] at h0 h5; rw [h0] at h5; cases h5
        · simp [Array.getElem?_eq_none h'] at h5
      have h2 := wpOp_putIf hoj (hfree j oj hoj hji hjun hnot) (fun cs b => hsel i oi cs b hi) (fun cs b => hsel j oj cs b hoj) hQ hy h1
      have hfree' : ∀ k ok, ops[k]? = some ok → k ≠ i → (listed.setIfInBounds j true).getD k true = false →
          (∀ e ∈ ok.after, Region.binds md e = true → e.on ≠ i) → oi.apart ops ok = true := fun k ok hk hki hun hno => by
        refine hfree k ok hk hki ?_ hno
        by_cases hjk : j = k
        · subst hjk; exact hjun
        · rw [getD_set_ne true hjk] at hun; exact hun
      refine wpOp_mono (fun a' w' h3 => ?_) h2
      have hs' : S w' := h3.2.1.resolve_left hjz
      refine ⟨.inr hs', ih (listed.setIfInBounds j true) a' w' (hC.step hj) hfree' (ready_mono hr (Ne.symm hji)) h3.1 hs' ?_⟩
      rw [Array.setIfInBounds_comm _ _ hji]
      exact h3.2.2
def pickP (md : Region.Mode) (l : List Oper) (z : Nat) : List (Nat × Bool) → Array Bool → Bool
  | [], listed => decide (Region.ready md l.toArray listed = [z]) && (Region.ready md l.toArray (listed.setIfInBounds z true)).isEmpty
  | (i, true) :: is, listed => (Region.ready md l.toArray listed).contains i && Region.free md l.toArray listed i && rchB md l i l.length z && pickP md l z is (listed.setIfInBounds i true)
  | (i, false) :: is, listed => decide (Region.ready md l.toArray listed = [i]) && decide (i ≠ z) && pickP md l z is (listed.setIfInBounds i true)
theorem wp_swapP {o : Oper} {a : Act} {w : World} {K : Act → World → Prop} (hh : o.wp P a w (fun a w => Qs S K .normal a w) (Qs S K)) : o.wp P a w (fun a w => S w ∧ K a w) (OnlyP Q) := by
  unfold Oper.wp at *
  generalize (execOp a.eval o).run P w = r at *
  cases r with
  | ok n w' =>
    cases n <;> simp only [Oper.upon] at hh ⊢
    case value u => exact hh.2
    case skip => exact hh.2
    case defer d => exact hh.2
    case enter f args =>
      exact hh.mono fun e w'' he => by
        cases e with
        | returned u => exact he.2
        | panicked c => exact absurd he.1 (by simp)
        | outgrown => obtain ⟨_, _, h, _⟩ := he; cases h
    case row row args => exact hh.mono fun u w'' he => he.2
  | halt x w' =>
    cases x <;> simp only [Oper.upon] at hh ⊢
    case panic u => exact absurd hh.1 (by simp)
theorem lets_noP {K : Act → World → Prop} (h : LetsOut (Qs S K)) : LetsOut (OnlyP Q) := by
  obtain ⟨_, _, h, _⟩ := h
  cases h
theorem wpAnyZ_scriptP (ok : Option Tmp → Bool) (hP : ∀ c a d v w, ok d = true → Q (.panic c) (a.put d v) w → Q (.panic c) a w) {l : List Oper} (hD : l.all (fun o => ok o.dst) = true) {z : Nat} {oz : Oper} (hoz : l[z]? = some oz) (hs : Region.noSelect l.toArray = true) : ∀ (is : List (Nat × Bool)) (listed : Array Bool) (a : Act) (w : World), (∀ p ∈ is, p.1 < l.length) →
    pickP .any l z is listed = true → Clo .any l.toArray listed → S w → wpS P l.toArray S (fun a w => wpList P l.toArray (OnlyP Q) [oz] a w) (selS l is) a w → wpAnyZ P .any l.toArray (OnlyP Q) S z (is.length + 1) listed a w
  | [], listed, a, w, _, hB, hC, hS, h => by
    simp only [pickP, Bool.and_eq_true, decide_eq_true_eq] at hB
    have h0 : l.toArray[z]? = some oz := by simpa using hoz
    refine ⟨fun h1 => (by rw [hB.1] at h1; cases h1), fun j hj => ?_⟩
    rw [hB.1] at hj
    obtain rfl : j = z := by simpa using hj
    have hw : wpOp P l.toArray (OnlyP Q) j (wpList P l.toArray (OnlyP Q) []) a w := by
      unfold wpOp
      simp only [h0]
      exact h
    exact wpOp_mono (fun a' w' h' => ⟨.inl rfl, by simpa using hB.2, h'⟩) hw
  | (i, true) :: is, listed, a, w, hl, hB, hC, hS, h => by
    have hil : i < l.length := hl (i, true) (by simp)
    have h0 : l.toArray[i]? = some l[i] := by simp [hil]
    have hs' : selS l ((i, true) :: is) = (l[i], true) :: selS l is := by unfold selS; rw [List.filterMap_cons]; simp [List.getElem?_eq_getElem hil]
    rw [hs'] at h
    simp only [pickP, Bool.and_eq_true] at hB
    obtain ⟨⟨⟨hr, hf⟩, hwt⟩, hB'⟩ := hB
    obtain ⟨v, hy, hK⟩ := h
    have := wpAnyZ_scriptP ok hP hD hoz hs is (listed.setIfInBounds i true) (a.put l[i].dst v) w (fun p hp => hl p (List.mem_cons_of_mem _ hp)) hB' (hC.step (by simpa using hr)) hS hK
    exact wpAnyZ_firstP (Q := OnlyP Q) h0 (Region.noSelect_spec hs) (fun c a w h => hP c a _ _ w (List.all_eq_true.1 hD _ (List.getElem_mem hil)) h) (rch_spec _ _ hwt) (is.length + 1) listed a w hC (Region.free_spec h0 hf) (by simpa using hr) hy hS this
  | (i, false) :: is, listed, a, w, hl, hB, hC, hS, h => by
    have hil : i < l.length := hl (i, false) (by simp)
    have h0 : l.toArray[i]? = some l[i] := by simp [hil]
    have hs' : selS l ((i, false) :: is) = (l[i], false) :: selS l is := by unfold selS; rw [List.filterMap_cons]; simp [List.getElem?_eq_getElem hil]
    rw [hs'] at h
    simp only [pickP, Bool.and_eq_true, decide_eq_true_eq] at hB
    obtain ⟨⟨hr, hiz⟩, hB'⟩ := hB
    refine ⟨fun h1 => (by rw [hr] at h1; cases h1), fun j hj => ?_⟩
    rw [hr] at hj
    obtain rfl : j = i := by simpa using hj
    have hw : wpOp P l.toArray (OnlyP Q) j (fun a' w' => S w' ∧ wpS P l.toArray S (fun a w => wpList P l.toArray (OnlyP Q) [oz] a w) (selS l is) a' w') a w := by
      simp only [wpS, wpList] at h
      unfold wpOp
      simp only [h0]
      split
      · rename_i hwt
        simp only [hwt, if_true] at h
        rcases h with h | ⟨h, hl⟩
        · exact .inl (wp_swapP h)
        · exact .inr ⟨h, lets_noP hl⟩
      · rename_i hwt
        simp only [hwt] at h
        exact h.2
    exact wpOp_mono (fun a' w' h' => ⟨.inr h'.1, wpAnyZ_scriptP ok hP hD hoz hs is _ a' w' (fun p hp => hl p (List.mem_cons_of_mem _ hp)) hB' (hC.step (by rw [hr]; exact List.mem_singleton.2 rfl)) h'.1 h'.2⟩) hw
def lastPB (l : List Oper) (is : List (Nat × Bool)) (z : Nat) : Bool := Region.noSelect l.toArray && decide (is.length + 1 = l.length) && is.all (fun p => decide (p.1 < l.length)) && pickP .any l z is (Array.replicate l.length false)
theorem wp_region_lastP (ok : Option Tmp → Bool) (hP : ∀ c a d v w, ok d = true → Q (.panic c) (a.put d v) w → Q (.panic c) a w) {id : Nat} {a : Act} {w : World} {l : List Oper} (hD : l.all (fun o => ok o.dst) = true) (S : World → Prop) (is : List (Nat × Bool)) (z : Nat) (oz : Oper) (hoz : l[z]? = some oz) (hm : P.follows .mixedOrders = true) (hB : lastPB l is z = true) (hS : S w.drew)
    (h : wpS P l.toArray S (fun a w => wpList P l.toArray (OnlyP Q) [oz] a w) (selS l is) a w.drew) : (Code.region id l.toArray true).wp P Q a w := by
  simp only [lastPB, Bool.and_eq_true, decide_eq_true_eq, List.all_eq_true] at hB
  obtain ⟨⟨⟨hs, hn⟩, hf⟩, hp⟩ := hB
  refine Code.wp_mono (Q := OnlyP Q) (fun e a w h => by cases e <;> first | exact h | exact h.elim) ?_
  refine wp_region_any hm ?_
  have key := wpAny_of_z _ _ _ _ (wpAnyZ_scriptP (P := P) (Q := Q) ok hP hD hoz hs is (Array.replicate l.length false) a w.drew hf hp (Clo.start _) hS h)
  rw [hn] at key
  simpa using key
/-- The same, where the last one may not panic. -/
theorem wp_region_lastR {id : Nat} {a : Act} {w : World} {l : List Oper} (S : World → Prop) (is : List (Nat × Bool)) (z : Nat) (oz : Oper) (hoz : l[z]? = some oz) (hm : P.follows .mixedOrders = true) (hB : lastPB l is z = true) (hS : S w.drew)
    (h : wpS P l.toArray S (fun a w => wpList P l.toArray (OnlyP (OnlyS Q)) [oz] a w) (selS l is) a w.drew) : (Code.region id l.toArray true).wp P Q a w := by
  refine Code.wp_mono (Q := OnlyS Q) (fun e a w h => by obtain ⟨rfl, h⟩ := h; exact h) ?_
  exact wp_region_lastP (Q := OnlyS Q) (fun _ => true) (fun c a d v w _ h => absurd h.1 (by simp)) (by simp) S is z oz hoz hm hB hS h
theorem onlyPS_normal {a : Act} {w : World} (h : Q .normal a w) : OnlyP (OnlyS Q) .normal a w := ⟨rfl, h⟩
end
end Go.Proofs.YtacbfbhhhofifaaDoor.E
