/- A region that draws its order, by a script: what yields its value in every world that meets S is taken first, whichever it is; at the others, each of them alone, S is to be shown anew. (Of no program.) -/
import Derived.OrdersHeld
import Derived.StillTail
namespace Go.Proofs.YtacbfbhhhofifaaDoor.E
set_option linter.unusedVariables false
section
variable {P : Program} {ops : Array Oper} {md : Region.Mode} {Q : Exit → Act → World → Prop} {S : World → Prop}

/-- No other way out. -/
def OnlyS (Q : Exit → Act → World → Prop) : Exit → Act → World → Prop := fun e a w => e = .normal ∧ Q .normal a w
/-- Behind one: S, and what follows; no other way out. -/
def Qs (S : World → Prop) (K : Act → World → Prop) : Exit → Act → World → Prop := fun e a w => e = .normal ∧ S w ∧ K a w
theorem wp_swap {o : Oper} {a : Act} {w : World} {K : Act → World → Prop} (hh : o.wp P a w (fun a w => Qs S K .normal a w) (Qs S K)) : o.wp P a w (fun a w => S w ∧ K a w) (OnlyS Q) := by
  unfold Oper.wp at *
  generalize (execOp a.eval o).run P w = r at *
  cases r with
  | ok n w' =>
    cases n <;> simp only [Oper.upon] at hh ⊢
    case value u => exact hh.2
    case skip => exact hh.2
    case defer d => exact hh.2
    case enter f args =>
      exact hh.mono fun e w'' he => by
        cases e with
        | returned u => exact he.2
        | panicked c => exact absurd he.1 (by simp)
        | outgrown => obtain ⟨_, _, h, _⟩ := he; cases h
    case row row args => exact hh.mono fun u w'' he => he.2
  | halt x w' =>
    cases x <;> simp only [Oper.upon] at hh ⊢
    case panic u => exact absurd hh.1 (by simp)
theorem lets_no {K : Act → World → Prop} (h : LetsOut (Qs S K)) : LetsOut (OnlyS Q) := by
  obtain ⟨_, _, h, _⟩ := h
  cases h
def wpS (P : Program) (ops : Array Oper) (S : World → Prop) (Q : Act → World → Prop) : List (Oper × Bool) → Act → World → Prop
  | [], a, w => Q a w
  | (o, true) :: l, a, w => ∃ v, YieldsIf P ops S o v a ∧ wpS P ops S Q l (a.put o.dst v) w
  | (o, false) :: l, a, w => wpList P ops (Qs S (wpS P ops S Q l)) [o] a w
def pickS (md : Region.Mode) (ops : Array Oper) : List (Nat × Bool) → Array Bool → Bool
  | [], listed => (Region.ready md ops listed).isEmpty
  | (i, true) :: l, listed => (Region.ready md ops listed).contains i && Region.free md ops listed i && pickS md ops l (listed.setIfInBounds i true)
  | (i, false) :: l, listed => decide (Region.ready md ops listed = [i]) && pickS md ops l (listed.setIfInBounds i true)
def selS (l : List Oper) (is : List (Nat × Bool)) : List (Oper × Bool) := is.filterMap fun p => l[p.1]?.map fun o => (o, p.2)
theorem wpAnyH_script {l : List Oper} (hs : Region.noSelect l.toArray = true) : ∀ (is : List (Nat × Bool)) (listed : Array Bool) (a : Act) (w : World), (∀ p ∈ is, p.1 < l.length) →
    pickS md l.toArray is listed = true → S w → wpS P l.toArray S (fun a w => Q .normal a w) (selS l is) a w → wpAnyH P md l.toArray (OnlyS Q) S is.length listed a w
  | [], listed, a, w, _, hB, _, h => ⟨by simpa [pickS] using hB, rfl, h⟩
  | (i, true) :: is, listed, a, w, hl, hB, hS, h => by
    have hil : i < l.length := hl (i, true) (by simp)
    have h0 : l.toArray[i]? = some l[i] := by simp [hil]
    have hs' : selS l ((i, true) :: is) = (l[i], true) :: selS l is := by unfold selS; rw [List.filterMap_cons]; simp [List.getElem?_eq_getElem hil]
    rw [hs'] at h
    simp only [pickS, Bool.and_eq_true] at hB
    obtain ⟨⟨hr, hf⟩, hB'⟩ := hB
    obtain ⟨v, hy, hK⟩ := h
    have := wpAnyH_script hs is (listed.setIfInBounds i true) (a.put l[i].dst v) w (fun p hp => hl p (List.mem_cons_of_mem _ hp)) hB' hS hK
    exact wpAnyH_first h0 (Region.noSelect_spec hs) (fun c a w h => absurd h.1 (by simp)) is.length listed a w (Region.free_spec h0 hf) (by simpa using hr) hy hS this
  | (i, false) :: is, listed, a, w, hl, hB, hS, h => by
    have hil : i < l.length := hl (i, false) (by simp)
    have h0 : l.toArray[i]? = some l[i] := by simp [hil]
    have hs' : selS l ((i, false) :: is) = (l[i], false) :: selS l is := by unfold selS; rw [List.filterMap_cons]; simp [List.getElem?_eq_getElem hil]
    rw [hs'] at h
    simp only [pickS, Bool.and_eq_true, decide_eq_true_eq] at hB
    refine ⟨fun h1 => (by rw [hB.1] at h1; cases h1), fun j hj => ?_⟩
    rw [hB.1] at hj
    obtain rfl : j = i := by simpa using hj
    have hw : wpOp P l.toArray (OnlyS Q) j (fun a' w' => S w' ∧ wpS P l.toArray S (fun a w => Q .normal a w) (selS l is) a' w') a w := by
      simp only [wpS, wpList] at h
      unfold wpOp
      simp only [h0]
      split
      · rename_i hwt
        simp only [hwt, if_true] at h
        rcases h with h | ⟨h, hl⟩
        · exact .inl (wp_swap h)
        · exact .inr ⟨h, lets_no hl⟩
      · rename_i hwt
        simp only [hwt] at h
        exact h.2
    exact wpOp_mono (fun a' w' h' => ⟨h'.1, wpAnyH_script hs is _ a' w' (fun p hp => hl p (List.mem_cons_of_mem _ hp)) hB.2 h'.1 h'.2⟩) hw
def scriptB (l : List Oper) (is : List (Nat × Bool)) : Bool := Region.noSelect l.toArray && decide (is.length = l.length) && is.all (fun p => decide (p.1 < l.length)) && pickS .any l.toArray is (Array.replicate l.length false)
theorem wp_region_script {id : Nat} {a : Act} {w : World} {l : List Oper} (S : World → Prop) (is : List (Nat × Bool)) (hm : P.follows .mixedOrders = true) (hB : scriptB l is = true) (hS : S w.drew)
    (h : wpS P l.toArray S (fun a w => Q .normal a w) (selS l is) a w.drew) : (Code.region id l.toArray true).wp P Q a w := by
  simp only [scriptB, Bool.and_eq_true, decide_eq_true_eq, List.all_eq_true] at hB
  obtain ⟨⟨⟨hs, hn⟩, hf⟩, hp⟩ := hB
  refine Code.wp_mono (Q := OnlyS Q) (fun e a w h => by obtain ⟨rfl, h⟩ := h; exact h) ?_
  refine wp_region_held (S := S) hm ?_
  have key := wpAnyH_script (P := P) (md := .any) (Q := Q) hs is (Array.replicate l.length false) a w.drew hf hp hS h
  rw [hn] at key
  simpa using key
theorem wpS_val {K : Act → World → Prop} {a : Act} {w : World} {o : Oper} {rest : List (Oper × Bool)} (v : Value) (hg : Region.wanted o (yielded ops a.tmps) = true) (h : ∀ w, S w → (execOp a.eval o).run P w = .ok (.value v) w) (hk : wpS P ops S K rest (a.put o.dst v) w) : wpS P ops S K ((o, true) :: rest) a w := ⟨v, .inl ⟨hg, h⟩, hk⟩
theorem wpS_skip {K : Act → World → Prop} {a : Act} {w : World} {o : Oper} {rest : List (Oper × Bool)} (hg : Region.wanted o (yielded ops a.tmps) = false) (hk : wpS P ops S K rest (a.put o.dst undef) w) : wpS P ops S K ((o, true) :: rest) a w := ⟨undef, .inr ⟨hg, rfl⟩, hk⟩
end
end Go.Proofs.YtacbfbhhhofifaaDoor.E
