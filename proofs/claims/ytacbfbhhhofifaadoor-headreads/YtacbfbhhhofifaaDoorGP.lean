/- A region that draws its order: operations that yield one value in every world are taken first, whichever they are; the others then stand in a row. (Of no program.) -/
import Derived.Test.YtacbfbhhhofifaaDoorGQ
namespace Go.Proofs.YtacbfbhhhofifaaDoor.E
set_option linter.unusedVariables false
section
variable {P : Program} {ops : Array Oper} {md : Region.Mode} {Q : Exit → Act → World → Prop}

def seqIB (md : Region.Mode) (ops : Array Oper) : List Nat → Array Bool → Bool
  | [], listed => (Region.ready md ops listed).isEmpty
  | i :: rs, listed => decide (Region.ready md ops listed = [i]) && seqIB md ops rs (listed.setIfInBounds i true)
def pickIB (md : Region.Mode) (ops : Array Oper) (rs : List Nat) : List Nat → Array Bool → Bool
  | [], listed => seqIB md ops rs listed
  | i :: fs, listed => (Region.ready md ops listed).contains i && Region.free md ops listed i && pickIB md ops rs fs (listed.setIfInBounds i true)
def sel (l : List Oper) (is : List Nat) : List Oper := is.filterMap fun i => l[i]?
theorem wpAny_seqI {l : List Oper} : ∀ (rs : List Nat) (listed : Array Bool) (a : Act) (w : World), (∀ i ∈ rs, i < l.length) →
    seqIB md l.toArray rs listed = true → wpList P l.toArray Q (sel l rs) a w → wpAny P md l.toArray Q rs.length listed a w
  | [], _, _, _, _, hB, h => ⟨by simpa [seqIB] using hB, h⟩
  | i :: rs, listed, a, w, hl, hB, h => by
    have hil : i < l.length := hl i (by simp)
    have h0 : l.toArray[i]? = some l[i] := by simp [hil]
    have hs : sel l (i :: rs) = l[i] :: sel l rs := by unfold sel; rw [List.filterMap_cons, List.getElem?_eq_getElem hil]
    rw [hs] at h
    simp only [seqIB, Bool.and_eq_true, decide_eq_true_eq] at hB
    refine ⟨fun h1 => (by rw [hB.1] at h1; cases h1), fun j hj => ?_⟩
    rw [hB.1] at hj
    obtain rfl : j = i := by simpa using hj
    have hw : wpOp P l.toArray Q j (wpList P l.toArray Q (sel l rs)) a w := by unfold wpOp; simp only [h0]; exact h
    exact wpOp_mono (fun a' w' h' => wpAny_seqI rs _ a' w' (fun k hk => hl k (List.mem_cons_of_mem _ hk)) hB.2 h') hw
theorem wpAny_pickI {l : List Oper} {w : World} (hs : Region.noSelect l.toArray = true) (hQ : ∀ e a a' w, e ≠ Exit.normal → Q e a w → Q e a' w) (rs : List Nat) (hr : ∀ i ∈ rs, i < l.length) : ∀ (fs : List Nat) (listed : Array Bool) (a : Act), (∀ i ∈ fs, i < l.length) →
    pickIB md l.toArray rs fs listed = true → wpFree P l.toArray (fun a' => wpList P l.toArray Q (sel l rs) a' w) (sel l fs) a → wpAny P md l.toArray Q (fs.length + rs.length) listed a w
  | [], listed, a, _, hB, h => by
    rw [List.length_nil, Nat.zero_add]
    exact wpAny_seqI rs listed a w hr hB h
  | i :: fs, listed, a, hl, hB, h => by
    have hil : i < l.length := hl i (by simp)
    have h0 : l.toArray[i]? = some l[i] := by simp [hil]
    have hs' : sel l (i :: fs) = l[i] :: sel l fs := by unfold sel; rw [List.filterMap_cons, List.getElem?_eq_getElem hil]
    rw [hs'] at h
    simp only [pickIB, Bool.and_eq_true] at hB
    obtain ⟨⟨hrd, hf⟩, hB'⟩ := hB
    obtain ⟨v, hy, hK⟩ := h
    have := wpAny_pickI hs hQ rs hr fs (listed.setIfInBounds i true) (a.put l[i].dst v) (fun k hk => hl k (List.mem_cons_of_mem _ hk)) hB' hK
    have e : (i :: fs).length + rs.length = (fs.length + rs.length) + 1 := by simp; omega
    rw [e]
    exact wpAny_first h0 (Region.noSelect_spec hs) hQ (fs.length + rs.length) listed a w (Region.free_spec h0 hf) (by simpa using hrd) hy this
def pickB (l : List Oper) (fs rs : List Nat) : Bool := Region.noSelect l.toArray && decide (fs.length + rs.length = l.length) && fs.all (fun i => decide (i < l.length)) && rs.all (fun i => decide (i < l.length)) && pickIB .any l.toArray rs fs (Array.replicate l.length false)
theorem wp_region_pick {id : Nat} {a : Act} {w : World} {l : List Oper} (fs rs : List Nat) (hm : P.follows .mixedOrders = true) (hB : pickB l fs rs = true)
    (h : wpFree P l.toArray (fun a' => wpList P l.toArray (OnlyN Q) (sel l rs) a' { w with drawn := w.drawn + 1 }) (sel l fs) a) : (Code.region id l.toArray true).wp P Q a w := by
  simp only [pickB, Bool.and_eq_true, decide_eq_true_eq, List.all_eq_true] at hB
  obtain ⟨⟨⟨⟨hs, hn⟩, hf⟩, hr⟩, hp⟩ := hB
  refine Code.wp_mono (Q := OnlyN Q) (fun e a w h => by obtain ⟨rfl, h⟩ := h; exact h) ?_
  refine wp_region_any hm ?_
  have key := wpAny_pickI (P := P) (md := .any) (Q := OnlyN Q) (w := { w with drawn := w.drawn + 1 }) hs (fun e a a' w he h => absurd h.1 he) rs hr fs (Array.replicate l.length false) a hf hp h
  rw [hn] at key
  simpa using key
theorem sel_nil (l : List Oper) : sel l [] = [] := rfl
theorem wpFree_skip {Q' : Act → Prop} {a : Act} {o : Oper} {rest : List Oper} (hg : Region.wanted o (yielded ops a.tmps) = false) (hk : wpFree P ops Q' rest (a.put o.dst undef)) : wpFree P ops Q' (o :: rest) a :=
  ⟨undef, .inr ⟨hg, rfl⟩, hk⟩
theorem wpFree_gval {Q' : Act → Prop} {a : Act} {o : Oper} {rest : List Oper} (v : Value) (hg : Region.wanted o (yielded ops a.tmps) = true) (h : ∀ w, (execOp a.eval o).run P w = .ok (.value v) w) (hk : wpFree P ops Q' rest (a.put o.dst v)) : wpFree P ops Q' (o :: rest) a :=
  ⟨v, .inl ⟨hg, fun w => by unfold Oper.quietAt; rw [h w]; exact ⟨rfl, rfl⟩⟩, hk⟩
theorem wpFree_gcall {Q' : Act → Prop} {a : Act} {o : Oper} {rest : List Oper} (v : Value) (hg : Region.wanted o (yielded ops a.tmps) = true) {f : FuncId} {args : Array Value} (h : ∀ w, (execOp a.eval o).run P w = .ok (.enter f args) w) (hc : ∀ w, Calls P f args w fun e w' => e = .returned v ∧ w' = w) (hk : wpFree P ops Q' rest (a.put o.dst v)) : wpFree P ops Q' (o :: rest) a :=
  ⟨v, .inl ⟨hg, fun w => by unfold Oper.quietAt; rw [h w]; exact ⟨rfl, (hc w).mono fun e w' h => h⟩⟩, hk⟩
end
end Go.Proofs.YtacbfbhhhofifaaDoor.E
