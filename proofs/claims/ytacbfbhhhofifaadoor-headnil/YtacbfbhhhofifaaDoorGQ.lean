/- A region that draws its order: operations that yield one value in every world and leave it as it is may be taken first, in the order of the text; what stands behind them in a row may do what it likes. (Of no program.) -/
import Derived.StillTail
import Derived.Deep.Quiet
namespace Go.Proofs.YtacbfbhhhofifaaDoor.E
set_option linter.unusedVariables false
section
variable {P : Program} {ops : Array Oper} {md : Region.Mode} {Q : Exit → Act → World → Prop}

/-- In this state, in every world, the operation leaves v, and the world as it was. -/
def YieldsFree (P : Program) (ops : Array Oper) (o : Oper) (v : Value) (a : Act) : Prop :=
  (Region.wanted o (yielded ops a.tmps) = true ∧ ∀ w, o.quietAt P a (fun x => x = w) w v) ∨ (Region.wanted o (yielded ops a.tmps) = false ∧ v = undef)
theorem YieldsFree.of_same {o : Oper} {v : Value} {a a' : Act} (hy : YieldsFree P ops o v a) (he : execOp a'.eval o = execOp a.eval o)
    (hw : Region.wanted o (yielded ops a'.tmps) = Region.wanted o (yielded ops a.tmps)) : YieldsFree P ops o v a' := by
  unfold YieldsFree Oper.quietAt at *
  rw [he, hw]
  exact hy
theorem YieldsFree.wpOp {i : Nat} {o : Oper} {v : Value} {a : Act} {w : World} {K : Act → World → Prop} (hi : ops[i]? = some o) (hy : YieldsFree P ops o v a) (h : K (a.put o.dst v) w) : wpOp P ops Q i K a w := by
  unfold Go.wpOp
  simp only [hi]
  rcases hy with ⟨hw, hv⟩ | ⟨hw, rfl⟩
  · simp only [hw, if_true]
    left
    have h3 := hv w
    unfold Oper.quietAt at h3
    unfold Oper.wp
    generalize (execOp a.eval o).run P w = r at *
    cases r with
    | ok n w' =>
      cases n <;> simp only [Oper.quietUpon] at h3 <;> simp only [Oper.upon]
      case value u =>
        obtain ⟨e1, e2⟩ := h3
        rw [e1, e2]
        exact h
      case skip =>
        obtain ⟨e1, e2⟩ := h3
        rw [e1, ← e2]
        exact h
      case enter f args =>
        obtain ⟨e1, hc⟩ := h3
        rw [e1]
        exact hc.mono fun e w'' ⟨he, hw''⟩ => by subst he; subst hw''; exact h
    | halt x w' => simp only [Oper.quietUpon] at h3
  · simp only [hw, Bool.false_eq_true, if_false]
    exact h
theorem put_defers (a : Act) (x : Option Tmp) (v : Value) (d : Deferred) : ({ (a.put x v) with defers := d :: (a.put x v).defers } : Act) = ({ a with defers := d :: a.defers } : Act).put x v := by
  cases x <;> rfl
theorem eval_defers (a : Act) (D : List Deferred) : ({ a with defers := D } : Act).eval = a.eval := by
  funext x
  cases x <;> rfl
/-- One operation, apart from the first: whether the first one's value is already there makes no difference to it, and it makes none to the first. -/
theorem wpOp_put {j : Nat} {oi oj : Oper} {v : Value} (hj : ops[j]? = some oj) (hap : oi.apart ops oj = true)
    (hsi : ∀ cs b, oi.op ≠ .select cs b) (hsj : ∀ cs b, oj.op ≠ .select cs b) (hQ : ∀ e a a' w, e ≠ Exit.normal → Q e a w → Q e a' w) {K : Act → World → Prop} {a : Act} {w : World}
    (hy : YieldsFree P ops oi v a) (h : wpOp P ops Q j K (a.put oi.dst v) w) :
    wpOp P ops Q j (fun a' w' => YieldsFree P ops oi v a' ∧ K (a'.put oi.dst v) w') a w := by
  obtain ⟨h1, h2, h3⟩ := Oper.apart_spec hap
  have keep : ∀ (a : Act), YieldsFree P ops oi v a → ∀ u, YieldsFree P ops oi v (a.put oj.dst u) := fun a hy u =>
    hy.of_same (execOp_put oi hsi a oj.dst u h3) (wanted_put oi a oj.dst u h3)
  unfold wpOp at *
  simp only [hj] at *
  rw [wanted_put oj a oi.dst v h1] at h
  split
  · rename_i hw
    simp only [hw, if_true] at h
    rcases h with h | ⟨h, hl⟩
    · left
      unfold Oper.wp at *
      rw [execOp_put oj hsj a oi.dst v h1] at h
      generalize (execOp a.eval oj).run P w = r at *
      cases r with
      | ok n w' =>
        cases n <;> simp only [Oper.upon] at h ⊢
        case value u => exact ⟨keep a hy u, by rw [← Act.put_comm a v u h2]; exact h⟩
        case skip => exact ⟨keep a hy _, by rw [← Act.put_comm a v _ h2]; exact h⟩
        case defer d =>
          rw [put_defers, Act.put_comm _ v _ h2] at h
          have hy' : YieldsFree P ops oi v ({ a with defers := d :: a.defers } : Act) := hy.of_same (by rw [eval_defers]) rfl
          exact ⟨keep _ hy' _, h⟩
        case enter f args =>
          refine h.mono fun e w'' hh => ?_
          cases e with
          | returned u => exact ⟨keep a hy u, by rw [← Act.put_comm a v u h2]; exact hh⟩
          | panicked c => exact hQ _ _ _ _ (by simp) hh
          | outgrown => exact hh
        case row row args =>
          refine h.mono (fun u w'' hh => ?_)
          exact ⟨keep a hy u, by rw [← Act.put_comm a v u h2]; exact hh⟩
      | halt x w' =>
        cases x <;> simp only [Oper.upon] at h ⊢
        exact hQ _ _ _ _ (by simp) h
    · right
      refine ⟨?_, hl⟩
      unfold Oper.asks at *
      rw [execOp_put oj hsj a oi.dst v h1] at h
      exact h
  · rename_i hw
    simp only [hw] at h
    exact ⟨keep a hy _, by rw [← Act.put_comm a v undef h2]; exact h⟩
/-- Nothing that is still to come, and doesn't wait for operation i, has to do with it. -/
def Loose (md : Region.Mode) (ops : Array Oper) (i : Nat) (oi : Oper) (listed : Array Bool) : Prop :=
  ∀ j oj, ops[j]? = some oj → j ≠ i → listed.getD j true = false → (∀ e ∈ oj.after, Region.binds md e = true → e.on ≠ i) → oi.apart ops oj = true
theorem Loose.more {i j : Nat} {oi : Oper} {listed : Array Bool} (h : Loose md ops i oi listed) (hj : listed.getD j true = false) : Loose md ops i oi (listed.setIfInBounds j true) := by
  intro k ok hk hki hun
  by_cases e : j = k
  · exact h k ok hk hki (e ▸ hj)
  · exact h k ok hk hki ((getD_set_ne true e).symm.trans hun)
/-- Of two that may come up now, neither waits for the other. -/
theorem no_wait {i j : Nat} {listed : Array Bool} (hi : i ∈ Region.ready md ops listed) (hj : j ∈ Region.ready md ops listed) : listed.getD j true = false ∧ ∃ oj, ops[j]? = some oj ∧ ∀ e ∈ oj.after, Region.binds md e = true → e.on ≠ i := by
  obtain ⟨h1, oj, h2, h3⟩ := mem_ready.1 hj
  have h4 := getD_both (mem_ready.1 hi).1
  exact ⟨h1, oj, h2, fun e he hb h5 => by rw [← h5, h3 e he hb] at h4; cases h4⟩
/-- It may be taken first. -/
theorem wpAny_first {i : Nat} {oi : Oper} {v : Value} (hi : ops[i]? = some oi) (hsel : ∀ (j : Nat) (o : Oper) cs b, ops[j]? = some o → o.op ≠ .select cs b) (hQ : ∀ e a a' w, e ≠ Exit.normal → Q e a w → Q e a' w) :
    ∀ (n : Nat) (listed : Array Bool) (a : Act) (w : World), Loose md ops i oi listed → i ∈ Region.ready md ops listed → YieldsFree P ops oi v a →
      wpAny P md ops Q n (listed.setIfInBounds i true) (a.put oi.dst v) w → wpAny P md ops Q (n + 1) listed a w
  | 0, listed, a, w, hf, hr, hy, H => ⟨fun h => absurd (h ▸ hr) (by simp), fun j hj => by
      by_cases e : j = i
      · rw [e]; exact hy.wpOp hi H
      · exact absurd (H.1 ▸ ready_mono hj e) (by simp)⟩
  | n + 1, listed, a, w, hf, hr, hy, H => ⟨fun h => absurd (h ▸ hr) (by simp), fun j hj => by
      by_cases e : j = i
      · rw [e]; exact hy.wpOp hi H
      · obtain ⟨hun, oj, hoj, hno⟩ := no_wait hr hj
        have step := wpOp_put hoj (hf j oj hoj e hun hno) (fun cs b => hsel i oi cs b hi) (fun cs b => hsel j oj cs b hoj) hQ hy (H.2 j (ready_mono hj e))
        refine wpOp_mono (fun a' w' ⟨hy', H'⟩ => ?_) step
        rw [Array.setIfInBounds_comm _ _ (Ne.symm e)] at H'
        exact wpAny_first hi hsel hQ n _ a' w' (hf.more hun) (ready_mono hr (Ne.symm e)) hy' H'⟩
/-- The walk of what is taken first. -/
def wpFree (P : Program) (ops : Array Oper) (Q : Act → Prop) : List Oper → Act → Prop
  | [], a => Q a
  | o :: rest, a => ∃ v, YieldsFree P ops o v a ∧ wpFree P ops Q rest (a.put o.dst v)
theorem wpAny_free {g : Nat} {w : World} (hs : Region.noSelect ops = true) (hQ : ∀ e a a' w, e ≠ Exit.normal → Q e a w → Q e a' w) : ∀ (l : List Oper) (k : Nat) (listed : Array Bool) (a : Act), (∀ j, j < l.length → l[j]? = ops[k + j]?) →
    Region.lexHead md ops g l.length k listed = true → wpFree P ops (fun a' => ∀ listed', Region.seqB md ops g (k + l.length) listed' = true → wpAny P md ops Q g listed' a' w) l a → wpAny P md ops Q (l.length + g) listed a w
  | [], k, listed, a, _, hB, h => by
    simp only [List.length_nil, Nat.zero_add, Nat.add_zero] at *
    exact h listed (by simpa [Region.lexHead] using hB)
  | o :: l, k, listed, a, hl, hB, h => by
    have h0 : ops[k]? = some o := by simpa using (hl 0 (by simp)).symm
    simp only [List.length_cons, Region.lexHead, Bool.and_eq_true] at hB
    obtain ⟨⟨hr, hf⟩, hB'⟩ := hB
    obtain ⟨v, hy, hK⟩ := h
    have := wpAny_free (g := g) (w := w) hs hQ l (k + 1) (listed.setIfInBounds k true) (a.put o.dst v) (fun j hj => by have := hl (j + 1) (by simp; omega); simpa [Nat.add_assoc, Nat.add_comm 1 j] using this) hB' (by
      simp only [List.length_cons] at hK
      rw [show k + 1 + l.length = k + (l.length + 1) by omega]
      exact hK)
    have e : (o :: l).length + g = (l.length + g) + 1 := by simp; omega
    rw [e]
    exact wpAny_first h0 (Region.noSelect_spec hs) hQ (l.length + g) listed a w (Region.free_spec h0 hf) (by simpa using hr) hy this
/-- The post, and no other way out. -/
def OnlyN (Q : Exit → Act → World → Prop) : Exit → Act → World → Prop := fun e a w => e = .normal ∧ Q .normal a w
/-- The Bool: the first n may be taken first, one by one; the others then stand in a row. -/
def freeB (l : List Oper) (n : Nat) : Bool := Region.noSelect l.toArray && decide (n ≤ l.length) && Region.lexHead .any l.toArray (l.length - n) n 0 (Array.replicate l.length false)
theorem wp_region_free {id : Nat} {a : Act} {w : World} {l : List Oper} (n : Nat) (hm : P.follows .mixedOrders = true) (hB : freeB l n = true)
    (h : wpFree P l.toArray (fun a' => wpList P l.toArray (OnlyN Q) (l.drop n) a' { w with drawn := w.drawn + 1 }) (l.take n) a) : (Code.region id l.toArray true).wp P Q a w := by
  simp only [freeB, Bool.and_eq_true, decide_eq_true_eq] at hB
  obtain ⟨⟨hs, hn⟩, hlex⟩ := hB
  have htl : (l.take n).length = n := by simp; omega
  have hdl : (l.drop n).length = l.length - n := by simp
  refine Code.wp_mono (Q := OnlyN Q) (fun e a w h => by obtain ⟨rfl, h⟩ := h; exact h) ?_
  refine wp_region_any hm ?_
  have key := wpAny_free (P := P) (ops := l.toArray) (md := .any) (Q := OnlyN Q) (g := l.length - n) (w := { w with drawn := w.drawn + 1 }) hs (fun e a a' w he h => absurd h.1 he) (l.take n) 0 (Array.replicate l.length false) a
    (fun j hj => by rw [htl] at hj; simp [hj]) (by rw [htl]; exact hlex) (by
      have mono : ∀ (q q' : Act → Prop) (ls : List Oper) (a : Act), (∀ a, q a → q' a) → wpFree P l.toArray q ls a → wpFree P l.toArray q' ls a := by
        intro q q' ls
        induction ls with
        | nil => intro a hq h; exact hq _ h
        | cons o ls ih => intro a hq h; obtain ⟨v, h1, h2⟩ := h; exact ⟨v, h1, ih _ hq h2⟩
      refine mono _ _ _ _ (fun a' ha' listed' hB' => ?_) h
      rw [htl, Nat.zero_add] at hB'
      have := wpAny_of_seq (P := P) (ops := l.toArray) (md := .any) (Q' := OnlyN Q) (l.drop n) n listed' a' { w with drawn := w.drawn + 1 } (fun j => by simp [List.getElem?_drop]) (by rw [hdl]; exact hB') ha'
      rw [hdl] at this
      exact this)
  rw [htl] at key
  have e : n + (l.length - n) = l.toArray.size := by simp; omega
  rw [e] at key
  simpa using key
theorem wpFree_nil {Q' : Act → Prop} {a : Act} (h : Q' a) : wpFree P ops Q' [] a := h
theorem wpFree_val {Q' : Act → Prop} {a : Act} {o : Oper} {rest : List Oper} (v : Value) (hg : o.guard = none) (h : ∀ w, (execOp a.eval o).run P w = .ok (.value v) w) (hk : wpFree P ops Q' rest (a.put o.dst v)) : wpFree P ops Q' (o :: rest) a :=
  ⟨v, .inl ⟨by unfold Region.wanted; rw [hg], fun w => by unfold Oper.quietAt; rw [h w]; exact ⟨rfl, rfl⟩⟩, hk⟩
theorem wpFree_call {Q' : Act → Prop} {a : Act} {o : Oper} {rest : List Oper} (v : Value) (hg : o.guard = none) {f : FuncId} {args : Array Value} (h : ∀ w, (execOp a.eval o).run P w = .ok (.enter f args) w) (hc : ∀ w, Calls P f args w fun e w' => e = .returned v ∧ w' = w) (hk : wpFree P ops Q' rest (a.put o.dst v)) : wpFree P ops Q' (o :: rest) a :=
  ⟨v, .inl ⟨by unfold Region.wanted; rw [hg], fun w => by unfold Oper.quietAt; rw [h w]; exact ⟨rfl, (hc w).mono fun e w' h => h⟩⟩, hk⟩
end
end Go.Proofs.YtacbfbhhhofifaaDoor.E
