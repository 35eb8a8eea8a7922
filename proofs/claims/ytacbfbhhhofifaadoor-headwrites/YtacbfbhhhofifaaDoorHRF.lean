/- Rows of fields in memory; append on them; heads. (Stage 19.) -/
import Derived.Test.YtacbfbhhhofifaaDoorHRE
import Derived.Test.YtacbfbhhhofifaaDoorHRD
import Derived.Laws.StructEq
import Derived.Laws.Rows
import Derived.Laws.AppendOwnNone
import Derived.Laws.OwnMore
import Derived.Laws.IdiomCopy
import Derived.ArgAppend
namespace Go.Proofs.YtacbfbhhhofifaaDoor.Hd
open Go.RowKit
open Go.Proofs.YtacbfbhhhofifaaDoor.F (bn bn_length bn_append bn_inj bn_get byte_bd hid bn_extract isEmpty_false isEmpty_true str_eq same_eq)
set_option linter.unusedVariables false

/-- A field, as it lies in memory. -/
structure Fb where
  x : ByteArray
  y : ByteArray
def z2 : Fb := ⟨⟨#[]⟩, ⟨#[]⟩⟩
def cells2 (t : Fb) : List Value := [.string t.x, .string t.y]
def flat2 (l : List Fb) : List Value := l.flatMap cells2
/-- What it says. -/
def Fb.f (t : Fb) : List Int × List Int := (bn t.x, bn t.y)
theorem flat2_len (l : List Fb) : (flat2 l).length = l.length * 2 := by
  induction l with
  | nil => rfl
  | cons s l ih => simp only [flat2, List.flatMap_cons, List.length_append, List.length_cons] at ih ⊢; rw [ih]; simp [cells2]; omega
theorem flat2_append (a b : List Fb) : flat2 (a ++ b) = flat2 a ++ flat2 b := by simp [flat2]
theorem flat2_get : ∀ (l : List Fb) (j c : Nat), j < l.length → c < 2 → (flat2 l)[j * 2 + c]? = (cells2 (l[j]?.getD z2))[c]?
  | [], j, c, h, _ => by simp at h
  | t :: l, 0, c, _, hc => by
    show (cells2 t ++ flat2 l)[0 * 2 + c]? = _
    rw [Nat.zero_mul, Nat.zero_add, List.getElem?_append_left (by simpa [cells2] using hc)]
    rfl
  | t :: l, j + 1, c, h, hc => by
    show (cells2 t ++ flat2 l)[(j + 1) * 2 + c]? = _
    rw [List.getElem?_append_right (by simp [cells2]; omega), show (j + 1) * 2 + c - (cells2 t).length = j * 2 + c by simp [cells2]; omega, flat2_get l j c (by simpa using h) hc]
    rfl
theorem flat2_one (l : List Fb) : ∀ u ∈ flat2 l, u.oneCell' = true := by
  intro u hu
  obtain ⟨t, _, h⟩ := List.mem_flatMap.1 hu
  unfold cells2 at h
  simp at h
  rcases h with rfl | rfl <;> rfl
/-- A slice of fields that can be read. -/
def FldAt (w : World) (v : Value) (l : List Fb) : Prop := ∃ (a : Option Addr) (cap : Nat), v = .slice a l.length cap ∧ (a = none → cap = 0) ∧ (0 < l.length → ∃ b off, a = some ⟨b, off, none⟩ ∧ ∀ j c, j < l.length → c < 2 → w.cell? ⟨b, off + (j * 2 + c), none⟩ = (cells2 (l[j]?.getD z2))[c]?)
/-- A slice of fields that a call owns. -/
def FldOwn (w : World) (base : Nat) (v : Value) (l : List Fb) : Prop := w.ownsRow base 40 2 v l.length (flat2 l)
theorem FldOwn.nil (w : World) (base : Nat) : FldOwn w base (.slice none 0 0) [] := World.ownsRow_nil _ _ _ _
theorem FldOwn.at {w : World} {base : Nat} {v : Value} {l : List Fb} (h : FldOwn w base v l) : FldAt w v l := by
  rcases id h.2 with ⟨rfl, h0⟩ | ⟨g, cap, cur, rfl, _⟩
  · have : l = [] := List.length_eq_zero_iff.1 h0
    subst this
    exact ⟨none, 0, rfl, fun _ => rfl, fun h => (by simp at h)⟩
  · refine ⟨some ⟨g, 0, none⟩, cap, rfl, fun h => (by cases h), fun _ => ⟨g, 0, rfl, fun j c hj hc => ?_⟩⟩
    have hb : j * 2 + c < l.length * 2 := by omega
    have := h.cellAt (j * 2 + c) hb
    rw [Nat.zero_add, this]
    exact flat2_get l j c hj hc
theorem FldOwn.form {w : World} {base : Nat} {v : Value} {l : List Fb} (h : FldOwn w base v l) : ∃ (a : Option Addr) (cap : Nat), v = .slice a l.length cap := by
  obtain ⟨a, cap, e, _⟩ := h.at
  exact ⟨a, cap, e⟩
theorem infoF : (Tryd.prog.info? 40).map (fun i => (i.zero, i.size, i.bytes)) = some (some (.agg #[.string ⟨#[]⟩, .string ⟨#[]⟩]), 2, 32) := by kernel_rfl
theorem wpList_append_flds {w : World} {ops : Array Oper} {rest : List Oper} {o : Oper} {a : Act} {Q : Exit → Act → World → Prop} (hgd : o.guard = none) (s x : Operand)
    (ho : o.op = .call { callee := .builtin .append, args := #[s, x], argTypes := #[25, 25] }) (base : Nat) (v : Value) (ys : List Fb) (hs : a.eval s = v) (hown : FldOwn w base v ys)
    (u : Value) (zs : List Fb) (hx : a.eval x = u) (hu : FldAt w u zs) (hbd : ys.length + zs.length ≤ 1000000000) (hbase : base ≤ w.heap.size)
    (h : ∀ v' w', FldOwn w' base v' (ys ++ zs) → w.grownBy w' v.ownBlock → wpList Tryd.prog ops Q rest (a.put o.dst v') w') : wpList Tryd.prog ops Q (o :: rest) a w := by
  obtain ⟨i0, hi, hz0, hz1, hz2⟩ := info_parts infoF
  obtain ⟨ad, cap, rfl, hcap, hc⟩ := hu
  rcases ad with _ | ad
  · have h0 : zs = [] := by
      rcases zs with _ | ⟨z, zs⟩
      · rfl
      · obtain ⟨b, off, e, _⟩ := hc (by simp); cases e
    subst h0
    rw [hcap rfl] at hx
    exact wpList_append_own_none hgd s x 25 ho base 40 i0 2 Tryd.underlying25 hi v ys.length _ hs hown hx (h v w (by simpa using hown) ⟨rfl, rfl, rfl, Nat.le_refl _, fun _ _ _ => rfl⟩)
  · refine wpList_append_own w hgd s x 25 ho base 40 i0 (.agg #[.string ⟨#[]⟩, .string ⟨#[]⟩]) 2 32 Tryd.underlying25 hi hz0 hz1 hz2 rfl (by decide) v ys.length _ hs hown ad zs.length cap (flat2 zs) hx (flat2_len zs) ?_ (flat2_one zs) (by unfold maxLen; omega) (by omega) hbase (fun v' w' h1 h2 _ => h v' w' (by unfold FldOwn; rw [flat2_append, List.length_append]; exact h1) h2)
    intro j y hj
    have hl := (List.getElem?_eq_some_iff.1 hj).1
    rw [flat2_len] at hl
    obtain ⟨b, off, e, hcell⟩ := hc (by omega)
    obtain rfl : ad = ⟨b, off, none⟩ := Option.some.inj e
    have g := hcell (j / 2) (j % 2) (by omega) (by omega)
    rw [addr_plus]
    have e1 : j / 2 * 2 + j % 2 = j := by omega
    rw [e1] at g
    have g2 := flat2_get zs (j / 2) (j % 2) (by omega) (by omega)
    rw [e1, hj] at g2
    rw [g, ← g2]
theorem fld_new (w : World) (t : Fb) : FldAt (w.alloc (.cells #[.string t.x, .string t.y] 40)) (.slice (some ⟨w.heap.size, 0, none⟩) 1 1) [t] := by
  refine ⟨_, 1, rfl, fun h => (by cases h), fun _ => ⟨w.heap.size, 0, rfl, fun j c hj hc => ?_⟩⟩
  obtain rfl : j = 0 := by simpa using hj
  rw [cell_of_row _ _ _ _ _ _ (heap_alloc_last w (.cells #[.string t.x, .string t.y] 40))]
  obtain rfl | rfl : c = 0 ∨ c = 1 := by omega
  all_goals rfl
theorem fld_new2 (w : World) (o : Obj) (t : Fb) : FldAt ((w.alloc o).alloc (.cells #[.string t.x, .string t.y] 40)) (.slice (some ⟨w.heap.size + 1, 0, none⟩) 1 1) [t] := by
  have h := fld_new (w.alloc o) t
  rw [World.size_alloc] at h
  exact h
theorem FldOwn.alloc {w : World} {base : Nat} {v : Value} {l : List Fb} (h : FldOwn w base v l) (o : Obj) : FldOwn (w.alloc o) base v l := World.ownsRow.alloc h o
theorem FldOwn.own {w : World} {base : Nat} {v : Value} {l : List Fb} (h : FldOwn w base v l) : ∀ g, v.ownBlock = some g → base ≤ g ∧ ∃ cur, w.heap[g]? = some (.cells cur 40 (0, 0)) := by
  intro g hg
  rcases h.2 with ⟨rfl, _⟩ | ⟨g', cap, cur, rfl, h1, h2, h3⟩
  · simp [Value.ownBlock] at hg
  · simp [Value.ownBlock] at hg
    subst hg
    exact ⟨h1, cur, h2⟩
theorem FldOwn.keep {w w' : World} {base : Nat} {v : Value} {l : List Fb} (h : FldOwn w base v l) (hk : ∀ (g : Nat), base ≤ g → g < w.heap.size → w'.heap[g]? = w.heap[g]?) : FldOwn w' base v l := by
  refine ⟨h.1, ?_⟩
  rcases h.2 with h | ⟨g, cap, cur, e, h1, h2, h3⟩
  · exact .inl h
  · exact .inr ⟨g, cap, cur, e, h1, (hk g h1 (Array.getElem?_eq_some_iff.1 h2).1).trans h2, h3⟩
theorem FldOwn.below {w W : World} {base : Nat} {v : Value} {l : List Fb} (h : FldOwn w base v l) (hb : Below w.heap.size w W) : FldOwn W base v l :=
  h.keep fun g _ hg => hb.block g hg
theorem below_grow {B b : Nat} {w w1 w2 : World} {v : Value} {l : List Fb} (hB : Below B w w1) (hb : B ≤ w1.heap.size) (hbb : B ≤ b) (hown : FldOwn w1 b v l) (hg : w1.grownBy w2 v.ownBlock) : Below B w w2 :=
  hB.grown hg hb (fun j ej => Nat.le_trans hbb (hown.own j ej).1)
theorem kept {W W' : World} {g : Nat} {o : Obj} (h : W.heap[g]? = some o) (hb : Below W.heap.size W W') : W'.heap[g]? = some o := (hb.block g (Array.getElem?_eq_some_iff.1 h).1).trans h
theorem run_storeVar_in (w : World) (g k : Nat) (t ty : TypeId) (cs : Array Value) (v : Value) (hg : w.heap[g]? = some (.cells cs t (0, 0))) (hk : k < cs.size) (hi : (Tryd.prog.info? ty).map (·.size) = some 1)
    (h1 : v.oneCell' = true) : (storeVar ty ⟨g, k, none⟩ v).run Tryd.prog w = .ok () (w.setRow g (cs.setIfInBounds k v)) := by
  have := run_storeCells_cells (P := Tryd.prog) g k [v] 0 w (fun j hj => by
      obtain rfl : j = 0 := by simpa using hj
      rw [show k + 0 + 0 = k from rfl, cell_of_row _ _ _ _ _ _ hg, Array.getElem?_eq_getElem hk]; rfl) (fun j hj => by simp [World.frozen?, hg]) (fun x hx => by simp at hx; subst hx; exact h1)
  have hc : v.cells = #[v] := by cases v <;> first | rfl | cases h1
  cases hq : Tryd.prog.info? ty with
  | none => simp [hq] at hi
  | some i =>
    have hs : i.size = 1 := by simpa [hq] using hi
    simp only [Nat.add_zero, World.setCells, setCell_eq_setRow w g k cs t (0, 0) v hg] at this
    simp [storeVar, sizeOf, typeInfo, hq, hc, hs, this]
theorem wpList_store_in {ops : Array Oper} {rest : List Oper} {o : Oper} {a : Act} {w : World} {Q : Exit → Act → World → Prop} (hgd : o.guard = none) (ty : TypeId) (x y : Operand) (ho : o.op = .store ty x y)
    (g k : Nat) (v : Value) (hx : a.eval x = .pointer (some ⟨g, k, none⟩)) (hy : a.eval y = v) (h1 : v.oneCell' = true) (t : TypeId) (cs : Array Value) (hg : w.heap[g]? = some (.cells cs t (0, 0))) (hk : k < cs.size)
    (hi : (Tryd.prog.info? ty).map (·.size) = some 1)
    (h : wpList Tryd.prog ops Q rest (a.put o.dst undef) (w.setRow g (cs.setIfInBounds k v))) :
    wpList Tryd.prog ops Q (o :: rest) a w :=
  wpList_plain hgd fun _ hK => by
    unfold Oper.wp execOp
    simp only [ho, hx, hy, Instr.storeAt, Instr.sureAddr, Sem.run_bind, Sem.run_pure, Result.andThen_ok, run_storeVar_in w g k t ty cs v hg hk hi h1]
    exact hK _ _ h
/-- A head that can be read. -/
def HdIs (w : World) (hv : Value) (h : H) : Prop := ∃ (M T : ByteArray) (v : Int) (F : Value) (fs : List Fb), hv = .agg #[.string M, .string T, .int .u8 v, F] ∧ FldAt w F fs ∧ fs.length ≤ 64 ∧ 0 ≤ v ∧ v ≤ 255 ∧ h = ⟨bn M, bn T, v, fs.map Fb.f⟩
theorem HdIs.zero (w : World) : HdIs w (.agg #[.string ⟨#[]⟩, .string ⟨#[]⟩, .int .u8 0, .slice none 0 0]) h0 := ⟨⟨#[]⟩, ⟨#[]⟩, 0, .slice none 0 0, [], rfl, ⟨none, 0, rfl, fun _ => rfl, fun h => absurd h (Nat.lt_irrefl 0)⟩, Nat.zero_le _, by decide, by decide, rfl⟩
theorem results_run {fn : Func} {p u a b : Tmp} {ty : TypeId} (h : fn.results = #[.tmp a, .tmp b, .cell p ty, .tmp u]) (tmps : Array Value) (w : World) (g : Nat) (t : TypeId) (cs : Array Value) (fr : Nat × Nat) (fs : Array Field)
    (hp : tmps.getD p undef = .pointer (some ⟨g, 0, none⟩)) (hg : w.heap[g]? = some (.cells cs t fr))
    (hu : Tryd.prog.underlying ty = some (.struct fs)) (hi : (Tryd.prog.info? ty).map (·.size) = some cs.size) :
    (results fn tmps).run Tryd.prog w = .ok (.tuple #[tmps.getD a undef, tmps.getD b undef, .agg cs, tmps.getD u undef]) w := by
  have hp' : tmps[p]?.getD undef = .pointer (some ⟨g, 0, none⟩) := by simpa using hp
  simp only [results, h]
  simp [Result.andThen, hp', asAddr, run_loadVar_row w g t ty cs fr (.struct fs) hg hu rfl hi]
end Go.Proofs.YtacbfbhhhofifaaDoor.Hd
