/- Rows of texts that a call owns; the document's Get. (Stage 19.) -/
import Derived.Test.YtacbfbhhhofifaaDoorHRF
namespace Go.Proofs.YtacbfbhhhofifaaDoor.Hd
open Go.RowKit
open Go.Proofs.YtacbfbhhhofifaaDoor.F (bn bn_length bn_append bn_inj bn_get byte_bd hid bn_extract isEmpty_false isEmpty_true str_eq same_eq)
set_option linter.unusedVariables false

def flat1 (l : List ByteArray) : List Value := l.map Value.string
theorem flat1_len (l : List ByteArray) : (flat1 l).length = l.length * 1 := by unfold flat1; simp
theorem flat1_append (a b : List ByteArray) : flat1 (a ++ b) = flat1 a ++ flat1 b := by simp [flat1]
theorem flat1_get (l : List ByteArray) (j : Nat) (h : j < l.length) : (flat1 l)[j]? = some (.string (l[j]?.getD ⟨#[]⟩)) := by
  unfold flat1
  rw [List.getElem?_map, List.getElem?_eq_getElem h]; rfl
theorem flat1_one (l : List ByteArray) : ∀ u ∈ flat1 l, u.oneCell' = true := by
  intro u hu
  obtain ⟨t, _, rfl⟩ := List.mem_map.1 hu
  rfl
/-- A slice of texts that can be read. -/
def StrAt (w : World) (v : Value) (l : List ByteArray) : Prop := ∃ (a : Option Addr) (cap : Nat), v = .slice a l.length cap ∧ (a = none → cap = 0) ∧ (0 < l.length → ∃ b off, a = some ⟨b, off, none⟩ ∧ ∀ j, j < l.length → w.cell? ⟨b, off + j, none⟩ = some (.string (l[j]?.getD ⟨#[]⟩)))
/-- A slice of texts that a call owns. -/
def StrOwn (w : World) (base : Nat) (v : Value) (l : List ByteArray) : Prop := w.ownsRow base 9 1 v l.length (flat1 l)
theorem StrOwn.nil (w : World) (base : Nat) : StrOwn w base (.slice none 0 0) [] := World.ownsRow_nil _ _ _ _
theorem StrOwn.at {w : World} {base : Nat} {v : Value} {l : List ByteArray} (h : StrOwn w base v l) : StrAt w v l := by
  rcases id h.2 with ⟨rfl, h0⟩ | ⟨g, cap, cur, rfl, _⟩
  · have : l = [] := List.length_eq_zero_iff.1 h0
    subst this
    exact ⟨none, 0, rfl, fun _ => rfl, fun h => (by simp at h)⟩
  · refine ⟨some ⟨g, 0, none⟩, cap, rfl, fun h => (by cases h), fun _ => ⟨g, 0, rfl, fun j hj => ?_⟩⟩
    have hb : j < l.length * 1 := by omega
    have := h.cellAt j hb
    rw [Nat.zero_add, this]
    exact flat1_get l j hj
theorem StrOwn.form {w : World} {base : Nat} {v : Value} {l : List ByteArray} (h : StrOwn w base v l) : ∃ (a : Option Addr) (cap : Nat), v = .slice a l.length cap := by
  obtain ⟨a, cap, e, _⟩ := h.at
  exact ⟨a, cap, e⟩
theorem infoS : (Tryd.prog.info? 9).map (fun i => (i.zero, i.size, i.bytes)) = some (some (.string ⟨#[]⟩), 1, 16) := by kernel_rfl
theorem wpList_append_strs {w : World} {ops : Array Oper} {rest : List Oper} {o : Oper} {a : Act} {Q : Exit → Act → World → Prop} (hgd : o.guard = none) (s x : Operand)
    (ho : o.op = .call { callee := .builtin .append, args := #[s, x], argTypes := #[35, 35] }) (base : Nat) (v : Value) (ys : List ByteArray) (hs : a.eval s = v) (hown : StrOwn w base v ys)
    (u : Value) (zs : List ByteArray) (hx : a.eval x = u) (hu : StrAt w u zs) (hbd : ys.length + zs.length ≤ 1000000000) (hbase : base ≤ w.heap.size)
    (h : ∀ v' w', StrOwn w' base v' (ys ++ zs) → w.grownBy w' v.ownBlock → wpList Tryd.prog ops Q rest (a.put o.dst v') w') : wpList Tryd.prog ops Q (o :: rest) a w := by
  obtain ⟨i0, hi, hz0, hz1, hz2⟩ := info_parts infoS
  obtain ⟨ad, cap, rfl, hcap, hc⟩ := hu
  rcases ad with _ | ad
  · have h0 : zs = [] := by
      rcases zs with _ | ⟨z, zs⟩
      · rfl
      · obtain ⟨b, off, e, _⟩ := hc (by simp); cases e
    subst h0
    rw [hcap rfl] at hx
    exact wpList_append_own_none hgd s x 35 ho base 9 i0 1 Tryd.underlying35 hi v ys.length _ hs hown hx (h v w (by simpa using hown) ⟨rfl, rfl, rfl, Nat.le_refl _, fun _ _ _ => rfl⟩)
  · refine wpList_append_own w hgd s x 35 ho base 9 i0 (.string ⟨#[]⟩) 1 16 Tryd.underlying35 hi hz0 hz1 hz2 rfl (by decide) v ys.length _ hs hown ad zs.length cap (flat1 zs) hx (flat1_len zs) ?_ (flat1_one zs) (by unfold maxLen; omega) (by omega) hbase (fun v' w' h1 h2 _ => h v' w' (by unfold StrOwn; rw [flat1_append, List.length_append]; exact h1) h2)
    intro j y hj
    have hl := (List.getElem?_eq_some_iff.1 hj).1
    rw [flat1_len] at hl
    obtain ⟨b, off, e, hcell⟩ := hc (by omega)
    obtain rfl : ad = ⟨b, off, none⟩ := Option.some.inj e
    rw [addr_plus, hcell j (by omega), ← flat1_get zs j (by omega), hj]
theorem str_new (w : World) (t : ByteArray) : StrAt (w.alloc (.cells #[.string t] 9)) (.slice (some ⟨w.heap.size, 0, none⟩) 1 1) [t] := by
  refine ⟨_, 1, rfl, fun h => (by cases h), fun _ => ⟨w.heap.size, 0, rfl, fun j hj => ?_⟩⟩
  obtain rfl : j = 0 := by simpa using hj
  rw [cell_of_row _ _ _ _ _ _ (heap_alloc_last w (.cells #[.string t] 9))]
  rfl
theorem StrOwn.own {w : World} {base : Nat} {v : Value} {l : List ByteArray} (h : StrOwn w base v l) : ∀ g, v.ownBlock = some g → base ≤ g ∧ g < w.heap.size := by
  intro g hg
  rcases h.2 with ⟨rfl, _⟩ | ⟨g', cap, cur, rfl, h1, h2, h3⟩
  · simp [Value.ownBlock] at hg
  · simp [Value.ownBlock] at hg
    subst hg
    exact ⟨h1, (Array.getElem?_eq_some_iff.1 h2).1⟩
theorem StrOwn.alloc {w : World} {base : Nat} {v : Value} {l : List ByteArray} (h : StrOwn w base v l) (o : Obj) : StrOwn (w.alloc o) base v l := World.ownsRow.alloc h o
theorem StrOwn.keep {w w' : World} {base : Nat} {v : Value} {l : List ByteArray} (h : StrOwn w base v l) (hk : ∀ (g : Nat), base ≤ g → g < w.heap.size → w'.heap[g]? = w.heap[g]?) : StrOwn w' base v l := by
  refine ⟨h.1, ?_⟩
  rcases h.2 with h | ⟨g, cap, cur, e, h1, h2, h3⟩
  · exact .inl h
  · exact .inr ⟨g, cap, cur, e, h1, (hk g h1 (Array.getElem?_eq_some_iff.1 h2).1).trans h2, h3⟩
theorem str_grow {B b : Nat} {w w1 w2 : World} {v : Value} {l : List ByteArray} (hB : Below B w w1) (hb : B ≤ w1.heap.size) (hbb : B ≤ b) (hown : StrOwn w1 b v l) (hg : w1.grownBy w2 v.ownBlock) : Below B w w2 :=
  hB.grown hg hb (fun j ej => Nat.le_trans hbb (hown.own j ej).1)
theorem FldAt.below {w W : World} {v : Value} {l : List Fb} (h : FldAt w v l) (hb : Below w.heap.size w W) : FldAt W v l := by
  obtain ⟨a, cap, e, h0, h1⟩ := h
  refine ⟨a, cap, e, h0, fun hp => ?_⟩
  obtain ⟨b, off, ea, hc⟩ := h1 hp
  refine ⟨b, off, ea, fun j c hj hcc => ?_⟩
  rw [← hc j c hj hcc]
  have hx := hc j c hj hcc
  have hbl : b < w.heap.size := by
    rcases Nat.lt_or_ge b w.heap.size with h | h
    · exact h
    · have hs : (cells2 (l[j]?.getD z2))[c]? = some ((cells2 (l[j]?.getD z2))[c]'(by simp [cells2]; omega)) := List.getElem?_eq_getElem _
      rw [hs] at hx
      simp [World.cell?, Array.getElem?_eq_none h] at hx
  exact World.cell?_of_block (hb.block b hbl)
theorem StrAt.below {w W : World} {v : Value} {l : List ByteArray} (h : StrAt w v l) (hb : Below w.heap.size w W) : StrAt W v l := by
  obtain ⟨a, cap, e, h0, h1⟩ := h
  refine ⟨a, cap, e, h0, fun hp => ?_⟩
  obtain ⟨b, off, ea, hc⟩ := h1 hp
  refine ⟨b, off, ea, fun j hj => ?_⟩
  rw [← hc j hj]
  have hx := hc j hj
  have hbl : b < w.heap.size := by
    rcases Nat.lt_or_ge b w.heap.size with h | h
    · exact h
    · simp [World.cell?, Array.getElem?_eq_none h] at hx
  exact World.cell?_of_block (hb.block b hbl)
theorem FldAt.cell {w : World} {b off n cap : Nat} {fs : List Fb} (h : FldAt w (.slice (some ⟨b, off, none⟩) n cap) fs) {j : Nat} (hj : j < fs.length) : w.cell? ⟨b, off + j * 2, none⟩ = some (.string (fs[j]?.getD z2).x) ∧ w.cell? ⟨b, off + j * 2 + 1, none⟩ = some (.string (fs[j]?.getD z2).y) := by
  obtain ⟨a, cap', e, _, h1⟩ := h
  obtain ⟨b', off', ea, hc⟩ := h1 (by omega)
  injection e with e1
  subst e1
  injection ea with ea
  injection ea with e2 e3
  subst e2; subst e3
  exact ⟨hc j 0 hj (by omega), hc j 1 hj (by omega)⟩
/-- What fields of that name say. -/
def gots (fs : List Fb) (n : ByteArray) : List ByteArray := (fs.filter fun p => decide (bn p.x = bn n)).map (·.y)
theorem gots_got (fs : List Fb) (n : ByteArray) : (gots fs n).map bn = got (fs.map Fb.f) (bn n) := by
  unfold gots got
  rw [List.filter_map, List.map_map, List.map_map]
  rfl
theorem gots_len (fs : List Fb) (n : ByteArray) : (gots fs n).length ≤ fs.length := by unfold gots; rw [List.length_map]; exact List.length_filter_le _ _
theorem gots_step (fs : List Fb) (n : ByteArray) (i : Nat) (h : i < fs.length) : gots (fs.take (i + 1)) n = gots (fs.take i) n ++ (if bn (fs[i]?.getD z2).x = bn n then [(fs[i]?.getD z2).y] else []) := by
  unfold gots
  rw [List.take_succ_eq_append_getElem h, List.filter_append, List.map_append, List.getElem?_eq_getElem h]
  congr 1
  simp only [Option.getD_some, List.filter_cons, List.filter_nil]
  split <;> simp_all
set_option maxRecDepth 100000 in
set_option maxHeartbeats 4000000 in
theorem rget_any (M T : ByteArray) (v : Int) (F : Value) (fs : List Fb) (name : ByteArray) (w : World) (hF : FldAt w F fs) (hl : fs.length ≤ 1000000) : Calls Tryd.prog 15 #[.agg #[.string M, .string T, .int .u8 v, F], .string name] w fun e W' => (∃ u, e = .returned u ∧ StrAt W' u (gots fs name)) ∧ Below w.heap.size w W' := by
  obtain ⟨ao, cap, rfl, hca, hcells⟩ := id hF
  have HC := hid hcells
  have HFA := hid hF
  clear hcells hF
  have HST := hid (gots_step fs name)
  go_enter Tryd.func15, Tryd.ntmps15
  go_wp2_with fail
  go_loopw [5, 6] (fun v5 v6 wr => ∃ i : Nat, i ≤ fs.length ∧ v6 = .int .i64 (i : Int) ∧ StrOwn wr (w.heap.size + 1) v5 (gots (fs.take i) name) ∧ wr.heap[w.heap.size]? = some (.cells #[.string M, .string T, .int .u8 v, .slice ao fs.length cap] 27 (0, 0)) ∧ Below w.heap.size w wr ∧ w.heap.size + 1 ≤ wr.heap.size) (fun _ v6 _ => fs.length - (intOf v6).toNat)
  case atStart => exact ⟨0, Nat.zero_le _, rfl, StrOwn.nil _ _, heap_alloc_last w _, (Below.refl _ w).alloc (Nat.le_refl _) _, by simp⟩
  case round =>
    obtain ⟨i, hi, rfl, ho, hr, hb, hsz⟩ := hrel
    have HR := hid hr
    have HO := hid ho
    have HB := hid hb
    clear ho hb
    have k3 := cell_of_row _ _ 3 _ _ _ hr
    simp only [List.getElem?_toArray, List.getElem?_cons_succ, List.getElem?_cons_zero] at k3
    clear hr
    obtain ⟨ao5, cap5, rfl⟩ := HO.out.form
    by_cases hlt : i < fs.length
    · have hltz : (i : Int) < (fs.length : Int) := by omega
      obtain ⟨b, off, rfl, _⟩ := HC.out (by omega)
      obtain ⟨c0, c1⟩ := (HFA.out.below HB.out).cell hlt
      have HS := hid (HST.out i hlt)
      obtain ⟨⟨X, Y⟩, hx⟩ : ∃ x, fs[i]?.getD z2 = x := ⟨_, rfl⟩
      rw [hx] at c0 c1 HS
      simp only at c0 c1 HS
      clear hx HC HST
      by_cases hn : bn X = bn name
      · have hq : X = name := bn_inj hn
        subst hq
        rw [if_pos rfl] at HS
        have HSA := hid (str_new wr Y)
        have hlen : (gots (fs.take i) X).length + [Y].length ≤ 1000000000 := by
          have := gots_len (fs.take i) X
          rw [List.length_take] at this
          simp; omega
        have hsz2 : w.heap.size + 1 ≤ (wr.alloc (.cells #[.string Y] 9)).heap.size := by simp; omega
        have HR2 := hid (kept HR.out ((Below.refl _ wr).alloc (Nat.le_refl _) (.cells #[.string Y] 9)))
        have HB2 := hid (HB.out.alloc HB.out.size (.cells #[.string Y] 9))
        have HO2 := hid (HO.out.alloc (.cells #[.string Y] 9))
        clear HFA hn
        go_wp2_with (at_builtin; refine wpList_append_strs rfl _ _ rfl (w.heap.size + 1) _ (gots (fs.take i) X) rfl HO2.out _ [Y] rfl HSA.out hlen hsz2 ?_; intro v' w9 r' g'; have HR9 := hid ((g'.block _ (by omega) (fun e => by have := (HO2.out.own _ e.symm).1; omega)).trans HR2.out); have HB9 := hid (str_grow HB2.out (by omega) (by omega) HO2.out g'); have hsz9 := g'.size; have HO9 := hid r'; clear r' g')
        go_wp2
        go_roundw
        case rel => exact ⟨i + 1, by omega, by go_num, by rw [HS.out]; exact HO9.out, HR9.out, HB9.out, by omega⟩
        case measure => simp [intOf]; omega
      · have hq : (X.toList == name.toList) = false := by rw [str_eq]; exact decide_eq_false hn
        rw [if_neg hn, List.append_nil] at HS
        clear HFA hn c1
        go_wp2
        go_roundw
        case rel => exact ⟨i + 1, by omega, by go_num, by rw [HS.out]; exact HO.out, HR.out, HB.out, hsz⟩
        case measure => simp [intOf]; omega
    · have hltz : ¬ (i : Int) < (fs.length : Int) := by omega
      obtain rfl : i = fs.length := by omega
      have HO2 := HO.out
      rw [show fs.take fs.length = fs from List.take_length] at HO2
      have HA := hid HO2.at
      clear HO2 HFA HC HST
      go_wp2
      go_ret
      exact ⟨⟨_, rfl, by first | exact HA.out | (rw [List.take_length]; exact HA.out)⟩, HB.out⟩
end Go.Proofs.YtacbfbhhhofifaaDoor.Hd
