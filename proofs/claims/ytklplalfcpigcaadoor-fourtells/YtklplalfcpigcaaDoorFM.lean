/- strings.SplitN by the shelf, at dots, five parts at most. (Stage 10.) -/
import Derived.Test.YtklplalfcpigcaaDoorFU
import Derived.Test.YtklplalfcpigcaaDoorFH
import Derived.Shelf.Strings.Split
namespace Go.Proofs
open Go.Shelf Go.RowKit
shelf_lay Lays.n147 Nm 147 at Tryd as Tryd.laysSplN
end Go.Proofs
namespace Go.Proofs.YtklplalfcpigcaaDoor.F
open Go.RowKit
set_option linter.unusedVariables false

/-- internal/bytealg.MaxLen holds a number. -/
def Max (W : World) : Prop := ∃ m : Int, W.cell? ⟨0, 0, none⟩ = some (.int .i64 m)
theorem Max.below {w w' : World} (h : Max w) (hb : Below w.heap.size w w') : Max w' := by
  obtain ⟨m, hm⟩ := h
  exact ⟨m, (hb.cell (p := ⟨0, 0, none⟩) (lt_cell hm)).trans hm⟩
def nn (l : List UInt8) : List Int := l.map fun c => (c.toNat : Int)
theorem mem_nn {l : List UInt8} : 46 ∈ nn l ↔ 46 ∈ l := by
  unfold nn
  rw [List.mem_map]
  constructor
  · rintro ⟨c, hc, e⟩
    have : c = 46 := UInt8.toNat_inj.1 (by have h : (46 : UInt8).toNat = 46 := rfl; omega)
    rw [← this]; exact hc
  · intro h; exact ⟨46, h, rfl⟩
theorem spl_two {l : List Int} (h : 46 ∈ l) : 2 ≤ (spl l).length := by
  obtain ⟨a, b, rfl⟩ := List.append_of_mem h
  clear h
  induction a with
  | nil =>
    show 2 ≤ (spl (46 :: b)).length
    rw [spl_dot]
    have := List.length_pos_iff.2 (spl_ne b)
    rw [List.length_cons]; omega
  | cons d a ih =>
    show 2 ≤ (spl (d :: (a ++ 46 :: b))).length
    rw [spl]
    split
    · rw [List.length_cons]; omega
    · rw [List.length_cons, List.length_tail]; omega
theorem splK : ∀ (k : Nat) (l : List UInt8), ((spl (nn l)).length ≤ k + 1 ∧ (Lib.splitK [46] 0 k l).map nn = spl (nn l)) ∨ (k + 1 < (spl (nn l)).length ∧ (Lib.splitK [46] 0 k l).length = k + 1)
  | 0, l => by
    by_cases h : 46 ∈ l
    · right
      have := spl_two (mem_nn.2 h)
      exact ⟨by omega, rfl⟩
    · left
      have hs := spl_one (nn l) (fun hh => h (mem_nn.1 hh))
      rw [hs]
      exact ⟨by simp, rfl⟩
  | k + 1, l => by
    have hge := Lib.indexByte_ge l 46
    have hi1 := Lib.index_one l 46
    by_cases hm : Lib.indexByte l 46 = -1
    · left
      have hn := Lib.indexByte_none hm
      have h : ¬ 46 ∈ l := fun hh => by
        obtain ⟨j, hj, e⟩ := List.mem_iff_getElem.1 hh
        exact hn j (by rw [List.getElem?_eq_getElem hj, e])
      have hs := spl_one (nn l) (fun hh => h (mem_nn.1 hh))
      rw [hs]
      refine ⟨by simp, ?_⟩
      rw [Lib.splitK, hi1, hm]; rfl
    · obtain ⟨i, hi⟩ : ∃ i : Nat, Lib.indexByte l 46 = i := ⟨(Lib.indexByte l 46).toNat, by omega⟩
      obtain ⟨h1, h2⟩ := Lib.indexByte_some hi
      have hil : i < l.length := (List.getElem?_eq_some_iff.1 h1).1
      have e : l = l.take i ++ 46 :: l.drop (i + 1) := by
        have h5 : l.drop i = 46 :: l.drop (i + 1) := by
          rw [List.drop_eq_getElem_cons hil]
          rw [List.getElem?_eq_getElem hil] at h1
          rw [Option.some.inj h1]
        rw [← h5, List.take_append_drop]
      have hn : ¬ 46 ∈ l.take i := fun hh => by
        obtain ⟨j, hj, e⟩ := List.mem_iff_getElem.1 hh
        rw [List.length_take] at hj
        rw [List.getElem_take] at e
        exact h2 j (by omega) (by rw [List.getElem?_eq_getElem (by omega), e])
      have es : spl (nn l) = nn (l.take i) :: spl (nn (l.drop (i + 1))) := by
        conv => lhs; rw [e]
        rw [show nn (l.take i ++ 46 :: l.drop (i + 1)) = nn (l.take i) ++ 46 :: nn (l.drop (i + 1)) by unfold nn; rw [List.map_append]; rfl]
        exact spl_plain _ _ (fun hh => hn (mem_nn.1 hh))
      have ek : Lib.splitK [46] 0 (k + 1) l = l.take i :: Lib.splitK [46] 0 k (l.drop (i + 1)) := by
        rw [Lib.splitK, hi1, hi, if_neg (by simp)]
        simp
      rw [es, ek]
      rcases splK k (l.drop (i + 1)) with ⟨g1, g2⟩ | ⟨g1, g2⟩
      · left
        exact ⟨by rw [List.length_cons]; omega, by rw [List.map_cons, g2]⟩
      · right
        exact ⟨by rw [List.length_cons]; omega, by rw [List.length_cons, g2]⟩
/-- What a cut at dots answers: the parts, if there are at most four. -/
theorem split_parts (U : ByteArray) (qs : List ByteArray) (hq : qs = Lib.splitB ⟨#[46]⟩ 0 (min 5 (U.size + 1) - 1) U) : ((spl (bn U)).length ≤ 4 ∧ qs.map bn = spl (bn U)) ∨ (4 < (spl (bn U)).length ∧ 4 < qs.length) := by
  have hd := Lib.splitB_data ⟨#[46]⟩ 0 (min 5 (U.size + 1) - 1) U
  rw [← hq] at hd
  have hb : qs.map bn = (Lib.splitK [46] 0 (min 5 (U.size + 1) - 1) U.data.toList).map nn := by
    have h2 : qs.map bn = (qs.map (·.data.toList)).map nn := by rw [List.map_map]; rfl
    rw [h2, hd]
  have hl : qs.length = (Lib.splitK [46] 0 (min 5 (U.size + 1) - 1) U.data.toList).length := by
    have := congrArg List.length hb
    rwa [List.length_map, List.length_map] at this
  have hc := spl_cnt (bn U)
  rw [bn_length] at hc
  rcases splK (min 5 (U.size + 1) - 1) U.data.toList with ⟨g1, g2⟩ | ⟨g1, g2⟩
  · have g1' : (spl (bn U)).length ≤ min 5 (U.size + 1) - 1 + 1 := g1
    have g2' : qs.map bn = spl (bn U) := hb.trans g2
    by_cases h4 : (spl (bn U)).length ≤ 4
    · exact .inl ⟨h4, g2'⟩
    · right
      refine ⟨by omega, ?_⟩
      have := congrArg List.length g2'
      rw [List.length_map] at this
      omega
  · have g1' : min 5 (U.size + 1) - 1 + 1 < (spl (bn U)).length := g1
    right
    rw [hl, g2]
    omega
theorem cellsOf_at {done : List ByteArray} {N j : Nat} (h : j < done.length) : (Lib.cellsOf done N)[j]? = some (.string (done[j]?.getD ⟨#[]⟩)) := by
  unfold Lib.cellsOf
  rw [List.getElem?_toArray, List.getElem?_append_left (by simpa using h), List.getElem?_map, List.getElem?_eq_getElem h]; rfl
theorem cell_new_at (w : World) (t : TypeId) (cs : Array Value) (j : Nat) : (w.alloc (.cells cs t)).cell? ⟨w.heap.size, j, none⟩ = cs[j]? := by
  have hb : (w.alloc (.cells cs t)).heap[w.heap.size]? = some (.cells cs t) := heap_alloc_new w _
  generalize w.alloc (.cells cs t) = W at hb ⊢
  simp [World.cell?, hb]
/-- What SplitN(U, ".", 5) answers. -/
theorem splitn_any (U : ByteArray) (w : World) (hU : U.size ≤ 100000) (hM : Max w) :
    Calls Tryd.prog 20 #[.string U, .string ⟨#[46]⟩, .int .i64 5] w fun e W' => (∃ (b c : Nat) (qs : List ByteArray), e = .returned (.slice (some ⟨b, 0, none⟩) qs.length c) ∧ (∀ j, j < qs.length → W'.cell? ⟨b, j, none⟩ = some (.string (qs[j]?.getD ⟨#[]⟩))) ∧ (((spl (bn U)).length ≤ 4 ∧ qs.map bn = spl (bn U)) ∨ (4 < (spl (bn U)).length ∧ 4 < qs.length))) ∧ Below w.heap.size w W' := by
  obtain ⟨m, hm⟩ := hM
  have hf : Tryd.laysSplN_ren.f 147 = 20 := by kernel_rfl
  have hg : Tryd.laysSplN_ren.g 1 = 0 := by kernel_rfl
  have h := Any.strings_SplitN Tryd.laysSplN (by kernel_rfl) U ⟨#[46]⟩ 5 m w (by omega) (by rw [hg]; exact hm) (by decide) (by decide) (by decide)
  rw [hf] at h
  refine h.mono ?_
  rintro e W' ⟨rfl, rfl⟩
  refine ⟨⟨_, _, _, rfl, fun j hj => ?_, split_parts U _ rfl⟩, (Below.refl _ w).alloc (Nat.le_refl _) _⟩
  rw [cell_new_at]
  exact cellsOf_at hj
end Go.Proofs.YtklplalfcpigcaaDoor.F
