/- The document's Parts. (Stage 10.) -/
import Derived.Test.YtklplalfcpigcaaDoorFN
import Derived.Test.YtklplalfcpigcaaDoorFQ
import Derived.Laws.AppendOwnNone
namespace Go.Proofs.YtklplalfcpigcaaDoor.F
open Go.RowKit
set_option linter.unusedVariables false

theorem bn_sub (s : ByteArray) (i j : Nat) (hij : i ≤ j) (hj : j ≤ s.size) : bn (s.extract i j) = ((bn s).drop i).take (j - i) := by
  unfold bn
  rw [ByteArray.data_extract, Array.toList_extract, List.extract_eq_take_drop, List.map_take, List.map_drop]
/-- Where the loop stands: the parts so far, and where the next one begins. -/
def PI (l : List Int) (i fr : Nat) (qs : List (List Int)) : Prop :=
  (i ≤ l.length ∧ fr ≤ i ∧ spl l = qs ++ spl (l.drop fr) ∧ ∀ j, fr ≤ j → j < i → l[j]?.getD 0 ≠ 46) ∨ (i = l.length + 1 ∧ spl l = qs)
theorem PI.start (l : List Int) : PI l 0 0 [] := .inl ⟨Nat.zero_le _, Nat.le_refl _, by simp, fun j _ h => by omega⟩
theorem PI.skip {l : List Int} {i fr : Nat} {qs : List (List Int)} (hi : i < l.length) (hc : l[i]?.getD 0 ≠ 46) (h : PI l i fr qs) : PI l (i + 1) fr qs := by
  rcases h with ⟨_, h2, h3, h4⟩ | ⟨h, _⟩
  · refine .inl ⟨by omega, by omega, h3, fun j hj hji => ?_⟩
    by_cases e : j = i
    · rw [e]; exact hc
    · exact h4 j hj (by omega)
  · omega
theorem part_dot {l : List Int} {i fr : Nat} (hi : i ≤ l.length) (h4 : ∀ j, fr ≤ j → j < i → l[j]?.getD 0 ≠ 46) : ¬ 46 ∈ (l.drop fr).take (i - fr) := by
  intro hm
  obtain ⟨k, hk, e⟩ := List.mem_iff_getElem.1 hm
  rw [List.length_take, List.length_drop] at hk
  have h5 : ((l.drop fr).take (i - fr))[k]? = some 46 := by rw [List.getElem?_eq_getElem (by rw [List.length_take, List.length_drop]; exact hk), e]
  rw [List.getElem?_take_of_lt (by omega), List.getElem?_drop] at h5
  exact h4 (fr + k) (by omega) (by omega) (by rw [h5]; rfl)
theorem PI.dot {l : List Int} {i fr : Nat} {qs : List (List Int)} (hi : i < l.length) (hc : l[i]?.getD 0 = 46) (h : PI l i fr qs) : PI l (i + 1) (i + 1) (qs ++ [(l.drop fr).take (i - fr)]) := by
  rcases h with ⟨_, h2, h3, h4⟩ | ⟨h, _⟩
  · refine .inl ⟨by omega, Nat.le_refl _, ?_, fun j hj hji => by omega⟩
    have hd : l.drop fr = (l.drop fr).take (i - fr) ++ 46 :: l.drop (i + 1) := by
      have e1 : (l.drop fr).drop (i - fr) = l.drop i := by rw [List.drop_drop, show fr + (i - fr) = i by omega]
      have e2 : l.drop i = 46 :: l.drop (i + 1) := by rw [List.drop_eq_getElem_cons hi]; rw [List.getElem?_eq_getElem hi] at hc; rw [show l[i] = 46 from hc]
      rw [← e2, ← e1, List.take_append_drop]
    have hs : spl (l.drop fr) = (l.drop fr).take (i - fr) :: spl (l.drop (i + 1)) := by
      conv => lhs; rw [hd]
      exact spl_plain _ _ (part_dot (by omega) h4)
    rw [h3, hs, List.append_assoc]; rfl
  · omega
theorem PI.last {l : List Int} {fr : Nat} {qs : List (List Int)} (h : PI l l.length fr qs) (f2 : Nat) : PI l (l.length + 1) f2 (qs ++ [(l.drop fr).take (l.length - fr)]) := by
  rcases h with ⟨_, h2, h3, h4⟩ | ⟨h, _⟩
  · refine .inr ⟨rfl, ?_⟩
    have e : (l.drop fr).take (l.length - fr) = l.drop fr := List.take_of_length_le (by rw [List.length_drop]; exact Nat.le_refl _)
    have hn := part_dot (Nat.le_refl _) h4
    rw [e] at hn ⊢
    rw [h3, spl_one _ hn]
  · omega
theorem PI.from {l : List Int} {i fr : Nat} {qs : List (List Int)} (hi : i ≤ l.length) (h : PI l i fr qs) : fr ≤ i := by
  rcases h with ⟨_, h, _⟩ | ⟨h, _⟩
  · exact h
  · omega
theorem PI.done {l : List Int} {i fr : Nat} {qs : List (List Int)} (hi : l.length < i) (h : PI l i fr qs) : spl l = qs := by
  rcases h with ⟨h, _⟩ | ⟨_, h⟩
  · omega
  · exact h
theorem Tryd.info9 : (Tryd.prog.info? 9).map (fun i => (i.zero, i.size, i.bytes)) = some (some (.string ⟨#[]⟩), 1, 16) := by kernel_rfl
theorem own_shS {base n : Nat} {v : Value} {X : List Value} {W : World} (h : W.ownsRow base 9 1 v n X) : ∃ a cap, v = .slice a n cap := by
  rcases h.2 with ⟨rfl, h0⟩ | ⟨g, cap, cur, rfl, _⟩
  · exact ⟨none, 0, by rw [h0]⟩
  · exact ⟨_, cap, rfl⟩
theorem news_one (w : World) (t : TypeId) (l : List Value) : ∀ (j : Nat) (u : Value), l[j]? = some u → (w.alloc (.cells l.toArray t)).cell? ((⟨w.heap.size, 0, none⟩ : Addr).add j) = some u := by
  intro j u h
  have hb : (w.alloc (.cells l.toArray t)).heap[w.heap.size]? = some (.cells l.toArray t) := heap_alloc_new w _
  generalize w.alloc (.cells l.toArray t) = W at hb ⊢
  have e : (⟨w.heap.size, 0, none⟩ : Addr).add j = ⟨w.heap.size, j, none⟩ := by unfold Addr.add; split <;> simp_all
  rw [e]
  simp [World.cell?, hb, h]
theorem below_grow {B : Nat} {w w1 w2 : World} {e : TypeId} {size : Nat} {v : Value} {n : Nat} {xs : List Value} (hB : Below B w w1) (hb : B ≤ w1.heap.size) (hown : w1.ownsRow B e size v n xs) (hg : w1.grownBy w2 v.ownBlock) : Below B w w2 :=
  hB.grown hg hb (fun j ej => by
    rcases hown.2 with ⟨rfl, _⟩ | ⟨g, cap, cur, rfl, hbg, _, _⟩
    · simp [Value.ownBlock] at ej
    · obtain rfl : g = j := by simpa [Value.ownBlock] using ej
      exact hbg)
theorem own_cellsS {W : World} {base n : Nat} {v : Value} {qs : List ByteArray} (hn : n = qs.length) (h : W.ownsRow base 9 1 v n (qs.map Value.string)) : ∃ a c, v = .slice a n c ∧ n ≤ c ∧ (0 < n → ∃ b, a = some ⟨b, 0, none⟩ ∧ ∀ j, j < n → W.cell? ⟨b, j, none⟩ = some (.string (qs[j]?.getD ⟨#[]⟩))) := by
  rcases h.2 with ⟨rfl, h0⟩ | ⟨g, cap, cur, rfl, hg, h3, h4⟩
  · exact ⟨none, 0, by rw [h0], by omega, fun h => by omega⟩
  · refine ⟨_, cap, rfl, h4.1, fun _ => ⟨g, rfl, fun j hj => ?_⟩⟩
    rw [h.cellAt j (by omega), List.getElem?_map, List.getElem?_eq_getElem (by omega)]; rfl
theorem last_at {qs : List ByteArray} {z : Nat} (h : qs.length = z + 1) : (qs.map bn).getLast? = some (bn (qs[z]?.getD ⟨#[]⟩)) := by
  rw [List.getLast?_eq_getElem?, List.length_map, h, Nat.add_sub_cancel, List.getElem?_map, List.getElem?_eq_getElem (by omega)]; rfl
/-- What Parts answers: a row of texts. -/
def PartR (l : List Int) (w : World) (e : Ending) (W' : World) : Prop :=
  (∃ (b c : Nat) (qs : List ByteArray), e = .returned (.slice (some ⟨b, 0, none⟩) qs.length c) ∧ qs ≠ [] ∧ qs.map bn = prt l ∧ ∀ j, j < qs.length → W'.cell? ⟨b, j, none⟩ = some (.string (qs[j]?.getD ⟨#[]⟩))) ∧ Below w.heap.size w W'
set_option maxRecDepth 100000 in
set_option maxHeartbeats 8000000 in
theorem rparts_any (s : ByteArray) (w : World) (hs : s.size ≤ 100000) :
    Calls Tryd.prog 22 #[.string s] w fun e W' => PartR (bn s) w e W' := by
  obtain ⟨i0, hi0, hz0, hz1, hz2⟩ := info_parts Tryd.info9
  have HLN := hid (bn_length s)
  have HGT := hid (bn_get s)
  have HSK : Hid (∀ i fr qs, i < s.size → (bn s)[i]?.getD 0 ≠ 46 → PI (bn s) i fr qs → PI (bn s) (i + 1) fr qs) := fun i fr qs hi => PI.skip (by rw [bn_length]; exact hi)
  have HDT : Hid (∀ i fr qs, i < s.size → (bn s)[i]?.getD 0 = 46 → PI (bn s) i fr qs → PI (bn s) (i + 1) (i + 1) (qs ++ [((bn s).drop fr).take (i - fr)])) := fun i fr qs hi => PI.dot (by rw [bn_length]; exact hi)
  have HLA : Hid (∀ fr qs f2, PI (bn s) s.size fr qs → PI (bn s) (s.size + 1) f2 (qs ++ [((bn s).drop fr).take (s.size - fr)])) := fun fr qs f2 h => by
    rw [← bn_length s] at h ⊢
    exact PI.last h f2
  have HSU := hid (bn_sub s)
  go_enter Tryd.func22, Tryd.ntmps22
  go_wp2_with fail
  go_loopw [3, 4, 5] (fun v3 v4 v5 wr => ∃ (i fr m c : Nat) (a : Option Addr) (qs : List ByteArray), i ≤ s.size + 1 ∧ m ≤ i ∧ (i ≤ s.size → fr ≤ i) ∧ fr ≤ s.size + 1 ∧ v3 = .slice a m c ∧ v4 = .int .i64 fr ∧ v5 = .int .i64 i ∧ Hid (m = qs.length) ∧ Hid (PI (bn s) i fr (qs.map bn)) ∧ Hid (wr.ownsRow w.heap.size 9 1 (.slice a m c) m (qs.map Value.string)) ∧ Hid (Below w.heap.size w wr)) (fun _ _ v5 _ => s.size + 1 - (intOf v5).toNat)
  case atStart => exact ⟨0, 0, 0, 0, none, [], Nat.zero_le _, Nat.le_refl _, fun _ => Nat.le_refl _, Nat.zero_le _, rfl, rfl, rfl, rfl, PI.start _, World.ownsRow_nil _ _ _ _, Below.refl _ _⟩
  case round =>
    obtain ⟨i, fr, m, c, a, qs, hi, hmi, hfr, hfs, rfl, rfl, rfl, HM, HP, HR, HB⟩ := hrel
    have zj := HB.out.size
    have hmb : m ≤ 200000 := by omega
    by_cases hlt : i < s.size
    · have hfi := hfr (by omega)
      have hg := (HGT.out i hlt).symm
      have HS1 := hid (fun h => HSK.out i fr _ hlt h HP.out)
      have HD1 := hid (fun h => HDT.out i fr _ hlt h HP.out)
      obtain ⟨y, hy⟩ : ∃ y, (bn s)[i]?.getD 0 = y := ⟨_, rfl⟩
      rw [hy] at hg HS1 HD1
      have hne : ((i : Int) == (s.size : Int)) = false := by simp; omega
      have hlez : (i : Int) ≤ (s.size : Int) := by omega
      clear hy hfr HSK HDT HLA
      by_cases h46 : y = 46
      · have hyb : (y == 46) = true := by simpa using h46
        obtain ⟨D, hD⟩ : ∃ D, s.extract fr i = D := ⟨_, rfl⟩
        have HDD := hid hD
        have HP2 := hid (HD1.out h46)
        have HE : Hid ((qs ++ [D]).map bn = qs.map bn ++ [((bn s).drop fr).take (i - fr)]) := by show _ = _; rw [List.map_append, ← HDD.out]; simp [HSU.out fr i hfi (by omega)]
        clear HS1 HD1 h46 hD
        go_wp2_with (at_builtin; refine wpList_append_own _ rfl _ _ 46 rfl w.heap.size 9 i0 (.string ⟨#[]⟩) 1 16 Tryd.underlying46 hi0 hz0 hz1 hz2 rfl (by decide) _ _ _ rfl (HR.out.alloc _) ⟨wr.heap.size, 0, none⟩ 1 1 [.string (s.extract fr i)] rfl rfl (news_one _ _ _) (by simp [Value.oneCell']) (by unfold maxLen; omega) (by omega) (by simp; omega) ?_; intro v3 w3 r3 g3 _; obtain ⟨a3, c3, rfl⟩ := own_shS r3)
        go_roundw
        case rel =>
          refine ⟨i + 1, i + 1, m + 1, c3, a3, qs ++ [D], by omega, by omega, fun _ => Nat.le_refl _, by omega, rfl, by go_num, by go_num, by show _ = _; rw [List.length_append, ← HM.out]; rfl, ?_, ?_, below_grow (w1 := wr.alloc (.cells #[.string (s.extract fr i)] 9)) (HB.out.alloc HB.out.size _) (Nat.le_trans HB.out.size (by simp)) (HR.out.alloc _) g3⟩
          · show PI _ _ _ _
            rw [HE.out]; exact HP2.out
          · show World.ownsRow _ _ _ _ _ _ _
            rw [List.map_append, ← HDD.out]; exact r3
        case measure => simp [intOf]; omega
      · have hyb : (y == 46) = false := by simpa using h46
        have HP2 := hid (HS1.out h46)
        clear HS1 HD1 h46
        go_wp2
        go_roundw
        case rel => exact ⟨i + 1, fr, m, c, a, qs, by omega, by omega, fun _ => by omega, hfs, rfl, rfl, by go_num, HM, HP2, HR, HB⟩
        case measure => simp [intOf]; omega
    · by_cases hq : i = s.size
      · subst hq
        have hfi := hfr (Nat.le_refl _)
        have HP2 := hid (HLA.out fr _ (s.size + 1) HP.out)
        obtain ⟨D, hD⟩ : ∃ D, s.extract fr s.size = D := ⟨_, rfl⟩
        have HDD := hid hD
        have HE : Hid ((qs ++ [D]).map bn = qs.map bn ++ [((bn s).drop fr).take (s.size - fr)]) := by show _ = _; rw [List.map_append, ← HDD.out]; simp [HSU.out fr s.size hfi (Nat.le_refl _)]
        clear hD hfr HSK HDT HLA
        go_wp2_with (at_builtin; refine wpList_append_own _ rfl _ _ 46 rfl w.heap.size 9 i0 (.string ⟨#[]⟩) 1 16 Tryd.underlying46 hi0 hz0 hz1 hz2 rfl (by decide) _ _ _ rfl (HR.out.alloc _) ⟨wr.heap.size, 0, none⟩ 1 1 [.string (s.extract fr s.size)] rfl rfl (news_one _ _ _) (by simp [Value.oneCell']) (by unfold maxLen; omega) (by omega) (by simp; omega) ?_; intro v3 w3 r3 g3 _; obtain ⟨a3, c3, rfl⟩ := own_shS r3)
        go_roundw
        case rel =>
          refine ⟨s.size + 1, s.size + 1, m + 1, c3, a3, qs ++ [D], by omega, by omega, fun _ => by omega, by omega, rfl, by go_num, by go_num, by show _ = _; rw [List.length_append, ← HM.out]; rfl, ?_, ?_, below_grow (w1 := wr.alloc (.cells #[.string (s.extract fr s.size)] 9)) (HB.out.alloc HB.out.size _) (Nat.le_trans HB.out.size (by simp)) (HR.out.alloc _) g3⟩
          · show PI _ _ _ _
            rw [HE.out]; exact HP2.out
          · show World.ownsRow _ _ _ _ _ _ _
            rw [List.map_append, ← HDD.out]; exact r3
        case measure => simp [intOf]
      · have HDN := hid (HP.out.done (by rw [bn_length]; omega))
        have hgt : ¬ ((i : Int) ≤ (s.size : Int)) := by omega
        obtain ⟨a', c', e', hmc, hf⟩ := own_cellsS HM.out HR.out
        cases e'
        have hm1 : 0 < m := by
          have h1 := spl_ne (bn s)
          rw [HDN.out] at h1
          have h2 : qs ≠ [] := fun e => h1 (by rw [e]; rfl)
          have := List.length_pos_iff.2 h2
          rw [HM.out]; exact this
        obtain ⟨b, rfl, hcb⟩ := hf hm1
        obtain ⟨z, hz⟩ : ∃ z, m = z + 1 := ⟨m - 1, by omega⟩
        have hcz := hcb z (by omega)
        have HCB := hid hcb
        have HLZ := hid (last_at (qs := qs) (z := z) (by rw [← HM.out]; exact hz))
        obtain ⟨D, hD⟩ : ∃ D, qs[z]?.getD ⟨#[]⟩ = D := ⟨_, rfl⟩
        rw [hD] at hcz HLZ
        have hzz : (m : Int) - 1 = (z : Int) := by omega
        have hzw : IntKind.i64.wrap (z : Int) = (z : Int) := by simp [IntKind.wrap, IntKind.bits, IntKind.signed]; omega
        have hzl : (z : Int) < (m : Int) := by omega
        have hzc : (z : Int) ≤ (c : Int) := by omega
        have HZ := hid hz
        have HNE : Hid (qs ≠ []) := fun e => by rw [HM.out, e] at hm1; simp at hm1
        clear hD hcb hf hz HSK HDT HLA HSU HP HR
        by_cases h1m : 1 < m
        · have h1z : (1 : Int) < (m : Int) := by omega
          by_cases hd0 : D.size = 0
          · have he : D.toList.isEmpty = true := isEmpty_true D hd0
            have HRT : Hid (PartR (bn s) w (.returned (.slice (some ⟨b, 0, none⟩) z c)) wr) := by
              refine ⟨⟨b, c, qs.dropLast, ?_, ?_, ?_, ?_⟩, HB.out⟩
              · rw [List.length_dropLast, ← HM.out, HZ.out, Nat.add_sub_cancel]
              · intro e
                have := congrArg List.length e
                rw [List.length_dropLast, ← HM.out] at this
                simp at this; omega
              · have hb0 : bn D = [] := List.length_eq_zero_iff.1 (by rw [bn_length]; exact hd0)
                unfold prt
                rw [HDN.out, if_pos ⟨by rw [List.length_map, ← HM.out]; exact h1m, by rw [HLZ.out, hb0]⟩, List.map_dropLast]
              · intro j hj
                rw [List.length_dropLast, ← HM.out] at hj
                rw [HCB.out j (by omega), List.getElem?_dropLast, if_pos (by rw [← HM.out]; exact hj)]
            clear HDN HLZ HCB HNE hd0
            go_wp2
            go_ret
            exact HRT.out
          · have he : D.toList.isEmpty = false := isEmpty_false D (by omega)
            have HRT : Hid (PartR (bn s) w (.returned (.slice (some ⟨b, 0, none⟩) m c)) wr) := by
              refine ⟨⟨b, c, qs, by rw [HM.out], HNE.out, ?_, fun j hj => HCB.out j (by rw [HM.out]; exact hj)⟩, HB.out⟩
              unfold prt
              rw [HDN.out, if_neg (fun h => hd0 (by have h2 := h.2; rw [HLZ.out] at h2; rw [← bn_length, Option.some.inj h2]; rfl))]
            clear HDN HLZ HCB HNE hd0
            go_wp2
            go_ret
            exact HRT.out
        · have h1z : ¬ (1 : Int) < (m : Int) := by omega
          have HRT : Hid (PartR (bn s) w (.returned (.slice (some ⟨b, 0, none⟩) m c)) wr) := by
            refine ⟨⟨b, c, qs, by rw [HM.out], HNE.out, ?_, fun j hj => HCB.out j (by rw [HM.out]; exact hj)⟩, HB.out⟩
            unfold prt
            rw [HDN.out, if_neg (fun h => h1m (by have h2 := h.1; rw [List.length_map, ← HM.out] at h2; exact h2))]
          clear HDN HLZ HCB HNE
          go_wp2
          go_ret
          exact HRT.out
end Go.Proofs.YtklplalfcpigcaaDoor.F
