/- The document's split, Hex and piece. (Stage 11; written by tools/r11/xe.py.) -/
import Derived.Test.YtpkmpebhlolhaaaDoorProg
import Derived.Test.YtpkmpebhlolhaaaDoorFO
import Derived.Test.YtpkmpebhlolhaaaDoorXD
import Derived.WalkKit
import Derived.WalkSpells
import Derived.WalkLawsBesides
import Derived.Below
import Derived.Laws.AppendOwnNone
namespace Go.Proofs.YtpkmpebhlolhaaaDoor.X
open Go.RowKit
open Go.Proofs.YtpkmpebhlolhaaaDoor.F (hx hx_bd vl bn bn_length bn_append bn_inj bn_get byte_bd hid bn_extract isEmpty_false isEmpty_true str_eq same_eq)
set_option linter.unusedVariables false

theorem ret_int {k : IntKind} {a b : Int} (h : a = b) : Ending.returned (.int k a) = .returned (.int k b) := by rw [h]
set_option maxRecDepth 100000 in
set_option maxHeartbeats 1000000 in
theorem rhex_any (c : Int) (h0 : 0 ≤ c) (h1 : c ≤ 255) (w : World) : Calls Tryd.prog 40 #[.int .u8 c] w fun e W' => e = .returned (.int .i64 (hx c)) ∧ W' = w := by
  by_cases a1 : 48 ≤ c ∧ c ≤ 57
  · obtain ⟨x1, x2⟩ := a1
    go_enter Tryd.func40, Tryd.ntmps40
    go_wp2
    go_ret
    exact ⟨ret_int (by unfold hx; (repeat' split) <;> omega), rfl⟩
  by_cases a2 : 97 ≤ c ∧ c ≤ 102
  · obtain ⟨x1, x2⟩ := a2
    go_enter Tryd.func40, Tryd.ntmps40
    go_wp2
    go_ret
    exact ⟨ret_int (by unfold hx; (repeat' split) <;> omega), rfl⟩
  by_cases a3 : 65 ≤ c ∧ c ≤ 70
  · obtain ⟨x1, x2⟩ := a3
    go_enter Tryd.func40, Tryd.ntmps40
    go_wp2
    go_ret
    exact ⟨ret_int (by unfold hx; (repeat' split) <;> omega), rfl⟩
  have hm : hx c = -1 := by unfold hx; (repeat' split) <;> omega
  rw [hm]
  go_enter Tryd.func40, Tryd.ntmps40
  go_wp2
  all_goals first
    | (go_ret; exact ⟨rfl, rfl⟩)
    | (exfalso; omega)
    | (go_ret; exact ⟨ret_int (by omega), rfl⟩)
theorem bn_sub (s : ByteArray) (i j : Nat) (hij : i ≤ j) (hj : j ≤ s.size) : bn (s.extract i j) = ((bn s).drop i).take (j - i) := by
  unfold bn
  rw [ByteArray.data_extract, Array.toList_extract, List.extract_eq_take_drop, List.map_take, List.map_drop]
/-- Where the loop stands: the parts so far, and where the next one begins. -/
def PI (b : Int) (l : List Int) (i fr : Nat) (qs : List (List Int)) : Prop :=
  (i ≤ l.length ∧ fr ≤ i ∧ spB b l = qs ++ spB b (l.drop fr) ∧ ∀ j, fr ≤ j → j < i → l[j]?.getD 0 ≠ b) ∨ (i = l.length + 1 ∧ spB b l = qs)
theorem PI.start (b : Int) (l : List Int) : PI b l 0 0 [] := .inl ⟨Nat.zero_le _, Nat.le_refl _, by simp, fun j _ h => by omega⟩
theorem PI.skip {b : Int} {l : List Int} {i fr : Nat} {qs : List (List Int)} (hi : i < l.length) (hc : l[i]?.getD 0 ≠ b) (h : PI b l i fr qs) : PI b l (i + 1) fr qs := by
  rcases h with ⟨_, h2, h3, h4⟩ | ⟨h, _⟩
  · refine .inl ⟨by omega, by omega, h3, fun j hj hji => ?_⟩
    by_cases e : j = i
    · rw [e]; exact hc
    · exact h4 j hj (by omega)
  · omega
theorem part_dot {b : Int} {l : List Int} {i fr : Nat} (hi : i ≤ l.length) (h4 : ∀ j, fr ≤ j → j < i → l[j]?.getD 0 ≠ b) : ¬ b ∈ (l.drop fr).take (i - fr) := by
  intro hm
  obtain ⟨k, hk, e⟩ := List.mem_iff_getElem.1 hm
  rw [List.length_take, List.length_drop] at hk
  have h5 : ((l.drop fr).take (i - fr))[k]? = some b := by rw [List.getElem?_eq_getElem (by rw [List.length_take, List.length_drop]; exact hk), e]
  rw [List.getElem?_take_of_lt (by omega), List.getElem?_drop] at h5
  exact h4 (fr + k) (by omega) (by omega) (by rw [h5]; rfl)
theorem PI.dot {b : Int} {l : List Int} {i fr : Nat} {qs : List (List Int)} (hi : i < l.length) (hc : l[i]?.getD 0 = b) (h : PI b l i fr qs) : PI b l (i + 1) (i + 1) (qs ++ [(l.drop fr).take (i - fr)]) := by
  rcases h with ⟨_, h2, h3, h4⟩ | ⟨h, _⟩
  · refine .inl ⟨by omega, Nat.le_refl _, ?_, fun j hj hji => by omega⟩
    have hd : l.drop fr = (l.drop fr).take (i - fr) ++ b :: l.drop (i + 1) := by
      have e1 : (l.drop fr).drop (i - fr) = l.drop i := by rw [List.drop_drop, show fr + (i - fr) = i by omega]
      have e2 : l.drop i = b :: l.drop (i + 1) := by rw [List.drop_eq_getElem_cons hi]; rw [List.getElem?_eq_getElem hi] at hc; rw [show l[i] = b from hc]
      rw [← e2, ← e1, List.take_append_drop]
    have hs : spB b (l.drop fr) = (l.drop fr).take (i - fr) :: spB b (l.drop (i + 1)) := by
      conv => lhs; rw [hd]
      exact sp_plain b _ _ (part_dot (by omega) h4)
    rw [h3, hs, List.append_assoc]; rfl
  · omega
theorem PI.last {b : Int} {l : List Int} {fr : Nat} {qs : List (List Int)} (h : PI b l l.length fr qs) (f2 : Nat) : PI b l (l.length + 1) f2 (qs ++ [(l.drop fr).take (l.length - fr)]) := by
  rcases h with ⟨_, h2, h3, h4⟩ | ⟨h, _⟩
  · refine .inr ⟨rfl, ?_⟩
    have e : (l.drop fr).take (l.length - fr) = l.drop fr := List.take_of_length_le (by rw [List.length_drop]; exact Nat.le_refl _)
    have hn := part_dot (Nat.le_refl _) h4
    rw [e] at hn ⊢
    rw [h3, sp_one b _ hn]
  · omega
theorem PI.from {b : Int} {l : List Int} {i fr : Nat} {qs : List (List Int)} (hi : i ≤ l.length) (h : PI b l i fr qs) : fr ≤ i := by
  rcases h with ⟨_, h, _⟩ | ⟨h, _⟩
  · exact h
  · omega
theorem PI.done {b : Int} {l : List Int} {i fr : Nat} {qs : List (List Int)} (hi : l.length < i) (h : PI b l i fr qs) : spB b l = qs := by
  rcases h with ⟨h, _⟩ | ⟨_, h⟩
  · omega
  · exact h
theorem Tryd.info9 : (Tryd.prog.info? 9).map (fun i => (i.zero, i.size, i.bytes)) = some (some (.string ⟨#[]⟩), 1, 16) := by kernel_rfl
theorem own_shS {base n : Nat} {v : Value} {X : List Value} {W : World} (h : W.ownsRow base 9 1 v n X) : ∃ a cap, v = .slice a n cap := by
  rcases h.2 with ⟨rfl, h0⟩ | ⟨g, cap, cur, rfl, _⟩
  · exact ⟨none, 0, by rw [h0]⟩
  · exact ⟨_, cap, rfl⟩
theorem news_one (w : World) (t : TypeId) (l : List Value) : ∀ (j : Nat) (u : Value), l[j]? = some u → (w.alloc (.cells l.toArray t)).cell? ((⟨w.heap.size, 0, none⟩ : Addr).add j) = some u := by
  intro j u h
  have hb : (w.alloc (.cells l.toArray t)).heap[w.heap.size]? = some (.cells l.toArray t) := heap_alloc_new w _
  generalize w.alloc (.cells l.toArray t) = W at hb ⊢
  have e : (⟨w.heap.size, 0, none⟩ : Addr).add j = ⟨w.heap.size, j, none⟩ := by unfold Addr.add; split <;> simp_all
  rw [e]
  simp [World.cell?, hb, h]
theorem below_grow {B : Nat} {w w1 w2 : World} {e : TypeId} {size : Nat} {v : Value} {n : Nat} {xs : List Value} (hB : Below B w w1) (hb : B ≤ w1.heap.size) (hown : w1.ownsRow B e size v n xs) (hg : w1.grownBy w2 v.ownBlock) : Below B w w2 :=
  hB.grown hg hb (fun j ej => by
    rcases hown.2 with ⟨rfl, _⟩ | ⟨g, cap, cur, rfl, hbg, _, _⟩
    · simp [Value.ownBlock] at ej
    · obtain rfl : g = j := by simpa [Value.ownBlock] using ej
      exact hbg)
theorem own_cellsS {W : World} {base n : Nat} {v : Value} {qs : List ByteArray} (hn : n = qs.length) (h : W.ownsRow base 9 1 v n (qs.map Value.string)) : ∃ a c, v = .slice a n c ∧ n ≤ c ∧ (0 < n → ∃ b, a = some ⟨b, 0, none⟩ ∧ ∀ j, j < n → W.cell? ⟨b, j, none⟩ = some (.string (qs[j]?.getD ⟨#[]⟩))) := by
  rcases h.2 with ⟨rfl, h0⟩ | ⟨g, cap, cur, rfl, hg, h3, h4⟩
  · exact ⟨none, 0, by rw [h0], by omega, fun h => by omega⟩
  · refine ⟨_, cap, rfl, h4.1, fun _ => ⟨g, rfl, fun j hj => ?_⟩⟩
    rw [h.cellAt j (by omega), List.getElem?_map, List.getElem?_eq_getElem (by omega)]; rfl
theorem sp_ne (b : Int) : ∀ l, spB b l ≠ []
  | [] => by simp [spB]
  | c :: l => by rw [spB]; split <;> simp
/-- What split answers: a row of texts. -/
def SplR (b : Int) (l : List Int) (w : World) (e : Ending) (W' : World) : Prop :=
  (∃ (g c : Nat) (qs : List ByteArray), e = .returned (.slice (some ⟨g, 0, none⟩) qs.length c) ∧ qs ≠ [] ∧ qs.map bn = spB b l ∧ ∀ j, j < qs.length → W'.cell? ⟨g, j, none⟩ = some (.string (qs[j]?.getD ⟨#[]⟩))) ∧ Below w.heap.size w W'
set_option maxRecDepth 100000 in
set_option maxHeartbeats 8000000 in
theorem rsplit_any (s : ByteArray) (b : Int) (w : World) (hs : s.size ≤ 100000) :
    Calls Tryd.prog 28 #[.string s, .int .u8 b] w fun e W' => SplR b (bn s) w e W' := by
  obtain ⟨i0, hi0, hz0, hz1, hz2⟩ := info_parts Tryd.info9
  have HLN := hid (bn_length s)
  have HGT := hid (bn_get s)
  have HSK : Hid (∀ i fr qs, i < s.size → (bn s)[i]?.getD 0 ≠ b → PI b (bn s) i fr qs → PI b (bn s) (i + 1) fr qs) := fun i fr qs hi => PI.skip (by rw [bn_length]; exact hi)
  have HDT : Hid (∀ i fr qs, i < s.size → (bn s)[i]?.getD 0 = b → PI b (bn s) i fr qs → PI b (bn s) (i + 1) (i + 1) (qs ++ [((bn s).drop fr).take (i - fr)])) := fun i fr qs hi => PI.dot (by rw [bn_length]; exact hi)
  have HLA : Hid (∀ fr qs f2, PI b (bn s) s.size fr qs → PI b (bn s) (s.size + 1) f2 (qs ++ [((bn s).drop fr).take (s.size - fr)])) := fun fr qs f2 h => by
    rw [← bn_length s] at h ⊢
    exact PI.last h f2
  have HSU := hid (bn_sub s)
  go_enter Tryd.func28, Tryd.ntmps28
  go_wp2_with fail
  go_loopw [5, 6, 7] (fun v5 v6 v7 wr => ∃ (i fr m c : Nat) (a : Option Addr) (qs : List ByteArray), i ≤ s.size + 1 ∧ m ≤ i ∧ (i ≤ s.size → fr ≤ i) ∧ fr ≤ s.size + 1 ∧ v5 = .slice a m c ∧ v6 = .int .i64 fr ∧ v7 = .int .i64 i ∧ Hid (m = qs.length) ∧ Hid (PI b (bn s) i fr (qs.map bn)) ∧ Hid (wr.ownsRow w.heap.size 9 1 (.slice a m c) m (qs.map Value.string)) ∧ Hid (Below w.heap.size w wr)) (fun _ _ v7 _ => s.size + 1 - (intOf v7).toNat)
  case atStart => exact ⟨0, 0, 0, 0, none, [], Nat.zero_le _, Nat.le_refl _, fun _ => Nat.le_refl _, Nat.zero_le _, rfl, rfl, rfl, rfl, PI.start _ _, World.ownsRow_nil _ _ _ _, Below.refl _ _⟩
  case round =>
    obtain ⟨i, fr, m, c, a, qs, hi, hmi, hfr, hfs, rfl, rfl, rfl, HM, HP, HR, HB⟩ := hrel
    have zj := HB.out.size
    have hmb : m ≤ 200000 := by omega
    by_cases hlt : i < s.size
    · have hfi := hfr (by omega)
      have hg := (HGT.out i hlt).symm
      have HS1 := hid (fun h => HSK.out i fr _ hlt h HP.out)
      have HD1 := hid (fun h => HDT.out i fr _ hlt h HP.out)
      obtain ⟨y, hy⟩ : ∃ y, (bn s)[i]?.getD 0 = y := ⟨_, rfl⟩
      rw [hy] at hg HS1 HD1
      have hne : ((i : Int) == (s.size : Int)) = false := by simp; omega
      have hlez : (i : Int) ≤ (s.size : Int) := by omega
      clear hy hfr HSK HDT HLA
      by_cases h46 : y = b
      · have hyb : (y == b) = true := by simpa using h46
        obtain ⟨D, hD⟩ : ∃ D, s.extract fr i = D := ⟨_, rfl⟩
        have HDD := hid hD
        have HP2 := hid (HD1.out h46)
        have HE : Hid ((qs ++ [D]).map bn = qs.map bn ++ [((bn s).drop fr).take (i - fr)]) := by show _ = _; rw [List.map_append, ← HDD.out]; simp [HSU.out fr i hfi (by omega)]
        clear HS1 HD1 h46 hD
        go_wp2_with (at_builtin; refine wpList_append_own _ rfl _ _ 58 rfl w.heap.size 9 i0 (.string ⟨#[]⟩) 1 16 Tryd.underlying58 hi0 hz0 hz1 hz2 rfl (by decide) _ _ _ rfl (HR.out.alloc _) ⟨wr.heap.size, 0, none⟩ 1 1 [.string (s.extract fr i)] rfl rfl (news_one _ _ _) (by simp [Value.oneCell']) (by unfold maxLen; omega) (by omega) (by simp; omega) ?_; intro v3 w3 r3 g3 _; obtain ⟨a3, c3, rfl⟩ := own_shS r3)
        go_roundw
        case rel =>
          refine ⟨i + 1, i + 1, m + 1, c3, a3, qs ++ [D], by omega, by omega, fun _ => Nat.le_refl _, by omega, rfl, by go_num, by go_num, by show _ = _; rw [List.length_append, ← HM.out]; rfl, ?_, ?_, below_grow (w1 := wr.alloc (.cells #[.string (s.extract fr i)] 9)) (HB.out.alloc HB.out.size _) (Nat.le_trans HB.out.size (by simp)) (HR.out.alloc _) g3⟩
          · show PI _ _ _ _ _
            rw [HE.out]; exact HP2.out
          · show World.ownsRow _ _ _ _ _ _ _
            rw [List.map_append, ← HDD.out]; exact r3
        case measure => simp [intOf]; omega
      · have hyb : (y == b) = false := by simpa using h46
        have HP2 := hid (HS1.out h46)
        clear HS1 HD1 h46
        go_wp2
        go_roundw
        case rel => exact ⟨i + 1, fr, m, c, a, qs, by omega, by omega, fun _ => by omega, hfs, rfl, rfl, by go_num, HM, HP2, HR, HB⟩
        case measure => simp [intOf]; omega
    · by_cases hq : i = s.size
      · subst hq
        have hfi := hfr (Nat.le_refl _)
        have HP2 := hid (HLA.out fr _ (s.size + 1) HP.out)
        obtain ⟨D, hD⟩ : ∃ D, s.extract fr s.size = D := ⟨_, rfl⟩
        have HDD := hid hD
        have HE : Hid ((qs ++ [D]).map bn = qs.map bn ++ [((bn s).drop fr).take (s.size - fr)]) := by show _ = _; rw [List.map_append, ← HDD.out]; simp [HSU.out fr s.size hfi (Nat.le_refl _)]
        clear hD hfr HSK HDT HLA
        go_wp2_with (at_builtin; refine wpList_append_own _ rfl _ _ 58 rfl w.heap.size 9 i0 (.string ⟨#[]⟩) 1 16 Tryd.underlying58 hi0 hz0 hz1 hz2 rfl (by decide) _ _ _ rfl (HR.out.alloc _) ⟨wr.heap.size, 0, none⟩ 1 1 [.string (s.extract fr s.size)] rfl rfl (news_one _ _ _) (by simp [Value.oneCell']) (by unfold maxLen; omega) (by omega) (by simp; omega) ?_; intro v3 w3 r3 g3 _; obtain ⟨a3, c3, rfl⟩ := own_shS r3)
        go_roundw
        case rel =>
          refine ⟨s.size + 1, s.size + 1, m + 1, c3, a3, qs ++ [D], by omega, by omega, fun _ => by omega, by omega, rfl, by go_num, by go_num, by show _ = _; rw [List.length_append, ← HM.out]; rfl, ?_, ?_, below_grow (w1 := wr.alloc (.cells #[.string (s.extract fr s.size)] 9)) (HB.out.alloc HB.out.size _) (Nat.le_trans HB.out.size (by simp)) (HR.out.alloc _) g3⟩
          · show PI _ _ _ _ _
            rw [HE.out]; exact HP2.out
          · show World.ownsRow _ _ _ _ _ _ _
            rw [List.map_append, ← HDD.out]; exact r3
        case measure => simp [intOf]
      · have HDN := hid (HP.out.done (by rw [bn_length]; omega))
        have hgt : ¬ ((i : Int) ≤ (s.size : Int)) := by omega
        obtain ⟨a', c', e', hmc, hf⟩ := own_cellsS HM.out HR.out
        cases e'
        have hm1 : 0 < m := by
          have h1 := sp_ne b (bn s)
          rw [HDN.out] at h1
          have h2 : qs ≠ [] := fun e => h1 (by rw [e]; rfl)
          have := List.length_pos_iff.2 h2
          rw [HM.out]; exact this
        obtain ⟨g, rfl, hcb⟩ := hf hm1
        have HRT : Hid (SplR b (bn s) w (.returned (.slice (some ⟨g, 0, none⟩) m c)) wr) := by
          refine ⟨⟨g, c, qs, by rw [HM.out], fun e => by rw [HM.out, e] at hm1; simp at hm1, HDN.out.symm, fun j hj => hcb j (by rw [HM.out]; exact hj)⟩, HB.out⟩
        clear HDN hcb hf HSK HDT HLA HSU HP HR
        go_wp2
        go_ret
        exact HRT.out
/-! ### A piece -/
theorem v16_lt : ∀ (l : List Int) (x : Nat), l.all hxd = true → l.foldl (fun n c => n * 16 + (hx c).toNat) x + 1 ≤ (x + 1) * 16 ^ l.length
  | [], x, _ => by simp
  | c :: l, x, h => by
    rw [List.all_cons, Bool.and_eq_true] at h
    have ih := v16_lt l (x * 16 + (hx c).toNat) h.2
    have hb := hx_bd c
    rw [List.foldl_cons, List.length_cons, Nat.pow_succ]
    refine Nat.le_trans ih ?_
    have h1 : x * 16 + (hx c).toNat + 1 ≤ (x + 1) * 16 := by omega
    calc (x * 16 + (hx c).toNat + 1) * 16 ^ l.length ≤ ((x + 1) * 16) * 16 ^ l.length := Nat.mul_le_mul_right _ h1
      _ = (x + 1) * (16 ^ l.length * 16) := by rw [Nat.mul_assoc, Nat.mul_comm 16]
theorem vl_lt {l : List Int} (h : l.all hxd = true) : vl 16 l < 16 ^ l.length := by
  have := v16_lt l 0 h
  unfold vl
  omega
theorem vl_snoc (l : List Int) (c : Int) : vl 16 (l ++ [c]) = vl 16 l * 16 + (hx c).toNat := by unfold vl; rw [List.foldl_append]; rfl
theorem take_one (L : List Int) (k : Nat) (h : k < L.length) : L.take (k + 1) = L.take k ++ [L[k]?.getD 0] := by
  rw [List.take_succ_eq_append_getElem h, List.getElem?_eq_getElem h]; rfl
/-- What piece answers. -/
def PcR (l : List Int) (e : Ending) : Prop := e = .returned (.tuple #[.int .u16 ((pc l).getD 0 : Nat), .bool (pc l).isSome])
theorem pc_bad {l : List Int} {k : Nat} (hk : k < l.length) (h : hx (l[k]?.getD 0) < 0) : pc l = none := by
  unfold pc
  rw [if_neg]
  intro hh
  have := List.all_eq_true.1 hh.2.2 _ (List.getElem_mem hk)
  rw [List.getElem?_eq_getElem hk] at h
  have h2 := of_decide_eq_true this
  simp at h
  omega
set_option maxRecDepth 100000 in
set_option maxHeartbeats 4000000 in
theorem rpiece_any (s : ByteArray) (w : World) (hs : s.size ≤ 100000) : Calls Tryd.prog 30 #[.string s] w fun e W' => PcR (bn s) e ∧ W' = w := by
  have HRT : Hid (∀ (x : Nat) (b : Bool) e, pc (bn s) = (if b = true then some x else none) → e = .returned (.tuple #[.int .u16 (if b = true then x else 0 : Nat), .bool b]) → PcR (bn s) e) := fun x b e h he => by
    unfold PcR
    rw [h, he]
    cases b <;> rfl
  by_cases h1 : s.size < 1
  · have HP : Hid (pc (bn s) = none) := by
      show _ = _
      unfold pc; rw [if_neg (fun hh => by have := hh.1; rw [bn_length] at this; omega)]
    have h1z : (s.size : Int) < 1 := by omega
    go_enter Tryd.func30, Tryd.ntmps30
    go_wp2
    go_ret2
    exact ⟨HRT.out 0 false _ HP.out rfl, rfl⟩
  by_cases h4 : 4 < s.size
  · have HP : Hid (pc (bn s) = none) := by
      show _ = _
      unfold pc; rw [if_neg (fun hh => by have := hh.2.1; rw [bn_length] at this; omega)]
    have h4z : (4 : Int) < (s.size : Int) := by omega
    have h1z : ¬ (s.size : Int) < 1 := by omega
    go_enter Tryd.func30, Tryd.ntmps30
    go_wp2
    go_ret2
    exact ⟨HRT.out 0 false _ HP.out rfl, rfl⟩
  have h4z : ¬ (4 : Int) < (s.size : Int) := by omega
  have h1z : ¬ (s.size : Int) < 1 := by omega
  have HGT := hid (bn_get s)
  have HBD := hid (fun j (h : j < s.size) => byte_bd (s := s) h)
  have HX := hid rhex_any
  have HBA : Hid (∀ k, k < s.size → hx ((bn s)[k]?.getD 0) < 0 → pc (bn s) = none) := fun k h => pc_bad (by rw [bn_length]; exact h)
  have HST : Hid (∀ k, k < s.size → (bn s).take (k + 1) = (bn s).take k ++ [(bn s)[k]?.getD 0]) := fun k h => take_one _ k (by rw [bn_length]; exact h)
  have HFI : Hid ((bn s).all hxd = true → pc (bn s) = some (vl 16 (bn s))) := fun h => by
    unfold pc
    rw [if_pos ⟨by rw [bn_length]; omega, by rw [bn_length]; omega, h⟩]
  have HLN := hid (bn_length s)
  go_enter Tryd.func30, Tryd.ntmps30
  go_wp2_with fail
  go_loop [4, 5] (fun v4 v5 => ∃ (i n : Nat), i ≤ s.size ∧ v4 = .int .u16 n ∧ v5 = .int .i64 i ∧ n < 16 ^ i ∧ Hid (n = vl 16 ((bn s).take i)) ∧ Hid (((bn s).take i).all hxd = true)) (fun _ v5 => s.size - (intOf v5).toNat)
  case atStart => exact ⟨0, 0, Nat.zero_le _, rfl, rfl, by decide, rfl, rfl⟩
  case round =>
    obtain ⟨i, n, hi, rfl, rfl, hn, HV, HA⟩ := hrel
    by_cases hlt : i < s.size
    · have hg := (HGT.out i hlt).symm
      obtain ⟨y0, y1⟩ := HBD.out i hlt
      have HB1 := hid (HBA.out i hlt)
      have HT := hid (HST.out i hlt)
      have hn4 : n < 4096 := Nat.lt_of_lt_of_le hn (Nat.le_trans (Nat.pow_le_pow_right (by decide) (by omega : i ≤ 3)) (by decide))
      obtain ⟨y, hy⟩ : ∃ y, (bn s)[i]?.getD 0 = y := ⟨_, rfl⟩
      rw [hy] at hg y0 y1 HB1 HT
      have HH := hid (fun W => HX.out y y0 y1 W)
      have hbx := hx_bd y
      have HSV : Hid (0 ≤ hx y → n * 16 + (hx y).toNat = vl 16 ((bn s).take (i + 1)) ∧ ((bn s).take (i + 1)).all hxd = true) := fun h => by
        rw [HT.out, vl_snoc, ← HV.out, List.all_append, HA.out]
        exact ⟨rfl, by simp [hxd, h]⟩
      have HBN : Hid (0 ≤ hx y → n * 16 + (hx y).toNat < 16 ^ (i + 1)) := fun h => by rw [Nat.pow_succ]; omega
      obtain ⟨x, hx1⟩ : ∃ x, hx y = x := ⟨_, rfl⟩
      rw [hx1] at HH hbx HSV HBN HB1
      clear hy hx1 hn HV HA HT
      obtain ⟨b0, b1⟩ := hbx
      by_cases hneg : x < 0
      · have HP := hid (HB1.out hneg)
        clear HSV HBN HB1
        go_wp2_with (go_at_call 40; refine (HH.out _).mono ?_; rintro e w2 ⟨rfl, hw2⟩; obtain rfl := hw2.symm)
        go_ret2
        exact ⟨HRT.out 0 false _ HP.out rfl, rfl⟩
      · obtain ⟨m, rfl⟩ : ∃ m : Nat, x = (m : Int) := ⟨x.toNat, by omega⟩
        obtain ⟨s1, s2⟩ := HSV.out (by omega)
        have s3 := HBN.out (by omega)
        rw [Int.toNat_natCast] at s1 s3
        have S1 := hid s1
        have S2 := hid s2
        have S3 := hid s3
        clear HSV HBN HB1 s1 s2 s3
        have hnn : ¬ ((m : Int) < 0) := by omega
        go_wp2_with (go_at_call 40; refine (HH.out _).mono ?_; rintro e w2 ⟨rfl, hw2⟩; obtain rfl := hw2.symm)
        exact ⟨⟨i + 1, n * 16 + m, by omega, by go_num, by go_num, S3.out, S1, S2⟩, by simp [intOf]; omega⟩
    · have ht : (bn s).take i = bn s := List.take_of_length_le (by rw [HLN.out]; omega)
      rw [ht] at HV HA
      have HP : Hid (pc (bn s) = some n) := by show _ = _; rw [HFI.out HA.out, ← HV.out]
      clear ht HV HA hn
      go_wp2
      go_ret2
      exact ⟨HRT.out n true _ HP.out rfl, rfl⟩
end Go.Proofs.YtpkmpebhlolhaaaDoor.X
