/- Plain: texts of addresses, with two colons in a gap; the document's Text. (Stage 11.) -/
import Derived.Test.YtpkmpebhlolhaaaDoorXB
namespace Go.Proofs.YtpkmpebhlolhaaaDoor.X
open Go.Proofs.YtpkmpebhlolhaaaDoor.F (hx hx_bd vl)
set_option linter.unusedVariables false

/-! ### A text with a gap, as it grows -/
theorem join_snoc : ∀ (ps : List (List Int)) (p : List Int), joinB 58 (ps ++ [p]) = joinB 58 ps ++ (if ps = [] then [] else [58]) ++ p
  | [], p => rfl
  | [q], p => by simp [joinB]
  | q :: q' :: r, p => by
    have ih := join_snoc (q' :: r) p
    have e : joinB 58 (q :: q' :: r ++ [p]) = q ++ 58 :: joinB 58 (q' :: r ++ [p]) := rfl
    have f : joinB 58 (q :: q' :: r) = q ++ 58 :: joinB 58 (q' :: r) := rfl
    rw [e, ih, f, if_neg (by simp), if_neg (by simp)]
    simp
theorem take_snoc {ps : List (List Int)} {m : Nat} (h : m < ps.length) : ps.take (m + 1) = ps.take m ++ [ps[m]?.getD []] := by
  rw [List.take_succ_eq_append_getElem h, List.getElem?_eq_getElem h]; rfl
/-- The first m pieces, those from i up to k left away for two colons. -/
def gp (ps : List (List Int)) (i k m : Nat) : List Int := joinB 58 (ps.take (min m i)) ++ (if i < m then 58 :: 58 :: joinB 58 ((ps.take m).drop k) else [])
theorem gp_zero (ps : List (List Int)) (i k : Nat) : gp ps i k 0 = [] := by unfold gp; simp [joinB]
theorem gp_lt {ps : List (List Int)} {i k m : Nat} (h : m < i) (hl : m < ps.length) : gp ps i k (m + 1) = gp ps i k m ++ (if 0 < m then [58] else []) ++ ps[m]?.getD [] := by
  unfold gp
  rw [Nat.min_eq_left (by omega), Nat.min_eq_left (by omega), if_neg (by omega), if_neg (by omega), take_snoc hl, join_snoc]
  by_cases h0 : m = 0
  · subst h0; simp
  · rw [if_neg (by intro e; have := congrArg List.length e; rw [List.length_take, List.length_nil] at this; omega), if_pos (by omega)]; simp
theorem gp_at {ps : List (List Int)} {i k : Nat} (h : i < k) : gp ps i k (i + 1) = gp ps i k i ++ [58, 58] := by
  unfold gp
  rw [Nat.min_eq_right (by omega), Nat.min_self, if_pos (by omega), if_neg (by omega)]
  have : (ps.take (i + 1)).drop k = [] := List.drop_eq_nil_of_le (by simp; omega)
  rw [this]; simp [joinB]
theorem gp_in {ps : List (List Int)} {i k m : Nat} (h : i < m) (hk : m < k) : gp ps i k (m + 1) = gp ps i k m := by
  unfold gp
  rw [Nat.min_eq_right (by omega), Nat.min_eq_right (by omega), if_pos (by omega), if_pos h]
  have e1 : (ps.take (m + 1)).drop k = [] := List.drop_eq_nil_of_le (by simp; omega)
  have e2 : (ps.take m).drop k = [] := List.drop_eq_nil_of_le (by simp; omega)
  rw [e1, e2]
theorem drop_snoc {ps : List (List Int)} {k m : Nat} (hk : k ≤ m) (hl : m < ps.length) : (ps.take (m + 1)).drop k = (ps.take m).drop k ++ [ps[m]?.getD []] := by
  rw [take_snoc hl, List.drop_append_of_le_length (by simp; omega)]
theorem gp_ge {ps : List (List Int)} {i k m : Nat} (h : i < k) (hk : k ≤ m) (hl : m < ps.length) : gp ps i k (m + 1) = gp ps i k m ++ (if m = k then [] else [58]) ++ ps[m]?.getD [] := by
  unfold gp
  rw [Nat.min_eq_right (by omega), Nat.min_eq_right (by omega), if_pos (by omega), if_pos (by omega), drop_snoc hk hl, join_snoc]
  by_cases e : m = k
  · subst e
    have e2 : (ps.take m).drop m = [] := List.drop_eq_nil_of_le (by simp; omega)
    rw [e2, if_pos rfl, if_pos rfl]; simp
  · rw [if_neg e, if_neg (by intro h2; have := congrArg List.length h2; simp at this; omega)]; simp
/-- Two colons between two pieces, nothing left away. -/
theorem gp_here {ps : List (List Int)} {g : Nat} (hl : g < ps.length) : gp ps g g (g + 1) = gp ps g g g ++ [58, 58] ++ ps[g]?.getD [] := by
  unfold gp
  rw [Nat.min_eq_right (by omega), Nat.min_self, if_pos (by omega), if_neg (by omega), drop_snoc (Nat.le_refl _) hl, join_snoc]
  have e2 : (ps.take g).drop g = [] := List.drop_eq_nil_of_le (by simp; omega)
  rw [e2, if_pos rfl]; simp [joinB]
theorem gp_behind {ps : List (List Int)} {g m : Nat} (h : g < m) (hl : m < ps.length) : gp ps g g (m + 1) = gp ps g g m ++ [58] ++ ps[m]?.getD [] := by
  unfold gp
  rw [Nat.min_eq_right (by omega), Nat.min_eq_right (by omega), if_pos (by omega), if_pos h, drop_snoc (by omega) hl, join_snoc, if_neg (by intro h2; have := congrArg List.length h2; simp at this; omega)]
  simp
theorem gp_end (ps : List (List Int)) : gp ps ps.length ps.length ps.length = joinB 58 ps := by
  unfold gp
  rw [Nat.min_self, if_neg (by omega), List.take_length]; simp
/-- All of it. -/
theorem gp_all {ps : List (List Int)} {i k m : Nat} (him : i < m) (hm : ps.length ≤ m) : gp ps i k m = joinB 58 (ps.take i) ++ 58 :: 58 :: joinB 58 (ps.drop k) := by
  unfold gp
  rw [Nat.min_eq_right (by omega), if_pos him, List.take_of_length_le hm]
theorem gp_none {ps : List (List Int)} {i k m : Nat} (him : m ≤ i) (hm : ps.length ≤ m) : gp ps i k m = joinB 58 ps := by
  unfold gp
  rw [Nat.min_eq_left him, if_neg (by omega), List.take_of_length_le hm]; simp
/-! ### What such texts are read as -/
def Small (a : List Nat) : Prop := ∀ v ∈ a, v < 65536
theorem Small.take {a : List Nat} (h : Small a) (i : Nat) : Small (a.take i) := fun v hv => h v (List.mem_of_mem_take hv)
theorem Small.drop {a : List Nat} (h : Small a) (i : Nat) : Small (a.drop i) := fun v hv => h v (List.mem_of_mem_drop hv)
theorem map_txt {cap nts : Bool} {a : List Nat} (h : Small a) : ∀ p ∈ a.map (hexT cap nts), Txt p := fun p hp => by
  obtain ⟨v, hv, rfl⟩ := List.mem_map.1 hp
  exact hexT_txt (h v hv)
theorem read_row {cap nts : Bool} {a : List Nat} (h : Small a) : prs (joinB 58 (a.map (hexT cap nts))) = if a.length = 8 then some a else none := by
  rw [prs_row (map_txt h), pcs_hex a h]; rfl
theorem read_gap {cap nts : Bool} {f b : List Nat} (hf : Small f) (hb : Small b) : prs (joinB 58 (f.map (hexT cap nts)) ++ 58 :: 58 :: joinB 58 (b.map (hexT cap nts))) = if f.length + b.length ≤ 7 then some (f ++ List.replicate (8 - b.length - f.length) 0 ++ b) else none := by
  rw [prs_gap (map_txt hf) (map_txt hb), pcs_hex f hf, pcs_hex b hb]; rfl
theorem dots_txt {cap nts : Bool} {a : List Nat} {x y : Nat} (h : Small a) (hx : x < 65536) (hy : y < 65536) : ∀ p ∈ a.map (hexT cap nts) ++ [dotT x y], Txt p := fun p hp => by
  rcases List.mem_append.1 hp with hp | hp
  · exact map_txt h p hp
  · simp at hp; rw [hp]; exact dotT_txt hx hy
theorem read_row_dot {cap nts : Bool} {a : List Nat} {x y : Nat} (h : Small a) (hx : x < 65536) (hy : y < 65536) : prs (joinB 58 (a.map (hexT cap nts) ++ [dotT x y])) = if a.length + 2 = 8 then some (a ++ [x, y]) else none := by
  rw [prs_row (dots_txt h hx hy), pcs_dot hx hy a h]
  unfold full
  simp only [List.length_append, List.length_cons, List.length_nil]
theorem read_gap_dot {cap nts : Bool} {f b : List Nat} {x y : Nat} (hf : Small f) (hb : Small b) (hx : x < 65536) (hy : y < 65536) : prs (joinB 58 (f.map (hexT cap nts)) ++ 58 :: 58 :: joinB 58 (b.map (hexT cap nts) ++ [dotT x y])) = if f.length + (b.length + 2) ≤ 7 then some (f ++ List.replicate (8 - (b.length + 2) - f.length) 0 ++ (b ++ [x, y])) else none := by
  rw [prs_gap (map_txt hf) (dots_txt hb hx hy), pcs_hex f hf, pcs_dot hx hy b hb]
  unfold both
  simp only [List.length_append, List.length_cons, List.length_nil]
/-- A row whose pieces from i up to k are noughts. -/
theorem zero_mid {a : List Nat} {i k : Nat} (hl : a.length = 8) (hik : i ≤ k) (hk : k ≤ 8) (hz : ∀ j, i ≤ j → j < k → a[j]?.getD 1 = 0) : a.take i ++ List.replicate (k - i) 0 ++ a.drop k = a := by
  apply List.ext_getElem?
  intro j
  by_cases h1 : j < i
  · rw [List.append_assoc, List.getElem?_append_left (by simp; omega), List.getElem?_take, if_pos h1]
  · by_cases h2 : j < k
    · rw [List.append_assoc, List.getElem?_append_right (by simp; omega), List.getElem?_append_left (by simp; omega)]
      have h3 : j < a.length := by omega
      have := hz j (by omega) h2
      rw [List.getElem?_eq_getElem h3] at this ⊢
      simp at this
      rw [this, List.getElem?_replicate, if_pos (by simp; omega)]
    · rw [List.getElem?_append_right (by simp; omega), List.getElem?_drop]
      congr 1
      simp; omega
end Go.Proofs.YtpkmpebhlolhaaaDoor.X
