/- Plain: parts, addresses, their texts. (Stage 10.) -/
import Derived.Test.YtklplalfcpigcaaDoorFP
namespace Go.Proofs.YtklplalfcpigcaaDoor.F
set_option linter.unusedVariables false

/-! ### Parts -/
/-- What stands between dots. -/
def spl : List Int → List (List Int)
  | [] => [[]]
  | c :: l => if c = 46 then [] :: spl l else (c :: (spl l).headD []) :: (spl l).tail
theorem spl_ne : ∀ l, spl l ≠ []
  | [] => by simp [spl]
  | c :: l => by rw [spl]; split <;> simp
theorem head_tail {l : List (List Int)} (h : l ≠ []) : l.headD [] :: l.tail = l := by
  cases l with
  | nil => exact absurd rfl h
  | cons a t => rfl
theorem spl_dot (l : List Int) : spl (46 :: l) = [] :: spl l := by rw [spl, if_pos rfl]
theorem spl_plain : ∀ (p l : List Int), ¬ 46 ∈ p → spl (p ++ 46 :: l) = p :: spl l
  | [], l, _ => spl_dot l
  | c :: p, l, h => by
    have hc : c ≠ 46 := fun e => h (by simp [e])
    have ih := spl_plain p l (fun hh => h (by simp [hh]))
    show spl (c :: (p ++ 46 :: l)) = _
    rw [spl, if_neg hc, ih]; rfl
theorem spl_one : ∀ (p : List Int), ¬ 46 ∈ p → spl p = [p]
  | [], _ => rfl
  | c :: p, h => by
    have hc : c ≠ 46 := fun e => h (by simp [e])
    rw [spl, if_neg hc, spl_one p (fun hh => h (by simp [hh]))]; rfl
def join : List (List Int) → List Int
  | [] => []
  | [p] => p
  | p :: q :: r => p ++ 46 :: join (q :: r)
theorem spl_join : ∀ (ps : List (List Int)), ps ≠ [] → (∀ p ∈ ps, ¬ 46 ∈ p) → spl (join ps) = ps
  | [], h, _ => absurd rfl h
  | [p], _, h => spl_one p (h p (by simp))
  | p :: q :: r, _, h => by
    rw [join, spl_plain p _ (h p (by simp)), spl_join (q :: r) (by simp) (fun x hx => h x (by simp at hx ⊢; right; exact hx))]
theorem spl_join_dot : ∀ (ps : List (List Int)), ps ≠ [] → (∀ p ∈ ps, ¬ 46 ∈ p) → spl (join ps ++ [46]) = ps ++ [[]]
  | [], h, _ => absurd rfl h
  | [p], _, h => by
    show spl (p ++ 46 :: []) = _
    rw [spl_plain p _ (h p (by simp))]; rfl
  | p :: q :: r, _, h => by
    rw [join, List.append_assoc]
    show spl (p ++ 46 :: (join (q :: r) ++ [46])) = _
    rw [spl_plain p _ (h p (by simp)), spl_join_dot (q :: r) (by simp) (fun x hx => h x (by simp at hx ⊢; right; exact hx))]; rfl
/-- The parts of a text. -/
def prt (l : List Int) : List (List Int) := if 1 < (spl l).length ∧ (spl l).getLast? = some [] then (spl l).dropLast else spl l
theorem prt_join {ps : List (List Int)} (hne : ps ≠ []) (hd : ∀ p ∈ ps, ¬ 46 ∈ p) (hl : ps.getLast? ≠ some []) : prt (join ps) = ps := by
  unfold prt
  rw [spl_join ps hne hd, if_neg (fun h => hl h.2)]
theorem prt_dot {ps : List (List Int)} (hne : ps ≠ []) (hd : ∀ p ∈ ps, ¬ 46 ∈ p) : prt (join ps ++ [46]) = ps := by
  have hl : 0 < ps.length := List.length_pos_iff.2 hne
  unfold prt
  rw [spl_join_dot ps hne hd, if_pos ⟨by simp; omega, by simp⟩]; simp
/-! ### Addresses -/
def lg (t : Nat) : List (Nat × Int) → Bool
  | [] => false
  | [x] => decide (x.2 = 4) || decide (256 ^ (5 - t) ≤ x.1)
  | x :: y :: r => decide (x.2 = 4) || decide (255 < x.1) || lg t (y :: r)
def sm : Nat → List (Nat × Int) → Nat
  | _, [] => 0
  | _, [x] => x.1
  | i, x :: y :: r => x.1 * 256 ^ (3 - i) + sm (i + 1) (y :: r)
/-- What Parse answers of parts. -/
def adr (ps : List (List Int)) : Nat × Int :=
  if 4 < ps.length then (0, 8) else if (ps.map num).any (fun x => decide (x.2 = 8)) = true then (0, 8) else if lg ps.length (ps.map num) = true then (0, 4) else (sm 0 (ps.map num), 0)
def prs (l : List Int) : Nat × Int := adr (prt l)
/-- Whether a text ends in a number. -/
def ten (c : Int) : Bool := decide (48 ≤ c ∧ c ≤ 57)
def endP (p : List Int) : Bool := (decide (p ≠ []) && p.all ten) || (isX p && decide ((num p).2 ≠ 8))
def ends (l : List Int) : Bool := endP ((prt l).getLast?.getD [])
/-! ### Written numbers as parts -/
theorem good_ten {b : Nat} {c : Int} (hb : b ≤ 10) (h : good b c = true) : ten c = true := by
  have := of_decide_eq_true h
  unfold ten
  refine decide_eq_true ?_
  unfold hx at this
  split at this
  · assumption
  · split at this
    · omega
    · split at this <;> omega
theorem good_dot {b : Nat} {c : Int} (h : good b c = true) : c ≠ 46 := fun e => by
  rw [e] at h
  have := of_decide_eq_true h
  exact absurd this.1 (by decide)
theorem ok_dot {b : Nat} {l : List Int} (h : ok b l = true) : ¬ 46 ∈ l := fun hm => good_dot (List.all_eq_true.1 h 46 hm) rfl
theorem wrt_dot {k n : Nat} (hn : n < 2 ^ 64) : ¬ 46 ∈ wrt k n := by
  unfold wrt
  split
  · have := ok_dot (wr_ok (b := 16) (by decide) (by decide) hn).1
    simp [this]
  · split
    · have := ok_dot (wr_ok (b := 8) (by decide) (by decide) hn).1
      simp [this]
    · exact ok_dot (wr_ok (b := 10) (by decide) (by decide) hn).1
theorem wrt_ne (k n : Nat) : wrt k n ≠ [] := by
  unfold wrt
  split
  · simp
  · split
    · simp
    · exact wr_ne 10 n
theorem all_ten {b : Nat} {l : List Int} (hb : b ≤ 10) (h : ok b l = true) : l.all ten = true := List.all_eq_true.2 (fun c hc => good_ten hb (List.all_eq_true.1 h c hc))
theorem end_wrt {k n : Nat} (hn : n < 2 ^ 64) : endP (wrt k n) = true := by
  unfold endP
  by_cases h0 : k = 0
  · have hx : isX (wrt k n) = true := by unfold wrt isX; rw [if_pos h0]; simp
    have he : (num (wrt k n)).2 ≠ 8 := by rw [num_wrt hn]; split <;> simp
    rw [hx, decide_eq_true he]; simp
  · have : (wrt k n).all ten = true := by
      unfold wrt
      rw [if_neg h0]
      split
      · rw [List.all_cons, all_ten (b := 8) (by decide) (wr_ok (by decide) (by decide) hn).1]; rfl
      · exact all_ten (b := 10) (by decide) (wr_ok (by decide) (by decide) hn).1
    rw [this, decide_eq_true (wrt_ne k n)]; rfl
theorem last_ne {f : Nat → List Int} {l : List Nat} (h : ∀ i, f i ≠ []) : (l.map f).getLast? ≠ some [] := by
  intro e
  have := List.mem_of_getLast? e
  obtain ⟨i, _, hi⟩ := List.mem_map.1 this
  exact h i hi
/-- What numbers that were written come to. -/
def vals (vs : List (Nat × Nat)) : List (Nat × Int) := vs.map fun v => if 4294967296 ≤ v.2 then (0, 4) else (v.2, 0)
def wrts (vs : List (Nat × Nat)) : List (List Int) := vs.map fun v => wrt v.1 v.2
theorem wrts_num {vs : List (Nat × Nat)} (h : ∀ v ∈ vs, v.2 < 2 ^ 64) : (wrts vs).map num = vals vs := by
  unfold wrts vals
  rw [List.map_map]
  apply List.map_congr_left
  intro v hv
  exact num_wrt (h v hv)
theorem vals_form (vs : List (Nat × Nat)) : (vals vs).any (fun x => decide (x.2 = 8)) = false := by
  rw [List.any_eq_false]
  intro x hx
  obtain ⟨v, _, rfl⟩ := List.mem_map.1 hx
  split <;> simp
theorem adr_wrts {vs : List (Nat × Nat)} (h4 : vs.length ≤ 4) (h : ∀ v ∈ vs, v.2 < 2 ^ 64) : adr (wrts vs) = if lg vs.length (vals vs) = true then (0, 4) else (sm 0 (vals vs), 0) := by
  unfold adr
  have hl : (wrts vs).length = vs.length := by unfold wrts; simp
  rw [hl, if_neg (by omega), wrts_num h, vals_form, if_neg (by simp)]
theorem wrts_dot {vs : List (Nat × Nat)} (h : ∀ v ∈ vs, v.2 < 2 ^ 64) : ∀ p ∈ wrts vs, ¬ 46 ∈ p := by
  intro p hp
  obtain ⟨v, hv, rfl⟩ := List.mem_map.1 hp
  exact wrt_dot (h v hv)
theorem wrts_last {vs : List (Nat × Nat)} : (wrts vs).getLast? ≠ some [] := by
  intro e
  obtain ⟨v, _, hv⟩ := List.mem_map.1 (List.mem_of_getLast? e)
  exact wrt_ne _ _ hv
/-- Numbers that were written, with dots between, are read as these; with a dot behind them too. -/
theorem prs_wrts {vs : List (Nat × Nat)} (hne : vs ≠ []) (h4 : vs.length ≤ 4) (h : ∀ v ∈ vs, v.2 < 2 ^ 64) : prs (join (wrts vs)) = (if lg vs.length (vals vs) = true then (0, 4) else (sm 0 (vals vs), 0)) ∧ prs (join (wrts vs) ++ [46]) = (if lg vs.length (vals vs) = true then (0, 4) else (sm 0 (vals vs), 0)) := by
  have hw : wrts vs ≠ [] := by unfold wrts; simpa using hne
  unfold prs
  rw [prt_join hw (wrts_dot h) wrts_last, prt_dot hw (wrts_dot h)]
  exact ⟨adr_wrts h4 h, adr_wrts h4 h⟩
theorem ends_wrts {vs : List (Nat × Nat)} (hne : vs ≠ []) (h : ∀ v ∈ vs, v.2 < 2 ^ 64) : ends (join (wrts vs)) = true := by
  have hw : wrts vs ≠ [] := by unfold wrts; simpa using hne
  unfold ends
  rw [prt_join hw (wrts_dot h) wrts_last]
  cases hl : (wrts vs).getLast? with
  | none => exact absurd (List.getLast?_eq_none_iff.1 hl) hw
  | some p =>
    obtain ⟨v, hv, rfl⟩ := List.mem_map.1 (List.mem_of_getLast? hl)
    exact end_wrt (h v hv)
/-! ### An address in one to four parts -/
/-- The numbers of an address in n parts. -/
def cut (a n : Nat) : List Nat := match n with
  | 1 => [a]
  | 2 => [a / 16777216, a % 16777216]
  | 3 => [a / 16777216, a / 65536 % 256, a % 65536]
  | _ => [a / 16777216, a / 65536 % 256, a / 256 % 256, a % 256]
theorem cut_sum {a n : Nat} (ha : a < 4294967296) (h1 : 1 ≤ n) (h4 : n ≤ 4) {ks : List Nat} (hk : ks.length = n) : lg n (vals (ks.zip (cut a n))) = false ∧ sm 0 (vals (ks.zip (cut a n))) = a := by
  have g : ∀ x : Nat, x < 4294967296 → (if 4294967296 ≤ x then ((0 : Nat), (4 : Int)) else (x, 0)) = (x, 0) := fun x hx => if_neg (by omega)
  obtain rfl | rfl | rfl | rfl : n = 1 ∨ n = 2 ∨ n = 3 ∨ n = 4 := by omega
  · match ks, hk with
    | [k1], _ =>
      simp only [cut, List.zip_cons_cons, List.zip_nil_right, vals, List.map_cons, List.map_nil, g a ha]
      exact ⟨by simp [lg]; omega, rfl⟩
  · match ks, hk with
    | [k1, k2], _ =>
      simp only [cut, List.zip_cons_cons, List.zip_nil_right, vals, List.map_cons, List.map_nil, g (a / 16777216) (by omega), g (a % 16777216) (by omega)]
      exact ⟨by simp [lg]; omega, by simp [sm]; omega⟩
  · match ks, hk with
    | [k1, k2, k3], _ =>
      simp only [cut, List.zip_cons_cons, List.zip_nil_right, vals, List.map_cons, List.map_nil, g (a / 16777216) (by omega), g (a / 65536 % 256) (by omega), g (a % 65536) (by omega)]
      exact ⟨by simp [lg]; omega, by simp [sm]; omega⟩
  · match ks, hk with
    | [k1, k2, k3, k4], _ =>
      simp only [cut, List.zip_cons_cons, List.zip_nil_right, vals, List.map_cons, List.map_nil, g (a / 16777216) (by omega), g (a / 65536 % 256) (by omega), g (a / 256 % 256) (by omega), g (a % 256) (by omega)]
      exact ⟨by simp [lg]; omega, by simp [sm]; omega⟩
end Go.Proofs.YtklplalfcpigcaaDoor.F
