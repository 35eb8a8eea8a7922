/- Plain: the document's Text of an address, read as it; its shape. (Stage 11.) -/
import Derived.Test.YtpkmpebhlolhaaaDoorXC
namespace Go.Proofs.YtpkmpebhlolhaaaDoor.X
open Go.Proofs.YtpkmpebhlolhaaaDoor.F (hx hx_bd vl)
set_option linter.unusedVariables false

/-! ### The longest row of noughts -/
def zr (a : List Nat) (i : Nat) : Nat := ((a.drop i).takeWhile (fun v => decide (v = 0))).length
def nv (a : List Nat) (i : Nat) : Nat := a[i]?.getD 1
theorem nv_drop (a : List Nat) (i j : Nat) : nv (a.drop i) j = nv a (i + j) := by unfold nv; rw [List.getElem?_drop]
theorem tw_len : ∀ (l : List Nat) (n : Nat), n ≤ l.length → (∀ j, j < n → nv l j = 0) → (n = l.length ∨ nv l n ≠ 0) → (l.takeWhile (fun v => decide (v = 0))).length = n
  | [], n, h, _, _ => by simp at h; simp [h]
  | v :: l, 0, h, h1, h2 => by
    have hv : v ≠ 0 := by
      rcases h2 with h2 | h2
      · simp at h2
      · simpa [nv] using h2
    rw [List.takeWhile_cons_of_neg (by simpa using hv)]; rfl
  | v :: l, n + 1, h, h1, h2 => by
    have hv : v = 0 := by simpa [nv] using h1 0 (by omega)
    rw [List.takeWhile_cons_of_pos (by simpa using hv), List.length_cons]
    have := tw_len l n (by simpa using h) (fun j hj => by simpa [nv] using h1 (j + 1) (by omega)) (by
      rcases h2 with h2 | h2
      · left; simpa using h2
      · right; simpa [nv] using h2)
    rw [this]
theorem zr_eq {a : List Nat} {i n : Nat} (hl : a.length = 8) (hin : i + n ≤ 8) (h1 : ∀ j, j < n → nv a (i + j) = 0) (h2 : i + n = 8 ∨ nv a (i + n) ≠ 0) : zr a i = n := by
  refine tw_len (a.drop i) n (by simp; omega) (fun j hj => by rw [nv_drop]; exact h1 j hj) ?_
  rcases h2 with h2 | h2
  · left; simp; omega
  · right; rw [nv_drop]; exact h2
theorem tw_zero : ∀ (l : List Nat) (j : Nat), j < (l.takeWhile (fun v => decide (v = 0))).length → nv l j = 0
  | [], j, h => by simp at h
  | v :: l, j, h => by
    by_cases hv : v = 0
    · rw [List.takeWhile_cons_of_pos (by simpa using hv), List.length_cons] at h
      cases j with
      | zero => simpa [nv] using hv
      | succ j => simpa [nv] using tw_zero l j (by omega)
    · rw [List.takeWhile_cons_of_neg (by simpa using hv)] at h
      simp at h
theorem zr_zero {a : List Nat} {i j : Nat} (h : j < zr a i) : nv a (i + j) = 0 := by
  rw [← nv_drop]; exact tw_zero _ j h
theorem zr_le (a : List Nat) (i : Nat) : zr a i ≤ a.length - i := by
  unfold zr
  have := (List.takeWhile_prefix (fun v => decide (v = 0)) (l := a.drop i)).length_le
  rwa [List.length_drop] at this
theorem zr_two {a : List Nat} {i : Nat} (h0 : nv a i = 0) (h1 : nv a (i + 1) = 0) : 2 ≤ zr a i := by
  have e : ∀ l : List Nat, nv l 0 = 0 → nv l 1 = 0 → 2 ≤ (l.takeWhile (fun v => decide (v = 0))).length := fun l a0 a1 => by
    match l, a0, a1 with
    | [], a0, _ => simp [nv] at a0
    | [x], _, a1 => simp [nv] at a1
    | x :: y :: t, a0, a1 =>
      have hx : x = 0 := by simpa [nv] using a0
      have hy : y = 0 := by simpa [nv] using a1
      rw [List.takeWhile_cons_of_pos (by simpa using hx), List.takeWhile_cons_of_pos (by simpa using hy)]
      simp
  exact e (a.drop i) (by rw [nv_drop]; exact h0) (by rw [nv_drop]; exact h1)
/-- Where it begins (-1: there is none of two or more), and how long it is, among those that begin ahead of i. -/
def bs (a : List Nat) : Nat → Int × Nat
  | 0 => (-1, 1)
  | i + 1 => if (bs a i).2 < zr a i then ((i : Int), zr a i) else bs a i
theorem bs_inv (a : List Nat) : ∀ i, ((bs a i).1 = -1 ∧ (bs a i).2 = 1 ∧ ∀ j, j < i → zr a j ≤ 1) ∨ (∃ p, p < i ∧ (bs a i).1 = (p : Int) ∧ (bs a i).2 = zr a p ∧ 2 ≤ zr a p)
  | 0 => .inl ⟨rfl, rfl, fun j h => by omega⟩
  | i + 1 => by
    have ih := bs_inv a i
    rw [bs]
    by_cases h : (bs a i).2 < zr a i
    · rw [if_pos h]
      right
      refine ⟨i, by omega, rfl, rfl, ?_⟩
      rcases ih with ⟨_, h2, _⟩ | ⟨p, _, _, h2, h3⟩ <;> omega
    · rw [if_neg h]
      rcases ih with ⟨h1, h2, h3⟩ | ⟨p, h0, h1, h2, h3⟩
      · left
        refine ⟨h1, h2, fun j hj => ?_⟩
        by_cases e : j = i
        · rw [e]; omega
        · exact h3 j (by omega)
      · right
        exact ⟨p, by omega, h1, h2, h3⟩
/-- The document's Text. -/
def txt (a : List Nat) : List Int := if (bs a 8).1 < 0 then joinB 58 (a.map (hexT false false)) else gp (a.map (hexT false false)) (bs a 8).1.toNat ((bs a 8).1.toNat + (bs a 8).2) 8
/-- What there is to know of it. -/
theorem txt_two {a : List Nat} (hl : a.length = 8) : ((bs a 8).1 = -1 ∧ txt a = joinB 58 (a.map (hexT false false)) ∧ ∀ i, i + 1 < 8 → ¬ (nv a i = 0 ∧ nv a (i + 1) = 0)) ∨
    (∃ p m : Nat, (bs a 8).1 = (p : Int) ∧ (bs a 8).2 = m ∧ 2 ≤ m ∧ p + m ≤ 8 ∧ (∀ j, p ≤ j → j < p + m → nv a j = 0) ∧ txt a = joinB 58 ((a.take p).map (hexT false false)) ++ 58 :: 58 :: joinB 58 ((a.drop (p + m)).map (hexT false false))) := by
  rcases bs_inv a 8 with ⟨h1, h2, h3⟩ | ⟨p, h0, h1, h2, h3⟩
  · left
    refine ⟨h1, ?_, fun i hi hz => ?_⟩
    · unfold txt; rw [h1, if_pos (by decide)]
    · have := zr_two hz.1 hz.2
      have := h3 i (by omega)
      omega
  · right
    have hle := zr_le a p
    refine ⟨p, zr a p, h1, h2, h3, by omega, fun j hj hj2 => ?_, ?_⟩
    · have := zr_zero (a := a) (i := p) (j := j - p) (by omega)
      rwa [show p + (j - p) = j by omega] at this
    · unfold txt
      rw [h1, h2, if_neg (by omega), Int.toNat_natCast, gp_all (by omega) (by simp [hl]), List.map_take, List.map_drop]
/-- The text of an address is read as it. -/
theorem prs_txt {a : List Nat} (hl : a.length = 8) (hs : Small a) : prs (txt a) = some a := by
  rcases txt_two hl with ⟨_, h, _⟩ | ⟨p, m, _, _, h2, h8, hz, h⟩
  · rw [h, read_row hs, if_pos hl]
  · rw [h, read_gap (hs.take p) (hs.drop (p + m))]
    rw [List.length_take, List.length_drop, if_pos (by omega)]
    have := zero_mid (a := a) (i := p) (k := p + m) hl (by omega) h8 (fun j h3 h4 => hz j h3 h4)
    rw [show 8 - (a.length - (p + m)) - min p a.length = p + m - p by omega, this]
/-! ### Its shape -/
def sml (c : Int) : Bool := decide ((48 ≤ c ∧ c ≤ 57) ∨ (97 ≤ c ∧ c ≤ 102))
/-- What is left stands well, r digits and the last sign p being behind us. -/
def runs : Nat → Int → List Int → Bool
  | _, _, [] => true
  | r, p, c :: t => if c = 58 then runs 0 58 t else sml c && decide (r + 1 ≤ 4) && !(decide (r + 1 = 2) && decide (p = 48)) && runs (r + 1) c t
theorem dgc_small : ∀ d : Fin 16, sml (dgc false d.val) = true ∧ (dgc false d.val = 48 → d.val = 0) ∧ dgc false d.val ≠ 58 := by decide
theorem runs_step {r : Nat} {p : Int} {d : Nat} {t : List Int} (hd : d < 16) (hr : r + 1 ≤ 4) (h2 : ¬ (r + 1 = 2 ∧ p = 48)) : runs r p (dgc false d :: t) = runs (r + 1) (dgc false d) t := by
  have h := dgc_small ⟨d, hd⟩
  simp only at h
  rw [runs, if_neg h.2.2, h.1, decide_eq_true hr]
  have : (decide (r + 1 = 2) && decide (p = 48)) = false := by
    rw [Bool.and_eq_false_iff]
    by_cases h3 : r + 1 = 2
    · right; exact decide_eq_false (fun h4 => h2 ⟨h3, h4⟩)
    · left; exact decide_eq_false h3
  rw [this]; simp
theorem first_ne {d : Nat} (h : d < 16) (h0 : 0 < d) : dgc false d ≠ 48 := fun e => by
  have := (dgc_small ⟨d, h⟩).2.1 e
  simp only at this
  omega
/-- Over a piece. -/
theorem runs_hex {n : Nat} (h : n < 65536) (p : Int) (t : List Int) : ∃ r q, runs 0 p (hexT false false n ++ t) = runs r q t ∧ r ≤ 4 := by
  unfold hexT dgs
  simp only [Bool.false_eq_true, if_false]
  by_cases h1 : n < 16
  · rw [if_pos h1]
    exact ⟨1, _, runs_step (by omega) (by omega) (by omega), by omega⟩
  · rw [if_neg h1]
    by_cases h2 : n < 256
    · rw [if_pos h2]
      refine ⟨2, dgc false (n % 16), ?_, by omega⟩
      show runs 0 p (dgc false (n / 16) :: dgc false (n % 16) :: t) = _
      rw [runs_step (by omega) (by omega) (by omega), runs_step (by omega) (by omega) (fun hh => first_ne (by omega) (by omega) hh.2)]
    · rw [if_neg h2]
      by_cases h3 : n < 4096
      · rw [if_pos h3]
        refine ⟨3, dgc false (n % 16), ?_, by omega⟩
        show runs 0 p (dgc false (n / 256) :: dgc false (n / 16 % 16) :: dgc false (n % 16) :: t) = _
        rw [runs_step (by omega) (by omega) (by omega), runs_step (by omega) (by omega) (fun hh => first_ne (by omega) (by omega) hh.2), runs_step (by omega) (by omega) (by omega)]
      · rw [if_neg h3]
        refine ⟨4, dgc false (n % 16), ?_, by omega⟩
        show runs 0 p (dgc false (n / 4096) :: dgc false (n / 256 % 16) :: dgc false (n / 16 % 16) :: dgc false (n % 16) :: t) = _
        rw [runs_step (by omega) (by omega) (by omega), runs_step (by omega) (by omega) (fun hh => first_ne (by omega) (by omega) hh.2), runs_step (by omega) (by omega) (by omega), runs_step (by omega) (by omega) (by omega)]
theorem runs_colon (r : Nat) (p : Int) (t : List Int) : runs r p (58 :: t) = runs 0 58 t := by rw [runs, if_pos rfl]
theorem runs_join : ∀ (a : List Nat), Small a → ∀ (p : Int) (t : List Int), (t = [] ∨ ∃ u, t = 58 :: u) → (∀ q, runs 0 q t = true) → (∀ r q, r ≤ 4 → t = [] → runs r q t = true) → runs 0 p (joinB 58 (a.map (hexT false false)) ++ t) = true
  | [], _, p, t, _, h, _ => h p
  | [v], hs, p, t, ht, h, hn => by
    obtain ⟨r, q, e, hr⟩ := runs_hex (hs v (by simp)) p t
    show runs 0 p (hexT false false v ++ t) = true
    rw [e]
    rcases ht with rfl | ⟨u, rfl⟩
    · rfl
    · rw [runs_colon]
      have := h 0
      rwa [runs_colon] at this
  | v :: w :: rest, hs, p, t, ht, h, hn => by
    have ih := runs_join (w :: rest) (fun x hx => hs x (by simp at hx ⊢; right; exact hx)) 58 t ht h hn
    have e0 : joinB 58 ((v :: w :: rest).map (hexT false false)) ++ t = hexT false false v ++ 58 :: (joinB 58 ((w :: rest).map (hexT false false)) ++ t) := by
      show (hexT false false v ++ 58 :: joinB 58 ((w :: rest).map (hexT false false))) ++ t = _
      simp
    obtain ⟨r, q, e, hr⟩ := runs_hex (hs v (by simp)) p (58 :: (joinB 58 ((w :: rest).map (hexT false false)) ++ t))
    rw [e0, e, runs_colon]
    exact ih
theorem runs_txt {a : List Nat} (hl : a.length = 8) (hs : Small a) : runs 0 0 (txt a) = true := by
  have base : ∀ (l : List Nat), Small l → ∀ q, runs 0 q (joinB 58 (l.map (hexT false false))) = true := fun l h q => by
    have := runs_join l h q [] (.inl rfl) (fun _ => rfl) (fun _ _ _ _ => rfl)
    rwa [List.append_nil] at this
  rcases txt_two hl with ⟨_, h, _⟩ | ⟨p, m, _, _, h2, h8, hz, h⟩
  · rw [h]; exact base a hs 0
  · rw [h]
    refine runs_join (a.take p) (hs.take p) 0 _ (.inr ⟨_, rfl⟩) (fun q => ?_) (fun r q hr e => by cases e)
    rw [runs_colon, runs_colon]
    exact base _ (hs.drop _) 58
theorem cc_txt {a : List Nat} (hl : a.length = 8) (hs : Small a) : cc (txt a) = if (bs a 8).1 < 0 then 0 else 1 := by
  have base : ∀ (l : List Nat), Small l → cc (joinB 58 (l.map (hexT false false))) = 0 ∧ (joinB 58 (l.map (hexT false false))).getLast? ≠ some 58 ∧ (joinB 58 (l.map (hexT false false))).head? ≠ some 58 := fun l h => by
    cases hl2 : l with
    | nil => exact ⟨rfl, by simp [joinB], by simp [joinB]⟩
    | cons v r =>
      rw [← hl2]
      have := join_ends (l.map (hexT false false)) (by rw [hl2]; simp) (map_txt h)
      exact ⟨this.2.2.2, this.2.1, this.2.2.1⟩
  rcases txt_two hl with ⟨h1, h, _⟩ | ⟨p, m, h1, _, h2, h8, hz, h⟩
  · rw [h, h1, if_pos (by decide)]; exact (base a hs).1
  · rw [h, h1, if_neg (by omega)]
    obtain ⟨f1, f2, f3⟩ := base _ (hs.take p)
    obtain ⟨b1, b2, b3⟩ := base _ (hs.drop (p + m))
    have e : joinB 58 ((a.take p).map (hexT false false)) ++ 58 :: 58 :: joinB 58 ((a.drop (p + m)).map (hexT false false)) = (joinB 58 ((a.take p).map (hexT false false)) ++ [58]) ++ ([58] ++ joinB 58 ((a.drop (p + m)).map (hexT false false))) := by simp
    rw [e, cc_app, cc_app, cc_app, f1, b1, if_neg (fun hh => f2 hh.1), if_neg (fun hh => b3 hh.2), if_pos ⟨by simp, by simp⟩]; rfl
/-- Whether two noughts stand side by side. -/
def zz (a : List Nat) : Bool := (List.range 7).any (fun i => decide (nv a i = 0) && decide (nv a (i + 1) = 0))
theorem zz_txt {a : List Nat} (hl : a.length = 8) : zz a = decide (¬ (bs a 8).1 < 0) := by
  rcases txt_two hl with ⟨h1, _, h⟩ | ⟨p, m, h1, _, h2, h8, hz, _⟩
  · rw [h1, decide_eq_false (by decide)]
    unfold zz
    rw [List.any_eq_false]
    intro i hi
    have := h i (by have := List.mem_range.1 hi; omega)
    simpa using this
  · rw [h1, decide_eq_true (by omega)]
    unfold zz
    rw [List.any_eq_true]
    exact ⟨p, List.mem_range.2 (by omega), by simp [hz p (by omega) (by omega), hz (p + 1) (by omega) (by omega)]⟩
theorem join_len : ∀ (a : List Nat), (joinB 58 (a.map (hexT false false))).length + 1 ≤ 5 * a.length + 1 ∧ (0 < a.length → 2 * a.length ≤ (joinB 58 (a.map (hexT false false))).length + 1 ∧ (joinB 58 (a.map (hexT false false))).length + 1 ≤ 5 * a.length)
  | [] => by simp [joinB]
  | [v] => by
    have := hexT_len false false v
    show (hexT false false v).length + 1 ≤ _ ∧ (_ → _ ≤ (hexT false false v).length + 1 ∧ (hexT false false v).length + 1 ≤ _)
    simp only [List.length_cons, List.length_nil]
    omega
  | v :: w :: r => by
    have h := hexT_len false false v
    have ih := (join_len (w :: r)).2 (by simp)
    have e : (joinB 58 ((v :: w :: r).map (hexT false false))).length = (hexT false false v).length + ((joinB 58 ((w :: r).map (hexT false false))).length + 1) := by
      show (hexT false false v ++ 58 :: joinB 58 ((w :: r).map (hexT false false))).length = _
      simp
    rw [e]
    simp only [List.length_cons] at ih ⊢
    omega
theorem txt_len {a : List Nat} (hl : a.length = 8) : 2 ≤ (txt a).length ∧ (txt a).length ≤ 39 := by
  rcases txt_two hl with ⟨_, h, _⟩ | ⟨p, m, _, _, h2, h8, hz, h⟩
  · rw [h]
    have := (join_len a).2 (by omega)
    omega
  · rw [h]
    have f := (join_len (a.take p)).1
    have b := (join_len (a.drop (p + m))).1
    rw [List.length_take] at f
    rw [List.length_drop] at b
    simp only [List.length_append, List.length_cons]
    omega
end Go.Proofs.YtpkmpebhlolhaaaDoor.X
