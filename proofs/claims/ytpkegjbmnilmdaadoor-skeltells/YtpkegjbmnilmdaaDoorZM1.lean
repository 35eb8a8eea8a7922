/- Texts of one layer, one behind the other: MA MB MC. -/
import Derived.Test.YtpkegjbmnilmdaaDoorZD3
import Derived.Test.YtpkegjbmnilmdaaDoorZN8
import Derived.Test.YtpkegjbmnilmdaaDoorZN10
import Derived.Test.YtpkegjbmnilmdaaDoorZU5
/- Plain: what a text looks like: the skeleton of a row of code points, and that it rests. -/
namespace Go.Proofs.YtpkegjbmnilmdaaDoor.S
open Go.RowKit
set_option linter.unusedVariables false

/-! ### The skeleton -/
/-- What is not left out. -/
def kp (c : Int) : Bool := !(decide (c = 173) || decide (c = 8204) || decide (c = 8205))
def lks (l : List Int) : List Int := (l.filter kp).flatMap D.lk
def skl (l : List Int) : List Int := N.nfdI (lks (N.nfdI l))
theorem like_ok : ∀ p ∈ D.likeT, ∀ y ∈ p.2, D.dcp y = [] ∧ D.lk y = [y] ∧ kp y = true ∧ U.scal y = true := by decide +kernel
theorem like_two : ∀ p ∈ D.likeT, p.2.length ≤ 2 ∧ (p.2.length ≤ 1 ∨ p.1 = 109) := by decide +kernel
theorem lk_none {x : Int} (h : D.likeT.lookup x = none) : D.lk x = [x] := by unfold D.lk; rw [h]; rfl
theorem lk_some {x : Int} {v : List Int} (h : D.likeT.lookup x = some v) : D.lk x = v := by unfold D.lk; rw [h]; rfl
theorem lk_len (x : Int) : (D.lk x).length ≤ 2 := by
  cases h : D.likeT.lookup x with
  | none => rw [lk_none h]; simp
  | some v => rw [lk_some h]; exact (like_two _ (D.lookup_mem h)).1
theorem lk_bare {x y : Int} (hx : D.dcp x = []) (hk : kp x = true) (hy : y ∈ D.lk x) : D.dcp y = [] ∧ D.lk y = [y] ∧ kp y = true := by
  cases h : D.likeT.lookup x with
  | none =>
    rw [lk_none h] at hy
    simp at hy
    subst hy
    exact ⟨hx, lk_none h, hk⟩
  | some v =>
    rw [lk_some h] at hy
    obtain ⟨h1, h2, h3, _⟩ := like_ok _ (D.lookup_mem h) y hy
    exact ⟨h1, h2, h3⟩
theorem nfd_mem {l : List Int} {c : Int} (h : c ∈ N.nfdI l) : ∃ r ∈ l, c ∈ N.fd r := by
  unfold N.nfdI at h
  obtain ⟨p, hp, rfl⟩ := List.mem_map.1 h
  have hm := (N.ord_perm _).mem_iff.1 hp
  obtain ⟨c, hc, rfl⟩ := List.mem_map.1 hm
  exact List.mem_flatMap.1 hc
theorem nfd_bare {l : List Int} {c : Int} (h : c ∈ N.nfdI l) : D.dcp c = [] := by
  obtain ⟨r, _, hc⟩ := nfd_mem h
  exact N.fd_done hc
theorem flat_bare : ∀ {l : List Int}, (∀ c ∈ l, D.dcp c = []) → l.flatMap N.fd = l
  | [], _ => rfl
  | c :: l, h => by rw [List.flatMap_cons, N.fd_nil (h c (by simp)), flat_bare (fun x hx => h x (by simp [hx]))]; rfl
theorem nfd_bare_mem {l : List Int} (hb : ∀ c ∈ l, D.dcp c = []) {c : Int} (h : c ∈ N.nfdI l) : c ∈ l := by
  obtain ⟨r, hr, hc⟩ := nfd_mem h
  rw [N.fd_nil (hb r hr)] at hc
  simp at hc
  rw [hc]; exact hr
theorem nfd_bare_len {l : List Int} (hb : ∀ c ∈ l, D.dcp c = []) : (N.nfdI l).length = l.length := by
  unfold N.nfdI
  rw [List.length_map, N.ord_len, List.length_map, flat_bare hb]
theorem lks_ok {l : List Int} (hb : ∀ x ∈ l, D.dcp x = []) {c : Int} (h : c ∈ lks l) : D.dcp c = [] ∧ D.lk c = [c] ∧ kp c = true := by
  obtain ⟨x, hx, hc⟩ := List.mem_flatMap.1 h
  obtain ⟨hx, hk⟩ := List.mem_filter.1 hx
  exact lk_bare (hb x hx) hk hc
theorem skl_ok (l : List Int) {c : Int} (h : c ∈ skl l) : D.dcp c = [] ∧ D.lk c = [c] ∧ kp c = true := by
  have hb : ∀ x ∈ N.nfdI l, D.dcp x = [] := fun x hx => nfd_bare hx
  exact lks_ok hb (nfd_bare_mem (fun x hx => (lks_ok hb hx).1) h)
theorem lks_id : ∀ {l : List Int}, (∀ c ∈ l, D.lk c = [c] ∧ kp c = true) → lks l = l
  | [], _ => rfl
  | c :: l, h => by
    have ih := lks_id (l := l) (fun x hx => h x (by simp [hx]))
    unfold lks at ih ⊢
    rw [List.filter_cons_of_pos (h c (by simp)).2, List.flatMap_cons, ih, (h c (by simp)).1]; rfl
/-- The skeleton of a skeleton is itself. -/
theorem skl_skl (l : List Int) : skl (skl l) = skl l := by
  have e : N.nfdI (skl l) = skl l := N.nfd_nfd _
  show N.nfdI (lks (N.nfdI (skl l))) = skl l
  rw [e, lks_id (fun c hc => (skl_ok l hc).2), e]
/-- What is put together alike looks alike. -/
theorem skl_nfc (l : List Int) : skl (N.nfcI l) = skl l := by unfold skl; rw [N.nfd_nfc]
theorem skl_of_nfc {a b : List Int} (h : N.nfcI a = N.nfcI b) : skl a = skl b := by rw [← skl_nfc a, h, skl_nfc]

/-! ### Scalars, and how long -/
theorem keys_scal : ∀ k ∈ N.keys, (∀ c ∈ N.fd k, U.scal c = true) ∧ 2 * (N.fd k).length ≤ 3 * (U.enc k).length := by decide +kernel
theorem fd_scal {r c : Int} (h : U.scal r = true) (hc : c ∈ N.fd r) : U.scal c = true := by
  by_cases hd : D.dcp r = []
  · rw [N.fd_nil hd] at hc; simp at hc; rw [hc]; exact h
  · exact (keys_scal r (N.keys_of (r := r) (by simpa using hd))).1 c hc
theorem nfd_scal {l : List Int} (h : ∀ c ∈ l, U.scal c = true) : ∀ c ∈ N.nfdI l, U.scal c = true := fun c hc => by
  obtain ⟨r, hr, hc⟩ := nfd_mem hc
  exact fd_scal (h r hr) hc
theorem lk_scal {r c : Int} (h : U.scal r = true) (hc : c ∈ D.lk r) : U.scal c = true := by
  cases hl : D.likeT.lookup r with
  | none => rw [lk_none hl] at hc; simp at hc; rw [hc]; exact h
  | some v => rw [lk_some hl] at hc; exact (like_ok _ (D.lookup_mem hl) c hc).2.2.2
theorem lks_scal {l : List Int} (h : ∀ c ∈ l, U.scal c = true) : ∀ c ∈ lks l, U.scal c = true := fun c hc => by
  obtain ⟨x, hx, hc⟩ := List.mem_flatMap.1 hc
  exact lk_scal (h x (List.mem_filter.1 hx).1) hc
theorem skl_scal {l : List Int} (h : ∀ c ∈ l, U.scal c = true) : ∀ c ∈ skl l, U.scal c = true := nfd_scal (lks_scal (nfd_scal h))
theorem enc_pos (r : Int) : 1 ≤ (U.enc r).length := by unfold U.enc; (repeat' split) <;> simp
theorem fd_enc (r : Int) : 2 * (N.fd r).length ≤ 3 * (U.enc r).length := by
  by_cases hd : D.dcp r = []
  · have := enc_pos r
    rw [N.fd_nil hd, List.length_cons, List.length_nil]; omega
  · exact (keys_scal r (N.keys_of (r := r) (by simpa using hd))).2
theorem fd_fffd : (N.fd 65533).length = 1 := by decide +kernel
theorem fd_nx (l : List Int) (h : l ≠ []) (hl : U.Bytes l) : 2 * (N.fd (U.nx l).1).length ≤ 3 * (U.nx l).2.1 := by
  by_cases hw : (U.nx l).2.2 = true
  · have h2 := congrArg List.length (U.nx_whole l h hl hw).2.1
    have h3 := fd_enc (U.nx l).1
    have h5 := U.nx_n l h
    rw [List.length_take] at h2
    omega
  · rcases U.nx_inv l h hl with ⟨a, t, rfl, _, _, e⟩ | ⟨a, b, t, rfl, _, _, _, _, e⟩ | ⟨a, b, c, t, rfl, _, _, _, _, _, _, e⟩ | ⟨a, b, c, d, t, rfl, _, _, _, _, _, _, _, _, e⟩ | ⟨n, h1, _, e⟩
    · rw [e] at hw; exact absurd rfl hw
    · rw [e] at hw; exact absurd rfl hw
    · rw [e] at hw; exact absurd rfl hw
    · rw [e] at hw; exact absurd rfl hw
    · rw [e]
      show 2 * (N.fd 65533).length ≤ 3 * n
      rw [fd_fffd]; omega
theorem fds_bytes : ∀ (n : Nat) (l : List Int), l.length ≤ n → U.Bytes l → 2 * ((U.dec l).flatMap N.fd).length ≤ 3 * l.length
  | n, [], _, _ => by rw [U.dec_nil]; simp
  | 0, a :: t, h, _ => by simp at h
  | n + 1, a :: t, h, hB => by
    have hn := U.nx_n (a :: t) (by simp)
    have ih := fds_bytes n ((a :: t).drop (U.nx (a :: t)).2.1) (by rw [List.length_drop]; simp at h ⊢; omega) (hB.drop _)
    have hf := fd_nx (a :: t) (by simp) hB
    rw [U.dec_cons (a :: t) (by simp) hB, List.flatMap_cons, List.length_append]
    rw [List.length_drop] at ih
    omega
theorem nfd_len {l : List Int} (hB : U.Bytes l) : 2 * (N.nfdI (U.dec l)).length ≤ 3 * l.length := by
  unfold N.nfdI
  rw [List.length_map, N.ord_len, List.length_map]
  exact fds_bytes l.length l (Nat.le_refl _) hB
theorem lks_len : ∀ l : List Int, (lks l).length ≤ 2 * l.length
  | [] => by simp [lks]
  | c :: l => by
    have ih := lks_len l
    have h2 := lk_len c
    unfold lks at ih ⊢
    rw [List.filter_cons]
    split
    · rw [List.flatMap_cons, List.length_append, List.length_cons]; omega
    · rw [List.length_cons]; omega
theorem skl_len {l : List Int} (hB : U.Bytes l) : (skl (U.dec l)).length ≤ 3 * l.length := by
  have hb : ∀ x ∈ N.nfdI (U.dec l), D.dcp x = [] := fun x hx => nfd_bare hx
  have h1 := nfd_len hB
  have h2 := lks_len (N.nfdI (U.dec l))
  unfold skl
  rw [nfd_bare_len (fun x hx => (lks_ok hb hx).1)]
  omega

/-! ### Small letters -/
/-- A code point that is nothing but itself. -/
def own (c : Int) : Prop := D.dcp c = [] ∧ N.cl c = 0 ∧ D.lk c = [c] ∧ kp c = true
theorem own_inO : ∀ {l : List Int}, (∀ c ∈ l, N.cl c = 0) → N.inO (l.map N.pt)
  | [], _ => trivial
  | [_], _ => trivial
  | a :: b :: l, h => by
    refine ⟨.inl (h b (by simp)), ?_⟩
    exact own_inO (l := b :: l) (fun c hc => h c (by simp at hc ⊢; rcases hc with rfl | hc <;> simp [*]))
theorem nfd_own {l : List Int} (h : ∀ c ∈ l, D.dcp c = [] ∧ N.cl c = 0) : N.nfdI l = l := by
  unfold N.nfdI
  rw [flat_bare (fun c hc => (h c hc).1), N.ord_id _ (own_inO (fun c hc => (h c hc).2)), List.map_map]
  exact (List.map_congr_left (fun c _ => rfl)).trans (List.map_id l)
theorem skl_own {l : List Int} (h : ∀ c ∈ l, own c) : skl l = l := by
  have e := nfd_own (l := l) (fun c hc => ⟨(h c hc).1, (h c hc).2.1⟩)
  unfold skl
  rw [e, lks_id (fun c hc => (h c hc).2.2), e]
theorem own_letter : ∀ c : Fin 26, c.val ≠ 12 → own (97 + (c.val : Int)) := by unfold own; decide +kernel
theorem skl_m {l : List Int} (h : ∀ c ∈ l, own c) : skl (l ++ [109]) = skl (l ++ [114, 110]) := by
  have e1 : N.nfdI (l ++ [109]) = l ++ [109] := nfd_own (fun c hc => by
    rcases List.mem_append.1 hc with hc | hc
    · exact ⟨(h c hc).1, (h c hc).2.1⟩
    · simp at hc; subst hc; decide +kernel)
  have e2 : N.nfdI (l ++ [114, 110]) = l ++ [114, 110] := nfd_own (fun c hc => by
    rcases List.mem_append.1 hc with hc | hc
    · exact ⟨(h c hc).1, (h c hc).2.1⟩
    · simp at hc; rcases hc with rfl | rfl <;> decide +kernel)
  have e3 : lks (l ++ [109]) = lks (l ++ [114, 110]) := by
    unfold lks
    rw [List.filter_append, List.filter_append, List.flatMap_append, List.flatMap_append]
    congr 1
  unfold skl
  rw [e1, e2, e3]
end Go.Proofs.YtpkegjbmnilmdaaDoor.S
/- Plain: in which scripts a row of code points is written, and how far it mixes them. -/
namespace Go.Proofs.YtpkegjbmnilmdaaDoor.S
open Go.RowKit
set_option linter.unusedVariables false

/-! ### Scripts -/
def scr (r : Int) : Int := (D.fnd r).2.2.2.1
/-- The scripts that are told, by their numbers. -/
def nums : List Int := [2, 3, 4, 5, 6, 7, 8, 9, 10, 11]
def hasS (l : List Int) (x : Int) : Bool := l.any (fun r => decide (scr r = x))
def scs (l : List Int) : List Int := nums.filter (hasS l)
theorem scs_mem {l : List Int} {x : Int} : x ∈ scs l ↔ x ∈ nums ∧ hasS l x = true := List.mem_filter
theorem hasS_append (a b : List Int) (x : Int) : hasS (a ++ b) x = (hasS a x || hasS b x) := by unfold hasS; exact List.any_append
theorem filt_sub {p q : Int → Bool} (h : ∀ x, p x = true → q x = true) : ∀ l : List Int, (l.filter p).Sublist (l.filter q)
  | [] => List.Sublist.refl _
  | x :: l => by
    have ih := filt_sub h l
    rw [List.filter_cons, List.filter_cons]
    by_cases hp : p x = true
    · rw [if_pos hp, if_pos (h x hp)]; exact ih.cons_cons x
    · rw [if_neg hp]
      split
      · exact ih.cons x
      · exact ih
theorem scs_left (a b : List Int) : (scs a).Sublist (scs (a ++ b)) := filt_sub (fun x h => by rw [hasS_append, h]; rfl) nums
theorem scs_right (a b : List Int) : (scs b).Sublist (scs (a ++ b)) := filt_sub (fun x h => by rw [hasS_append, h, Bool.or_true]) nums
theorem scs_len (l : List Int) : (scs l).length ≤ 10 := List.length_filter_le _ nums
theorem nums_bd : ∀ x ∈ nums, 2 ≤ x ∧ x ≤ 11 := by decide
theorem scs_bd {l : List Int} {x : Int} (h : x ∈ scs l) : 2 ≤ x ∧ x ≤ 11 := nums_bd x (scs_mem.1 h).1
theorem nums_up : nums.Pairwise (· < ·) := by decide
theorem scs_up (l : List Int) : (scs l).Pairwise (· < ·) := nums_up.filter _

/-! ### Levels -/
def high (x : Int) : Bool := decide (x = 2) || decide (x = 8) || decide (x = 9) || decide (x = 10)
def mix (m : List Int) : Int := if m.length ≤ 1 then 2 else if m.all high = true then 3 else if m.length = 2 ∧ 2 ∈ m ∧ ¬ 3 ∈ m ∧ ¬ 4 ∈ m then 4 else 5
def lev (a : Bool) (m : List Int) : Int := if a = true then 1 else mix m
theorem mix_bd (m : List Int) : 2 ≤ mix m ∧ mix m ≤ 5 := by unfold mix; (repeat' split) <;> omega
theorem mix_up {m n : List Int} (h : m.Sublist n) : mix m ≤ mix n := by
  have hl := h.length_le
  by_cases h1 : m.length ≤ 1
  · have : mix m = 2 := by unfold mix; rw [if_pos h1]
    have := mix_bd n
    omega
  · have h1' : ¬ n.length ≤ 1 := by omega
    by_cases h2 : m.all high = true
    · have e : mix m = 3 := by unfold mix; rw [if_neg h1, if_pos h2]
      have : 3 ≤ mix n := by unfold mix; rw [if_neg h1']; (repeat' split) <;> omega
      omega
    · have h2' : ¬ n.all high = true := fun hn => h2 (List.all_eq_true.2 (fun x hx => List.all_eq_true.1 hn x (h.subset hx)))
      have a : mix m = if m.length = 2 ∧ 2 ∈ m ∧ ¬ 3 ∈ m ∧ ¬ 4 ∈ m then 4 else 5 := by rw [mix, if_neg h1, if_neg h2]
      have b : mix n = if n.length = 2 ∧ 2 ∈ n ∧ ¬ 3 ∈ n ∧ ¬ 4 ∈ n then 4 else 5 := by rw [mix, if_neg h1', if_neg h2']
      rw [a, b]
      by_cases h3 : n.length = 2 ∧ 2 ∈ n ∧ ¬ 3 ∈ n ∧ ¬ 4 ∈ n
      · have e : m = n := h.eq_of_length (by omega)
        rw [e]; exact Int.le_refl _
      · rw [if_neg h3]
        split <;> omega
theorem lev_bd (a : Bool) (m : List Int) : 1 ≤ lev a m ∧ lev a m ≤ 5 := by
  have := mix_bd m
  unfold lev; split <;> omega
theorem lev_up {a b : Bool} {m n : List Int} (h : m.Sublist n) (hab : b = true → a = true) : lev a m ≤ lev b n := by
  unfold lev
  have h1 := mix_up h
  have h2 := mix_bd n
  by_cases hb : b = true
  · rw [if_pos hb, if_pos (hab hb)]; exact Int.le_refl _
  · rw [if_neg hb]
    split <;> omega

/-! ### ASCII alone -/
def asc (l : List Int) : Bool := l.all (fun c => decide (c < 128))
theorem asc_append (a b : List Int) : asc (a ++ b) = (asc a && asc b) := by unfold asc; exact List.all_append
theorem asc_cons (a : Int) (l : List Int) : asc (a :: l) = (decide (a < 128) && asc l) := rfl
/-- All bytes are below 80, or all code points: the same. -/
theorem asc_dec : ∀ (n : Nat) (l : List Int), l.length ≤ n → U.Bytes l → asc (U.dec l) = asc l
  | n, [], _, _ => rfl
  | 0, a :: t, h, _ => by simp at h
  | n + 1, x :: t, h, hB => by
    have hn := U.nx_n (x :: t) (by simp)
    have ih := asc_dec n ((x :: t).drop (U.nx (x :: t)).2.1) (by rw [List.length_drop]; simp at h ⊢; omega) (hB.drop _)
    rw [U.dec_cons (x :: t) (by simp) hB, asc_cons, asc_cons]
    by_cases hx : x < 128
    · rw [U.nx_w1 x t hx] at ih ⊢
      simp only [List.drop_succ_cons, List.drop_zero] at ih ⊢
      rw [ih]
    · have hw : ¬ (U.nx (x :: t)).1 < 128 := by
        have hlo := U.low_ge
        rcases U.nx_inv (x :: t) (by simp) hB with ⟨a, t', e1, h0, h1, e⟩ | ⟨a, b, t', e1, h1, h2, h3, h4, e⟩ | ⟨a, b, c, t', e1, h1, h2, h3, h4, h5, h6, e⟩ | ⟨a, b, c, d, t', e1, h1, h2, h3, h4, h5, h6, h7, h8, e⟩ | ⟨k, h1, _, e⟩
        · obtain ⟨rfl, rfl⟩ := List.cons.inj e1
          omega
        · rw [e]; simp only; omega
        · rw [e]; simp only
          have : 224 < a ∨ 160 ≤ b := by
            by_cases ha : a = 224
            · right; subst ha; have h3' := h3; unfold U.lowOf at h3'; simpa using h3'
            · left; omega
          have := hlo a
          omega
        · rw [e]; simp only
          have : 240 < a ∨ 144 ≤ b := by
            by_cases ha : a = 240
            · right; subst ha; have h3' := h3; unfold U.lowOf at h3'; simpa using h3'
            · left; omega
          have := hlo a
          omega
        · rw [e]; simp only; omega
      rw [decide_eq_false hw, decide_eq_false hx]; rfl

/-! ### How many, each once -/
def cnt (A : List Int) : Nat := (nums.filter (fun x => A.contains x)).length
theorem filt_more (x : Int) (p q : Int → Bool) (hq : ∀ y, q y = (p y || decide (y = x))) : ∀ (l : List Int), l.Nodup → x ∈ l → p x = false → (l.filter q).length = (l.filter p).length + 1
  | [], _, h, _ => by simp at h
  | y :: l, hn, h, hp => by
    obtain ⟨hy, hn'⟩ := List.nodup_cons.1 hn
    rw [List.filter_cons, List.filter_cons]
    by_cases e : y = x
    · subst e
      rw [if_pos (by rw [hq]; simp), if_neg (by rw [hp]; simp), List.length_cons]
      congr 2
      apply List.filter_congr
      intro z hz
      rw [hq]
      have : z ≠ y := fun e => hy (e ▸ hz)
      simp [this]
    · have ih := filt_more x p q hq l hn' (by rcases List.mem_cons.1 h with h | h; exact absurd h.symm e; exact h) hp
      have hqy : q y = p y := by rw [hq]; simp [e]
      rw [hqy]
      split
      · rw [List.length_cons, List.length_cons, ih]
      · exact ih
theorem cnt_more {A : List Int} {x : Int} (hx : x ∈ nums) (h : ¬ x ∈ A) : cnt (A ++ [x]) = cnt A + 1 :=
  filt_more x _ _ (fun y => by simp [List.contains_eq_mem, List.mem_append, Bool.decide_or]) nums (by decide) hx (by simpa using h)
theorem cnt_same {A : List Int} {x : Int} (h : x ∈ A) : cnt (A ++ [x]) = cnt A := by
  unfold cnt
  congr 1
  apply List.filter_congr
  intro y _
  by_cases e : y = x
  · subst e; simp [h]
  · simp [e]
theorem cnt_nil : cnt [] = 0 := by decide
theorem cnt_scs (a b : List Int) : cnt (scs a ++ scs b) = (scs (a ++ b)).length := by
  unfold cnt scs
  congr 1
  apply List.filter_congr
  intro y hy
  rw [hasS_append, Bool.eq_iff_iff]
  simp [hy]
end Go.Proofs.YtpkegjbmnilmdaaDoor.S
/- The document's Skeleton. -/
namespace Go.Proofs.YtpkegjbmnilmdaaDoor.S
open Go.RowKit
set_option linter.unusedVariables false

theorem hid {p : Prop} (h : p) : Hid p := h
theorem ints_form {w : World} {v : Value} {L : List Int} (h : U.IntsAt w v L) : ∃ a c, v = .slice a L.length c ∧ (0 < L.length → ∃ b off, a = some ⟨b, off, none⟩ ∧ ∀ j, j < L.length → w.cell? ⟨b, off + j, none⟩ = some (.int .i32 (L[j]?.getD 0))) := by
  rcases h with ⟨rfl, x, c, rfl⟩ | ⟨hp, b, off, c, rfl, h⟩
  · exact ⟨x, c, rfl, fun h => by simp at h⟩
  · exact ⟨_, c, rfl, fun _ => ⟨b, off, rfl, h⟩⟩
theorem cell_at {w wr : World} {a : Option Addr} {n : Nat} {L : List Int} (hf : 0 < n → ∃ b off, a = some ⟨b, off, none⟩ ∧ ∀ j, j < n → w.cell? ⟨b, off + j, none⟩ = some (.int .i32 (L[j]?.getD 0))) (hB : Below w.heap.size w wr) (k : Nat) (hk : k < n) :
    ∃ b off, a = some ⟨b, off, none⟩ ∧ wr.cell? ⟨b, off + k, none⟩ = some (.int .i32 (L[k]?.getD 0)) := by
  obtain ⟨b, off, e, hc⟩ := hf (by omega)
  exact ⟨b, off, e, (hB.cell (p := ⟨b, off + k, none⟩) (U.lt_of_cell (hc k hk))).trans (hc k hk)⟩
theorem take_one (L : List Int) (k : Nat) (h : k < L.length) : L.take (k + 1) = L.take k ++ [L[k]?.getD 0] := by
  rw [List.take_succ_eq_append_getElem h, List.getElem?_eq_getElem h]; rfl
theorem own_sh21 {base n : Nat} {v : Value} {X : List Value} {W : World} (h : W.ownsRow base 21 1 v n X) : ∃ a cap, v = .slice a n cap := by
  rcases h.2 with ⟨rfl, h0⟩ | ⟨g, cap, cur, rfl, _⟩
  · exact ⟨none, 0, by rw [h0]⟩
  · exact ⟨_, cap, rfl⟩
/-- What Like has answered of one code point may be appended. -/
theorem ans_src {W : World} {v : Value} {zs : List Int} (h : D.IntsAt W v zs) : U.SrcInts W v zs := by
  obtain ⟨a, cap, rfl, ⟨h1, h2⟩, h3⟩ := h
  cases a with
  | none =>
    have h0 : zs.length = 0 := Nat.eq_zero_of_not_pos (fun hp => by obtain ⟨b, e, _⟩ := h3 hp; cases e)
    have e1 := h1 rfl
    exact .inl ⟨by rw [h0, e1], List.length_eq_zero_iff.1 h0⟩
  | some ad =>
    refine .inr ⟨ad, cap, rfl, fun j hj => ?_⟩
    obtain ⟨b, e, hg⟩ := h3 (by omega)
    cases e
    rw [U.addr_add0]
    simp [World.cell?, hg, List.getElem?_eq_getElem hj]
theorem lks_append (a b : List Int) : lks (a ++ b) = lks a ++ lks b := by unfold lks; rw [List.filter_append, List.flatMap_append]
theorem lks_keep (l : List Int) (k : Nat) (hk : k < l.length) (h : kp (l[k]?.getD 0) = true) : lks (l.take (k + 1)) = lks (l.take k) ++ D.lk (l[k]?.getD 0) := by
  rw [take_one l k hk, lks_append]
  congr 1
  unfold lks
  rw [List.filter_cons_of_pos h]; simp
theorem lks_drop (l : List Int) (k : Nat) (hk : k < l.length) (h : kp (l[k]?.getD 0) = false) : lks (l.take (k + 1)) = lks (l.take k) := by
  rw [take_one l k hk, lks_append]
  have : lks [l[k]?.getD 0] = [] := by unfold lks; rw [List.filter_cons_of_neg (by rw [h]; simp)]; rfl
  rw [this, List.append_nil]
theorem dec_scs (s : ByteArray) : ∀ c ∈ U.dec (U.bn s), U.scal c = true := List.all_eq_true.1 (U.dec_scal (U.bn s).length (U.bn s) (Nat.le_refl _) (U.bn_bytes s))
/-- What Skeleton answers of a text in which L stands. -/
def SklR (L : List Int) (w : World) (e : Ending) (W' : World) : Prop := (∃ t, e = .returned (.string t) ∧ U.bn t = U.encs (skl L)) ∧ Below w.heap.size w W'
set_option maxRecDepth 100000 in
set_option maxHeartbeats 8000000 in
theorem rskel_any (s : ByteArray) (w : World) (hs : s.size ≤ 10000) (hl : (N.nfdI (U.dec (U.bn s))).length ≤ 5000) :
    Calls Tryd.prog 9 #[.string s] w fun e W' => SklR (U.dec (U.bn s)) w e W' := by
  have hdl := U.dec_len (U.bn s).length (U.bn s) (Nat.le_refl _) (U.bn_bytes s)
  rw [U.bn_length] at hdl
  have HDEC := hid (U.refDecode_any s (by omega) w)
  have HSC : Hid (∀ c ∈ skl (U.dec (U.bn s)), U.scal c = true) := skl_scal (dec_scs s)
  obtain ⟨L, hL⟩ : ∃ L, U.dec (U.bn s) = L := ⟨_, rfl⟩
  rw [hL] at HDEC hl HSC hdl ⊢
  have HMB : Hid (∀ x ∈ N.nfdI L, D.dcp x = []) := fun x hx => nfd_bare hx
  have HSK : Hid (skl L = N.nfdI (lks (N.nfdI L))) := rfl
  have HNF := hid (fun v W (h : U.IntsAt W v L) => N.rnfd_any v L W (by omega) h)
  obtain ⟨M, hM⟩ : ∃ M, N.nfdI L = M := ⟨_, rfl⟩
  obtain ⟨S, hS⟩ : ∃ S, skl L = S := ⟨_, rfl⟩
  have HGS : Hid (∀ e W, ((∃ t, e = .returned (.string t) ∧ U.bn t = U.encs S) ∧ Below w.heap.size w W) → SklR L w e W) := by rw [← hS]; exact fun e W h => h
  rw [hM] at hl HMB HSK HNF
  rw [hS] at HSC HSK
  obtain ⟨n, hn⟩ : ∃ n, M.length = n := ⟨_, rfl⟩
  have HN := hid hn
  rw [hn] at hl
  clear hL hM hS hn
  go_enter Tryd.func9, Tryd.ntmps9
  go_wp2_with fail
  refine (show Calls _ _ _ _ _ from HDEC.out).mono ?_
  rintro e w0 ⟨v0, rfl, r0, B0⟩
  have HN0 := hid (HNF.out v0 w0 (U.IntsAt.own rfl r0))
  have HB0 := hid B0
  clear r0 B0 HDEC HNF
  go_wp2_with fail
  refine (show Calls _ _ _ _ _ from HN0.out).mono ?_
  rintro e w1 ⟨v1, rfl, r1, B1⟩
  rw [HN.out] at r1
  obtain ⟨a1, c1, rfl⟩ := own_sh21 r1
  have HI := hid (U.IntsAt.own HN.out.symm r1)
  obtain ⟨a, c, he, hf⟩ := ints_form HI.out
  rw [HN.out] at he hf
  cases he
  have HF := hid hf
  have HB1 := hid (HB0.out.trans (B1.mono HB0.out.size))
  clear r1 B1 HN0 HB0 hf HI
  go_wp2_with fail
  go_loopw [4, 5] (fun v4 v5 wr => ∃ (k m c : Nat) (a : Option Addr), k ≤ n ∧ m ≤ 2 * k ∧ v4 = .slice a m c ∧ v5 = .int .i64 k ∧ Hid (m = (lks (M.take k)).length) ∧ Hid (wr.ownsRow w1.heap.size 21 1 (.slice a m c) m ((lks (M.take k)).map (Value.int .i32))) ∧ Hid (Below w1.heap.size w1 wr)) (fun _ v5 _ => n - (intOf v5).toNat)
  case atStart => exact ⟨0, 0, 0, none, Nat.zero_le _, Nat.le_refl _, rfl, rfl, rfl, World.ownsRow_nil _ _ _ _, Below.refl _ _⟩
  case round =>
    obtain ⟨k, m, c, a, hk, hmk, rfl, rfl, HM, HR, HB⟩ := hrel
    by_cases hlt : k < n
    · obtain ⟨b, off, rfl, hck⟩ := cell_at HF.out HB.out k hlt
      have HK := hid (lks_keep M k (by rw [HN.out]; exact hlt))
      have HD := hid (lks_drop M k (by rw [HN.out]; exact hlt))
      have hml := lk_len (M[k]?.getD 0)
      have HRL := hid (fun W => D.rlike_any (M[k]?.getD 0) W)
      have HKP : Hid (kp (M[k]?.getD 0) = !(decide (M[k]?.getD 0 = 173) || decide (M[k]?.getD 0 = 8204) || decide (M[k]?.getD 0 = 8205))) := rfl
      obtain ⟨Z, hZ⟩ : ∃ Z, D.lk (M[k]?.getD 0) = Z := ⟨_, rfl⟩
      rw [hZ] at HK hml HRL
      obtain ⟨K, hK⟩ : ∃ K, kp (M[k]?.getD 0) = K := ⟨_, rfl⟩
      rw [hK] at HK HD HKP
      obtain ⟨x, hx⟩ : ∃ x, M[k]?.getD 0 = x := ⟨_, rfl⟩
      rw [hx] at hck HRL HKP
      obtain ⟨Y, hY⟩ : ∃ Y, lks (M.take k) = Y := ⟨_, rfl⟩
      rw [hY] at HK HD HM HR
      obtain ⟨q, hq⟩ : ∃ q, Z.length = q := ⟨_, rfl⟩
      have HQ := hid hq
      rw [hq] at hml
      clear hx hZ hY hK hq
      have z1 := HB.out.size
      have hskip : ∀ (h : K = false), Hid (lks (M.take (k + 1)) = Y) := fun h => HD.out h
      by_cases h1 : x = 173
      · have H := hid (hskip (by rw [HKP.out, h1]; rfl))
        clear hskip HK HD HKP HRL
        subst h1
        go_wp2
        go_roundw
        case rel => exact ⟨k + 1, m, c, a, by omega, by omega, rfl, by go_num, by show _ = _; rw [H.out]; exact HM.out, by show World.ownsRow _ _ _ _ _ _ _; rw [H.out]; exact HR.out, HB⟩
        case measure => simp [intOf]; omega
      · by_cases h2 : x = 8204
        · have H := hid (hskip (by rw [HKP.out, h2]; rfl))
          clear hskip HK HD HKP HRL h1
          subst h2
          go_wp2
          go_roundw
          case rel => exact ⟨k + 1, m, c, a, by omega, by omega, rfl, by go_num, by show _ = _; rw [H.out]; exact HM.out, by show World.ownsRow _ _ _ _ _ _ _; rw [H.out]; exact HR.out, HB⟩
          case measure => simp [intOf]; omega
        · by_cases h3 : x = 8205
          · have H := hid (hskip (by rw [HKP.out, h3]; rfl))
            clear hskip HK HD HKP HRL h1 h2
            subst h3
            go_wp2
            go_roundw
            case rel => exact ⟨k + 1, m, c, a, by omega, by omega, rfl, by go_num, by show _ = _; rw [H.out]; exact HM.out, by show World.ownsRow _ _ _ _ _ _ _; rw [H.out]; exact HR.out, HB⟩
            case measure => simp [intOf]; omega
          · have HT : Hid (lks (M.take (k + 1)) = Y ++ Z) := HK.out (by rw [HKP.out]; simp [h1, h2, h3])
            have e1 : (x == 173) = false := by simpa using h1
            have e2 : (x == 8204) = false := by simpa using h2
            have e3 : (x == 8205) = false := by simpa using h3
            clear hskip HK HD HKP h1 h2 h3
            go_wp2_with (first
              | (at_builtin; refine U.wpList_append_ints rfl _ _ rfl w1.heap.size _ m Y rfl R3.out _ Z rfl S3.out (by have := HQ.out; omega) HB3.out.size ?_; intro v4 w4 r4 g4; rw [HQ.out] at r4; obtain ⟨a4, c4, rfl⟩ := own_sh21 r4)
              | (go_at_call 23; refine (HRL.out _).mono ?_; rintro e w3 ⟨⟨v3, rfl, hI3⟩, B3⟩; have R3 := hid (U.ownsRow_below HR.out B3 (Nat.le_refl _)); have HB3 := hid (HB.out.trans (B3.mono HB.out.size)); have S3 := hid (ans_src hI3); obtain ⟨a3, c3, hv3, _, _⟩ := id hI3; rw [HQ.out] at hv3; subst hv3; clear hI3 B3))
            go_roundw
            case rel =>
              refine ⟨k + 1, m + q, c4, a4, by omega, by omega, rfl, by go_num, by show _ = _; rw [HT.out, List.length_append, ← HM.out, HQ.out], ?_, U.below_grow HB3.out HB3.out.size R3.out g4⟩
              show World.ownsRow _ _ _ _ _ _ _
              rw [HT.out]; exact r4
            case measure => simp [intOf]; omega
    · have ht : M.take k = M := List.take_of_length_le (by rw [HN.out]; omega)
      rw [ht] at HM HR
      have HLM : Hid ((lks M).length ≤ 10000) := by show _ ≤ _; rw [← HM.out]; omega
      have HNF := hid (N.rnfd_any (.slice a m c) (lks M) wr HLM.out (U.IntsAt.own HM.out HR.out))
      rw [← HSK.out] at HNF
      have HW := hid (HB1.out.trans (HB.out.mono HB1.out.size))
      have HSL : Hid (S.length ≤ 30000) := by
        have h1 := N.nfdI_len (lks M)
        rw [← HSK.out] at h1
        have h2 := HLM.out
        show _ ≤ _
        omega
      clear ht HM HR HB HLM
      go_wp2_with fail
      refine (show Calls _ _ _ _ _ from HNF.out).mono ?_
      rintro e w2 ⟨v2, rfl, r2, B2⟩
      have HE := hid (U.refEncode_any v2 S (by have := HSL.out; omega) w2 (U.IntsAt.own rfl r2))
      have HB2 := hid (HW.out.trans (B2.mono HW.out.size))
      clear r2 B2 HNF HSL
      go_wp2_with fail
      refine (show Calls _ _ _ _ _ from HE.out).mono ?_
      rintro e w3 ⟨⟨t, r, rfl, ht⟩, B3⟩
      have HT : Hid (U.bn t = U.encs S) := by
        rcases ht with ⟨_, _, h⟩ | ⟨h, _⟩
        · exact h
        · rw [List.all_eq_true.2 HSC.out] at h; cases h
      clear ht
      go_wp2
      go_ret
      exact HGS.out _ _ ⟨⟨t, rfl, HT.out⟩, HB2.out.trans (B3.mono HB2.out.size)⟩
end Go.Proofs.YtpkegjbmnilmdaaDoor.S
