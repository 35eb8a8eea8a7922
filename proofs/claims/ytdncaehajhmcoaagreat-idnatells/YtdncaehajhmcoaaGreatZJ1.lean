/- Texts of one layer, one behind the other: IA IB. -/
import Derived.Test.YtdncaehajhmcoaaGreatZL1
import Derived.Test.YtdncaehajhmcoaaGreatZD5
import Derived.Test.YtdncaehajhmcoaaGreatZN9
import Derived.Test.YtdncaehajhmcoaaGreatZP7
/- Plain: a name's labels, and what becomes of them. -/
namespace Go.Proofs.YtdncaehajhmcoaaGreat.I
open Go.RowKit
set_option linter.unusedVariables false

/-! ### Labels -/
def join : List (List Int) → List Int
  | [] => []
  | [a] => a
  | a :: b :: l => a ++ 46 :: join (b :: l)
def spl : List Int → List (List Int)
  | [] => [[]]
  | c :: l => if c = 46 then [] :: spl l else match spl l with
    | [] => [[c]]
    | a :: t => (c :: a) :: t
theorem spl_ne : ∀ l, ∃ a t, spl l = a :: t
  | [] => ⟨[], [], rfl⟩
  | c :: l => by
    obtain ⟨a, t, h⟩ := spl_ne l
    by_cases hc : c = 46
    · exact ⟨[], spl l, by rw [spl, if_pos hc]⟩
    · exact ⟨c :: a, t, by rw [spl, if_neg hc, h]⟩
theorem spl_app : ∀ (a l : List Int), 46 ∉ a → spl (a ++ 46 :: l) = a :: spl l
  | [], l, _ => by rw [List.nil_append, spl, if_pos rfl]
  | c :: a, l, h => by
    have h1 : ¬ c = 46 := fun e => h (by simp [e])
    rw [List.cons_append, spl, if_neg h1, spl_app a l (fun hm => h (by simp [hm]))]
theorem spl_one : ∀ (a : List Int), 46 ∉ a → spl a = [a]
  | [], _ => rfl
  | c :: a, h => by
    have h1 : ¬ c = 46 := fun e => h (by simp [e])
    rw [spl, if_neg h1, spl_one a (fun hm => h (by simp [hm]))]
theorem spl_join : ∀ ls : List (List Int), ls ≠ [] → (∀ a ∈ ls, 46 ∉ a) → spl (join ls) = ls
  | [], h, _ => absurd rfl h
  | [a], _, h => spl_one a (h a (by simp))
  | a :: b :: l, _, h => by
    rw [join, spl_app a _ (h a (by simp)), spl_join (b :: l) (by simp) (fun x hx => h x (by simp at hx ⊢; exact .inr hx))]
theorem spl_dots : ∀ (l : List Int), ∀ a ∈ spl l, 46 ∉ a
  | [], a, h => by simp [spl] at h; simp [h]
  | c :: l, a, h => by
    obtain ⟨b, t, hb⟩ := spl_ne l
    have ih := spl_dots l
    by_cases hc : c = 46
    · rw [spl, if_pos hc] at h
      rcases List.mem_cons.1 h with rfl | h
      · simp
      · exact ih a h
    · rw [spl, if_neg hc, hb] at h
      rw [hb] at ih
      rcases List.mem_cons.1 h with rfl | h
      · intro hm
        rcases List.mem_cons.1 hm with e | hm
        · exact hc e.symm
        · exact ih b (by simp) hm
      · exact ih a (by simp [h])
theorem join_spl : ∀ (l : List Int), join (spl l) = l
  | [] => rfl
  | c :: l => by
    obtain ⟨b, t, hb⟩ := spl_ne l
    have ih := join_spl l
    by_cases hc : c = 46
    · rw [spl, if_pos hc, hb]
      rw [hb] at ih
      rw [join, ih, hc]; rfl
    · rw [spl, if_neg hc, hb]
      rw [hb] at ih
      cases t with
      | nil => rw [join] at ih ⊢; rw [ih]
      | cons d t => rw [join] at ih ⊢; rw [List.cons_append, ih]
theorem spl_two : ∀ (x y : List Int), spl (x ++ 46 :: y) = spl x ++ spl y
  | [], y => by simp [spl]
  | c :: x, y => by
    obtain ⟨b, t, hb⟩ := spl_ne x
    rw [List.cons_append]
    by_cases hc : c = 46
    · rw [spl, if_pos hc, spl_two x y, spl, if_pos hc]; rfl
    · rw [spl, if_neg hc, spl_two x y, spl, if_neg hc, hb]; rfl

/-! ### Mapped -/
def mpx (r : Int) : List Int := if L.sts r = 0 then [r] else D.mp r
def Mp (l : List Int) : List Int := N.nfcI (l.flatMap mpx)
theorem mpx_valid (r : Int) (h : L.sts r = 1 ∨ L.sts r = 4) : mpx r = [r] := by
  have e : L.sts r = (D.fnd r).2.2.1 := rfl
  unfold mpx D.mp
  rw [← e, if_neg (by omega), if_neg (by omega), if_neg (by omega)]
theorem map_valid : ∀ (l : List Int), (∀ r ∈ l, L.sts r = 1 ∨ L.sts r = 4) → l.flatMap mpx = l
  | [], _ => rfl
  | r :: l, h => by
    rw [List.flatMap_cons, mpx_valid r (h r (by simp)), map_valid l (fun x hx => h x (by simp [hx]))]; rfl
theorem mark_cl (r : Int) (h : L.mrk r = false) : N.cl r = 0 :=
  L.fnd_all (fun x => x.2.2.2.2.2.2.1 = false → x.2.2.2.2.2.1 = 0) (by decide +kernel) (by decide +kernel) r h
def Beg (X : List Int) : Prop := X = [] ∨ ∃ r b', X = r :: b' ∧ N.cl r = 0
theorem cl_46 : N.cl 46 = 0 := by decide +kernel
theorem nfc_46 : N.nfcI [46] = [46] := by decide +kernel
theorem nfc_nil : N.nfcI [] = [] := rfl
theorem nfc_joinl : ∀ ls : List (List Int), (∀ a ∈ ls, N.nfcI a = a ∧ Beg a) → N.nfcI (join ls) = join ls ∧ Beg (join ls)
  | [], _ => ⟨rfl, .inl rfl⟩
  | [a], h => h a (by simp)
  | a :: b :: l, h => by
    have ih := nfc_joinl (b :: l) (fun x hx => h x (by simp at hx ⊢; exact .inr hx))
    have ha := h a (by simp)
    rw [join]
    constructor
    · rw [N.nfc_join a (46 :: join (b :: l)) (.inr ⟨46, _, rfl, cl_46⟩), ha.1]
      have : (46 :: join (b :: l)) = [46] ++ join (b :: l) := rfl
      rw [this, N.nfc_join [46] _ ih.2, ih.1, nfc_46]
    · rcases ha.2 with rfl | ⟨r, t, rfl, hr⟩
      · exact .inr ⟨46, _, rfl, cl_46⟩
      · exact .inr ⟨r, _, rfl, hr⟩

/-! ### ASCII -/
def plain (l : List Int) : Bool := l.all fun c => decide (0 ≤ c) && decide (c < 128)
theorem plain_iff {l : List Int} : plain l = true ↔ ∀ c ∈ l, 0 ≤ c ∧ c < 128 := by
  unfold plain
  rw [List.all_eq_true]
  exact ⟨fun h c hc => by simpa using h c hc, fun h c hc => by simpa using h c hc⟩
theorem ascii_one : ∀ c : Fin 128, N.nfcI [(c.val : Int)] = [(c.val : Int)] ∧ N.cl (c.val : Int) = 0 := by decide +kernel
theorem ascii_cl (c : Int) (h : 0 ≤ c ∧ c < 128) : N.nfcI [c] = [c] ∧ N.cl c = 0 := by
  obtain ⟨k, rfl⟩ : ∃ k : Nat, c = k := ⟨c.toNat, by omega⟩
  exact ascii_one ⟨k, by omega⟩
theorem ascii_nfc : ∀ (l : List Int), (∀ c ∈ l, 0 ≤ c ∧ c < 128) → N.nfcI l = l ∧ Beg l
  | [], _ => ⟨rfl, .inl rfl⟩
  | c :: l, h => by
    have hc := ascii_cl c (h c (by simp))
    have ih := ascii_nfc l (fun x hx => h x (by simp [hx]))
    refine ⟨?_, .inr ⟨c, l, rfl, hc.2⟩⟩
    have : c :: l = [c] ++ l := rfl
    rw [this, N.nfc_join [c] l ih.2, hc.1, ih.1]
theorem ldh_ok : ∀ c : Fin 128, (97 ≤ c.val ∧ c.val ≤ 122 ∨ 48 ≤ c.val ∧ c.val ≤ 57 ∨ c.val = 45 ∨ c.val = 46) → L.sts (c.val : Int) = 1 := by decide +kernel
theorem ldh_valid (c : Int) (h : 97 ≤ c ∧ c ≤ 122 ∨ 48 ≤ c ∧ c ≤ 57 ∨ c = 45 ∨ c = 46) : L.sts c = 1 := by
  obtain ⟨k, rfl⟩ : ∃ k : Nat, c = k := ⟨c.toNat, by omega⟩
  exact ldh_ok ⟨k, by omega⟩ (by simp only; omega)

/-! ### Without faults -/
theorem bt_zero {b : Bool} {v : Int} (hv : 0 < v) (h : L.bt b v = 0) : b = false := by
  cases b
  · rfl
  · simp [L.bt] at h; omega
theorem bt_pos (b : Bool) (v : Int) (hv : 0 < v) : 0 ≤ L.bt b v := by unfold L.bt; split <;> omega
theorem flt_sum (l : List Int) (hy : Bool) (h : ¬ l.length = 0) : L.flt l hy = L.bt (!decide (N.nfcI l = l)) 1 + L.bt (hy && decide (4 ≤ l.length) && decide (l[2]?.getD 0 = 45) && decide (l[3]?.getD 0 = 45)) 2 + L.bt (hy && (decide (l[0]?.getD 0 = 45) || decide (l[l.length - 1]?.getD 0 = 45))) 4 +
    (L.bt (L.pre4 l) 8 + L.bt (l.any (fun r => decide (r = 46))) 16) + L.bt (L.mrk (l[0]?.getD 0)) 32 + (L.bt (l.any L.nval) 64 + L.bt (!L.jok l) 128) := by
  unfold L.flt L.qs
  rw [if_neg h]
  simp only [L.sm, Nat.reduceAdd, Nat.zero_add, Int.reducePow]
  omega
theorem flt_nonneg (l : List Int) (hy : Bool) : 0 ≤ L.flt l hy := by
  by_cases h : l.length = 0
  · unfold L.flt; rw [if_pos h]; exact Int.le_refl _
  · rw [flt_sum l hy h]
    have h1 := bt_pos (!decide (N.nfcI l = l)) 1 (by omega)
    have h2 := bt_pos (hy && decide (4 ≤ l.length) && decide (l[2]?.getD 0 = 45) && decide (l[3]?.getD 0 = 45)) 2 (by omega)
    have h3 := bt_pos (hy && (decide (l[0]?.getD 0 = 45) || decide (l[l.length - 1]?.getD 0 = 45))) 4 (by omega)
    have h4 := bt_pos (L.pre4 l) 8 (by omega)
    have h5 := bt_pos (l.any (fun r => decide (r = 46))) 16 (by omega)
    have h6 := bt_pos (L.mrk (l[0]?.getD 0)) 32 (by omega)
    have h7 := bt_pos (l.any L.nval) 64 (by omega)
    have h8 := bt_pos (!L.jok l) 128 (by omega)
    omega
structure Fine (l : List Int) : Prop where
  nfc : N.nfcI l = l
  beg : Beg l
  pre : L.pre4 l = false
  dot : 46 ∉ l
  val : ∀ r ∈ l, L.sts r = 1 ∨ L.sts r = 4
theorem fine_of {l : List Int} {hy : Bool} (h : L.flt l hy = 0) : Fine l := by
  by_cases h0 : l.length = 0
  · obtain rfl : l = [] := List.length_eq_zero_iff.1 h0
    exact ⟨rfl, .inl rfl, by decide, by simp, by simp⟩
  · rw [flt_sum l hy h0] at h
    have h1 := bt_pos (!decide (N.nfcI l = l)) 1 (by omega)
    have h2 := bt_pos (hy && decide (4 ≤ l.length) && decide (l[2]?.getD 0 = 45) && decide (l[3]?.getD 0 = 45)) 2 (by omega)
    have h3 := bt_pos (hy && (decide (l[0]?.getD 0 = 45) || decide (l[l.length - 1]?.getD 0 = 45))) 4 (by omega)
    have h4 := bt_pos (L.pre4 l) 8 (by omega)
    have h5 := bt_pos (l.any (fun r => decide (r = 46))) 16 (by omega)
    have h6 := bt_pos (L.mrk (l[0]?.getD 0)) 32 (by omega)
    have h7 := bt_pos (l.any L.nval) 64 (by omega)
    have h8 := bt_pos (!L.jok l) 128 (by omega)
    have e1 := bt_zero (v := 1) (by omega) (show L.bt (!decide (N.nfcI l = l)) 1 = 0 by omega)
    have e4 := bt_zero (v := 8) (by omega) (show L.bt (L.pre4 l) 8 = 0 by omega)
    have e5 := bt_zero (v := 16) (by omega) (show L.bt (l.any (fun r => decide (r = 46))) 16 = 0 by omega)
    have e6 := bt_zero (v := 32) (by omega) (show L.bt (L.mrk (l[0]?.getD 0)) 32 = 0 by omega)
    have e7 := bt_zero (v := 64) (by omega) (show L.bt (l.any L.nval) 64 = 0 by omega)
    refine ⟨by simpa using e1, ?_, e4, ?_, ?_⟩
    · cases l with
      | nil => exact .inl rfl
      | cons r t => exact .inr ⟨r, t, rfl, mark_cl r e6⟩
    · intro hm
      have := List.any_eq_false.1 e5 46 hm
      simp at this
    · intro r hr
      have := List.any_eq_false.1 e7 r hr
      simp [L.nval] at this
      omega
end Go.Proofs.YtdncaehajhmcoaaGreat.I
/- Plain: labels processed; what was made ASCII, or Unicode, comes to the same labels. -/
namespace Go.Proofs.YtdncaehajhmcoaaGreat.I
open Go.RowKit
set_option linter.unusedVariables false

/-- What stands behind xn-- is read as. -/
def rdx (T : List Int) : Option (List Int) := if 63 < T.length then none else if P.asc T = false then none else P.DecP T
/-- A label, processed: what it is, and what is wrong with it. -/
def one (l : List Int) (hy : Bool) : List Int × Int :=
  if L.pre4 l = false then (l, L.flt l hy) else if plain l = false then (l, 512) else match rdx (l.drop 4) with
    | none => (l, 512)
    | some m => if plain m = true then (l, 512) else (m, L.flt m hy)
def anyR (xs : List (List Int × Int)) : Bool := xs.any fun x => L.goesR x.1
def bid1 (x : List Int × Int) : List Int × Int := (x.1, if L.bidiOk x.1 then x.2 else x.2 + 256)
/-- A mapped row, processed. -/
def prc (X : List Int) (hy : Bool) : List (List Int × Int) :=
  if anyR ((spl X).map fun l => one l hy) = true then ((spl X).map fun l => one l hy).map bid1 else (spl X).map fun l => one l hy
def noF (xs : List (List Int × Int)) : Bool := xs.all fun x => decide (x.2 = 0)
theorem one_nonneg (l : List Int) (hy : Bool) : 0 ≤ (one l hy).2 := by
  unfold one
  split
  · exact flt_nonneg l hy
  · split
    · show (0 : Int) ≤ 512; omega
    · split
      · show (0 : Int) ≤ 512; omega
      · split
        · show (0 : Int) ≤ 512; omega
        · exact flt_nonneg _ hy
/-- A label that has no fault is without one by itself. -/
theorem one_zero {l : List Int} {hy : Bool} (h : (one l hy).2 = 0) : L.flt (one l hy).1 hy = 0 := by
  unfold one at h ⊢
  split
  · rename_i h1
    rw [if_pos h1] at h; exact h
  · rename_i h1
    rw [if_neg h1] at h
    split
    · rename_i h2
      rw [if_pos h2] at h
      exact absurd h (show ¬ (512 : Int) = 0 by omega)
    · rename_i h2
      rw [if_neg h2] at h
      cases hr : rdx (l.drop 4) with
      | none =>
        rw [hr] at h
        exact absurd h (show ¬ (512 : Int) = 0 by omega)
      | some m =>
        rw [hr] at h
        simp only at h ⊢
        split
        · rename_i h3
          rw [if_pos h3] at h
          exact absurd h (show ¬ (512 : Int) = 0 by omega)
        · rename_i h3
          rw [if_neg h3] at h
          exact h
/-- The labels of a name without faults. -/
structure Ok (hy : Bool) (ls : List (List Int)) : Prop where
  ne : ls ≠ []
  flt : ∀ l ∈ ls, L.flt l hy = 0
  bidi : ls.any L.goesR = true → ∀ l ∈ ls, L.bidiOk l = true
theorem any_map {α β : Type} (f : α → β) (p : β → Bool) : ∀ l : List α, (l.map f).any p = l.any (fun x => p (f x))
  | [] => rfl
  | a :: l => by rw [List.map_cons, List.any_cons, List.any_cons, any_map f p l]
theorem pair_zero : ∀ (ys : List (List Int × Int)), (∀ x ∈ ys, x.2 = 0) → ys = (ys.map (·.1)).map (fun l => (l, 0))
  | [], _ => rfl
  | y :: ys, h => by
    have h1 := pair_zero ys (fun x hx => h x (by simp [hx]))
    have h2 := h y (by simp)
    rw [List.map_cons, List.map_cons, ← h1]
    congr 1
    exact Prod.ext rfl h2
theorem join_all {p : Int → Prop} (h46 : p 46) : ∀ (xs : List (List Int)), (∀ l ∈ xs, ∀ r ∈ l, p r) → ∀ r ∈ join xs, p r
  | [], _, r, hr => by simp [join] at hr
  | [a], hx, r, hr => hx a (by simp) r hr
  | a :: b :: l, hx, r, hr => by
    rw [join] at hr
    rcases List.mem_append.1 hr with hr | hr
    · exact hx a (by simp) r hr
    · rcases List.mem_cons.1 hr with rfl | hr
      · exact h46
      · exact join_all h46 (b :: l) (fun x hx' => hx x (by simp at hx' ⊢; exact .inr hx')) r hr
theorem prc_ok {X : List Int} {hy : Bool} (h : noF (prc X hy) = true) : Ok hy ((prc X hy).map (·.1)) ∧ prc X hy = ((prc X hy).map (·.1)).map (fun l => (l, 0)) := by
  have hz : ∀ x ∈ prc X hy, x.2 = 0 := fun x hx => by simpa using List.all_eq_true.1 h x hx
  obtain ⟨a, t, hs⟩ := spl_ne X
  have h2 : prc X hy = ((prc X hy).map (·.1)).map (fun l => (l, 0)) := by
    exact pair_zero _ hz
  refine ⟨?_, h2⟩
  by_cases hr : anyR ((spl X).map fun l => one l hy) = true
  · have e : prc X hy = ((spl X).map fun l => one l hy).map bid1 := by unfold prc; rw [if_pos hr]
    rw [e] at hz ⊢
    have hb : ∀ x ∈ (spl X).map (fun l => one l hy), x.2 = 0 ∧ L.bidiOk x.1 = true := fun x hx => by
      have h1 := hz (bid1 x) (List.mem_map_of_mem hx)
      obtain ⟨l, _, rfl⟩ := List.mem_map.1 hx
      have h3 := one_nonneg l hy
      unfold bid1 at h1
      by_cases hk : L.bidiOk (one l hy).1 = true
      · simp only [hk, if_true] at h1
        exact ⟨h1, hk⟩
      · simp only [hk] at h1
        simp at h1
        omega
    have em : (((spl X).map fun l => one l hy).map bid1).map (·.1) = (spl X).map fun l => (one l hy).1 := by
      rw [List.map_map, List.map_map]; rfl
    rw [em]
    refine ⟨by rw [hs]; simp, ?_, ?_⟩
    · intro l hl
      obtain ⟨y, hy', rfl⟩ := List.mem_map.1 hl
      exact one_zero (hb _ (List.mem_map_of_mem hy')).1
    · intro _ l hl
      obtain ⟨y, hy', rfl⟩ := List.mem_map.1 hl
      exact (hb _ (List.mem_map_of_mem hy')).2
  · have e : prc X hy = (spl X).map fun l => one l hy := by unfold prc; rw [if_neg hr]
    rw [e] at hz ⊢
    have em : ((spl X).map fun l => one l hy).map (·.1) = (spl X).map fun l => (one l hy).1 := by rw [List.map_map]; rfl
    rw [em]
    refine ⟨by rw [hs]; simp, ?_, ?_⟩
    · intro l hl
      obtain ⟨y, hy', rfl⟩ := List.mem_map.1 hl
      exact one_zero (hz _ (List.mem_map_of_mem hy'))
    · intro hg
      unfold anyR at hr
      rw [any_map] at hr hg
      exact absurd hg hr
/-- Labels that are each processed as one without faults. -/
theorem prc_of {hy : Bool} {ls : List (List Int)} (hok : Ok hy ls) (f : List Int → List Int) (hd : ∀ l ∈ ls, 46 ∉ f l) (h1 : ∀ l ∈ ls, one (f l) hy = (l, 0)) : prc (join (ls.map f)) hy = ls.map fun l => (l, 0) := by
  have hs : spl (join (ls.map f)) = ls.map f := spl_join _ (by simpa using hok.ne) (fun a ha => by
    obtain ⟨l, hl, rfl⟩ := List.mem_map.1 ha
    exact hd l hl)
  have hm : (ls.map f).map (fun l => one l hy) = ls.map fun l => (l, 0) := by
    rw [List.map_map]
    exact List.map_congr_left (fun l hl => h1 l hl)
  unfold prc
  rw [hs, hm]
  split
  · rename_i hr
    unfold anyR at hr
    rw [any_map] at hr
    have hb := hok.bidi hr
    rw [List.map_map]
    apply List.map_congr_left
    intro l hl
    simp [bid1, hb l hl]
  · rfl
theorem one_fine {l : List Int} {hy : Bool} (h : L.flt l hy = 0) : one l hy = (l, 0) := by
  unfold one
  rw [if_pos (fine_of h).pre, h]
/-- As Unicode. -/
theorem rest_u {hy : Bool} {ls : List (List Int)} (hok : Ok hy ls) : prc (Mp (join ls)) hy = ls.map fun l => (l, 0) := by
  have hf : ∀ l ∈ ls, Fine l := fun l hl => fine_of (hok.flt l hl)
  have hv : ∀ r ∈ join ls, L.sts r = 1 ∨ L.sts r = 4 := join_all (.inl (ldh_valid 46 (by omega))) ls (fun l hl => (hf l hl).val)
  have hM : Mp (join ls) = join ls := by
    unfold Mp
    rw [map_valid _ hv]
    exact (nfc_joinl ls (fun a ha => ⟨(hf a ha).nfc, (hf a ha).beg⟩)).1
  rw [hM]
  have := prc_of hok id (fun l hl => (hf l hl).dot) (fun l hl => one_fine (hok.flt l hl))
  rwa [List.map_id] at this
/-- How a label is written: as itself, or behind xn--. -/
def Part (l p : List Int) : Prop := (plain l = true ∧ p = l) ∨ (plain l = false ∧ ∃ T, P.Enc l T ∧ T.length ≤ 63 ∧ l.length ≤ 63 ∧ l.all U.scal = true ∧ p = [120, 110, 45, 45] ++ T)
theorem enc_chars {l T : List Int} (h : P.Enc l T) : ∀ c ∈ T, (c ∈ l ∧ c < 128) ∨ 97 ≤ c ∧ c ≤ 122 ∨ 48 ≤ c ∧ c ≤ 57 ∨ c = 45 := by
  obtain ⟨ds, rfl, hr⟩ := h
  have hsg : ∀ d, d < 36 → 97 ≤ P.sgn d ∧ P.sgn d ≤ 122 ∨ 48 ≤ P.sgn d ∧ P.sgn d ≤ 57 ∨ P.sgn d = 45 := fun d hd => by
    unfold P.sgn
    split
    · exact .inl (by omega)
    · exact .inr (.inl (by omega))
  have hwn : ∀ (q b k : Nat), ∀ c ∈ P.wn b k q, 97 ≤ c ∧ c ≤ 122 ∨ 48 ≤ c ∧ c ≤ 57 ∨ c = 45 := by
    intro q
    induction q using Nat.strongRecOn with
    | ind q ih =>
      intro b k c hc
      have h1 := P.thr_lo k b
      have h2 := P.thr_hi k b
      rw [P.wn_at] at hc
      split at hc
      · simp at hc; subst hc; exact hsg _ (by omega)
      · rename_i hq
        rcases List.mem_cons.1 hc with rfl | hc
        · exact hsg _ (P.wn_digit b k q hq)
        · have := Nat.div_le_self (q - P.thr k b) (36 - P.thr k b)
          exact ih _ (by omega) b (k + 36) c hc
  have htx : ∀ (ds : List Nat) (p : Nat), ∀ c ∈ P.tx p ds, 97 ≤ c ∧ c ≤ 122 ∨ 48 ≤ c ∧ c ≤ 57 ∨ c = 45 := by
    intro ds
    induction ds with
    | nil => intro p c hc; simp [P.tx] at hc
    | cons d ds ih =>
      intro p c hc
      rw [P.tx] at hc
      rcases List.mem_append.1 hc with hc | hc
      · exact ih p c hc
      · exact hwn _ _ _ c hc
  intro c hc
  rcases List.mem_append.1 hc with hc | hc
  · unfold P.hd at hc
    split at hc
    · simp at hc
    · rcases List.mem_append.1 hc with hc | hc
      · left
        unfold P.plain at hc
        have := List.mem_filter.1 hc
        exact ⟨this.1, by simpa using this.2⟩
      · simp at hc; exact .inr (.inr (.inr hc))
  · exact .inr (htx ds _ c hc)
theorem pre4_xn (T : List Int) : L.pre4 ([120, 110, 45, 45] ++ T) = true := by
  unfold L.pre4
  exact decide_eq_true rfl
theorem part_one {hy : Bool} {l p : List Int} (h : L.flt l hy = 0) (hp : Part l p) : one p hy = (l, 0) ∧ 46 ∉ p ∧ (∀ c ∈ p, (0 ≤ c ∧ c < 128) ∧ (L.sts c = 1 ∨ L.sts c = 4)) := by
  have hf := fine_of h
  rcases hp with ⟨h1, rfl⟩ | ⟨h1, T, hE, hT, hl, hs, rfl⟩
  · exact ⟨one_fine h, hf.dot, fun c hc => ⟨plain_iff.1 h1 c hc, hf.val c hc⟩⟩
  · have hsc := fun c hc => P.scal_le (List.all_eq_true.1 hs c hc)
    have hch := enc_chars hE
    have hall : ∀ c ∈ [120, 110, 45, 45] ++ T, (0 ≤ c ∧ c < 128) ∧ (L.sts c = 1 ∨ L.sts c = 4) ∧ c ≠ 46 := by
      intro c hc
      have key : ∀ c : Int, (97 ≤ c ∧ c ≤ 122 ∨ 48 ≤ c ∧ c ≤ 57 ∨ c = 45) → (0 ≤ c ∧ c < 128) ∧ (L.sts c = 1 ∨ L.sts c = 4) ∧ c ≠ 46 := fun c h => ⟨by omega, .inl (ldh_valid c (by omega)), by omega⟩
      rcases List.mem_append.1 hc with hc | hc
      · apply key
        simp at hc; omega
      · rcases hch c hc with ⟨hm, h128⟩ | hk
        · exact ⟨⟨(hsc c hm).1, h128⟩, hf.val c hm, fun e => hf.dot (e ▸ hm)⟩
        · exact key c hk
    refine ⟨?_, fun hm => (hall 46 hm).2.2 rfl, fun c hc => ⟨(hall c hc).1, (hall c hc).2.1⟩⟩
    obtain ⟨hd, ha⟩ := P.dec_enc hE hs hl
    have hpl : plain ([120, 110, 45, 45] ++ T) = true := plain_iff.2 (fun c hc => (hall c hc).1)
    have hdr : ([120, 110, 45, 45] ++ T : List Int).drop 4 = T := rfl
    unfold one
    rw [if_neg (by rw [pre4_xn]; decide), if_neg (by rw [hpl]; decide), hdr]
    have hr : rdx T = some l := by
      unfold rdx
      rw [if_neg (by omega), if_neg (by rw [ha]; decide), hd]
    rw [hr]
    simp only
    rw [if_neg (by rw [h1]; decide), h]
/-- As ASCII. -/
theorem rest_a {hy : Bool} {ls : List (List Int)} (hok : Ok hy ls) (f : List Int → List Int) (hp : ∀ l ∈ ls, Part l (f l)) : prc (Mp (join (ls.map f))) hy = ls.map fun l => (l, 0) := by
  have h1 : ∀ l ∈ ls, _ := fun l hl => part_one (hok.flt l hl) (hp l hl)
  have hc : ∀ c ∈ join (ls.map f), (0 ≤ c ∧ c < 128) ∧ (L.sts c = 1 ∨ L.sts c = 4) := by
    refine join_all (p := fun c => (0 ≤ c ∧ c < 128) ∧ (L.sts c = 1 ∨ L.sts c = 4)) ⟨by omega, .inl (ldh_valid 46 (by omega))⟩ _ (fun a ha => ?_)
    obtain ⟨l, hl, rfl⟩ := List.mem_map.1 ha
    exact (h1 l hl).2.2
  have hM : Mp (join (ls.map f)) = join (ls.map f) := by
    unfold Mp
    rw [map_valid _ (fun r hr => (hc r hr).2)]
    exact (ascii_nfc _ (fun c h => (hc c h).1)).1
  rw [hM]
  exact prc_of hok f (fun l hl => (h1 l hl).2.1) (fun l hl => (h1 l hl).1)
end Go.Proofs.YtdncaehajhmcoaaGreat.I
