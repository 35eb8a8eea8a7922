/- Plain: what is read may be written. (Stage 15.) -/
import Derived.Test.YtphkdagapoonjaaDoorLXC
namespace Go.Proofs.YtphkdagapoonjaaDoor.Lx
open Go.Proofs.YtphkdagapoonjaaDoor.U (nx enc encs scal Bytes)
set_option linter.unusedVariables false

def Sc (zs : List Int) : Prop := ∀ c ∈ zs, scal c = true
theorem Sc.all {zs : List Int} (h : Sc zs) : zs.all scal = true := List.all_eq_true.2 h
theorem Sc.tail {c : Int} {zs : List Int} (h : Sc (c :: zs)) : Sc zs := fun x hx => h x (by simp [hx])
theorem Sc.drop {zs : List Int} (h : Sc zs) (k : Nat) : Sc (zs.drop k) := fun x hx => h x (List.mem_of_mem_drop hx)
theorem scal_bd {c : Int} (h : scal c = true) : 0 ≤ c ∧ c ≤ 1114111 := by unfold scal at h; simp at h; omega
theorem encs_cons (c : Int) (zs : List Int) : encs (c :: zs) = enc c ++ encs zs := by unfold encs; rw [List.flatMap_cons]
theorem enc_low {c : Int} (h : c < 128) : enc c = [c] := by unfold enc; rw [if_pos h]
theorem encs_bytes {zs : List Int} (h : Sc zs) : Bytes (encs zs) := U.encs_bytes zs (fun c hc => scal_bd (h c hc))
/-- Where the front is ASCII it is the code points themselves. -/
theorem encs_front : ∀ (k : Nat) (zs : List Int), (∀ d ∈ (encs zs).take k, d < 128) → k ≤ (encs zs).length → (encs zs).take k = zs.take k ∧ (encs zs).drop k = encs (zs.drop k)
  | 0, zs, _, _ => by simp
  | k + 1, [], _, h => by simp [encs] at h
  | k + 1, c :: zs, hd, hl => by
    have hc : c < 128 := by
      by_cases hc : c < 128
      · exact hc
      · exfalso
        have hne := (U.enc_len c).1
        cases he : enc c with
        | nil => rw [he] at hne; simp at hne
        | cons a g =>
          have h1 := enc_high (c := c) (by omega) a (by rw [he]; simp)
          have h2 := hd a (by rw [encs_cons, he]; simp)
          omega
    rw [encs_cons, enc_low hc] at hd hl ⊢
    simp only [List.cons_append, List.nil_append, List.take_succ_cons, List.drop_succ_cons, List.length_cons] at hd hl ⊢
    obtain ⟨a, b⟩ := encs_front k zs (fun d hd' => hd d (by simp [hd'])) (by omega)
    exact ⟨by rw [a], b⟩
theorem tx_run : ∀ (g : List Int) (f : Nat) (t r : List Int) (i : Nat), (∀ d ∈ g, d ≠ 34 ∧ d ≠ 92) → tx (f + g.length) t (g ++ r) i = tx f (t ++ g) r (i + g.length)
  | [], f, t, r, i, _ => by simp
  | c :: g, f, t, r, i, h => by
    have hc := h c (by simp)
    show tx (f + g.length + 1) t (c :: (g ++ r)) i = _
    rw [tx, if_neg hc.1, if_pos hc.2, tx_run g f (t ++ [c]) r (i + 1) (fun d hd => h d (by simp [hd]))]
    congr 1
    · simp
    · simp; omega
theorem dg_low {c : Int} (h : isd c = true) : 48 ≤ c ∧ c < 128 := by
  unfold isd dg at h
  simp at h
  (repeat' split at h) <;> omega
theorem takeW_mem {p : Int → Bool} : ∀ {l : List Int} {c : Int}, c ∈ l.takeWhile p → p c = true ∧ c ∈ l
  | [], c, h => by cases h
  | a :: l, c, h => by
    rw [List.takeWhile_cons] at h
    split at h
    · rename_i hp
      rcases List.mem_cons.1 h with rfl | h
      · exact ⟨hp, by simp⟩
      · obtain ⟨x, y⟩ := takeW_mem h
        exact ⟨x, by simp [y]⟩
    · cases h
theorem ds_front (l : List Int) : ds l = (l.drop 3).take (ds l).length ∧ (∀ c ∈ ds l, 48 ≤ c ∧ c < 128) ∧ (ds l).length ≤ 6 := by
  have hp : ds l <+: (l.drop 3).take 6 := by unfold ds; exact List.takeWhile_prefix isd
  have h1 : ds l <+: l.drop 3 := hp.trans (List.take_prefix 6 _)
  refine ⟨List.prefix_iff_eq_take.1 h1, fun c hc => dg_low (takeW_mem (by unfold ds at hc; exact hc)).1, ?_⟩
  have := hp.length_le
  rw [List.length_take] at this
  omega
theorem getD_take {l : List Int} {k j : Nat} (h : j < k) : (l.take k).getD j 0 = l.getD j 0 := by
  rw [List.getD_eq_getElem?_getD, List.getD_eq_getElem?_getD, List.getElem?_take_of_lt h]
/-- What a backslash says, where it stands as it must. -/
theorem es_inv {l : List Int} (h0 : l.getD 0 0 = 92) (h : (es l).2 ≠ 0) : EV (es l).1 ∧ 2 ≤ (es l).2 ∧ (es l).1.length + 1 ≤ (es l).2 ∧ (es l).2 ≤ l.length ∧ ∀ d ∈ l.take (es l).2, d < 128 := by
  unfold es at h ⊢
  by_cases h1 : l.getD 1 0 = 34 ∨ l.getD 1 0 = 92
  · rw [if_pos h1]
    have hl : 2 ≤ l.length := by
      rcases Nat.lt_or_ge l.length 2 with hh | hh
      · rw [List.getD_eq_getElem?_getD, List.getElem?_eq_none (by omega)] at h1
        simp at h1
      · exact hh
    refine ⟨EV.low (fun c hc => by rw [List.mem_singleton.1 hc]; omega), Nat.le_refl _, Nat.le_refl _, hl, fun d hd => ?_⟩
    obtain ⟨j, hj, rfl⟩ := List.mem_take_iff_getElem.1 hd
    have : j = 0 ∨ j = 1 := by omega
    rcases this with rfl | rfl
    · rw [List.getD_eq_getElem?_getD, List.getElem?_eq_getElem (by omega)] at h0
      simp at h0; omega
    · rw [List.getD_eq_getElem?_getD, List.getElem?_eq_getElem (by omega)] at h1
      simp at h1; omega
  · rw [if_neg h1] at h ⊢
    by_cases h2 : l.getD 1 0 = 117 ∧ l.getD 2 0 = 123 ∧ ds l ≠ [] ∧ l.getD (3 + (ds l).length) 0 = 125 ∧ scal (hv (ds l)) = true
    · rw [if_pos h2]
      obtain ⟨a, b, c, d, e⟩ := h2
      have hl : 3 + (ds l).length < l.length := by
        rcases Nat.lt_or_ge (3 + (ds l).length) l.length with hh | hh
        · exact hh
        · rw [List.getD_eq_getElem?_getD, List.getElem?_eq_none (by omega)] at d
          simp at d
      obtain ⟨f1, f2, f3⟩ := ds_front l
      have hlen := (U.enc_len (hv (ds l))).2
      have hpos := List.length_pos_iff.2 c
      refine ⟨EV.enc e, by omega, by simp only; omega, by simp only; omega, fun x hx => ?_⟩
      simp only at hx
      obtain ⟨j, hj, rfl⟩ := List.mem_take_iff_getElem.1 hx
      have hcs : j = 0 ∨ j = 1 ∨ j = 2 ∨ (3 ≤ j ∧ j < 3 + (ds l).length) ∨ j = 3 + (ds l).length := by omega
      have hg : l.getD j 0 = l[j] := by rw [List.getD_eq_getElem?_getD, List.getElem?_eq_getElem (by omega)]; rfl
      rw [← hg]
      rcases hcs with rfl | rfl | rfl | hm | rfl
      · omega
      · omega
      · omega
      · have hm2 : (ds l)[j - 3]? = some l[j] := by
          rw [f1, List.getElem?_take_of_lt (by omega), List.getElem?_drop, show 3 + (j - 3) = j by omega, List.getElem?_eq_getElem (by omega)]
        have := f2 _ (List.mem_of_getElem? hm2)
        rw [hg]; omega
      · omega
    · rw [if_neg h2] at h
      exact absurd rfl h
/-- What a text in quotes says. -/
theorem tx_inv : ∀ (m : Nat) (zs : List Int) (f : Nat) (t : List Int) (i : Nat), zs.length ≤ m → Sc zs → (encs zs).length ≤ f → (tx f t (encs zs) i).2.1 ≠ 0 →
    ∃ y k zs', (tx f t (encs zs) i).1 = t ++ y ∧ EV y ∧ (tx f t (encs zs) i).2.1 = i + k ∧ y.length + 1 ≤ k ∧ k ≤ (encs zs).length ∧ (encs zs).drop k = encs zs' ∧ Sc zs' ∧ zs'.length < zs.length
  | m, [], f, t, i, _, _, _, h => by
    exfalso
    apply h
    cases f <;> rfl
  | 0, c :: zs, f, t, i, hm, _, _, _ => by simp at hm
  | m + 1, c :: zs, f, t, i, hm, hs, hf, h => by
    have hm' : zs.length ≤ m := by simpa using hm
    have hc := scal_bd (hs c (by simp))
    by_cases hlow : c < 128
    · have he : encs (c :: zs) = c :: encs zs := by rw [encs_cons, enc_low hlow]; rfl
      rw [he] at hf h ⊢
      rw [List.length_cons] at hf ⊢
      obtain ⟨f, rfl⟩ : ∃ g, f = g + 1 := ⟨f - 1, by omega⟩
      rw [tx] at h ⊢
      by_cases h34 : c = 34
      · rw [if_pos h34]
        exact ⟨[], 1, zs, by simp, EV.nil, rfl, Nat.le_refl _, by omega, rfl, hs.tail, by simp⟩
      rw [if_neg h34] at h ⊢
      by_cases h92 : c ≠ 92
      · rw [if_pos h92] at h ⊢
        obtain ⟨y, k, zs', a1, a2, a3, a4, a5, a6, a7, a8⟩ := tx_inv m zs f (t ++ [c]) (i + 1) hm' hs.tail (by omega) h
        refine ⟨c :: y, k + 1, zs', by rw [a1]; simp, ?_, by rw [a3]; omega, by simp; omega, by omega, by rw [List.drop_succ_cons, a6], a7, by simp; omega⟩
        exact (EV.low (l := [c]) (fun d hd => by rw [List.mem_singleton.1 hd]; omega)).app a2
      · rw [if_neg h92] at h ⊢
        have h92' : c = 92 := by omega
        by_cases hn : (es (c :: encs zs)).2 = 0
        · rw [if_pos hn] at h; exact absurd rfl h
        · rw [if_neg hn] at h ⊢
          obtain ⟨b1, b2, b3, b4, b5⟩ := es_inv (l := c :: encs zs) (by rw [h92']; rfl) hn
          rw [List.length_cons] at b4
          obtain ⟨q, hq⟩ : ∃ q, (es (c :: encs zs)).2 = q + 1 := ⟨(es (c :: encs zs)).2 - 1, by omega⟩
          rw [hq] at b2 b3 b4 b5 h ⊢
          rw [Nat.add_sub_cancel] at h ⊢
          obtain ⟨_, hdr⟩ := encs_front q zs (fun d hd => b5 d (by rw [List.take_succ_cons]; simp [hd])) (by omega)
          rw [hdr] at h ⊢
          obtain ⟨y, k, zs', a1, a2, a3, a4, a5, a6, a7, a8⟩ := tx_inv m (zs.drop q) f (t ++ (es (c :: encs zs)).1) (i + (q + 1)) (by rw [List.length_drop]; omega) (hs.tail.drop q) (by rw [← hdr, List.length_drop]; omega) h
          have a5' : k ≤ (encs zs).length - q := by rw [← List.length_drop, hdr]; exact a5
          refine ⟨(es (c :: encs zs)).1 ++ y, k + q + 1, zs', by rw [a1]; simp, b1.app a2, by rw [a3]; omega, by rw [List.length_append]; omega, by omega, ?_, a7, by rw [List.length_drop] at a8; simp; omega⟩
          rw [List.drop_succ_cons, Nat.add_comm, ← List.drop_drop, hdr, a6]
    · have hrun : ∀ d ∈ enc c, d ≠ 34 ∧ d ≠ 92 := fun d hd => by have := enc_high (c := c) (by omega) d hd; omega
      rw [encs_cons] at hf h ⊢
      rw [List.length_append] at hf ⊢
      obtain ⟨g, rfl⟩ : ∃ g, f = g + (enc c).length := ⟨f - (enc c).length, by omega⟩
      rw [tx_run _ _ _ _ _ hrun] at h ⊢
      obtain ⟨y, k, zs', a1, a2, a3, a4, a5, a6, a7, a8⟩ := tx_inv m zs g (t ++ enc c) (i + (enc c).length) hm' hs.tail (by omega) h
      refine ⟨enc c ++ y, (enc c).length + k, zs', by rw [a1]; simp, (EV.enc (hs c (by simp))).app a2, by rw [a3]; omega, by rw [List.length_append]; omega, by omega, ?_, a7, by simp; omega⟩
      rw [← List.drop_drop, List.drop_left, a6]
end Go.Proofs.YtphkdagapoonjaaDoor.Lx
