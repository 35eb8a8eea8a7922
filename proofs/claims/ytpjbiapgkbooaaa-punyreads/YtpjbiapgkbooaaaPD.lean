/- The contract of the document's Same; plain: what is written is read, what is read is written so. -/
import Derived.Test.YtpjbiapgkbooaaaBD
import Derived.Test.YtpjbiapgkbooaaaCF
namespace Go.Proofs.Ytpjbiapgkbooaaa
open Go.RowKit U
set_option linter.unusedVariables false

set_option maxRecDepth 100000 in
set_option maxHeartbeats 2000000 in
theorem same_any (u v : Value) (a b : List Int) (w : World) (ha : a.length ≤ 100000) (hu : U.IntsAt w u a) (hv : U.IntsAt w v b) :
    Calls Try.prog 15 #[u, v] w fun e W' => e = .returned (.bool (decide (a = b))) ∧ Below w.heap.size w W' := by
  have hus : ∃ ua uc, u = .slice ua a.length uc ∧ (0 < a.length → ∃ b off, ua = some ⟨b, off, none⟩ ∧ ∀ j, j < a.length → w.cell? ⟨b, off + j, none⟩ = some (.int .i32 (a[j]?.getD 0))) := by
    rcases hu with ⟨rfl, x, c, rfl⟩ | ⟨hp, b, off, c, rfl, h⟩
    · exact ⟨x, c, rfl, fun h => by simp at h⟩
    · exact ⟨_, c, rfl, fun _ => ⟨b, off, rfl, h⟩⟩
  have hvs : ∃ va vc, v = .slice va b.length vc ∧ (0 < b.length → ∃ d off, va = some ⟨d, off, none⟩ ∧ ∀ j, j < b.length → w.cell? ⟨d, off + j, none⟩ = some (.int .i32 (b[j]?.getD 0))) := by
    rcases hv with ⟨rfl, x, c, rfl⟩ | ⟨hp, d, off, c, rfl, h⟩
    · exact ⟨x, c, rfl, fun h => by simp at h⟩
    · exact ⟨_, c, rfl, fun _ => ⟨d, off, rfl, h⟩⟩
  obtain ⟨ua, uc, rfl, huf⟩ := hus
  obtain ⟨va, vc, rfl, hvf⟩ := hvs
  clear hu hv
  by_cases hl : a.length = b.length
  · have HR : Hid (∀ k, k ≤ a.length → (∀ j, j < k → a[j]?.getD 0 = b[j]?.getD 0) → k = a.length → a = b) := by
      intro k hk h e
      apply List.ext_getElem hl
      intro i h1 h2
      have := h i (by omega)
      rw [List.getElem?_eq_getElem h1, List.getElem?_eq_getElem h2] at this
      exact this
    have HNE : Hid (∀ k, k < a.length → a[k]?.getD 0 ≠ b[k]?.getD 0 → a ≠ b) := fun k hk h e => h (by rw [e])
    obtain ⟨n, hn⟩ : ∃ n, a.length = n := ⟨_, rfl⟩
    rw [hn] at ha huf HR HNE
    rw [← hl, hn] at hvf
    rw [← hl, hn]
    have HUF := hid huf
    have HVF := hid hvf
    have hdec : ∀ t : Bool, (t = true ↔ a = b) → Ending.returned (.bool t) = .returned (.bool (decide (a = b))) := fun t h => by
      congr 2
      cases t with
      | true => exact (decide_eq_true (h.1 rfl)).symm
      | false => exact (decide_eq_false (fun e => by have := h.2 e; cases this)).symm
    have HD := hid hdec
    obtain ⟨db, hdb⟩ : ∃ db, db = decide (a = b) := ⟨_, rfl⟩
    rw [← hdb] at HD ⊢
    clear huf hvf hl hn hdec hdb
    go_enter Try.func15, Try.ntmps15
    go_wp2_with fail
    go_loopw [5] (fun i wr => ∃ k : Nat, k ≤ n ∧ i = .int .i64 k ∧ Below w.heap.size w wr ∧ Hid (∀ j, j < k → a[j]?.getD 0 = b[j]?.getD 0)) (fun i _ => n - (intOf i).toNat)
    case atStart => exact ⟨0, Nat.zero_le _, rfl, Below.refl _ _, (fun j hj => by omega)⟩
    case round =>
      obtain ⟨k, hk, rfl, hB, HS⟩ := hrel
      by_cases hlt : k < n
      · obtain ⟨b1, o1, rfl, hc1⟩ := HUF.out (by omega)
        obtain ⟨b2, o2, rfl, hc2⟩ := HVF.out (by omega)
        have d1 : wr.cell? ⟨b1, o1 + k, none⟩ = some (.int .i32 (a[k]?.getD 0)) := (hB.cell (p := ⟨b1, o1 + k, none⟩) (lt_of_cell (hc1 k hlt))).trans (hc1 k hlt)
        have d2 : wr.cell? ⟨b2, o2 + k, none⟩ = some (.int .i32 (b[k]?.getD 0)) := (hB.cell (p := ⟨b2, o2 + k, none⟩) (lt_of_cell (hc2 k hlt))).trans (hc2 k hlt)
        have hltz : (k : Int) < (n : Int) := by omega
        by_cases he : a[k]?.getD 0 = b[k]?.getD 0
        · have HS2 : Hid (∀ j, j < k + 1 → a[j]?.getD 0 = b[j]?.getD 0) := fun j hj => by
            by_cases hjk : j = k
            · subst hjk; exact he
            · exact HS.out j (by omega)
          rw [← he] at d2
          generalize a[k]?.getD 0 = y at d1 d2
          clear hc1 hc2 he
          go_wp2_with fail
          go_quiet (fail)
          go_wp2
          go_roundw
          case rel => exact ⟨k + 1, by omega, by go_num, ⟨hB.os, hB.tape, hB.output, hB.size, hB.block⟩, HS2⟩
          case measure => simp [intOf]; omega
        · have HF := hid (HNE.out k hlt he)
          generalize a[k]?.getD 0 = y at d1 he
          generalize b[k]?.getD 0 = z at d2 he
          have hb : (y != z) = true := by simpa using he
          have hb2 : (y == z) = false := by simpa using he
          clear hc1 hc2 he
          go_wp2_with fail
          go_quiet (fail)
          go_wp2
          go_ret
          exact ⟨HD.out false ⟨fun h => (by cases h), fun h => absurd h HF.out⟩, ⟨hB.os, hB.tape, hB.output, hB.size, hB.block⟩⟩
      · have hltz : ¬ (k : Int) < (n : Int) := by omega
        have HE := hid (HR.out k hk HS.out (by omega))
        go_wp2
        go_ret
        exact ⟨HD.out true ⟨fun _ => HE.out, fun _ => rfl⟩, hB⟩
  · have hd : decide (a = b) = false := decide_eq_false (fun e => hl (by rw [e]))
    rw [hd]
    have hb : ((a.length : Int) != (b.length : Int)) = true := by simp; omega
    have hb2 : ((a.length : Int) == (b.length : Int)) = false := by simp; omega
    clear huf hvf
    go_enter Try.func15, Try.ntmps15
    go_wp2
    go_ret
    exact ⟨rfl, Below.refl _ _⟩


/-! ### Written and read -/
theorem cutK_none (l : List Int) (h : ∀ c ∈ l, c ≠ 45) : ∀ k, k ≤ l.length → cutK l k = 0
  | 0, _ => rfl
  | k + 1, hk => by
    rw [cutK, if_neg, cutK_none l h k (by omega)]
    rw [List.getElem?_eq_getElem (by omega)]
    exact h _ (List.getElem_mem _)
theorem cutK_skip (l : List Int) (m : Nat) (h : ∀ k, m ≤ k → k < l.length → l[k]?.getD 0 ≠ 45) : ∀ k, m ≤ k → k ≤ l.length → cutK l k = cutK l m
  | 0, h1, _ => by rw [show m = 0 by omega]
  | k + 1, h1, h2 => by
    by_cases e : m = k + 1
    · rw [e]
    · rw [cutK, if_neg (h k (by omega) (by omega)), cutK_skip l m h k (by omega) (by omega)]
theorem cut_of (p t : List Int) (hp : 0 < p.length) (ht : ∀ c ∈ t, 45 < c) : cutAt (p ++ [45] ++ t) = p.length := by
  have hl : (p ++ [45] ++ t).length = p.length + 1 + t.length := by simp; omega
  unfold cutAt
  rw [cutK_skip _ (p.length + 1) ?_ _ (by omega) (Nat.le_refl _)]
  · rw [cutK, if_pos]
    rw [List.append_assoc, List.getElem?_append_right (Nat.le_refl _), Nat.sub_self]; rfl
  · intro k h1 h2
    rw [hl] at h2
    rw [List.getElem?_append_right (by simp; omega)]
    have hk : k - (p ++ [45]).length < t.length := by simp; omega
    rw [List.getElem?_eq_getElem hk]
    have := ht _ (List.getElem_mem hk)
    show t[k - (p ++ [45]).length] ≠ 45
    omega
theorem parts_of (p t : List Int) (ht : ∀ c ∈ t, 45 < c) : fore (hd p ++ t) = p ∧ aft (hd p ++ t) = t := by
  by_cases hp : p.length = 0
  · have e : p = [] := List.eq_nil_of_length_eq_zero hp
    subst e
    have hc : cutAt t = 0 := cutK_none t (fun c hc => by have := ht c hc; omega) _ (Nat.le_refl _)
    simp only [hd, List.length_nil, if_true, List.nil_append]
    exact ⟨by rw [fore, hc]; rfl, by rw [aft, if_pos hc]⟩
  · have e : hd p ++ t = p ++ [45] ++ t := by unfold hd; rw [if_neg hp]
    rw [e]
    have hc := cut_of p t (by omega) ht
    constructor
    · rw [fore, hc, List.append_assoc, List.take_left]
    · rw [aft, hc, if_neg hp]
      have : p.length + 1 = (p ++ [45]).length := by simp
      rw [this, List.drop_left]
/-- What is written is read as itself. -/
theorem dec_enc {l T : List Int} (h : Enc l T) (hs : l.all scal = true) (hl : l.length ≤ 63) : DecP T = some l ∧ asc T = true := by
  have hsc : ∀ x ∈ l, scal x = true := List.all_eq_true.1 hs
  have h0 : ∀ x ∈ l, 0 ≤ x := fun x hx => (scal_le (hsc x hx)).1
  constructor
  · obtain ⟨ds, rfl, hr⟩ := h
    obtain ⟨e1, e2⟩ := parts_of (plain l) (tx (plain l).length ds) (fun c hc => (tx_signs _ ds c hc).1)
    unfold DecP
    rw [e1, e2]
    have hlen := run_len (plain l) ds
    rw [hr] at hlen
    have := RD_tx (plain l) (plain_lt l) [] ds (by rw [hr]; exact hsc) (by omega) []
    rw [List.append_nil] at this
    exact this.trans (by rw [RD_nil, hr])
  · unfold asc
    rw [List.all_eq_true]
    intro c hc
    have := h.ascii h0 c hc
    simp; omega
/-- Capitals behind the last hyphen made small. -/
def lower (L : List Int) : List Int := if cutAt L = 0 then L.map low else L.take (cutAt L + 1) ++ (L.drop (cutAt L + 1)).map low
theorem lower_len (L : List Int) : (lower L).length = L.length := by
  unfold lower
  split
  · simp
  · rw [List.length_append, List.length_map, List.length_take, List.length_drop]; omega
/-- What is read is written so, but for capitals. -/
theorem enc_dec {L pts : List Int} (h : DecP L = some pts) (ha : asc L = true) (hb : Bytes L) (hl : L.length ≤ 63) : Enc pts (lower L) ∧ pts.all scal = true ∧ pts.length ≤ 63 := by
  have hf : ∀ x ∈ fore L, 0 ≤ x ∧ x < 128 := fun x hx => by
    have hm := List.mem_of_mem_take hx
    have h1 := List.all_eq_true.1 ha x hm
    exact ⟨(hb x hm).1, by simpa using h1⟩
  obtain ⟨es, h1, h2, h3⟩ := RD_once (fore L) hf (aft L).length (aft L) [] pts (Nat.le_refl _) (fun x hx => scal_low (hf x hx).1 (hf x hx).2) h
  have hpl : plain pts = fore L := by rw [← h1]; exact run_low (fore L) (fun x hx => (hf x hx).2) es
  have hlow : lower L = hd (fore L) ++ (aft L).map low := by
    unfold lower hd aft fore
    by_cases hc : cutAt L = 0
    · rw [if_pos hc, hc, if_pos (by simp), if_pos rfl]; rfl
    · have hk := cutK_at L L.length hc
      change L[cutAt L]?.getD 0 = 45 ∧ cutAt L < L.length at hk
      rw [if_neg hc, if_neg hc, if_neg (by rw [List.length_take]; omega), take_snoc L _ hk.2, hk.1]
  have htx : tx (fore L).length es = (aft L).map low := by rw [h2]; simp [tx]
  have hE : Enc pts (lower L) := ⟨es, by rw [hpl, hlow, htx], by rw [hpl]; exact h1⟩
  refine ⟨hE, List.all_eq_true.2 h3, ?_⟩
  have l1 := run_len (fore L) es
  rw [h1] at l1
  have l2 := tx_len (fore L).length es
  rw [htx, List.length_map] at l2
  have l3 : (fore L).length + (aft L).length ≤ L.length := by
    unfold fore aft
    split
    · rename_i hc; rw [hc]; simp
    · rw [List.length_take, List.length_drop]; omega
  omega
end Go.Proofs.Ytpjbiapgkbooaaa
