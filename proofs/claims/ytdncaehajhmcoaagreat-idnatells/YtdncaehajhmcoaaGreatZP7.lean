/- Texts of one layer, one behind the other: PPD PRA. -/
import Derived.Test.YtdncaehajhmcoaaGreatZP4
import Derived.Test.YtdncaehajhmcoaaGreatZP6
import Derived.Test.YtdncaehajhmcoaaGreatZU3
/- The contract of the document's Same; plain: what is written is read, what is read is written so. -/
namespace Go.Proofs.YtdncaehajhmcoaaGreat.P
open Go.RowKit U
set_option linter.unusedVariables false

set_option maxRecDepth 100000 in
set_option maxHeartbeats 2000000 in
theorem same_any (u v : Value) (a b : List Int) (w : World) (ha : a.length ≤ 100000) (hu : U.IntsAt w u a) (hv : U.IntsAt w v b) :
    Calls Tryz.prog 17 #[u, v] w fun e W' => e = .returned (.bool (decide (a = b))) ∧ Below w.heap.size w W' := by
  have hus : ∃ ua uc, u = .slice ua a.length uc ∧ (0 < a.length → ∃ b off, ua = some ⟨b, off, none⟩ ∧ ∀ j, j < a.length → w.cell? ⟨b, off + j, none⟩ = some (.int .i32 (a[j]?.getD 0))) := by
    rcases hu with ⟨rfl, x, c, rfl⟩ | ⟨hp, b, off, c, rfl, h⟩
    · exact ⟨x, c, rfl, fun h => by simp at h⟩
    · exact ⟨_, c, rfl, fun _ => ⟨b, off, rfl, h⟩⟩
  have hvs : ∃ va vc, v = .slice va b.length vc ∧ (0 < b.length → ∃ d off, va = some ⟨d, off, none⟩ ∧ ∀ j, j < b.length → w.cell? ⟨d, off + j, none⟩ = some (.int .i32 (b[j]?.getD 0))) := by
    rcases hv with ⟨rfl, x, c, rfl⟩ | ⟨hp, d, off, c, rfl, h⟩
    · exact ⟨x, c, rfl, fun h => by simp at h⟩
    · exact ⟨_, c, rfl, fun _ => ⟨d, off, rfl, h⟩⟩
  obtain ⟨ua, uc, rfl, huf⟩ := hus
  obtain ⟨va, vc, rfl, hvf⟩ := hvs
  clear hu hv
  by_cases hl : a.length = b.length
  · have HR : Hid (∀ k, k ≤ a.length → (∀ j, j < k → a[j]?.getD 0 = b[j]?.getD 0) → k = a.length → a = b) := by
      intro k hk h e
      apply List.ext_getElem hl
      intro i h1 h2
      have := h i (by omega)
      rw [List.getElem?_eq_getElem h1, List.getElem?_eq_getElem h2] at this
      exact this
    have HNE : Hid (∀ k, k < a.length → a[k]?.getD 0 ≠ b[k]?.getD 0 → a ≠ b) := fun k hk h e => h (by rw [e])
    obtain ⟨n, hn⟩ : ∃ n, a.length = n := ⟨_, rfl⟩
    rw [hn] at ha huf HR HNE
    rw [← hl, hn] at hvf
    rw [← hl, hn]
    have HUF := hid huf
    have HVF := hid hvf
    have hdec : ∀ t : Bool, (t = true ↔ a = b) → Ending.returned (.bool t) = .returned (.bool (decide (a = b))) := fun t h => by
      congr 2
      cases t with
      | true => exact (decide_eq_true (h.1 rfl)).symm
      | false => exact (decide_eq_false (fun e => by have := h.2 e; cases this)).symm
    have HD := hid hdec
    obtain ⟨db, hdb⟩ : ∃ db, db = decide (a = b) := ⟨_, rfl⟩
    rw [← hdb] at HD ⊢
    clear huf hvf hl hn hdec hdb
    go_enter Tryz.func17, Tryz.ntmps17
    go_wp2_with fail
    go_loopw [5] (fun i wr => ∃ k : Nat, k ≤ n ∧ i = .int .i64 k ∧ Below w.heap.size w wr ∧ Hid (∀ j, j < k → a[j]?.getD 0 = b[j]?.getD 0)) (fun i _ => n - (intOf i).toNat)
    case atStart => exact ⟨0, Nat.zero_le _, rfl, Below.refl _ _, (fun j hj => by omega)⟩
    case round =>
      obtain ⟨k, hk, rfl, hB, HS⟩ := hrel
      by_cases hlt : k < n
      · obtain ⟨b1, o1, rfl, hc1⟩ := HUF.out (by omega)
        obtain ⟨b2, o2, rfl, hc2⟩ := HVF.out (by omega)
        have d1 : wr.cell? ⟨b1, o1 + k, none⟩ = some (.int .i32 (a[k]?.getD 0)) := (hB.cell (p := ⟨b1, o1 + k, none⟩) (lt_of_cell (hc1 k hlt))).trans (hc1 k hlt)
        have d2 : wr.cell? ⟨b2, o2 + k, none⟩ = some (.int .i32 (b[k]?.getD 0)) := (hB.cell (p := ⟨b2, o2 + k, none⟩) (lt_of_cell (hc2 k hlt))).trans (hc2 k hlt)
        have hltz : (k : Int) < (n : Int) := by omega
        by_cases he : a[k]?.getD 0 = b[k]?.getD 0
        · have HS2 : Hid (∀ j, j < k + 1 → a[j]?.getD 0 = b[j]?.getD 0) := fun j hj => by
            by_cases hjk : j = k
            · subst hjk; exact he
            · exact HS.out j (by omega)
          rw [← he] at d2
          generalize a[k]?.getD 0 = y at d1 d2
          clear hc1 hc2 he
          go_wp2_with fail
          go_quiet (fail)
          go_wp2
          go_roundw
          case rel => exact ⟨k + 1, by omega, by go_num, ⟨hB.os, hB.tape, hB.output, hB.size, hB.block⟩, HS2⟩
          case measure => simp [intOf]; omega
        · have HF := hid (HNE.out k hlt he)
          generalize a[k]?.getD 0 = y at d1 he
          generalize b[k]?.getD 0 = z at d2 he
          have hb : (y != z) = true := by simpa using he
          have hb2 : (y == z) = false := by simpa using he
          clear hc1 hc2 he
          go_wp2_with fail
          go_quiet (fail)
          go_wp2
          go_ret
          exact ⟨HD.out false ⟨fun h => (by cases h), fun h => absurd h HF.out⟩, ⟨hB.os, hB.tape, hB.output, hB.size, hB.block⟩⟩
      · have hltz : ¬ (k : Int) < (n : Int) := by omega
        have HE := hid (HR.out k hk HS.out (by omega))
        go_wp2
        go_ret
        exact ⟨HD.out true ⟨fun _ => HE.out, fun _ => rfl⟩, hB⟩
  · have hd : decide (a = b) = false := decide_eq_false (fun e => hl (by rw [e]))
    rw [hd]
    have hb : ((a.length : Int) != (b.length : Int)) = true := by simp; omega
    have hb2 : ((a.length : Int) == (b.length : Int)) = false := by simp; omega
    clear huf hvf
    go_enter Tryz.func17, Tryz.ntmps17
    go_wp2
    go_ret
    exact ⟨rfl, Below.refl _ _⟩


/-! ### Written and read -/
theorem cutK_none (l : List Int) (h : ∀ c ∈ l, c ≠ 45) : ∀ k, k ≤ l.length → cutK l k = 0
  | 0, _ => rfl
  | k + 1, hk => by
    rw [cutK, if_neg, cutK_none l h k (by omega)]
    rw [List.getElem?_eq_getElem (by omega)]
    exact h _ (List.getElem_mem _)
theorem cutK_skip (l : List Int) (m : Nat) (h : ∀ k, m ≤ k → k < l.length → l[k]?.getD 0 ≠ 45) : ∀ k, m ≤ k → k ≤ l.length → cutK l k = cutK l m
  | 0, h1, _ => by rw [show m = 0 by omega]
  | k + 1, h1, h2 => by
    by_cases e : m = k + 1
    · rw [e]
    · rw [cutK, if_neg (h k (by omega) (by omega)), cutK_skip l m h k (by omega) (by omega)]
theorem cut_of (p t : List Int) (hp : 0 < p.length) (ht : ∀ c ∈ t, 45 < c) : cutAt (p ++ [45] ++ t) = p.length := by
  have hl : (p ++ [45] ++ t).length = p.length + 1 + t.length := by simp; omega
  unfold cutAt
  rw [cutK_skip _ (p.length + 1) ?_ _ (by omega) (Nat.le_refl _)]
  · rw [cutK, if_pos]
    rw [List.append_assoc, List.getElem?_append_right (Nat.le_refl _), Nat.sub_self]; rfl
  · intro k h1 h2
    rw [hl] at h2
    rw [List.getElem?_append_right (by simp; omega)]
    have hk : k - (p ++ [45]).length < t.length := by simp; omega
    rw [List.getElem?_eq_getElem hk]
    have := ht _ (List.getElem_mem hk)
    show t[k - (p ++ [45]).length] ≠ 45
    omega
theorem parts_of (p t : List Int) (ht : ∀ c ∈ t, 45 < c) : fore (hd p ++ t) = p ∧ aft (hd p ++ t) = t := by
  by_cases hp : p.length = 0
  · have e : p = [] := List.eq_nil_of_length_eq_zero hp
    subst e
    have hc : cutAt t = 0 := cutK_none t (fun c hc => by have := ht c hc; omega) _ (Nat.le_refl _)
    simp only [hd, List.length_nil, if_true, List.nil_append]
    exact ⟨by rw [fore, hc]; rfl, by rw [aft, if_pos hc]⟩
  · have e : hd p ++ t = p ++ [45] ++ t := by unfold hd; rw [if_neg hp]
    rw [e]
    have hc := cut_of p t (by omega) ht
    constructor
    · rw [fore, hc, List.append_assoc, List.take_left]
    · rw [aft, hc, if_neg hp]
      have : p.length + 1 = (p ++ [45]).length := by simp
      rw [this, List.drop_left]
/-- What is written is read as itself. -/
theorem dec_enc {l T : List Int} (h : Enc l T) (hs : l.all scal = true) (hl : l.length ≤ 63) : DecP T = some l ∧ asc T = true := by
  have hsc : ∀ x ∈ l, scal x = true := List.all_eq_true.1 hs
  have h0 : ∀ x ∈ l, 0 ≤ x := fun x hx => (scal_le (hsc x hx)).1
  constructor
  · obtain ⟨ds, rfl, hr⟩ := h
    obtain ⟨e1, e2⟩ := parts_of (plain l) (tx (plain l).length ds) (fun c hc => (tx_signs _ ds c hc).1)
    unfold DecP
    rw [e1, e2]
    have hlen := run_len (plain l) ds
    rw [hr] at hlen
    have := RD_tx (plain l) (plain_lt l) [] ds (by rw [hr]; exact hsc) (by omega) []
    rw [List.append_nil] at this
    exact this.trans (by rw [RD_nil, hr])
  · unfold asc
    rw [List.all_eq_true]
    intro c hc
    have := h.ascii h0 c hc
    simp; omega
/-- Capitals behind the last hyphen made small. -/
def lower (L : List Int) : List Int := if cutAt L = 0 then L.map low else L.take (cutAt L + 1) ++ (L.drop (cutAt L + 1)).map low
theorem lower_len (L : List Int) : (lower L).length = L.length := by
  unfold lower
  split
  · simp
  · rw [List.length_append, List.length_map, List.length_take, List.length_drop]; omega
/-- What is read is written so, but for capitals. -/
theorem enc_dec {L pts : List Int} (h : DecP L = some pts) (ha : asc L = true) (hb : Bytes L) (hl : L.length ≤ 63) : Enc pts (lower L) ∧ pts.all scal = true ∧ pts.length ≤ 63 := by
  have hf : ∀ x ∈ fore L, 0 ≤ x ∧ x < 128 := fun x hx => by
    have hm := List.mem_of_mem_take hx
    have h1 := List.all_eq_true.1 ha x hm
    exact ⟨(hb x hm).1, by simpa using h1⟩
  obtain ⟨es, h1, h2, h3⟩ := RD_once (fore L) hf (aft L).length (aft L) [] pts (Nat.le_refl _) (fun x hx => scal_low (hf x hx).1 (hf x hx).2) h
  have hpl : plain pts = fore L := by rw [← h1]; exact run_low (fore L) (fun x hx => (hf x hx).2) es
  have hlow : lower L = hd (fore L) ++ (aft L).map low := by
    unfold lower hd aft fore
    by_cases hc : cutAt L = 0
    · rw [if_pos hc, hc, if_pos (by simp), if_pos rfl]; rfl
    · have hk := cutK_at L L.length hc
      change L[cutAt L]?.getD 0 = 45 ∧ cutAt L < L.length at hk
      rw [if_neg hc, if_neg hc, if_neg (by rw [List.length_take]; omega), take_snoc L _ hk.2, hk.1]
  have htx : tx (fore L).length es = (aft L).map low := by rw [h2]; simp [tx]
  have hE : Enc pts (lower L) := ⟨es, by rw [hpl, hlow, htx], by rw [hpl]; exact h1⟩
  refine ⟨hE, List.all_eq_true.2 h3, ?_⟩
  have l1 := run_len (fore L) es
  rw [h1] at l1
  have l2 := tx_len (fore L).length es
  rw [htx, List.length_map] at l2
  have l3 : (fore L).length + (aft L).length ≤ L.length := by
    unfold fore aft
    split
    · rename_i hc; rw [hc]; simp
    · rw [List.length_take, List.length_drop]; omega
  omega
end Go.Proofs.YtdncaehajhmcoaaGreat.P
/- The document's Encode: the same answers. -/
namespace Go.Proofs.YtdncaehajhmcoaaGreat.P
open Go.RowKit U
set_option linter.unusedVariables false

def lst2 (l : List Int) (n : Int) : Int := (l.filter fun x => decide (n ≤ x)).foldl min 1114112
theorem lst2_least (l : List Int) (n : Int) (hl : ∀ x ∈ l, x ≤ 1114111) (hex : ∃ x ∈ l, n ≤ x) : IsLeast l n (lst2 l n) := by
  obtain ⟨h1, h2, h3⟩ := foldl_min (l.filter fun x => decide (n ≤ x)) 1114112
  have e : lst2 l n = (l.filter fun x => decide (n ≤ x)).foldl min 1114112 := rfl
  rw [← e] at h1 h2 h3
  obtain ⟨x, hx, hnx⟩ := hex
  have hxm : x ∈ l.filter fun x => decide (n ≤ x) := List.mem_filter.mpr ⟨hx, by simpa using hnx⟩
  have a1 := h2 x hxm
  have a2 := hl x hx
  have mem : lst2 l n ∈ l.filter fun x => decide (n ≤ x) := by
    rcases h3 with h3 | h3
    · omega
    · exact h3
  obtain ⟨m1, m2⟩ := List.mem_filter.mp mem
  refine ⟨m1, by simpa using m2, fun y hy hb => ?_⟩
  have := h2 y (List.mem_filter.mpr ⟨hy, by simpa using hb.1⟩)
  omega
theorem lst2_snoc (l : List Int) (n : Int) (k : Nat) (h : k < l.length) : lst2 (l.take (k + 1)) n = if n ≤ l[k]?.getD 0 ∧ l[k]?.getD 0 < lst2 (l.take k) n then l[k]?.getD 0 else lst2 (l.take k) n := by
  unfold lst2
  rw [take_snoc l k h, List.filter_append, List.foldl_append]
  by_cases hx : n ≤ l[k]?.getD 0
  · simp only [hx, List.filter_cons, decide_true, if_true, List.filter_nil, List.foldl_cons, List.foldl_nil, true_and]
    split <;> omega
  · simp [hx]

/-- Where the document's writing stands. -/
structure Rw (l : List Int) (base : Nat) (w wr : World) (v : Value) (k h dl bias : Nat) (n : Int) (j : Nat) : Prop where
  n0 : 128 ≤ n
  n1 : n ≤ 1114112
  ex : ∃ ds : List Nat, EI l n j dl ds ∧ (∀ d ∈ ds, d ≤ 71303231) ∧ h = (plain l).length + ds.length ∧ k ≤ 100 + 71303232 * ds.length ∧ k = (hd (plain l) ++ tx (plain l).length ds).length ∧ bias = bia (plain l).length ds ∧
    wr.ownsRow base 5 1 v k ((hd (plain l) ++ tx (plain l).length ds).map (Value.int .u8))
  be : Below base w wr
section
variable {l : List Int} {base : Nat} {w wr : World} {v : Value} {k h dl bias : Nat} {n : Int} {j : Nat}
theorem Rw.h_le (s : Rw l base w wr v k h dl bias n j) : h ≤ l.length ∧ h = (had l n j).length ∧ (plain l).length ≤ h := by
  obtain ⟨ds, e, _, hh, _⟩ := s.ex
  have := e.len
  have := had_le l n j
  omega
theorem Rw.dl_le (s : Rw l base w wr v k h dl bias n j) (hl : l.length ≤ 63) : dl ≤ 71303231 := by
  obtain ⟨ds, e, _⟩ := s.ex
  exact e.bound s.n1 hl
theorem Rw.k_le (s : Rw l base w wr v k h dl bias n j) (hl : l.length ≤ 63) : k ≤ 10000000000 ∧ bias ≤ 1000000000 := by
  have := s.h_le
  obtain ⟨ds, e, hd, hh, hk, _, hb, _⟩ := s.ex
  exact ⟨by omega, by rw [hb]; exact bia_le _ _ hd⟩
theorem Rw.less (s : Rw l base w wr v k h dl bias n j) (hj : j < l.length) (hx : l[j]?.getD 0 < n) : Rw l base w wr v k h (dl + 1) bias n (j + 1) := by
  obtain ⟨ds, e, r⟩ := s.ex
  exact ⟨s.n0, s.n1, ⟨ds, e.less hj hx, r⟩, s.be⟩
theorem Rw.more (s : Rw l base w wr v k h dl bias n j) (hj : j < l.length) (hx : n < l[j]?.getD 0) : Rw l base w wr v k h dl bias n (j + 1) := by
  obtain ⟨ds, e, r⟩ := s.ex
  exact ⟨s.n0, s.n1, ⟨ds, e.more hj hx, r⟩, s.be⟩
theorem Rw.pass (s : Rw l base w wr v k h dl bias n l.length) (hn : n ≤ 1114111) : Rw l base w wr v k h (dl + 1) bias (n + 1) 0 := by
  obtain ⟨ds, e, r⟩ := s.ex
  exact ⟨by have := s.n0; omega, by omega, ⟨ds, e.pass, r⟩, s.be⟩
theorem Rw.jump (s : Rw l base w wr v k h dl bias n 0) (m : Int) (hm : IsLeast l n m) (hl : ∀ x ∈ l, x ≤ 1114111) (D : Nat) (hD : (D : Int) = dl + (m - n) * ((h : Int) + 1)) : Rw l base w wr v k h D bias m 0 := by
  obtain ⟨-, hh, -⟩ := s.h_le
  obtain ⟨ds, e, r⟩ := s.ex
  have := hl m hm.1
  exact ⟨by have := s.n0; have := hm.2.1; omega, by omega, ⟨ds, e.jump hm.2.1 hm.2.2 D (by rw [← hh]; exact hD), r⟩, s.be⟩
theorem Rw.left (s : Rw l base w wr v k h dl bias n 0) (hl : h < l.length) : ∃ x ∈ l, n ≤ x := by
  obtain ⟨-, hh, -⟩ := s.h_le
  exact EI.left (dl := dl) (ds := []) (by omega)
/-- A number is written. -/
theorem Rw.put (s : Rw l base w wr v k h dl bias n j) (hlen : l.length ≤ 63) (hj : j < l.length) (hx : l[j]?.getD 0 = n) {X : List Int} (hX : X = hd (plain l) ++ tx (plain l).length (Classical.choose s.ex)) {w2 : World} {v2 : Value}
    (r2 : w2.ownsRow base 5 1 v2 (k + (wn bias 36 dl).length) ((X ++ wn bias 36 dl).map (Value.int .u8))) (b2 : Below base w w2) :
    Rw l base w w2 v2 (k + (wn bias 36 dl).length) (h + 1) 0 (adapt dl (h + 1) (decide (h = (plain l).length))) n (j + 1) := by
  have hdl := s.dl_le hlen
  have hc := Classical.choose_spec s.ex
  generalize Classical.choose s.ex = ds at *
  obtain ⟨e, hds, hh2, hk, hkl, hb, hr⟩ := hc
  have hw := wn_le bias 36 dl
  refine ⟨s.n0, s.n1, ⟨dl :: ds, e.put hj hx, ?_, by rw [List.length_cons]; omega, by rw [List.length_cons]; omega, ?_, ?_, ?_⟩, b2⟩
  · intro d hd
    rcases List.mem_cons.mp hd with rfl | hd
    · exact hdl
    · exact hds d hd
  · rw [hkl, tx, ← List.append_assoc, List.length_append (bs := wn _ _ _), hb]
  · rw [bia, hh2]
    congr 1
    cases ds with
    | nil => simp
    | cons d ds => simp
  · rw [tx, ← List.append_assoc, ← hX, ← hb]; exact r2
theorem Rw.fin (s : Rw l base w wr v k h dl bias n 0) (hl : l.length ≤ h) (h0 : ∀ x ∈ l, 0 ≤ x) : ∃ T, (convert 39 9 v).run Tryz.prog wr = .ok (.string T) wr ∧ Enc l (bn T) ∧ T.size = k := by
  obtain ⟨-, hh, -⟩ := s.h_le
  obtain ⟨ds, e, _, hh2, hk, hkl, _, hr⟩ := s.ex
  have E : Enc l (hd (plain l) ++ tx (plain l).length ds) := ⟨ds, rfl, e.fin (by omega)⟩
  obtain ⟨T, h1, h2⟩ := conv_string wr base v k (hd (plain l) ++ tx (plain l).length ds) hkl (fun c hc => by have := E.ascii h0 c hc; omega) hr
  exact ⟨T, h1, by rw [h2]; exact E, by rw [← bn_length, h2, hkl]⟩
end
end Go.Proofs.YtdncaehajhmcoaaGreat.P
