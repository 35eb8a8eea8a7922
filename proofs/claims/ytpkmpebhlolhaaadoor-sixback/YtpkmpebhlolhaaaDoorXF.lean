/- The document's dotted. (Stage 11.) -/
import Derived.Test.YtpkmpebhlolhaaaDoorXE
import Derived.Laws.OwnMore
import Derived.Laws.BitsLemmas
namespace Go.Proofs.YtpkmpebhlolhaaaDoor.X
open Go.RowKit
open Go.Proofs.YtpkmpebhlolhaaaDoor.F (hx hx_bd vl bn bn_length bn_append bn_inj bn_get byte_bd hid bn_extract isEmpty_false isEmpty_true str_eq same_eq)
set_option linter.unusedVariables false

/-! ### Plain -/
theorem ten_hx {c : Int} (h : ten c = true) : hx c = c - 48 := by
  have := of_decide_eq_true h
  unfold hx
  rw [if_pos this]
theorem v10_lt : ∀ (l : List Int) (x : Nat), l.all ten = true → l.foldl (fun n c => n * 10 + (hx c).toNat) x + 1 ≤ (x + 1) * 10 ^ l.length
  | [], x, _ => by simp
  | c :: l, x, h => by
    rw [List.all_cons, Bool.and_eq_true] at h
    have ih := v10_lt l (x * 10 + (hx c).toNat) h.2
    have hb := of_decide_eq_true h.1
    rw [ten_hx h.1] at ih
    rw [List.foldl_cons, List.length_cons, Nat.pow_succ, ten_hx h.1]
    refine Nat.le_trans ih ?_
    have h1 : x * 10 + (c - 48).toNat + 1 ≤ (x + 1) * 10 := by omega
    exact Nat.le_trans (Nat.mul_le_mul_right _ h1) (Nat.le_of_eq (by rw [Nat.mul_assoc, Nat.mul_comm 10]))
theorem v10 {l : List Int} (h : l.all ten = true) : vl 10 l < 10 ^ l.length := by
  have := v10_lt l 0 h
  unfold vl
  omega
theorem vl10_snoc (l : List Int) (c : Int) : vl 10 (l ++ [c]) = vl 10 l * 10 + (hx c).toNat := by unfold vl; rw [List.foldl_append]; rfl
/-- What is asked of a number's text ahead of its digits. -/
def dnF (p : List Int) : Bool := decide (1 ≤ p.length ∧ p.length ≤ 3 ∧ ¬ (1 < p.length ∧ p[0]?.getD 0 = 48))
theorem dn_bad {p : List Int} (h : dnF p = false) : dn p = none := by
  have := of_decide_eq_false h
  unfold dn
  rw [if_neg (fun hh => this ⟨hh.1, hh.2.1, hh.2.2.1⟩)]
theorem dn_sign {p : List Int} {k : Nat} (hk : k < p.length) (h : ten (p[k]?.getD 0) = false) : dn p = none := by
  unfold dn
  rw [if_neg]
  intro hh
  have := List.all_eq_true.1 hh.2.2.2.1 _ (List.getElem_mem hk)
  rw [List.getElem?_eq_getElem hk] at h
  simp only [Option.getD_some] at h
  rw [h] at this
  cases this
theorem dn_end {p : List Int} (h : dnF p = true) (ha : p.all ten = true) : dn p = if vl 10 p ≤ 255 then some (vl 10 p) else none := by
  obtain ⟨h1, h2, h3⟩ := of_decide_eq_true h
  unfold dn
  by_cases h4 : vl 10 p ≤ 255
  · rw [if_pos h4, if_pos ⟨h1, h2, h3, ha, h4⟩]
  · rw [if_neg h4, if_neg (fun hh => h4 hh.2.2.2.2)]
theorem four_bad {l : List (Option Nat)} {i : Nat} (hi : i < l.length) (h : l[i]?.getD (some 0) = none) : four2 l = none := by
  rw [List.getElem?_eq_getElem hi] at h
  match l, i, hi, h with
  | [], i, hi, _ => simp at hi
  | [a], _, _, _ => rcases a <;> rfl
  | [a, b], _, _, _ => rcases a <;> rcases b <;> rfl
  | [a, b, c], _, _, _ => rcases a <;> rcases b <;> rcases c <;> rfl
  | a :: b :: c :: d :: e :: r, _, _, _ => rcases a <;> rcases b <;> rcases c <;> rcases d <;> rfl
  | [a, b, c, d], i, hi, h =>
    have h4 : i = 0 ∨ i = 1 ∨ i = 2 ∨ i = 3 := by simp at hi; omega
    rcases h4 with rfl | rfl | rfl | rfl
    · simp at h; subst h; rfl
    · simp at h; subst h; rcases a <;> rfl
    · simp at h; subst h; rcases a <;> rcases b <;> rfl
    · simp at h; subst h; rcases a <;> rcases b <;> rcases c <;> rfl
theorem four_len {l : List (Option Nat)} (h : l.length ≠ 4) : four2 l = none := by
  match l, h with
  | [], _ => rfl
  | [a], _ => rcases a <;> rfl
  | [a, b], _ => rcases a <;> rcases b <;> rfl
  | [a, b, c], _ => rcases a <;> rcases b <;> rcases c <;> rfl
  | [a, b, c, d], h => exact absurd rfl h
  | a :: b :: c :: d :: e :: r, _ => rcases a <;> rcases b <;> rcases c <;> rcases d <;> rfl
theorem four_ok {l : List (Option Nat)} {a b c d : Nat} (hl : l.length = 4) (h0 : l[0]?.getD none = some a) (h1 : l[1]?.getD none = some b) (h2 : l[2]?.getD none = some c) (h3 : l[3]?.getD none = some d) : four2 l = some [a * 256 + b, c * 256 + d] := by
  match l, hl, h0, h1, h2, h3 with
  | [w, x, y, z], _, h0, h1, h2, h3 =>
    simp at h0 h1 h2 h3
    subst h0 h1 h2 h3
    rfl
theorem lt_cell {w : World} {p : Addr} {v : Value} (h : w.cell? p = some v) : p.block < w.heap.size := by
  rcases Nat.lt_or_ge p.block w.heap.size with hb | hb
  · exact hb
  · simp [World.cell?, Array.getElem?_eq_none hb] at h
theorem set_same {X : List Nat} {i : Nat} (hl : X.length = 4) (hi : i < 4) (h : X[i]?.getD 0 = 0) : X.set i 0 = X := by
  apply List.ext_getElem?
  intro j
  by_cases e : i = j
  · subst e
    rw [List.getElem?_set_self (by omega)]
    rw [List.getElem?_eq_getElem (by omega)] at h ⊢
    simp at h
    rw [h]
  · rw [List.getElem?_set_ne e]
theorem dn_le {p : List Int} {v : Nat} (h : dn p = some v) : v ≤ 255 := by
  unfold dn at h
  split at h
  · cases h; rename_i hh; exact hh.2.2.2.2
  · cases h
theorem cell_alloc (w : World) (t : TypeId) (l : List Value) (j : Nat) (u : Value) (h : l[j]? = some u) : (w.alloc (.cells l.toArray t)).cell? ⟨w.heap.size, j, none⟩ = some u := by
  have := news_one w t l j u h
  rwa [show (⟨w.heap.size, 0, none⟩ : Addr).add j = ⟨w.heap.size, j, none⟩ from by unfold Addr.add; split <;> simp_all] at this
/-- What dotted answers. -/
def DotR (l : List Int) (w : World) (e : Ending) (W' : World) : Prop :=
  ((dt l = none ∧ e = .returned (.tuple #[.slice none 0 0, .bool false])) ∨ (∃ g c x y, dt l = some [x, y] ∧ x < 65536 ∧ y < 65536 ∧ e = .returned (.tuple #[.slice (some ⟨g, 0, none⟩) 2 c, .bool true]) ∧ W'.cell? ⟨g, 0, none⟩ = some (.int .u16 (x : Nat)) ∧ W'.cell? ⟨g, 1, none⟩ = some (.int .u16 (y : Nat)))) ∧ Below w.heap.size w W'
set_option maxRecDepth 100000 in
set_option maxHeartbeats 8000000 in
theorem rdotted_any (s : ByteArray) (w : World) (hs : s.size ≤ 100000) :
    Calls Tryd.prog 29 #[.string s] w fun e W' => DotR (bn s) w e W' := by
  have HSP := hid (rsplit_any s 46 w hs)
  have HNO : Hid (∀ W, dt (bn s) = none → Below w.heap.size w W → DotR (bn s) w (.returned (.tuple #[.slice none 0 0, .bool false])) W) := fun W h hB => ⟨.inl ⟨h, rfl⟩, hB⟩
  go_enter Tryd.func29, Tryd.ntmps29
  go_wp2_with fail
  refine HSP.out.mono ?_
  rintro e w1 ⟨⟨g, c, qs, rfl, hne, hqs, hcb⟩, B1⟩
  have HB1 := hid B1
  have z1 := B1.size
  have HDT : Hid (dt (bn s) = four2 ((qs.map bn).map dn)) := by show _ = _; unfold dt; rw [hqs]
  have HCB := hid hcb
  by_cases h4 : qs.length = 4
  · have HL4 := hid h4
    rw [h4] at HCB
    rw [h4]
    have HBAD : Hid (∀ i, i < 4 → dn (bn (qs[i]?.getD ⟨#[]⟩)) = none → dt (bn s) = none) := fun i hi h => by
      rw [HDT.out]
      refine four_bad (i := i) (by simp; omega) ?_
      rw [List.getElem?_map, List.getElem?_map, List.getElem?_eq_getElem (by omega)] at *
      simpa using h
    have HGOOD : Hid (∀ a b c d, dn (bn (qs[0]?.getD ⟨#[]⟩)) = some a → dn (bn (qs[1]?.getD ⟨#[]⟩)) = some b → dn (bn (qs[2]?.getD ⟨#[]⟩)) = some c → dn (bn (qs[3]?.getD ⟨#[]⟩)) = some d → dt (bn s) = some [a * 256 + b, c * 256 + d]) := fun a b c d e0 e1 e2 e3 => by
      rw [HDT.out]
      have hg : ∀ i (hi : i < 4), ((qs.map bn).map dn)[i]?.getD none = dn (bn (qs[i]?.getD ⟨#[]⟩)) := fun i hi => by
        rw [List.getElem?_map, List.getElem?_map, List.getElem?_eq_getElem (by omega)]; rfl
      exact four_ok (by simp [h4]) ((hg 0 (by decide)).trans e0) ((hg 1 (by decide)).trans e1) ((hg 2 (by decide)).trans e2) ((hg 3 (by decide)).trans e3)
    clear hcb hqs hne h4 HDT B1 HL4
    have HR0 : Hid ((w1.alloc (.cells #[.int .u16 0, .int .u16 0, .int .u16 0, .int .u16 0] 75)).ownsRow w1.heap.size 75 1 (.slice (some ⟨w1.heap.size, 0, none⟩) 4 4) 4 ([0, 0, 0, 0].map (fun x : Nat => Value.int .u16 x))) :=
      ⟨rfl, .inr ⟨w1.heap.size, 4, #[.int .u16 0, .int .u16 0, .int .u16 0, .int .u16 0], rfl, Nat.le_refl _, heap_alloc_new w1 _, Nat.le_refl _, by decide, rfl, rfl⟩⟩
    have HBA : Hid (Below w1.heap.size w1 (w1.alloc (.cells #[.int .u16 0, .int .u16 0, .int .u16 0, .int .u16 0] 75))) := (Below.refl _ _).alloc (Nat.le_refl _) _
    go_wp2_with fail
    go_loopw [6] (fun v6 wr => ∃ (i : Nat) (X : List Nat), i ≤ 4 ∧ v6 = .int .i64 i ∧ Hid (X.length = 4) ∧ Hid (∀ j, j < i → dn (bn (qs[j]?.getD ⟨#[]⟩)) = some (X[j]?.getD 0)) ∧ Hid (∀ j, i ≤ j → X[j]?.getD 0 = 0) ∧ Hid (wr.ownsRow w1.heap.size 75 1 (.slice (some ⟨w1.heap.size, 0, none⟩) 4 4) 4 (X.map (fun x : Nat => Value.int .u16 x))) ∧ Hid (Below w1.heap.size w1 wr)) (fun v6 _ => 4 - (intOf v6).toNat)
    case atStart => exact ⟨0, [0, 0, 0, 0], Nat.zero_le _, rfl, rfl, (fun j h => by omega), (fun j _ => by
      match j with
      | 0 | 1 | 2 | 3 => rfl
      | j + 4 => rfl), HR0, HBA⟩
    case round =>
      obtain ⟨i, X, hi, rfl, HXL, HXD, HXZ, HR, HB⟩ := hrel
      have zj := HB.out.size
      by_cases hlt : i < 4
      · have hi4 := hlt
        have hcw := HCB.out i hlt
        have hgl := lt_cell hcw
        simp only at hgl
        have HCR : Hid (∀ W, Below w1.heap.size w1 W → W.cell? ⟨g, i, none⟩ = some (.string (qs[i]?.getD ⟨#[]⟩))) := fun W h => (h.cell (p := ⟨g, i, none⟩) hgl).trans hcw
        have HX1 := hid (HBAD.out i hlt)
        obtain ⟨D, hD⟩ : ∃ D, qs[i]?.getD ⟨#[]⟩ = D := ⟨_, rfl⟩
        have HDD := hid hD
        rw [hD] at HCR HX1
        have hcr := HCR.out _ HB.out
        have hltz : (i : Int) < 4 := by omega
        have HF : Hid (dnF (bn D) = decide (1 ≤ D.size ∧ D.size ≤ 3 ∧ ¬ (1 < D.size ∧ (bn D)[0]?.getD 0 = 48))) := by show _ = _; unfold dnF; rw [bn_length]
        have HBF : Hid (dnF (bn D) = false → dt (bn s) = none) := fun h => HX1.out (dn_bad h)
        clear hcw hD
        by_cases d1 : D.size < 1
        · have HN := hid (HBF.out (HF.out.trans (decide_eq_false (by omega))))
          have d1z : (D.size : Int) < 1 := by omega
          clear HBF HF HX1 HCR HXD HXZ HXL HGOOD HBAD HCB
          go_wp2
          go_ret2
          exact HNO.out _ HN.out (HB1.out.trans (HB.out.mono z1))
        by_cases d3 : 3 < D.size
        · have HN := hid (HBF.out (HF.out.trans (decide_eq_false (by omega))))
          have d1z : ¬ (D.size : Int) < 1 := by omega
          have d3z : (3 : Int) < (D.size : Int) := by omega
          clear HBF HF HX1 HCR HXD HXZ HXL HGOOD HBAD HCB
          go_wp2
          go_ret2
          exact HNO.out _ HN.out (HB1.out.trans (HB.out.mono z1))
        have d1z : ¬ (D.size : Int) < 1 := by omega
        have d3z : ¬ (3 : Int) < (D.size : Int) := by omega
        have hg0 := (bn_get D 0 (by omega)).symm
        obtain ⟨y0, hy0⟩ : ∃ y, (bn D)[0]?.getD 0 = y := ⟨_, rfl⟩
        rw [hy0] at hg0 HF
        clear hy0
        by_cases d2 : 1 < D.size ∧ y0 = 48
        · obtain ⟨d2a, rfl⟩ := d2
          have HN := hid (HBF.out (HF.out.trans (decide_eq_false (by omega))))
          have d2z : (1 : Int) < (D.size : Int) := by omega
          clear HBF HF HX1 HCR HXD HXZ HXL HGOOD HBAD HCB
          go_wp2
          go_ret2
          exact HNO.out _ HN.out (HB1.out.trans (HB.out.mono z1))
        have HFT : Hid (dnF (bn D) = true) := HF.out.trans (decide_eq_true ⟨by omega, by omega, d2⟩)
        have hpick : (decide ((1 : Int) < (D.size : Int)) && (y0 == 48)) = false := by
          rw [Bool.and_eq_false_iff]
          by_cases e : 1 < D.size
          · right; simpa using fun h => d2 ⟨e, h⟩
          · left; exact decide_eq_false (by omega)
        have HX0 := hid (HXZ.out i (Nat.le_refl _))
        have hS1 : 1 ≤ D.size := by omega
        have hS3 : D.size ≤ 3 := by omega
        clear HBF HF
        have HUP : Hid (∃ b : Bool, decide ((1 : Int) < (D.size : Int)) = b ∧ (b = true → (y0 == 48) = false)) := ⟨_, rfl, fun h => by rw [h] at hpick; simpa using hpick⟩
        obtain ⟨b1, hb1, hb2⟩ := HUP.out
        clear hpick d2 HUP
        cases b1 with
        | true =>
          have hy48 := hb2 rfl
          clear hb2
          go_wp2_with fail
          go_loopw [7] (fun v7 wi => ∃ (k y : Nat), k ≤ D.size ∧ v7 = .int .i64 k ∧ y < 10 ^ k ∧ Hid (y = vl 10 ((bn D).take k)) ∧ Hid (((bn D).take k).all ten = true) ∧ Hid (wi.ownsRow w1.heap.size 75 1 (.slice (some ⟨w1.heap.size, 0, none⟩) 4 4) 4 ((X.set i y).map (fun x : Nat => Value.int .u16 x))) ∧ Hid (Below w1.heap.size w1 wi)) (fun v7 _ => D.size - (intOf v7).toNat)
          case atStart => exact ⟨0, 0, Nat.zero_le _, rfl, by decide, rfl, rfl, by show World.ownsRow _ _ _ _ _ _ _; rw [set_same HXL.out hi4 HX0.out]; exact HR.out, HB⟩
          case round =>
            obtain ⟨k, y, hk, rfl, hy10, HV, HA, HRi, HBi⟩ := hrel
            have hcr := HCR.out _ HBi.out
            have hxl := HXL.out
            have hcy : wr.cell? ⟨w1.heap.size, i, none⟩ = some (.int .u16 (y : Nat)) := by
              rw [HRi.out.cellAt i (by omega), List.getElem?_map, List.getElem?_set_self (by omega)]; rfl
            have hfz := HRi.out.frozenAt i
            have hy1000 : y < 1000 := Nat.lt_of_lt_of_le hy10 (Nat.le_trans (Nat.pow_le_pow_right (by decide) (by omega : k ≤ 3)) (by decide))
            by_cases hkl : k < D.size
            · have hg := (bn_get D k hkl).symm
              obtain ⟨q0, q1⟩ := byte_bd hkl
              have HSG : Hid (ten ((bn D)[k]?.getD 0) = false → dt (bn s) = none) := fun h => HX1.out (dn_sign (by rw [bn_length]; exact hkl) h)
              have HTK := hid (take_one (bn D) k (by rw [bn_length]; exact hkl))
              have HNX : Hid (ten ((bn D)[k]?.getD 0) = true → y * 10 + ((bn D)[k]?.getD 0 - 48).toNat = vl 10 ((bn D).take (k + 1)) ∧ ((bn D).take (k + 1)).all ten = true) := fun h => by
                rw [HTK.out, vl10_snoc, ← HV.out, List.all_append, HA.out, ten_hx h]
                exact ⟨rfl, by simp [h]⟩
              obtain ⟨x, hx1⟩ : ∃ x, (bn D)[k]?.getD 0 = x := ⟨_, rfl⟩
              rw [hx1] at hg q0 q1 HSG HNX
              have HTE : Hid (ten x = decide (48 ≤ x ∧ x ≤ 57)) := rfl
              clear hx1 HTK HV HA
              by_cases ht : 48 ≤ x ∧ x ≤ 57
              · obtain ⟨t1, t2⟩ := ht
                obtain ⟨s1, s2⟩ := HNX.out (HTE.out.trans (decide_eq_true ⟨t1, t2⟩))
                obtain ⟨d, hd⟩ : ∃ d : Nat, x = 48 + (d : Int) := ⟨(x - 48).toNat, by omega⟩
                have hd9 : d ≤ 9 := by omega
                have hdd : (x - 48).toNat = d := by omega
                rw [hdd] at s1
                have S1 := hid s1
                have S2 := hid s2
                have S3 : Hid (y * 10 + d < 10 ^ (k + 1)) := by show _ < _; rw [Nat.pow_succ]; omega
                have hxd : x - 48 = (d : Int) := by omega
                have HST := hid (HRi.out.stored i (.int .u16 ((y * 10 + d : Nat) : Int))).1
                have HB3 := hid (HBi.out.setCell (p := ⟨w1.heap.size, i, none⟩) (Nat.le_refl _) (.int .u16 ((y * 10 + d : Nat) : Int)))
                have HEQ : Hid (((X.set i y).map (fun x : Nat => Value.int .u16 x)).set i (.int .u16 ((y * 10 + d : Nat) : Int)) = (X.set i (y * 10 + d)).map (fun x : Nat => Value.int .u16 x)) := by
                  show _ = _
                  rw [← List.map_set (f := fun x : Nat => Value.int .u16 x), List.set_set]
                have hcast : ((y * 10 + d : Nat) : Int) = (y : Int) * 10 + (d : Int) := by omega
                rw [hcast] at HST HB3 HEQ
                clear s1 s2 hd hdd HSG HNX HTE HRi HBi hy10 hcast
                go_wp2_with fail
                go_roundw
                case rel => exact ⟨k + 1, y * 10 + d, by omega, by go_num, S3.out, S1, S2, by show World.ownsRow _ _ _ _ _ _ _; rw [← HEQ.out]; exact HST.out, HB3⟩
                case measure => simp [intOf]; omega
              · have HN := hid (HSG.out (HTE.out.trans (decide_eq_false ht)))
                have HBL := hid (HB1.out.trans (HBi.out.mono z1))
                clear HSG HNX HTE HRi HR HCR HXD HXZ HXL HGOOD HBAD HCB
                by_cases ht1 : x < 48
                · go_wp2
                  go_ret2
                  exact HNO.out _ HN.out HBL.out
                · have ht2 : 57 < x := by omega
                  go_wp2
                  go_ret2
                  exact HNO.out _ HN.out HBL.out
            · have htk : (bn D).take k = bn D := List.take_of_length_le (by rw [bn_length]; omega)
              rw [htk] at HV HA
              have HEN := hid (dn_end HFT.out HA.out)
              rw [← HV.out] at HEN
              clear htk HV HA hy10
              by_cases h255 : y ≤ 255
              · have HD1 : Hid (dn (bn D) = some y) := HEN.out.trans (if_pos h255)
                have HXN : Hid (∀ j, j < i + 1 → dn (bn (qs[j]?.getD ⟨#[]⟩)) = some ((X.set i y)[j]?.getD 0)) := fun j hj => by
                  by_cases e : j = i
                  · rw [e, HDD.out, HD1.out, List.getElem?_set_self (by omega)]; rfl
                  · rw [HXD.out j (by omega), List.getElem?_set_ne (by omega)]
                have HXM : Hid (∀ j, i + 1 ≤ j → (X.set i y)[j]?.getD 0 = 0) := fun j hj => by rw [List.getElem?_set_ne (by omega)]; exact HXZ.out j (by omega)
                have HXK : Hid ((X.set i y).length = 4) := by show _ = _; rw [List.length_set]; exact hxl
                have h255z : ¬ ((255 : Int) < (y : Int)) := by omega
                clear HEN HD1
                go_wp2_with fail
                go_roundw
                case rel => exact ⟨i + 1, X.set i y, by omega, by go_num, HXK, HXN, HXM, HRi, HBi⟩
                case measure => simp [intOf]; omega
              · have HN := hid (HX1.out (HEN.out.trans (if_neg h255)))
                have HBL := hid (HB1.out.trans (HBi.out.mono z1))
                have h255z : (255 : Int) < (y : Int) := by omega
                clear HEN HRi HR HCR HXD HXZ HXL HGOOD HBAD HCB
                go_wp2
                go_ret2
                exact HNO.out _ HN.out HBL.out
        | false =>
          clear hb2
          go_wp2_with fail
          go_loopw [7] (fun v7 wi => ∃ (k y : Nat), k ≤ D.size ∧ v7 = .int .i64 k ∧ y < 10 ^ k ∧ Hid (y = vl 10 ((bn D).take k)) ∧ Hid (((bn D).take k).all ten = true) ∧ Hid (wi.ownsRow w1.heap.size 75 1 (.slice (some ⟨w1.heap.size, 0, none⟩) 4 4) 4 ((X.set i y).map (fun x : Nat => Value.int .u16 x))) ∧ Hid (Below w1.heap.size w1 wi)) (fun v7 _ => D.size - (intOf v7).toNat)
          case atStart => exact ⟨0, 0, Nat.zero_le _, rfl, by decide, rfl, rfl, by show World.ownsRow _ _ _ _ _ _ _; rw [set_same HXL.out hi4 HX0.out]; exact HR.out, HB⟩
          case round =>
            obtain ⟨k, y, hk, rfl, hy10, HV, HA, HRi, HBi⟩ := hrel
            have hcr := HCR.out _ HBi.out
            have hxl := HXL.out
            have hcy : wr.cell? ⟨w1.heap.size, i, none⟩ = some (.int .u16 (y : Nat)) := by
              rw [HRi.out.cellAt i (by omega), List.getElem?_map, List.getElem?_set_self (by omega)]; rfl
            have hfz := HRi.out.frozenAt i
            have hy1000 : y < 1000 := Nat.lt_of_lt_of_le hy10 (Nat.le_trans (Nat.pow_le_pow_right (by decide) (by omega : k ≤ 3)) (by decide))
            by_cases hkl : k < D.size
            · have hg := (bn_get D k hkl).symm
              obtain ⟨q0, q1⟩ := byte_bd hkl
              have HSG : Hid (ten ((bn D)[k]?.getD 0) = false → dt (bn s) = none) := fun h => HX1.out (dn_sign (by rw [bn_length]; exact hkl) h)
              have HTK := hid (take_one (bn D) k (by rw [bn_length]; exact hkl))
              have HNX : Hid (ten ((bn D)[k]?.getD 0) = true → y * 10 + ((bn D)[k]?.getD 0 - 48).toNat = vl 10 ((bn D).take (k + 1)) ∧ ((bn D).take (k + 1)).all ten = true) := fun h => by
                rw [HTK.out, vl10_snoc, ← HV.out, List.all_append, HA.out, ten_hx h]
                exact ⟨rfl, by simp [h]⟩
              obtain ⟨x, hx1⟩ : ∃ x, (bn D)[k]?.getD 0 = x := ⟨_, rfl⟩
              rw [hx1] at hg q0 q1 HSG HNX
              have HTE : Hid (ten x = decide (48 ≤ x ∧ x ≤ 57)) := rfl
              clear hx1 HTK HV HA
              by_cases ht : 48 ≤ x ∧ x ≤ 57
              · obtain ⟨t1, t2⟩ := ht
                obtain ⟨s1, s2⟩ := HNX.out (HTE.out.trans (decide_eq_true ⟨t1, t2⟩))
                obtain ⟨d, hd⟩ : ∃ d : Nat, x = 48 + (d : Int) := ⟨(x - 48).toNat, by omega⟩
                have hd9 : d ≤ 9 := by omega
                have hdd : (x - 48).toNat = d := by omega
                rw [hdd] at s1
                have S1 := hid s1
                have S2 := hid s2
                have S3 : Hid (y * 10 + d < 10 ^ (k + 1)) := by show _ < _; rw [Nat.pow_succ]; omega
                have hxd : x - 48 = (d : Int) := by omega
                have HST := hid (HRi.out.stored i (.int .u16 ((y * 10 + d : Nat) : Int))).1
                have HB3 := hid (HBi.out.setCell (p := ⟨w1.heap.size, i, none⟩) (Nat.le_refl _) (.int .u16 ((y * 10 + d : Nat) : Int)))
                have HEQ : Hid (((X.set i y).map (fun x : Nat => Value.int .u16 x)).set i (.int .u16 ((y * 10 + d : Nat) : Int)) = (X.set i (y * 10 + d)).map (fun x : Nat => Value.int .u16 x)) := by
                  show _ = _
                  rw [← List.map_set (f := fun x : Nat => Value.int .u16 x), List.set_set]
                have hcast : ((y * 10 + d : Nat) : Int) = (y : Int) * 10 + (d : Int) := by omega
                rw [hcast] at HST HB3 HEQ
                clear s1 s2 hd hdd HSG HNX HTE HRi HBi hy10 hcast
                go_wp2_with fail
                go_roundw
                case rel => exact ⟨k + 1, y * 10 + d, by omega, by go_num, S3.out, S1, S2, by show World.ownsRow _ _ _ _ _ _ _; rw [← HEQ.out]; exact HST.out, HB3⟩
                case measure => simp [intOf]; omega
              · have HN := hid (HSG.out (HTE.out.trans (decide_eq_false ht)))
                have HBL := hid (HB1.out.trans (HBi.out.mono z1))
                clear HSG HNX HTE HRi HR HCR HXD HXZ HXL HGOOD HBAD HCB
                by_cases ht1 : x < 48
                · go_wp2
                  go_ret2
                  exact HNO.out _ HN.out HBL.out
                · have ht2 : 57 < x := by omega
                  go_wp2
                  go_ret2
                  exact HNO.out _ HN.out HBL.out
            · have htk : (bn D).take k = bn D := List.take_of_length_le (by rw [bn_length]; omega)
              rw [htk] at HV HA
              have HEN := hid (dn_end HFT.out HA.out)
              rw [← HV.out] at HEN
              clear htk HV HA hy10
              by_cases h255 : y ≤ 255
              · have HD1 : Hid (dn (bn D) = some y) := HEN.out.trans (if_pos h255)
                have HXN : Hid (∀ j, j < i + 1 → dn (bn (qs[j]?.getD ⟨#[]⟩)) = some ((X.set i y)[j]?.getD 0)) := fun j hj => by
                  by_cases e : j = i
                  · rw [e, HDD.out, HD1.out, List.getElem?_set_self (by omega)]; rfl
                  · rw [HXD.out j (by omega), List.getElem?_set_ne (by omega)]
                have HXM : Hid (∀ j, i + 1 ≤ j → (X.set i y)[j]?.getD 0 = 0) := fun j hj => by rw [List.getElem?_set_ne (by omega)]; exact HXZ.out j (by omega)
                have HXK : Hid ((X.set i y).length = 4) := by show _ = _; rw [List.length_set]; exact hxl
                have h255z : ¬ ((255 : Int) < (y : Int)) := by omega
                clear HEN HD1
                go_wp2_with fail
                go_roundw
                case rel => exact ⟨i + 1, X.set i y, by omega, by go_num, HXK, HXN, HXM, HRi, HBi⟩
                case measure => simp [intOf]; omega
              · have HN := hid (HX1.out (HEN.out.trans (if_neg h255)))
                have HBL := hid (HB1.out.trans (HBi.out.mono z1))
                have h255z : (255 : Int) < (y : Int) := by omega
                clear HEN HRi HR HCR HXD HXZ HXL HGOOD HBAD HCB
                go_wp2
                go_ret2
                exact HNO.out _ HN.out HBL.out
      · have hi4 : i = 4 := by omega
        subst hi4
        obtain ⟨x0, x1, x2, x3, rfl⟩ : ∃ x0 x1 x2 x3, X = [x0, x1, x2, x3] := by
          have := HXL.out
          match X, this with
          | [a, b, c, d], _ => exact ⟨a, b, c, d, rfl⟩
        have e0 := HXD.out 0 (by decide)
        have e1 := HXD.out 1 (by decide)
        have e2 := HXD.out 2 (by decide)
        have e3 := HXD.out 3 (by decide)
        have l0 := dn_le e0
        have l1 := dn_le e1
        have l2 := dn_le e2
        have l3 := dn_le e3
        have HG := hid (HGOOD.out _ _ _ _ e0 e1 e2 e3)
        have c0 : wr.cell? ⟨w1.heap.size, 0, none⟩ = some (.int .u16 (x0 : Nat)) := HR.out.cellAt 0 (by decide)
        have c1 : wr.cell? ⟨w1.heap.size, 1, none⟩ = some (.int .u16 (x1 : Nat)) := HR.out.cellAt 1 (by decide)
        have c2 : wr.cell? ⟨w1.heap.size, 2, none⟩ = some (.int .u16 (x2 : Nat)) := HR.out.cellAt 2 (by decide)
        have c3 : wr.cell? ⟨w1.heap.size, 3, none⟩ = some (.int .u16 (x3 : Nat)) := HR.out.cellAt 3 (by decide)
        simp only [List.getElem?_cons_zero, List.getElem?_cons_succ, Option.getD_some] at l0 l1 l2 l3 HG
        clear e0 e1 e2 e3 HXD HXZ HXL HR HGOOD HBAD HCB
        go_wp2
        go_ret2
        refine ⟨.inr ⟨wr.heap.size, 2, x0 * 256 + x1, x2 * 256 + x3, HG.out, by omega, by omega, rfl, ?_, ?_⟩, ?_⟩
        · refine (cell_alloc wr _ [.int .u16 ((x0 : Int) * 256 + x1), .int .u16 ((x2 : Int) * 256 + x3)] 0 _ rfl).trans ?_
          go_num
        · refine (cell_alloc wr _ [.int .u16 ((x0 : Int) * 256 + x1), .int .u16 ((x2 : Int) * 256 + x3)] 1 _ rfl).trans ?_
          go_num
        · exact (HB1.out.trans (HB.out.mono z1)).alloc (Nat.le_trans z1 zj) _
  · have HN := hid (HDT.out.trans (four_len (by simpa using h4)))
    have h4z : ((qs.length : Int) != 4) = true := by simp; omega
    clear HCB hcb hqs HDT hne B1 h4
    go_wp2
    go_ret2
    exact HNO.out _ HN.out HB1.out
end Go.Proofs.YtpkmpebhlolhaaaDoor.X
