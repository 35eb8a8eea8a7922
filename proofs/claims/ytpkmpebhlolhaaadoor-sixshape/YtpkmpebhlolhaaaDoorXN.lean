/- SixShape's walk. (Stage 11.) -/
import Derived.Test.YtpkmpebhlolhaaaDoorXM
namespace Go.Proofs.YtpkmpebhlolhaaaDoor.X
open Go.RowKit
open Go.Proofs.YtpkmpebhlolhaaaDoor.F (hx hx_bd vl bn bn_length bn_append bn_inj bn_get byte_bd hid bn_extract isEmpty_false isEmpty_true str_eq same_eq)
set_option linter.unusedVariables false

/-- The sign ahead of place i. -/
def prv (l : List Int) (i : Nat) : Int := if i = 0 then 0 else l[i - 1]?.getD 0
/-- What holds when i signs are behind us: r of them digits in a row, q pairs of colons. -/
structure Sh (l : List Int) (i r q : Nat) : Prop where
  le : i ≤ l.length
  ri : r ≤ i
  r4 : r ≤ 4
  ru : runs r (prv l i) (l.drop i) = true
  cq : q + cc (l.drop (i - 1)) = cc l
theorem Sh.start {l : List Int} (h : runs 0 0 l = true) : Sh l 0 0 0 := ⟨Nat.zero_le _, Nat.le_refl _, by decide, h, Nat.zero_add _⟩
theorem drop_one {l : List Int} {i : Nat} (h : i < l.length) : l.drop i = l[i]?.getD 0 :: l.drop (i + 1) := by
  rw [List.getElem?_eq_getElem h]; exact List.drop_eq_getElem_cons h
theorem prv_next (l : List Int) (i : Nat) : prv l (i + 1) = l[i]?.getD 0 := rfl
theorem cc_first {l : List Int} (h : l.length = 1) : cc l = 0 := by
  match l, h with
  | [x], _ => rfl
theorem cc_at {l : List Int} {i : Nat} (h : i + 1 < l.length) : cc (l.drop i) = (if l[i]?.getD 0 = 58 ∧ l[i + 1]?.getD 0 = 58 then 1 else 0) + cc (l.drop (i + 1)) := by
  rw [drop_one (show i < l.length by omega), drop_one h, cc]
theorem Sh.colon0 {l : List Int} {r q : Nat} (H : Sh l 0 r q) (h : 0 < l.length) (hc : l[0]?.getD 0 = 58) : Sh l 1 0 q := by
  refine ⟨h, by omega, by omega, ?_, H.cq⟩
  have := H.ru
  rw [drop_one h, hc, runs_colon] at this
  rw [show prv l 1 = 58 from hc]; exact this
theorem Sh.colon1 {l : List Int} {k r q : Nat} (H : Sh l (k + 1) r q) (h : k + 1 < l.length) (hc : l[k + 1]?.getD 0 = 58) : Sh l (k + 2) 0 (if l[k]?.getD 0 = 58 then q + 1 else q) := by
  refine ⟨h, by omega, by omega, ?_, ?_⟩
  · have := H.ru
    rw [drop_one h, hc, runs_colon] at this
    rw [show prv l (k + 2) = 58 from hc]; exact this
  · have := H.cq
    rw [show k + 1 - 1 = k from rfl, cc_at h, hc] at this
    rw [show k + 2 - 1 = k + 1 from rfl]
    split
    · rename_i e; rw [if_pos ⟨e, rfl⟩] at this; omega
    · rename_i e; rw [if_neg (fun h => e h.1)] at this; omega
theorem Sh.digit {l : List Int} {i r q : Nat} (H : Sh l i r q) (h : i < l.length) (hc : ¬ l[i]?.getD 0 = 58) : sml (l[i]?.getD 0) = true ∧ r + 1 ≤ 4 ∧ ¬ (r + 1 = 2 ∧ prv l i = 48) ∧ Sh l (i + 1) (r + 1) q := by
  have hr := H.ru
  rw [drop_one h, runs, if_neg hc] at hr
  simp only [Bool.and_eq_true, decide_eq_true_eq, Bool.not_eq_true', Bool.and_eq_false_iff, decide_eq_false_iff_not] at hr
  obtain ⟨⟨⟨h1, h2⟩, h3⟩, h4⟩ := hr
  refine ⟨h1, h2, fun ⟨e, f⟩ => ?_, ⟨h, by have := H.ri; omega, h2, ?_, ?_⟩⟩
  · rcases h3 with h3 | h3
    · exact h3 e
    · exact h3 f
  · rw [prv_next]; exact h4
  · have := H.cq
    cases i with
    | zero => exact this
    | succ k =>
      rw [show k + 1 - 1 = k from rfl, cc_at h, if_neg (fun e => hc e.2)] at this
      rw [show k + 1 + 1 - 1 = k + 1 from rfl]; omega
theorem Sh.last {l : List Int} {i r q : Nat} (H : Sh l i r q) (h : ¬ i < l.length) : q = cc l := by
  have h1 := H.cq
  have h2 := H.le
  have : cc (l.drop (i - 1)) = 0 := by
    by_cases e : l.length = 0
    · rw [List.length_eq_zero_iff.1 e]; simp [cc]
    · exact cc_first (by rw [List.length_drop]; omega)
  omega
/-- Two noughts stand behind each other ahead of place i + 1. -/
def zi (a : List Nat) (i : Nat) : Bool := (List.range i).any (fun j => decide (nv a j = 0) && decide (nv a (j + 1) = 0))
theorem zi_step (a : List Nat) (i : Nat) : zi a (i + 1) = (zi a i || decide (nv a i = 0) && decide (nv a (i + 1) = 0)) := by
  unfold zi; rw [List.range_succ, List.any_append]; simp
set_option maxRecDepth 100000 in
set_option maxHeartbeats 8000000 in
theorem shape_walk {G : World → Prop} (C : Ctr G) (a0 a1 a2 a3 a4 a5 a6 a7 : Nat) (w : World) (hG : G w) (hS : Small [a0, a1, a2, a3, a4, a5, a6, a7]) :
    Calls Tryd.prog 5 #[.agg #[.int .u16 a0, .int .u16 a1, .int .u16 a2, .int .u16 a3, .int .u16 a4, .int .u16 a5, .int .u16 a6, .int .u16 a7]] w fun e W' => e = .returned (.bool true) ∧ Below w.heap.size w W' := by
  have HCE : Hid (∀ W, Below (w.heap.size + 1) (w.alloc (.cells #[.int .u16 a0, .int .u16 a1, .int .u16 a2, .int .u16 a3, .int .u16 a4, .int .u16 a5, .int .u16 a6, .int .u16 a7] 23)) W → ∀ j, j < 8 → W.cell? ⟨w.heap.size, j, none⟩ = some (.int .u16 (([a0, a1, a2, a3, a4, a5, a6, a7][j]?.getD 0 : Nat) : Int))) := fun W h j hj => cell_in w _ [a0, a1, a2, a3, a4, a5, a6, a7] h hj
  have HB0 : Hid (Below w.heap.size w (w.alloc (.cells #[.int .u16 a0, .int .u16 a1, .int .u16 a2, .int .u16 a3, .int .u16 a4, .int .u16 a5, .int .u16 a6, .int .u16 a7] 23))) := (Below.refl _ _).alloc (Nat.le_refl _) _
  have HZ : Hid ((w.alloc (.cells #[.int .u16 a0, .int .u16 a1, .int .u16 a2, .int .u16 a3, .int .u16 a4, .int .u16 a5, .int .u16 a6, .int .u16 a7] 23)).heap.size = w.heap.size + 1) := by show _ = _; simp
  have HL8 : Hid ([a0, a1, a2, a3, a4, a5, a6, a7].length = 8) := rfl
  have HK : Hid (∀ W, Below w.heap.size w W → G W) := fun W h => C.keep w W hG h
  have HW : Hid (∀ W, G W → _) := fun W h => works_any C W h
  have H3 : Hid (∀ W, G W → Calls Tryd.prog 10 #[.agg #[.int .u16 a0, .int .u16 a1, .int .u16 a2, .int .u16 a3, .int .u16 a4, .int .u16 a5, .int .u16 a6, .int .u16 a7]] W fun e W' => (∃ t, e = .returned (.string t) ∧ bn t = txt [a0, a1, a2, a3, a4, a5, a6, a7]) ∧ Below W.heap.size W W') := fun W h => C.ct [a0, a1, a2, a3, a4, a5, a6, a7] W HL8.out hS h
  have HRU := hid (runs_txt HL8.out hS)
  have HCC := hid (cc_txt HL8.out hS)
  have HZZ := hid (zz_txt HL8.out)
  have HTL := hid (txt_len HL8.out)
  obtain ⟨a, ha⟩ : ∃ a, [a0, a1, a2, a3, a4, a5, a6, a7] = a := ⟨_, rfl⟩
  rw [ha] at HCE HL8 H3 HRU HCC HZZ HTL
  have HNV : Hid (∀ j, j < 8 → nv a j = a[j]?.getD 0) := fun j hj => nv_get (by rw [HL8.out]; exact hj)
  have HQ : Hid (decide (cc (txt a) = 1) = zi a 7 ∧ cc (txt a) ≤ 1) := by
    show _ ∧ _
    rw [show zi a 7 = zz a from rfl, HZZ.out, HCC.out]
    by_cases h : (bs a 8).1 < 0 <;> simp [h]
  clear C hG hS ha HCC HZZ
  go_enter Tryd.func5, Tryd.ntmps5
  go_wp2_with fail
  refine (H3.out _ (HK.out _ HB0.out)).mono ?_
  rintro e w1 ⟨⟨s, rfl, hs⟩, B1⟩
  have HA1 := hid (B1.mono (Nat.le_of_eq HZ.out.symm))
  have HB1 := hid (HB0.out.trans (B1.mono HB0.out.size))
  have HC1 := hid (HCE.out _ HA1.out)
  clear HCE HA1 B1 HB0 HZ H3
  obtain ⟨arg, harg⟩ : ∃ v : Value, Value.agg #[.int .u16 a0, .int .u16 a1, .int .u16 a2, .int .u16 a3, .int .u16 a4, .int .u16 a5, .int .u16 a6, .int .u16 a7] = v := ⟨_, rfl⟩
  rw [harg]
  clear harg
  obtain ⟨l, hl⟩ : ∃ l, txt a = l := ⟨_, rfl⟩
  rw [hl] at hs HRU HQ HTL
  clear hl
  have HLN : Hid (l.length = s.size) := by show _ = _; rw [← hs, bn_length]
  have HGT : Hid (∀ k (h : k < s.size), l[k]?.getD 0 = ((s[k].toNat : Nat) : Int)) := fun k h => by rw [← hs]; exact bn_get s k h
  have HBD : Hid (∀ j, j < s.size → 0 ≤ l[j]?.getD 0 ∧ l[j]?.getD 0 ≤ 255) := fun j h => by rw [← hs]; exact byte_bd (s := s) h
  rw [HLN.out] at HTL
  obtain ⟨hz2, hz39⟩ := HTL.out
  have hz2z : (2 : Int) ≤ (s.size : Int) := by omega
  have hz39z : (s.size : Int) ≤ 39 := by omega
  clear hs HTL
  have HST := hid (Sh.start HRU.out)
  clear HRU
  go_wp2_with fail
  go_loop [4, 5, 6] (fun v4 v5 v6 => ∃ (i r q : Nat), i ≤ s.size ∧ r ≤ i ∧ r ≤ 4 ∧ q ≤ i ∧ v4 = .int .i64 q ∧ v5 = .int .i64 r ∧ v6 = .int .i64 i ∧ Hid (Sh l i r q)) (fun _ _ v6 => s.size - (intOf v6).toNat)
  case atStart => exact ⟨0, 0, 0, Nat.zero_le _, Nat.le_refl _, by omega, Nat.le_refl _, rfl, rfl, rfl, HST⟩
  case round =>
    obtain ⟨i, r, q, hi, hri, hr4, hqi, rfl, rfl, rfl, HS⟩ := hrel
    clear HST
    by_cases hlt : i < s.size
    · have hltz : (i : Int) < (s.size : Int) := by omega
      have hg := (HGT.out i hlt).symm
      obtain ⟨y0, y1⟩ := HBD.out i hlt
      have HC : Hid (l[i]?.getD 0 = 58 → _) := fun h => h
      have HD := hid (HS.out.digit (by rw [HLN.out]; exact hlt))
      by_cases hc : l[i]?.getD 0 = 58
      · by_cases hi0 : i = 0
        · subst hi0
          have HN := hid (HS.out.colon0 (by rw [HLN.out]; exact hlt) hc)
          rw [hc] at hg
          clear hc HS HD HC y0 y1
          go_wp2
          exact ⟨⟨1, 0, q, by omega, by omega, by omega, by omega, rfl, rfl, by go_num, HN⟩, by simp [intOf]; omega⟩
        · obtain ⟨k, rfl⟩ : ∃ k, i = k + 1 := ⟨i - 1, by omega⟩
          have HN := hid (HS.out.colon1 (by rw [HLN.out]; exact hlt) hc)
          rw [hc] at hg
          have hk : k < s.size := by omega
          have hgk := (HGT.out k hk).symm
          by_cases he : l[k]?.getD 0 = 58
          · have HN2 : Hid (Sh l (k + 2) 0 (q + 1)) := by have := HN.out; rw [if_pos he] at this; exact this
            rw [he] at hgk
            clear he HN hc HS HD HC y0 y1
            go_wp2
            exact ⟨⟨k + 2, 0, q + 1, by omega, by omega, by omega, by omega, by go_num, rfl, by go_num, HN2⟩, by simp [intOf]; omega⟩
          · have HN2 : Hid (Sh l (k + 2) 0 q) := by have := HN.out; rw [if_neg he] at this; exact this
            have heb : (l[k]?.getD 0 == 58) = false := by simpa using he
            clear HN hc HS HD HC y0 y1
            go_wp2
            exact ⟨⟨k + 2, 0, q, by omega, by omega, by omega, by omega, rfl, rfl, by go_num, HN2⟩, by simp [intOf]; omega⟩
      · obtain ⟨d1, d2, d3, d4⟩ := HD.out hc
        have HN := hid d4
        have d1' : (48 ≤ l[i]?.getD 0 ∧ l[i]?.getD 0 ≤ 57) ∨ (97 ≤ l[i]?.getD 0 ∧ l[i]?.getD 0 ≤ 102) := by
          unfold sml at d1; exact of_decide_eq_true d1
        have hcb : (l[i]?.getD 0 == 58) = false := by simpa using hc
        obtain ⟨y, hy⟩ : ∃ y, l[i]?.getD 0 = y := ⟨_, rfl⟩
        rw [hy] at hg y0 y1 d1' hcb
        clear hy d1 d4 HS HD HC hc
        have hr5 : ¬ (4 : Int) < (r : Int) + 1 := by omega
        by_cases hr : r = 1
        · subst hr
          obtain ⟨k, rfl⟩ : ∃ k, i = k + 1 := ⟨i - 1, by omega⟩
          have hk : k < s.size := by omega
          have hgk := (HGT.out k hk).symm
          have he : ¬ l[k]?.getD 0 = 48 := fun h => d3 ⟨rfl, h⟩
          have heb : (l[k]?.getD 0 == 48) = false := by simpa using he
          clear d3 he d2
          obtain ⟨z, hz⟩ : ∃ z, l[k]?.getD 0 = z := ⟨_, rfl⟩
          rw [hz] at hgk heb
          clear hz
          rcases d1' with ⟨e1, e2⟩ | ⟨e1, e2⟩
          · go_wp2
            exact ⟨⟨k + 2, 2, q, by omega, by omega, by omega, by omega, rfl, by go_num, by go_num, HN⟩, by simp [intOf]; omega⟩
          · have e3 : ¬ y ≤ 57 := by omega
            go_wp2
            exact ⟨⟨k + 2, 2, q, by omega, by omega, by omega, by omega, rfl, by go_num, by go_num, HN⟩, by simp [intOf]; omega⟩
        · have hrb : ((r : Int) + 1 == 2) = false := by
            simp; omega
          clear d3
          rcases d1' with ⟨e1, e2⟩ | ⟨e1, e2⟩
          · go_wp2
            exact ⟨⟨i + 1, r + 1, q, by omega, by omega, by omega, by omega, rfl, by go_num, by go_num, HN⟩, by simp [intOf]; omega⟩
          · have e3 : ¬ y ≤ 57 := by omega
            go_wp2
            exact ⟨⟨i + 1, r + 1, q, by omega, by omega, by omega, by omega, rfl, by go_num, by go_num, HN⟩, by simp [intOf]; omega⟩
    · have hltz : ¬ (i : Int) < (s.size : Int) := by omega
      have HE := hid (HS.out.last (by rw [HLN.out]; exact hlt))
      have HQ2 : Hid (decide (q = 1) = zi a 7 ∧ q ≤ 1) := by show _ ∧ _; rw [HE.out]; exact HQ.out
      clear HS HE HQ HLN HGT HBD
      go_wp2_with fail
      go_loop [8, 9] (fun v8 v9 => ∃ (j : Nat) (b : Bool), j ≤ 7 ∧ v8 = .bool b ∧ v9 = .int .i64 j ∧ Hid (b = zi a j)) (fun _ v9 => 7 - (intOf v9).toNat)
      case atStart => exact ⟨0, false, by omega, rfl, rfl, rfl⟩
      case round =>
        obtain ⟨j, b, hj, rfl, rfl, HZJ⟩ := hrel
        by_cases hj7 : j < 7
        · have hj7z : (j : Int) + 1 < 8 := by omega
          have c1 := HC1.out j (by omega)
          have c2 := HC1.out (j + 1) (by omega)
          have HN := hid (zi_step a j)
          rw [HNV.out j (by omega), HNV.out (j + 1) (by omega), ← HZJ.out] at HN
          obtain ⟨x1, hx1⟩ : ∃ x, a[j]?.getD 0 = x := ⟨_, rfl⟩
          obtain ⟨x2, hx2⟩ : ∃ x, a[j + 1]?.getD 0 = x := ⟨_, rfl⟩
          rw [hx1] at c1 HN
          rw [hx2] at c2 HN
          clear hx1 hx2 HZJ
          cases b with
          | true =>
            have HN2 : Hid (true = zi a (j + 1)) := by show _ = _; rw [HN.out]; rfl
            clear HN
            go_wp2
            exact ⟨⟨j + 1, true, by omega, rfl, by go_num, HN2⟩, by simp [intOf]; omega⟩
          | false =>
            by_cases h1 : x1 = 0
            · subst h1
              by_cases h2 : x2 = 0
              · subst h2
                have HN2 : Hid (true = zi a (j + 1)) := by show _ = _; rw [HN.out]; rfl
                clear HN
                go_wp2
                exact ⟨⟨j + 1, true, by omega, rfl, by go_num, HN2⟩, by simp [intOf]; omega⟩
              · have HN2 : Hid (false = zi a (j + 1)) := by show _ = _; rw [HN.out, decide_eq_false h2]; rfl
                have hxb : ((x2 : Int) == 0) = false := by simp; exact h2
                clear HN h2
                go_wp2
                exact ⟨⟨j + 1, false, by omega, rfl, by go_num, HN2⟩, by simp [intOf]; omega⟩
            · have HN2 : Hid (false = zi a (j + 1)) := by show _ = _; rw [HN.out, decide_eq_false h1]; rfl
              have hxb : ((x1 : Int) == 0) = false := by simp; exact h1
              clear HN h1
              go_wp2
              exact ⟨⟨j + 1, false, by omega, rfl, by go_num, HN2⟩, by simp [intOf]; omega⟩
        · obtain rfl : j = 7 := by omega
          rw [← HZJ.out] at HQ2
          obtain ⟨q1, q2⟩ := HQ2.out
          have HG1 := hid (HK.out _ HB1.out)
          clear HZJ HQ2 hj hj7 hqi HK HC1 HNV HL8
          by_cases hq : q = 1
          · subst hq
            obtain rfl : true = b := q1
            clear q2
            go_wp2_with (go_at_call 7; refine (HW.out _ HG1.out).mono ?_; rintro e w2 ⟨rfl, B2⟩)
            go_ret
            exact ⟨rfl, HB1.out.trans (B2.mono HB1.out.size)⟩
          · obtain rfl : q = 0 := by omega
            obtain rfl : false = b := q1
            clear q2 hq
            go_wp2_with (go_at_call 7; refine (HW.out _ HG1.out).mono ?_; rintro e w2 ⟨rfl, B2⟩)
            go_ret
            exact ⟨rfl, HB1.out.trans (B2.mono HB1.out.size)⟩
end Go.Proofs.YtpkmpebhlolhaaaDoor.X
