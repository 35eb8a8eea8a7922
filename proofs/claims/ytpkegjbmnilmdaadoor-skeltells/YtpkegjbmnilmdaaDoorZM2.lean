/- Texts of one layer, one behind the other: MD ME MF KF. -/
import Derived.Test.YtpkegjbmnilmdaaDoorZM1
import Derived.Test.YtpkegjbmnilmdaaDoorZU2
import Derived.Laws.Rows
/- The document's Scripts. -/
namespace Go.Proofs.YtpkegjbmnilmdaaDoor.S
open Go.RowKit
set_option linter.unusedVariables false

theorem rfind_s (r : Int) : ∃ (x0 x1 x2 x3 x4 x5 x7 x8 x10 : Int) (x9 : Bool), ∀ w : World, Calls Tryd.prog 28 #[.int .i32 r] w fun e W' => e = .returned (.agg #[.int .i32 x0, .int .i32 x1, .int .u8 x2, .int .i32 x3, .int .i32 x4, .int .i32 x5, .int .u8 (scr r), .int .u8 x7, .int .u8 x8, .bool x9, .int .u8 x10]) ∧ Below w.heap.size w W' := by
  have hp := D.fnd_prj r
  have hf := D.rfind_any r
  obtain ⟨⟨x0, x1, x2, x3, x4, x5, x6, x7, x8, x9, x10⟩, hx⟩ : ∃ x, x = D.rfnd r := ⟨_, rfl⟩
  rw [← hx] at hf hp
  refine ⟨x0, x1, x2, x3, x4, x5, x7, x8, x10, x9, fun w => ?_⟩
  unfold scr
  rw [hp]
  exact hf w
theorem fld6 (x0 x1 x2 x3 x4 x5 x6 x7 x8 x10 : Int) (x9 : Bool) (W : World) : (Instr.field 51 (.agg #[.int .i32 x0, .int .i32 x1, .int .u8 x2, .int .i32 x3, .int .i32 x4, .int .i32 x5, .int .u8 x6, .int .u8 x7, .int .u8 x8, .bool x9, .int .u8 x10]) 6).run Tryd.prog W = .ok (.int .u8 x6) W := by kernel_rfl
theorem hasS_yes {L : List Int} {x : Int} {k : Nat} (hk : k < L.length) (h : scr (L[k]?.getD 0) = x) : hasS L x = true := by
  unfold hasS
  refine List.any_eq_true.2 ⟨L[k], List.getElem_mem _, ?_⟩
  rw [List.getElem?_eq_getElem hk] at h
  exact decide_eq_true h
theorem hasS_no {L : List Int} {x : Int} (h : ∀ j, j < L.length → ¬ scr (L[j]?.getD 0) = x) : hasS L x = false := by
  rw [Bool.eq_false_iff]
  intro hh
  obtain ⟨c, hc, hx⟩ := List.any_eq_true.1 hh
  obtain ⟨j, hj, rfl⟩ := List.mem_iff_getElem.1 hc
  have := h j hj
  rw [List.getElem?_eq_getElem hj] at this
  exact this (of_decide_eq_true hx)
/-- The scripts below x. -/
def upto (L : List Int) (x : Nat) : List Int := (nums.take (x - 2)).filter (hasS L)
theorem nums_step : ∀ y : Fin 10, nums.take (y.val + 1) = nums.take y.val ++ [(y.val : Int) + 2] := by decide
theorem nums_at (x : Nat) (h2 : 2 ≤ x) (h : x ≤ 11) : nums.take (x + 1 - 2) = nums.take (x - 2) ++ [(x : Int)] := by
  have := nums_step ⟨x - 2, by omega⟩
  simp only at this
  rw [show x + 1 - 2 = x - 2 + 1 by omega, this]
  congr 2
  omega
theorem upto_yes {L : List Int} (x : Nat) (h2 : 2 ≤ x) (h : x ≤ 11) (hs : hasS L (x : Int) = true) : upto L (x + 1) = upto L x ++ [(x : Int)] := by
  unfold upto
  rw [nums_at x h2 h, List.filter_append, List.filter_cons_of_pos hs]; rfl
theorem upto_no {L : List Int} (x : Nat) (h2 : 2 ≤ x) (h : x ≤ 11) (hs : hasS L (x : Int) = false) : upto L (x + 1) = upto L x := by
  unfold upto
  rw [nums_at x h2 h, List.filter_append, List.filter_cons_of_neg (by rw [hs]; simp)]; simp
theorem upto_len (L : List Int) (x : Nat) : (upto L x).length ≤ 10 := Nat.le_trans (List.length_filter_le _ _) (by rw [List.length_take]; exact Nat.min_le_right _ _)
theorem own_sh5 {base n : Nat} {v : Value} {X : List Value} {W : World} (h : W.ownsRow base 5 1 v n X) : ∃ a cap, v = .slice a n cap := by
  rcases h.2 with ⟨rfl, h0⟩ | ⟨g, cap, cur, rfl, _⟩
  · exact ⟨none, 0, by rw [h0]⟩
  · exact ⟨_, cap, rfl⟩
theorem own_base5 {W : World} {a b : Nat} {v : Value} {n : Nat} {X : List Value} (h : W.ownsRow b 5 1 v n X) (hab : a ≤ b) : W.ownsRow a 5 1 v n X := by
  obtain ⟨h1, h2⟩ := h
  refine ⟨h1, ?_⟩
  rcases h2 with h2 | ⟨g, cap, cur, e, hg, h3⟩
  · exact .inl h2
  · exact .inr ⟨g, cap, cur, e, Nat.le_trans hab hg, h3⟩
/-- What Scripts answers of a text in which L stands. -/
def ScrR (L : List Int) (w : World) (e : Ending) (W' : World) : Prop := (∃ v, e = .returned v ∧ W'.ownsRow w.heap.size 5 1 v (scs L).length ((scs L).map (Value.int .u8))) ∧ Below w.heap.size w W'
set_option maxRecDepth 100000 in
set_option maxHeartbeats 8000000 in
theorem rscripts_any (s : ByteArray) (w : World) (hs : s.size ≤ 10000) :
    Calls Tryd.prog 11 #[.string s] w fun e W' => ScrR (U.dec (U.bn s)) w e W' := by
  obtain ⟨i0, hi, hz0, hz1, hz2⟩ := info_parts U.Tryd.info5
  have hdl := U.dec_len (U.bn s).length (U.bn s) (Nat.le_refl _) (U.bn_bytes s)
  rw [U.bn_length] at hdl
  have HDEC := hid (U.refDecode_any s (by omega) w)
  obtain ⟨L, hL⟩ : ∃ L, U.dec (U.bn s) = L := ⟨_, rfl⟩
  rw [hL] at HDEC hdl ⊢
  obtain ⟨n, hn⟩ : ∃ n, L.length = n := ⟨_, rfl⟩
  have HN := hid hn
  have HUL := hid (upto_len L)
  rw [hn] at HDEC hdl
  have hn4 : n ≤ 10000 := by omega
  clear hL hn hdl
  go_enter Tryd.func11, Tryd.ntmps11
  go_wp2_with fail
  refine HDEC.out.mono ?_
  rintro e w1 ⟨v1, rfl, r1, B1⟩
  obtain ⟨a1, c1, rfl⟩ := own_sh21 r1
  have HI := hid (U.IntsAt.own HN.out.symm r1)
  obtain ⟨a, c, he, hf⟩ := ints_form HI.out
  rw [HN.out] at he hf
  cases he
  have HF := hid hf
  have HB1 := hid B1
  clear r1 B1 HDEC hf HI
  go_wp2_with fail
  go_loopw [4, 5] (fun v4 v5 wr => ∃ (x m c : Nat) (a : Option Addr), 2 ≤ x ∧ x ≤ 12 ∧ m ≤ 10 ∧ v4 = .slice a m c ∧ v5 = .int .u8 x ∧ Hid (m = (upto L x).length) ∧ Hid (wr.ownsRow w1.heap.size 5 1 (.slice a m c) m ((upto L x).map (Value.int .u8))) ∧ Hid (Below w1.heap.size w1 wr)) (fun _ v5 _ => 12 - (intOf v5).toNat)
  case atStart => exact ⟨2, 0, 0, none, Nat.le_refl _, by omega, Nat.zero_le _, rfl, rfl, rfl, World.ownsRow_nil _ _ _ _, Below.refl _ _⟩
  case round =>
    obtain ⟨x, m, c, a, hx2, hx12, hm, rfl, rfl, HM, HR, HB⟩ := hrel
    by_cases hlt : x ≤ 11
    · have hltz : (x : Int) ≤ 11 := by omega
      have HY := hid (fun h => upto_yes (L := L) x hx2 hlt h)
      have HNO := hid (fun h => upto_no (L := L) x hx2 hlt h)
      have HUN := hid (HUL.out (x + 1))
      obtain ⟨Y, hY⟩ : ∃ Y, upto L x = Y := ⟨_, rfl⟩
      rw [hY] at HY HNO HM HR
      obtain ⟨Y', hY'⟩ : ∃ Y', upto L (x + 1) = Y' := ⟨_, rfl⟩
      have HY' := hid hY'
      rw [hY'] at HY HNO HUN
      clear hY hY'
      go_wp2_with fail
      go_loopw [4, 6] (fun v4 v6 wi => ∃ k : Nat, k ≤ n ∧ v4 = .slice a m c ∧ v6 = .int .i64 k ∧ Hid (∀ j, j < k → ¬ scr (L[j]?.getD 0) = (x : Int)) ∧ Hid (wi.ownsRow w1.heap.size 5 1 (.slice a m c) m (Y.map (Value.int .u8))) ∧ Hid (Below w1.heap.size w1 wi)) (fun _ v6 _ => n - (intOf v6).toNat)
      case atStart => exact ⟨0, Nat.zero_le _, rfl, rfl, (fun j hj => absurd hj (Nat.not_lt_zero _)), HR, HB⟩
      case round =>
        obtain ⟨k, hk, rfl, rfl, HA, HRi, HBi⟩ := hrel
        by_cases hkn : k < n
        · obtain ⟨b, off, rfl, hck⟩ := cell_at HF.out HBi.out k hkn
          obtain ⟨x0, x1, x2, x3, x4, x5, x7, x8, x10, x9, hfa⟩ := rfind_s (L[k]?.getD 0)
          have hfl := fld6 x0 x1 x2 x3 x4 x5 (scr (L[k]?.getD 0)) x7 x8 x10 x9
          have HYS := hid (fun (h : scr (L[k]?.getD 0) = (x : Int)) => HY.out (hasS_yes (by rw [HN.out]; exact hkn) h))
          have HAS : Hid (¬ scr (L[k]?.getD 0) = (x : Int) → ∀ j, j < k + 1 → ¬ scr (L[j]?.getD 0) = (x : Int)) := fun h j hj => by
            by_cases e : j = k
            · rw [e]; exact h
            · exact HA.out j (by omega)
          obtain ⟨z, hz⟩ : ∃ z, scr (L[k]?.getD 0) = z := ⟨_, rfl⟩
          rw [hz] at hfa hfl HYS HAS
          obtain ⟨y, hy⟩ : ∃ y, L[k]?.getD 0 = y := ⟨_, rfl⟩
          rw [hy] at hck hfa
          have HFA := hid hfa
          clear hfa hz hy
          have z1 := HBi.out.size
          by_cases hzx : z = (x : Int)
          · have HYZ := hid (HYS.out hzx)
            subst hzx
            clear HYS HAS HA
            have HM1 : Hid (m + 1 ≤ 10) := by
              have h1 := HUN.out
              rw [HYZ.out, List.length_append, ← HM.out] at h1
              exact h1
            have hm1 := HM1.out
            go_wp2_with (first
              | (at_builtin; refine wpList_append_own _ rfl _ _ 24 rfl w1.heap.size 5 i0 (.int .u8 0) 1 1 Tryd.underlying24 hi hz0 hz1 hz2 rfl (by decide) _ _ _ rfl (R2.out.alloc _) ⟨w2.heap.size, 0, none⟩ 1 1 [.int .u8 x] rfl rfl (U.news_at _ _ _) (by simp [Value.oneCell']) (by unfold maxLen; omega) (by omega) (by have := HB2.out.size; simp; omega) ?_; intro v3 w3 r3 g3 _; obtain ⟨a3, c3, rfl⟩ := own_sh5 r3)
              | (go_at_call 28; refine (HFA.out _).mono ?_; rintro e w2 ⟨rfl, B2⟩; have R2 := hid (U.ownsRow_below HRi.out B2 (Nat.le_refl _)); have HB2 := hid (HBi.out.trans (B2.mono HBi.out.size))))
            go_roundw
            case rel =>
              refine ⟨x + 1, m + 1, c3, a3, by omega, by omega, hm1, rfl, by go_num, by show _ = _; rw [HY'.out, HYZ.out, List.length_append, ← HM.out]; rfl, ?_, U.below_grow (w1 := w2.alloc (.cells #[.int .u8 x] 5)) (HB2.out.alloc HB2.out.size _) (Nat.le_trans HB2.out.size (by simp)) (R2.out.alloc _) g3⟩
              show World.ownsRow _ _ _ _ _ _ _
              rw [HY'.out, HYZ.out, List.map_append]; exact r3
            case measure => simp [intOf]; omega
          · have HAZ := hid (HAS.out hzx)
            have hzb : (z == (x : Int)) = false := by simpa using hzx
            clear HYS HAS HA hzx
            go_wp2_with (go_at_call 28; refine (HFA.out _).mono ?_; rintro e w2 ⟨rfl, B2⟩; have R2 := hid (U.ownsRow_below HRi.out B2 (Nat.le_refl _)); have HB2 := hid (HBi.out.trans (B2.mono HBi.out.size)))
            go_roundw
            case rel => exact ⟨k + 1, by omega, rfl, by go_num, HAZ, R2, HB2⟩
            case measure => simp [intOf]; omega
        · have HNX := hid (HNO.out (hasS_no (fun j hj => HA.out j (by have := HN.out; omega))))
          clear HA
          go_wp2_with fail
          go_roundw
          case rel => exact ⟨x + 1, m, c, a, by omega, by omega, hm, rfl, by go_num, by show _ = _; rw [HY'.out, HNX.out]; exact HM.out, by show World.ownsRow _ _ _ _ _ _ _; rw [HY'.out, HNX.out]; exact HRi.out, HBi⟩
          case measure => simp [intOf]; omega
    · have hx : x = 12 := by omega
      subst hx
      have HE : Hid (upto L 12 = scs L) := rfl
      rw [HE.out] at HM HR
      go_wp2
      go_ret
      have e := HM.out
      subst e
      exact ⟨⟨_, rfl, own_base5 HR.out HB1.out.size⟩, HB1.out.trans (HB.out.mono HB1.out.size)⟩
end Go.Proofs.YtpkegjbmnilmdaaDoor.S
/- The document's Level. -/
namespace Go.Proofs.YtpkegjbmnilmdaaDoor.S
open Go.RowKit
set_option linter.unusedVariables false

theorem bn_get (s : ByteArray) (k : Nat) (h : k < s.size) : (U.bn s)[k]?.getD 0 = (s[k].toNat : Int) := by
  have := U.bn_drop s k h
  rw [← List.head?_drop, this]; rfl
theorem asc_snoc (s : ByteArray) (k : Nat) (h : k < s.size) : asc ((U.bn s).take (k + 1)) = (asc ((U.bn s).take k) && decide ((s[k].toNat : Int) < 128)) := by
  rw [take_one (U.bn s) k (by rw [U.bn_length]; exact h), bn_get s k h, asc_append]
  simp [asc]
theorem own_cell5 {W : World} {base n : Nat} {v : Value} {zs : List Int} (h : W.ownsRow base 5 1 v n (zs.map (Value.int .u8))) (hn : zs.length = n) : ∃ a c, v = .slice a n c ∧ (0 < n → ∃ g, a = some ⟨g, 0, none⟩ ∧ ∀ j, j < n → W.cell? ⟨g, j, none⟩ = some (.int .u8 (zs[j]?.getD 0))) := by
  subst hn
  rcases h.2 with ⟨rfl, h0⟩ | ⟨g, cap, cur, rfl, _, hg, _, _, _, ht⟩
  · exact ⟨none, 0, by rw [h0], fun hp => by omega⟩
  · refine ⟨_, cap, rfl, fun hp => ⟨g, rfl, fun j hj => ?_⟩⟩
    have h1 : (cur.toList.take (zs.length * 1))[j]? = some (.int .u8 (zs[j]?.getD 0)) := by rw [ht, List.getElem?_map, List.getElem?_eq_getElem hj]; rfl
    rw [List.getElem?_take_of_lt (by omega)] at h1
    have h2 : cur[j]? = some (.int .u8 (zs[j]?.getD 0)) := by simpa using h1
    simp [World.cell?, hg, h2]
/-- The last one that is not Latin. -/
def oth (m : List Int) : Int := m.foldl (fun o x => if x = 2 then o else x) 0
theorem oth_snoc (m : List Int) (x : Int) : oth (m ++ [x]) = if x = 2 then oth m else x := by unfold oth; rw [List.foldl_append]; rfl
theorem mix_doc {m : List Int} (hu : m.Pairwise (· < ·)) (hb : ∀ x ∈ m, 2 ≤ x) : mix m = if m.length ≤ 1 then 2 else if m.all high = true then 3 else if m.length = 2 ∧ 2 ∈ m ∧ ¬ oth m = 3 ∧ ¬ oth m = 4 then 4 else 5 := by
  unfold mix
  by_cases h : m.length = 2 ∧ 2 ∈ m
  · obtain ⟨h1, h2⟩ := h
    match m, h1, hu, hb, h2 with
    | [a, b], _, hu, hb, h2 =>
      have hab : a < b := by simpa using hu
      have ha := hb a (by simp)
      have e : a = 2 := by simp at h2; omega
      subst e
      have ho : oth [2, b] = b := by unfold oth; simp; omega
      rw [ho]
      have : (¬ (3 : Int) ∈ [2, b] ∧ ¬ (4 : Int) ∈ [2, b]) ↔ (¬ b = 3 ∧ ¬ b = 4) := by simp; omega
      simp only [List.length_cons, List.length_nil, List.mem_cons, true_or, true_and, Nat.zero_add, Nat.reduceAdd]
      simp only [List.mem_cons] at this
      simp only [this]
  · have e1 : ¬ (m.length = 2 ∧ 2 ∈ m ∧ ¬ 3 ∈ m ∧ ¬ 4 ∈ m) := fun hh => h ⟨hh.1, hh.2.1⟩
    have e2 : ¬ (m.length = 2 ∧ 2 ∈ m ∧ ¬ oth m = 3 ∧ ¬ oth m = 4) := fun hh => h ⟨hh.1, hh.2.1⟩
    rw [if_neg e1, if_neg e2]
theorem all_snoc (m : List Int) (k : Nat) (hk : k < m.length) : (m.take (k + 1)).all high = ((m.take k).all high && high (m[k]?.getD 0)) := by
  rw [take_one m k hk, List.all_append]; simp
theorem oth_take (m : List Int) (k : Nat) (hk : k < m.length) : oth (m.take (k + 1)) = if m[k]?.getD 0 = 2 then oth (m.take k) else m[k]?.getD 0 := by rw [take_one m k hk, oth_snoc]
theorem lat_take (m : List Int) (k : Nat) (hk : k < m.length) : decide ((2 : Int) ∈ m.take (k + 1)) = (decide ((2 : Int) ∈ m.take k) || decide (m[k]?.getD 0 = 2)) := by
  rw [take_one m k hk, Bool.eq_iff_iff]
  simp only [List.mem_append, List.mem_singleton, Bool.or_eq_true, decide_eq_true_eq]
  exact or_congr Iff.rfl ⟨Eq.symm, Eq.symm⟩
set_option maxRecDepth 100000 in
set_option maxHeartbeats 8000000 in
theorem rlevel_any (s : ByteArray) (w : World) (hs : s.size ≤ 10000) :
    Calls Tryd.prog 15 #[.string s] w fun e W' => e = .returned (.int .u8 (lev (asc (U.bn s)) (scs (U.dec (U.bn s))))) ∧ Below w.heap.size w W' := by
  have HSC := hid (rscripts_any s w hs)
  have HMD := hid (mix_doc (scs_up (U.dec (U.bn s))) (fun x hx => (scs_bd hx).1))
  have HLM := hid (scs_len (U.dec (U.bn s)))
  obtain ⟨L, hL⟩ : ∃ L, U.dec (U.bn s) = L := ⟨_, rfl⟩
  rw [hL] at HSC HMD HLM ⊢
  have HLV : Hid (∀ A, lev A (scs L) = if A = true then 1 else mix (scs L)) := fun A => rfl
  obtain ⟨R, hR⟩ : ∃ R, lev (asc (U.bn s)) (scs L) = R := ⟨_, rfl⟩
  have HR := hid hR
  rw [hR]
  have HSN := hid (asc_snoc s)
  have HT0 : Hid (asc ((U.bn s).take 0) = true) := rfl
  have HTE : Hid (asc ((U.bn s).take s.size) = asc (U.bn s)) := by show _ = _; rw [List.take_of_length_le (by rw [U.bn_length]; exact Nat.le_refl _)]
  clear hL hR
  go_enter Tryd.func15, Tryd.ntmps15
  go_wp2_with fail
  go_loop [3, 4] (fun v3 v4 => ∃ (k : Nat) (A : Bool), k ≤ s.size ∧ v4 = .int .i64 k ∧ v3 = .bool A ∧ Hid (asc ((U.bn s).take k) = A)) (fun _ v4 => s.size - (intOf v4).toNat)
  case atStart => exact ⟨0, true, Nat.zero_le _, rfl, rfl, HT0.out⟩
  case round =>
    obtain ⟨k, A, hk, rfl, rfl, HA⟩ := hrel
    by_cases hlt : k < s.size
    · have HN := hid (HSN.out k hlt)
      rw [HA.out] at HN
      cases A with
      | false =>
        go_wp2
        exact ⟨⟨k + 1, false, by omega, by go_num, rfl, HN.out⟩, by simp [intOf]; omega⟩
      | true =>
        by_cases hb : (s[k].toNat : Int) < 128
        · have HX : Hid (asc ((U.bn s).take (k + 1)) = true) := by show _ = _; rw [HN.out, decide_eq_true hb]; rfl
          clear HN
          go_wp2
          exact ⟨⟨k + 1, true, by omega, by go_num, rfl, HX.out⟩, by simp [intOf]; omega⟩
        · have HX : Hid (asc ((U.bn s).take (k + 1)) = false) := by show _ = _; rw [HN.out, decide_eq_false hb]; rfl
          clear HN
          go_wp2
          exact ⟨⟨k + 1, false, by omega, by go_num, rfl, HX.out⟩, by simp [intOf]; omega⟩
    · have hkn : k = s.size := by omega
      rw [hkn, HTE.out] at HA
      rw [HA.out] at HR
      clear hkn HSN HTE
      cases A with
      | true =>
        have HV : Hid (R = 1) := by show _ = _; rw [← HR.out]; rfl
        go_wp2
        go_ret
        exact ⟨by rw [HV.out]; rfl, Below.refl _ _⟩
      | false =>
        have HV : Hid (R = mix (scs L)) := by show _ = _; rw [← HR.out]; rfl
        rw [HMD.out] at HV
        clear HR HA HMD HLV
        go_wp2_with fail
        refine HSC.out.mono ?_
        rintro e w1 ⟨⟨v1, rfl, r1⟩, B1⟩
        obtain ⟨m, hm⟩ : ∃ m, scs L = m := ⟨_, rfl⟩
        rw [hm] at r1 HV HLM
        obtain ⟨n, hn⟩ : ∃ n, m.length = n := ⟨_, rfl⟩
        rw [hn] at r1 HV HLM
        obtain ⟨a1, c1, rfl, hf⟩ := own_cell5 r1 hn
        have HN := hid hn
        have HF := hid hf
        have hn10 := HLM.out
        have HB1 := hid B1
        have HTM : Hid (m.take n = m) := List.take_of_length_le (by rw [hn]; exact Nat.le_refl _)
        clear r1 hm hn hf HSC B1
        by_cases hn1 : n ≤ 1
        · have HV2 : Hid (R = 2) := by show _ = _; rw [HV.out, if_pos hn1]
          have hn1z : (n : Int) ≤ 1 := by omega
          clear HV
          go_wp2
          go_ret
          exact ⟨by rw [HV2.out]; rfl, HB1.out⟩
        · have HV2 := hid (HV.out.trans (if_neg hn1))
          have hn1z : ¬ (n : Int) ≤ 1 := by omega
          clear HV
          go_wp2_with fail
          go_loop [6, 7, 8, 9] (fun v6 v7 v8 v9 => ∃ (k : Nat) (h t : Bool) (o : Int), k ≤ n ∧ v9 = .int .i64 k ∧ v6 = .bool h ∧ v7 = .bool t ∧ v8 = .int .u8 o ∧ Hid ((m.take k).all high = h) ∧ Hid (decide ((2 : Int) ∈ m.take k) = t) ∧ Hid (oth (m.take k) = o)) (fun _ _ _ v9 => n - (intOf v9).toNat)
          case atStart => exact ⟨0, true, false, 0, Nat.zero_le _, rfl, rfl, rfl, rfl, rfl, rfl, rfl⟩
          case round =>
            obtain ⟨k, h, t, o, hk, rfl, rfl, rfl, rfl, HH, HT, HO⟩ := hrel
            by_cases hlt : k < n
            · obtain ⟨g, rfl, hc⟩ := HF.out (by omega)
              have hck := hc k hlt
              have H1 := hid (all_snoc m k (by rw [HN.out]; exact hlt))
              have H2 := hid (lat_take m k (by rw [HN.out]; exact hlt))
              have H3 := hid (oth_take m k (by rw [HN.out]; exact hlt))
              rw [HH.out] at H1
              rw [HT.out] at H2
              rw [HO.out] at H3
              obtain ⟨x, hx⟩ : ∃ x, m[k]?.getD 0 = x := ⟨_, rfl⟩
              rw [hx] at hck H1 H2 H3
              clear hx hc HH HT HO
              by_cases e2 : x = 2
              · subst e2
                have H2' : Hid (decide ((2 : Int) ∈ m.take (k + 1)) = true) := by show _ = _; rw [H2.out]; simp
                have H3' : Hid (oth (m.take (k + 1)) = o) := by show _ = _; rw [H3.out]; rfl
                clear H2 H3
                cases h with
                | false =>
                  have H1' : Hid ((m.take (k + 1)).all high = false) := by show _ = _; rw [H1.out]; rfl
                  clear H1
                  go_wp2
                  exact ⟨⟨k + 1, false, true, o, by omega, by go_num, rfl, rfl, rfl, H1', H2', H3'⟩, by simp [intOf]; omega⟩
                | true =>
                  have H1' : Hid ((m.take (k + 1)).all high = true) := by show _ = _; rw [H1.out]; rfl
                  clear H1
                  go_wp2
                  exact ⟨⟨k + 1, true, true, o, by omega, by go_num, rfl, rfl, rfl, H1', H2', H3'⟩, by simp [intOf]; omega⟩
              · have H2' : Hid (decide ((2 : Int) ∈ m.take (k + 1)) = t) := by show _ = _; rw [H2.out, decide_eq_false e2, Bool.or_false]
                have H3' : Hid (oth (m.take (k + 1)) = x) := by show _ = _; rw [H3.out, if_neg e2]
                have b2 : (x == 2) = false := by simpa using e2
                clear H2 H3
                cases h with
                | false =>
                  have H1' : Hid ((m.take (k + 1)).all high = false) := by show _ = _; rw [H1.out]; rfl
                  clear H1 e2
                  go_wp2
                  exact ⟨⟨k + 1, false, t, x, by omega, by go_num, rfl, rfl, rfl, H1', H2', H3'⟩, by simp [intOf]; omega⟩
                | true =>
                  by_cases e8 : x = 8
                  · subst e8
                    have H1' : Hid ((m.take (k + 1)).all high = true) := by show _ = _; rw [H1.out]; rfl
                    clear H1 e2
                    go_wp2
                    exact ⟨⟨k + 1, true, t, 8, by omega, by go_num, rfl, rfl, rfl, H1', H2', H3'⟩, by simp [intOf]; omega⟩
                  · by_cases e9 : x = 9
                    · subst e9
                      have H1' : Hid ((m.take (k + 1)).all high = true) := by show _ = _; rw [H1.out]; rfl
                      clear H1 e2 e8
                      go_wp2
                      exact ⟨⟨k + 1, true, t, 9, by omega, by go_num, rfl, rfl, rfl, H1', H2', H3'⟩, by simp [intOf]; omega⟩
                    · by_cases e10 : x = 10
                      · subst e10
                        have H1' : Hid ((m.take (k + 1)).all high = true) := by show _ = _; rw [H1.out]; rfl
                        clear H1 e2 e8 e9
                        go_wp2
                        exact ⟨⟨k + 1, true, t, 10, by omega, by go_num, rfl, rfl, rfl, H1', H2', H3'⟩, by simp [intOf]; omega⟩
                      · have H1' : Hid ((m.take (k + 1)).all high = false) := by show _ = _; rw [H1.out]; unfold high; simp [e2, e8, e9, e10]
                        have b8 : (x == 8) = false := by simpa using e8
                        have b9 : (x == 9) = false := by simpa using e9
                        have b10 : (x == 10) = false := by simpa using e10
                        clear H1 e2 e8 e9 e10
                        go_wp2
                        exact ⟨⟨k + 1, false, t, x, by omega, by go_num, rfl, rfl, rfl, H1', H2', H3'⟩, by simp [intOf]; omega⟩
            · have hkn : k = n := by omega
              rw [hkn, HTM.out] at HH HT HO
              rw [HH.out, HO.out] at HV2
              have hltz : ¬ (k : Int) < (n : Int) := by omega
              clear hkn HH HO
              cases h with
              | true =>
                have HV3 : Hid (R = 3) := by show _ = _; rw [HV2.out]; rfl
                clear HV2 HT
                go_wp2
                go_ret
                exact ⟨by rw [HV3.out]; rfl, HB1.out⟩
              | false =>
                have HV3 : Hid (R = if n = 2 ∧ (2 : Int) ∈ m ∧ ¬ o = 3 ∧ ¬ o = 4 then 4 else 5) := by show _ = _; rw [HV2.out]; rfl
                clear HV2
                by_cases hn2 : n = 2
                · have b0 : ((n : Int) == 2) = true := by rw [hn2]; rfl
                  have HV4 : Hid (R = if (2 : Int) ∈ m ∧ ¬ o = 3 ∧ ¬ o = 4 then 4 else 5) := by show _ = _; rw [HV3.out]; simp only [hn2, true_and]
                  clear HV3 hn2
                  cases t with
                  | false =>
                    have HV5 : Hid (R = 5) := by show _ = _; rw [HV4.out, if_neg (fun hh => of_decide_eq_false HT.out hh.1)]
                    clear HV4 HT
                    go_wp2
                    go_ret
                    exact ⟨by rw [HV5.out]; rfl, HB1.out⟩
                  | true =>
                    have HV5 : Hid (R = if ¬ o = 3 ∧ ¬ o = 4 then 4 else 5) := by show _ = _; rw [HV4.out]; simp only [of_decide_eq_true HT.out, true_and]
                    clear HV4 HT
                    by_cases o3 : o = 3
                    · subst o3
                      have HV6 : Hid (R = 5) := by show _ = _; rw [HV5.out]; rfl
                      clear HV5
                      go_wp2
                      go_ret
                      exact ⟨by rw [HV6.out]; rfl, HB1.out⟩
                    · by_cases o4 : o = 4
                      · subst o4
                        have HV6 : Hid (R = 5) := by show _ = _; rw [HV5.out]; rfl
                        clear HV5 o3
                        go_wp2
                        go_ret
                        exact ⟨by rw [HV6.out]; rfl, HB1.out⟩
                      · have HV6 : Hid (R = 4) := by show _ = _; rw [HV5.out, if_pos ⟨o3, o4⟩]
                        have b3 : (o != 3) = true := by simpa using o3
                        have b4 : (o != 4) = true := by simpa using o4
                        clear HV5
                        go_wp2
                        go_ret
                        exact ⟨by rw [HV6.out]; rfl, HB1.out⟩
                · have b0 : ((n : Int) == 2) = false := by simp; omega
                  have HV5 : Hid (R = 5) := by show _ = _; rw [HV3.out, if_neg (fun hh => hn2 hh.1)]
                  clear HV3 hn2 HT
                  go_wp2
                  go_ret
                  exact ⟨by rw [HV5.out]; rfl, HB1.out⟩
end Go.Proofs.YtpkegjbmnilmdaaDoor.S
/- The document's Names. -/
namespace Go.Proofs.YtpkegjbmnilmdaaDoor.S
open Go.RowKit
set_option linter.unusedVariables false

/-- The scripts' names, by their numbers. -/
def names : List ByteArray := [⟨#[67, 111, 109, 109, 111, 110]⟩, ⟨#[73, 110, 104, 101, 114, 105, 116, 101, 100]⟩, ⟨#[76, 97, 116, 105, 110]⟩, ⟨#[71, 114, 101, 101, 107]⟩, ⟨#[67, 121, 114, 105, 108, 108, 105, 99]⟩, ⟨#[72, 101, 98, 114, 101, 119]⟩, ⟨#[65, 114, 97, 98, 105, 99]⟩, ⟨#[68, 101, 118, 97, 110, 97, 103, 97, 114, 105]⟩, ⟨#[72, 105, 114, 97, 103, 97, 110, 97]⟩, ⟨#[75, 97, 116, 97, 107, 97, 110, 97]⟩, ⟨#[72, 97, 110]⟩, ⟨#[68, 101, 115, 101, 114, 101, 116]⟩]
set_option maxRecDepth 100000 in
set_option maxHeartbeats 2000000 in
theorem rnames_any (w : World) : Calls Tryd.prog 16 #[] w fun e W' => e = .returned (.slice (some ⟨w.heap.size, 0, none⟩) 12 12) ∧ W' = w.alloc (.cells (names.map Value.string).toArray 9) := by
  go_enter Tryd.func16, Tryd.ntmps16
  go_wp2
  go_ret
  exact ⟨rfl, rfl⟩
theorem names_cell (w : World) (k : Nat) (hk : k < 12) : (w.alloc (.cells (names.map Value.string).toArray 9)).cell? ⟨w.heap.size, k, none⟩ = some (.string (names[k]?.getD ⟨#[]⟩)) := by
  have hl : names.length = 12 := rfl
  unfold World.cell?
  simp only
  rw [World.alloc_heap_new]
  simp [List.getElem?_eq_getElem (show k < names.length by omega)]
theorem names_apart : ∀ i j : Fin 12, names[i.val]?.getD ⟨#[]⟩ = names[j.val]?.getD ⟨#[]⟩ → i = j := by decide +kernel
end Go.Proofs.YtpkegjbmnilmdaaDoor.S
/- The scripts' names: skel.Name, skel.Of, over the world in which the variable that holds them is as the program's text lays it. -/
namespace Go.Proofs.YtpkegjbmnilmdaaDoor.S
open Go.RowKit
set_option linter.unusedVariables false

/-- The names lie where the program's text lays them. -/
def Nms (W : World) : Prop := ∃ t z, W.heap[0]? = some (.cells (names.map Value.string).toArray t z)
theorem Nms.below {A B : World} {n : Nat} (h : Below n A B) (hn : A.heap.size ≤ n) (t : Nms A) : Nms B := by
  obtain ⟨ty, z, h1⟩ := t
  have : 0 < A.heap.size := (Array.getElem?_eq_some_iff.1 h1).1
  exact ⟨ty, z, (h.block 0 (by omega)).trans h1⟩
theorem Nms.cell {W : World} (h : Nms W) (k : Nat) (hk : k < 12) : W.cell? ⟨0, k, none⟩ = some (.string (names[k]?.getD ⟨#[]⟩)) := by
  obtain ⟨t, z, h1⟩ := h
  have hl : names.length = 12 := rfl
  unfold World.cell?
  simp only
  rw [h1]
  simp [List.getElem?_eq_getElem (show k < names.length by omega)]
theorem self_eq (t : ByteArray) : (t.toList == t.toList) = true := by rw [U.str_eq_bn]; exact decide_eq_true rfl
theorem str_ne {a b : ByteArray} (h : a ≠ b) : (a.toList == b.toList) = false := by
  rw [U.str_eq_bn]; exact decide_eq_false (fun e => h (U.bn_inj e))
set_option maxRecDepth 100000 in
set_option maxHeartbeats 2000000 in
theorem name_any (x : Nat) (hx : x ≤ 255) (w : World) (hN : Nms w) : Calls Tryd.prog 18 #[.int .u8 x] w fun e W' => e = .returned (.string (names[x]?.getD ⟨#[]⟩)) ∧ W' = w := by
  have hl : Hid (names.length = 12) := rfl
  by_cases h : x < 12
  · have hz : (x : Int) < 12 := by omega
    have hc := hN.cell x h
    obtain ⟨T, hT⟩ : ∃ T, names[x]?.getD ⟨#[]⟩ = T := ⟨_, rfl⟩
    rw [hT] at hc ⊢
    clear hT hN
    go_enter Tryd.func18, Tryd.ntmps18
    go_wp2
    go_ret
    exact ⟨rfl, rfl⟩
  · have hz : ¬ (x : Int) < 12 := by omega
    have HE : Hid (names[x]?.getD ⟨#[]⟩ = ⟨#[]⟩) := by show _ = _; rw [List.getElem?_eq_none (by rw [hl.out]; omega)]; rfl
    go_enter Tryd.func18, Tryd.ntmps18
    go_wp2
    go_ret
    exact ⟨by rw [HE.out]; rfl, rfl⟩
/-- What Of answers of a text, the names told by f. -/
def OfF (f : Nat → ByteArray) (t : ByteArray) (n e : Int) : Prop := (∃ i : Nat, i < 12 ∧ f i = t ∧ n = i ∧ e = 0) ∨ ((∀ i : Nat, i < 12 → ¬ f i = t) ∧ n = 0 ∧ e = 5)
def nmAt (k : Nat) : ByteArray := names[k]?.getD ⟨#[]⟩
abbrev OfR (t : ByteArray) (n e : Int) : Prop := OfF nmAt t n e
set_option maxRecDepth 100000 in
set_option maxHeartbeats 2000000 in
theorem of_gen (t : ByteArray) (w : World) (f : Nat → ByteArray) (n0 n1 n2 n3 n4 n5 n6 n7 n8 n9 n10 n11 : ByteArray)
    (c0 : w.cell? ⟨0, 0, none⟩ = some (.string n0)) (c1 : w.cell? ⟨0, 1, none⟩ = some (.string n1)) (c2 : w.cell? ⟨0, 2, none⟩ = some (.string n2)) (c3 : w.cell? ⟨0, 3, none⟩ = some (.string n3)) (c4 : w.cell? ⟨0, 4, none⟩ = some (.string n4)) (c5 : w.cell? ⟨0, 5, none⟩ = some (.string n5)) (c6 : w.cell? ⟨0, 6, none⟩ = some (.string n6)) (c7 : w.cell? ⟨0, 7, none⟩ = some (.string n7)) (c8 : w.cell? ⟨0, 8, none⟩ = some (.string n8)) (c9 : w.cell? ⟨0, 9, none⟩ = some (.string n9)) (c10 : w.cell? ⟨0, 10, none⟩ = some (.string n10)) (c11 : w.cell? ⟨0, 11, none⟩ = some (.string n11))
    (hx : ∀ k : Nat, k < 12 → (Instr.index 58 (.agg #[.string n0, .string n1, .string n2, .string n3, .string n4, .string n5, .string n6, .string n7, .string n8, .string n9, .string n10, .string n11]) (.int .i64 k)).run Tryd.prog w = .ok (.string (f k)) w) :
    Calls Tryd.prog 17 #[.string t] w fun e W' => (∃ n c, e = .returned (.tuple #[.int .u8 n, .int .i64 c]) ∧ OfF f t n c) ∧ W' = w := by
  have HC := hid hx
  clear hx
  go_enter Tryd.func17, Tryd.ntmps17
  go_wp2_with fail
  go_loop [7] (fun v7 => ∃ k : Nat, k ≤ 12 ∧ v7 = .int .i64 k ∧ Hid (∀ j : Nat, j < k → ¬ f j = t)) (fun v7 => 12 - (intOf v7).toNat)
  case atStart => exact ⟨0, Nat.zero_le _, rfl, (fun j hj => by omega)⟩
  case round =>
    obtain ⟨k, hk, rfl, HA⟩ := hrel
    by_cases hlt : k < 12
    · have hltz : (k : Int) < 12 := by omega
      have hx := HC.out k hlt
      have HS : Hid (¬ f k = t → ∀ j : Nat, j < k + 1 → ¬ f j = t) := fun h j hj => by
        by_cases e : j = k
        · rw [e]; exact h
        · exact HA.out j (by omega)
      have HY : Hid (f k = t → OfF f t k 0) := fun h => .inl ⟨k, hlt, h, rfl, rfl⟩
      obtain ⟨T, hT⟩ : ∃ T, f k = T := ⟨_, rfl⟩
      rw [hT] at hx HS HY
      clear hT
      by_cases he : T = t
      · have HO := hid (HY.out he)
        subst he
        have hse := self_eq T
        clear HS HY HA
        go_wp2
        go_ret2
        exact ⟨⟨_, _, rfl, HO.out⟩, rfl⟩
      · have HO := hid (HS.out he)
        have hse := str_ne he
        clear HS HY HA he
        go_wp2
        exact ⟨⟨k + 1, by omega, by go_num, HO⟩, by simp [intOf]; omega⟩
    · have HO : Hid (OfF f t 0 5) := .inr ⟨fun i hi => HA.out i (by omega), rfl, rfl⟩
      have hltz : ¬ (k : Int) < 12 := by omega
      clear HA
      go_wp2
      go_ret2
      exact ⟨⟨_, _, rfl, HO.out⟩, rfl⟩
theorem index_names (w : World) : ∀ k : Nat, k < 12 → (Instr.index 58 (.agg (names.map Value.string).toArray) (.int .i64 k)).run Tryd.prog w = .ok (.string (nmAt k)) w
  | 0, _ => by kernel_rfl
  | 1, _ => by kernel_rfl
  | 2, _ => by kernel_rfl
  | 3, _ => by kernel_rfl
  | 4, _ => by kernel_rfl
  | 5, _ => by kernel_rfl
  | 6, _ => by kernel_rfl
  | 7, _ => by kernel_rfl
  | 8, _ => by kernel_rfl
  | 9, _ => by kernel_rfl
  | 10, _ => by kernel_rfl
  | 11, _ => by kernel_rfl
  | k + 12, h => by omega
theorem of_any (t : ByteArray) (w : World) (hN : Nms w) : Calls Tryd.prog 17 #[.string t] w fun e W' => (∃ n c, e = .returned (.tuple #[.int .u8 n, .int .i64 c]) ∧ OfR t n c) ∧ W' = w :=
  of_gen t w nmAt _ _ _ _ _ _ _ _ _ _ _ _ (hN.cell 0 (by decide)) (hN.cell 1 (by decide)) (hN.cell 2 (by decide)) (hN.cell 3 (by decide)) (hN.cell 4 (by decide)) (hN.cell 5 (by decide)) (hN.cell 6 (by decide)) (hN.cell 7 (by decide)) (hN.cell 8 (by decide)) (hN.cell 9 (by decide)) (hN.cell 10 (by decide)) (hN.cell 11 (by decide)) (index_names w)
end Go.Proofs.YtpkegjbmnilmdaaDoor.S
