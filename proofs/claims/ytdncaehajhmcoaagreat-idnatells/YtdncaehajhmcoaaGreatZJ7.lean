/- Texts of one layer, one behind the other: JG. -/
import Derived.Test.YtdncaehajhmcoaaGreatZJ6
/- The document's ASCII. -/
namespace Go.Proofs.YtdncaehajhmcoaaGreat.I
open Go.RowKit
set_option linter.unusedVariables false

theorem one_lenB (l : List Int) (hy : Bool) (B : Nat) (h : l.length ≤ B) (hB63 : 63 ≤ B) : (one l hy).1.length ≤ B := by
  unfold one
  split
  · exact h
  · split
    · exact h
    · rename_i h2
      cases hr : rdx (l.drop 4) with
      | none => exact h
      | some m =>
        simp only
        split
        · exact h
        · unfold rdx at hr
          split at hr
          · cases hr
          · split at hr
            · cases hr
            · rename_i h3 h4
              have hp := plain_iff.1 (show plain l = true by simpa using h2)
              have hB : U.Bytes (l.drop 4) := fun c hc => by have := hp c (List.mem_of_mem_drop hc); omega
              have := (P.enc_dec hr (by simpa using h4) hB (by omega)).2.2
              show m.length ≤ B
              omega
theorem prc_eachB (X : List Int) (hy : Bool) (hX : X.length ≤ 2400) : ∀ x ∈ prc X hy, x.1.length ≤ 2400 := by
  intro x hx
  have k : ∀ x ∈ (spl X).map (fun l => one l hy), x.1.length ≤ 2400 := fun x hx => by
    obtain ⟨l, hl, rfl⟩ := List.mem_map.1 hx
    exact one_lenB l hy 2400 (by have := spl_each X l hl; omega) (by omega)
  unfold prc at hx
  split at hx
  · obtain ⟨y, hy', rfl⟩ := List.mem_map.1 hx
    exact k y hy'
  · exact k x hx
theorem part_len {l p : List Int} (h : Part l p) : p.length ≤ l.length + 67 := by
  rcases h with ⟨_, rfl⟩ | ⟨_, T, _, hT, _, _, rfl⟩
  · omega
  · simp; omega
/-- Whether a part is of a length that may be. -/
def okl (p : List Int) : Prop := p ≠ [] ∧ p.length ≤ 63
abbrev lastE (ps : List (List Int)) : Prop := 1 < ps.length ∧ ps[ps.length - 1]?.getD [] = []
/-- The parts that count. -/
def cps (ps : List (List Int)) : List (List Int) := if lastE ps then ps.take (ps.length - 1) else ps
def badL (ps : List (List Int)) : Prop := (∃ p ∈ cps ps, ¬ okl p) ∨ 253 < (join (cps ps)).length
/-- What ASCII answers of a text that is not too long. -/
def AscR (xs : List (List Int × Int)) (long : Bool) (w : World) (e : Ending) (W' : World) : Prop :=
  (∃ t r, e = .returned (.tuple #[.string t, .int .i64 r]) ∧ ((BadP xs ∧ t = ⟨#[]⟩ ∧ r = 70) ∨ (∃ ts, PartsR xs ts ∧ ((long = true ∧ badL (ts.map U.bn) ∧ t = ⟨#[]⟩ ∧ r = 4) ∨ (¬ (long = true ∧ badL (ts.map U.bn)) ∧ U.bn t = join (ts.map U.bn) ∧ r = 0))))) ∧ Below w.heap.size w W'
theorem empty_list (t : ByteArray) : (t.toList == []) = decide (t.size = 0) := by
  rw [Bool.eq_iff_iff, beq_iff_eq, decide_eq_true_eq, Go.ByteArray.toList_eq]
  rw [← U.bn_length]
  unfold U.bn
  rw [List.length_map, List.length_eq_zero_iff]
def finR (long : Bool) (ps : List (List Int)) (t : ByteArray) (r : Int) : Prop := (long = true ∧ badL ps ∧ t = ⟨#[]⟩ ∧ r = 4) ∨ (¬ (long = true ∧ badL ps) ∧ U.bn t = join ps ∧ r = 0)
def okAll (long : Bool) (ps : List (List Int)) : Prop := long = true → ∀ p ∈ ps, okl p
theorem lastE_at {ps : List (List Int)} {n : Nat} (hn : ps.length = n) : lastE ps ↔ 1 < n ∧ ps[n - 1]?.getD [] = [] := by unfold lastE; rw [hn]
theorem cps_mem {ps : List (List Int)} {n i : Nat} (hn : ps.length = n) (hi : i < n) (h : ¬ (0 < i ∧ i = n - 1 ∧ ps[i]?.getD [] = [])) : ps[i]?.getD [] ∈ cps ps := by
  unfold cps
  split
  · rename_i hl
    rw [lastE_at hn] at hl
    have h1 : i < n - 1 := by
      apply Nat.lt_of_not_le
      intro hc
      have e : i = n - 1 := by omega
      exact h ⟨by omega, e, by rw [e]; exact hl.2⟩
    rw [hn, List.getElem?_eq_getElem (by omega)]
    exact List.mem_take_iff_getElem.2 ⟨i, by omega, rfl⟩
  · rw [List.getElem?_eq_getElem (by omega)]; exact List.getElem_mem _
theorem join_takes (ps : List (List Int)) (i : Nat) (h : i < ps.length) : join (ps.take (i + 1)) = if i = 0 then ps[i]?.getD [] else join (ps.take i) ++ 46 :: ps[i]?.getD [] := by
  rw [List.take_succ_eq_append_getElem h, List.getElem?_eq_getElem h]
  by_cases h0 : i = 0
  · rw [if_pos h0]
    have e0 : ps.take i = [] := by rw [h0]; rfl
    rw [e0]; rfl
  · rw [if_neg h0]
    exact join_snoc _ _ (by intro e; have h := congrArg List.length e; rw [List.length_take, List.length_nil] at h; omega)
theorem mem_snoc {ps : List (List Int)} {i : Nat} (h : i < ps.length) {p : List Int} (hp : p ∈ ps.take (i + 1)) : p ∈ ps.take i ∨ p = ps[i]?.getD [] := by
  rw [List.take_succ_eq_append_getElem h] at hp
  rcases List.mem_append.1 hp with hp | hp
  · exact .inl hp
  · right
    rw [List.getElem?_eq_getElem h]
    simpa using hp
set_option maxRecDepth 100000 in
set_option maxHeartbeats 16000000 in
theorem rascii_any (s : ByteArray) (hy long : Bool) (w : World) (hs : s.size ≤ 1200) :
    Calls Tryz.prog 10 #[.string s, .bool hy, .bool long] w fun e W' => AscR (prc (Mp (U.dec (U.bn s))) hy) long w e W' := by
  have HPR := hid (rprocess_any s hy w hs)
  have hml := Mp_len s
  have HEA := hid (prc_each (Mp (U.dec (U.bn s))) hy (by omega))
  have HEB := hid (prc_eachB (Mp (U.dec (U.bn s))) hy (by omega))
  have hxl := prc_len (Mp (U.dec (U.bn s))) hy
  have hsl := spl_len (Mp (U.dec (U.bn s)))
  obtain ⟨xs, hxs⟩ : ∃ xs, prc (Mp (U.dec (U.bn s))) hy = xs := ⟨_, rfl⟩
  rw [hxs] at HPR HEA HEB hxl ⊢
  obtain ⟨n, hn⟩ : ∃ n, xs.length = n := ⟨_, rfl⟩
  have HN := hid hn
  have hn1 : n ≤ 2401 := by omega
  unfold ProcR at HPR
  rw [hn] at HPR
  clear hxs hn hxl hsl hml
  go_enter Tryz.func10, Tryz.ntmps10
  go_wp2_with (go_at_call 14; refine HPR.out.mono ?_; rintro e w1 ⟨v1, f1, vs, rfl, hP⟩; have HP := hid hP; obtain ⟨a1, c1, rfl⟩ := own_sh22 hP.out; obtain ⟨a2, c2, rfl⟩ := own_sh16 hP.flt; clear hP)
  go_loopw [10, 11] (fun v10 v11 wr => ∃ (k c : Nat) (a : Option Addr) (ts : List ByteArray), k ≤ n ∧ v10 = .slice a k c ∧ v11 = .int .i64 k ∧ Hid (PartsR (xs.take k) ts) ∧ Hid (wr.ownsRow w1.heap.size 9 1 (.slice a k c) k (ts.map Value.string)) ∧ Hid (Below w1.heap.size w1 wr)) (fun _ v11 _ => n - (intOf v11).toNat)
  case atStart => exact ⟨0, 0, none, [], Nat.zero_le _, rfl, rfl, PartsR.nil, World.ownsRow_nil _ _ _ _, Below.refl _ _⟩
  case round =>
    obtain ⟨k, c, a, ts, hk, rfl, rfl, HPT, HR, HB⟩ := hrel
    by_cases hlt : k < n
    · have hkx : k < xs.length := by rw [HN.out]; exact hlt
      have HT := hid (take_x xs k hkx)
      have hb := HEA.out _ (List.getElem_mem hkx)
      have HMEM := hid (List.getElem_mem hkx)
      obtain ⟨g1, rfl, hc1, -⟩ := row_cell HP.out.out k hlt
      obtain ⟨g2, rfl, hc2, -⟩ := row_cell HP.out.flt k hlt
      have hel := HP.out.els.2 k (by rw [List.length_map]; exact hkx)
      rw [List.getElem?_map, List.getElem?_eq_getElem hkx] at hel hc2
      replace hel : El w1 (vs[k]?.getD undef) xs[k].1 := hel
      replace hc2 : w1.cell? ⟨g2, k, none⟩ = some (.int .u16 xs[k].2) := hc2
      obtain ⟨ae, ce, hue⟩ := el_shape hel
      rw [hue] at hc1 hel
      obtain ⟨⟨lk, fk⟩, hlf⟩ : ∃ y, xs[k] = y := ⟨_, rfl⟩
      rw [hlf] at hc2 hel hc1 hb HT HMEM
      simp only at hc2 hel hc1 hb
      obtain ⟨q, hq⟩ : ∃ q, lk.length = q := ⟨_, rfl⟩
      have HQ := hid hq
      rw [hq] at hc1 hel hb
      obtain ⟨hb0, hb1, hb2⟩ := hb
      have HEL := hid (hel.below HB.out)
      have d1 : wr.cell? ⟨g1, k, none⟩ = some (.slice ae q ce) := (HB.out.cell (p := ⟨g1, k, none⟩) (U.lt_of_cell hc1)).trans hc1
      have d2 : wr.cell? ⟨g2, k, none⟩ = some (.int .u16 fk) := (HB.out.cell (p := ⟨g2, k, none⟩) (U.lt_of_cell hc2)).trans hc2
      have z1 := HB.out.size
      have HPL := hid (rplain_any _ lk wr (by rw [HQ.out]; omega) HEL.out.ints)
      clear hel hue hlf hq hc1 hc2
      by_cases hf0 : fk = 0
      · subst hf0
        obtain ⟨pl, hpl⟩ : ∃ pl, plain lk = pl := ⟨_, rfl⟩
        rw [hpl] at HPL
        have HPP := hid hpl
        clear hpl
        cases pl with
        | true =>
          have HTX := hid (rtext_any _ lk wr (by rw [HQ.out]; omega) (plain_iff.1 HPP.out) HEL.out.ints)
          go_wp2_with (first
            | (at_builtin; refine wpList_append_str rfl _ _ rfl w1.heap.size _ k _ rfl (R2.out.alloc _) ⟨w2.heap.size, 0, none⟩ t rfl (Boxed.new w2 9 (.string t)).cell (by omega) (by have := HB2.out.size; simp; omega) ?_; intro v4 w4 r4 g4; obtain ⟨a4, c4, rfl⟩ := own_shS r4; have R4 := hid r4; have HB4 := hid (U.below_grow (w1 := w2.alloc (.cells #[.string t] 9)) (HB2.out.alloc HB2.out.size _) (Nat.le_trans HB2.out.size (by simp)) (R2.out.alloc _) g4); clear r4 g4)
            | (go_at_call 26; refine HPL.out.mono ?_; rintro e wb ⟨rfl, hwb⟩; obtain rfl := hwb.symm)
            | (go_at_call 27; refine HTX.out.mono ?_; rintro e w2 ⟨⟨t, rfl, ht⟩, B2⟩; have HTT := hid ht; have R2 := hid (U.ownsRow_below HR.out B2 (Nat.le_refl _)); have HB2 := hid (HB.out.trans (B2.mono HB.out.size)); clear ht B2))
          go_roundw
          case rel =>
            refine ⟨k + 1, c4, a4, ts ++ [t], by omega, rfl, by go_num, ?_, ?_, HB4⟩
            · show PartsR _ _
              rw [HT.out]
              exact HPT.out.snoc rfl (.inl ⟨HPP.out, HTT.out⟩)
            · show World.ownsRow _ _ _ _ _ _ _
              rw [List.map_append]; exact R4.out
          case measure => first | (simp [intOf]; done) | (simp [intOf]; omega)
        | false =>
          have HEN := hid (rencode_all _ lk (by rw [HQ.out]; omega) wr HEL.out.ints)
          go_upto_if 60 with (first
            | (go_at_call 26; refine HPL.out.mono ?_; rintro e wb ⟨rfl, hwb⟩; obtain rfl := hwb.symm)
            | (go_at_call 28; refine HEN.out.mono ?_; rintro e w2 ⟨⟨t, r, rfl, he⟩, B2⟩; have HEE := hid (enc_part he HPP.out); have R2 := hid (U.ownsRow_below HR.out B2 (Nat.le_refl _)); have HB2 := hid (HB.out.trans (B2.mono HB.out.size)); clear he B2))
          rcases HEE.out with ⟨rfl, hpt, hts⟩ | ⟨hr, hno⟩
          · have HPT2 := hid hpt
            clear hpt HEE
            obtain ⟨u, hu⟩ : ∃ u, (⟨#[120, 110, 45, 45]⟩ : ByteArray) ++ t = u := ⟨_, rfl⟩
            have HUU : Hid (U.bn u = [120, 110, 45, 45] ++ U.bn t) := by show _ = _; rw [← hu, U.bn_append]; rfl
            go_wp2_with (at_builtin; refine wpList_append_str rfl _ _ rfl w1.heap.size _ k _ rfl (R2.out.alloc _) ⟨w2.heap.size, 0, none⟩ _ rfl (Boxed.new w2 9 (.string _)).cell (by omega) (by have := HB2.out.size; simp; omega) ?_; intro v4 w4 r4 g4; obtain ⟨a4, c4, rfl⟩ := own_shS r4; have R4 := hid r4; have HB4 := hid (U.below_grow (HB2.out.alloc HB2.out.size _) (Nat.le_trans HB2.out.size (by simp)) (R2.out.alloc _) g4); clear r4 g4)
            go_roundw
            case rel =>
              refine ⟨k + 1, c4, a4, ts ++ [u], by omega, rfl, by go_num, ?_, ?_, HB4⟩
              · show PartsR _ _
                rw [HT.out]
                exact HPT.out.snoc rfl (by rw [HUU.out]; exact HPT2.out)
              · show World.ownsRow _ _ _ _ _ _ _
                rw [List.map_append]
                first | exact R4.out | (rw [← hu]; exact R4.out)
            case measure => first | (simp [intOf]; done) | (simp [intOf]; omega)
          · have hrb : (r != 0) = true := by simpa using hr
            have HNO := hid hno
            clear hno HEE
            go_wp2
            go_ret2
            exact ⟨⟨_, _, rfl, .inl ⟨⟨_, HMEM.out, .inr HNO.out⟩, rfl, rfl⟩⟩, HP.out.be.trans (HB2.out.mono HP.out.be.size)⟩
      · have hfb : (fk != 0) = true := by simpa using hf0
        go_wp2
        go_ret2
        exact ⟨⟨_, _, rfl, .inl ⟨⟨_, HMEM.out, .inl hf0⟩, rfl, rfl⟩⟩, HP.out.be.trans (HB.out.mono HP.out.be.size)⟩
    · obtain rfl : k = n := by omega
      have hkk : xs.take k = xs := List.take_of_length_le (by rw [HN.out]; exact Nat.le_refl _)
      rw [hkk] at HPT
      have HTL : Hid (ts.length = k) := by show _ = _; rw [HPT.out.1, HN.out]
      have HSZ : Hid (∀ i, i < k → (ts[i]?.getD ⟨#[]⟩).size ≤ 2467) := fun i hi => by
        have h1 := (HPT.out.2 i (by rw [HN.out]; exact hi)).2
        have h2 := part_len h1
        have h3 : (xs[i]?.getD ([], 0)).1.length ≤ 2400 := by
          have hix : i < xs.length := by rw [HN.out]; exact hi
          rw [List.getElem?_eq_getElem hix]
          exact HEB.out _ (List.getElem_mem hix)
        rw [U.bn_length] at h2
        omega
      have HBB := hid (HP.out.be.trans (HB.out.mono HP.out.be.size))
      obtain ⟨ps, hps⟩ : ∃ ps, ts.map U.bn = ps := ⟨_, rfl⟩
      have HPS : Hid (ps.length = k) := by show _ = _; rw [← hps, List.length_map]; exact HTL.out
      have HPG : Hid (∀ i, i < k → ps[i]?.getD [] = U.bn (ts[i]?.getD ⟨#[]⟩)) := fun i hi => by
        have hit : i < ts.length := by rw [HTL.out]; exact hi
        rw [← hps, List.getElem?_map, List.getElem?_eq_getElem hit]; rfl
      have HFIN : Hid (∀ t r, finR long ps t r → AscR xs long w (.returned (.tuple #[.string t, .int .i64 r])) wr) := fun t r h =>
        ⟨⟨t, r, rfl, .inr ⟨ts, HPT.out, by rw [hps]; exact h⟩⟩, HBB.out⟩
      clear hkk hps HPR HEA HEB HP
      go_wp2_with fail
      go_loop [14, 15, 16] (fun v14 v15 v16 => ∃ (i : Nat) (o : ByteArray), i ≤ k ∧ v14 = .string o ∧ v15 = .int .i64 o.size ∧ v16 = .int .i64 i ∧ o.size ≤ i * 2468 ∧ Hid (U.bn o = join (ps.take i)) ∧ Hid (okAll long (ps.take i)) ∧ Hid (i = k → ¬ lastE ps)) (fun _ _ v16 => k - (intOf v16).toNat)
      case atStart => exact ⟨0, ⟨#[]⟩, Nat.zero_le _, rfl, rfl, rfl, Nat.zero_le _, rfl, (fun _ p hp => by simp at hp), (fun e h => by rw [lastE_at HPS.out] at h; omega)⟩
      case round =>
        obtain ⟨i, o, hi, rfl, rfl, rfl, hoi, HO, HOK, HNL⟩ := hrel
        by_cases hlt2 : i < k
        · obtain ⟨gp, rfl, hcp, -⟩ := row_cell HR.out i hlt2
          rw [List.getElem?_map, List.getElem?_eq_getElem (show i < ts.length by rw [HTL.out]; exact hlt2)] at hcp
          have hsz := HSZ.out i hlt2
          have hpg := HPG.out i hlt2
          have HJT := hid (join_takes ps i (by rw [HPS.out]; exact hlt2))
          have HCM := hid (fun h => cps_mem HPS.out hlt2 h)
          have HMS := hid (fun p hp => mem_snoc (p := p) (show i < ps.length by rw [HPS.out]; exact hlt2) hp)
          rw [List.getElem?_eq_getElem (show i < ts.length by rw [HTL.out]; exact hlt2)] at hsz hpg
          obtain ⟨t, ht⟩ : ∃ t, ts[i]'(by rw [HTL.out]; exact hlt2) = t := ⟨_, rfl⟩
          replace hcp : wr.cell? ⟨gp, i, none⟩ = some (.string t) := by rw [← ht]; exact hcp
          replace hsz : t.size ≤ 2467 := by rw [← ht]; exact hsz
          replace hpg : ps[i]?.getD [] = U.bn t := by rw [← ht]; exact hpg
          rw [hpg] at HJT HCM HMS
          have HPI := hid hpg
          clear ht hpg
          have S1 : (o ++ t).size = o.size + t.size := ByteArray.size_append
          have S2 : (o ++ ⟨#[46]⟩ ++ t).size = o.size + 1 + t.size := by rw [ByteArray.size_append, ByteArray.size_append]; rfl
          have HS1 := hid S1
          have HS2 := hid S2
          clear S1 S2
          by_cases h0 : i = 0
          · have HNX : Hid (U.bn (o ++ t) = join (ps.take (i + 1))) := by
              show _ = _
              rw [HJT.out, if_pos h0, U.bn_append, HO.out, h0]; rfl
            have HIN := hid (HCM.out (fun h => by omega))
            have HNLN : Hid (i + 1 = k → ¬ lastE ps) := fun e h => by rw [lastE_at HPS.out] at h; omega
            have h0z : ¬ (0 : Int) < (i : Int) := by omega
            clear h0 HJT HCM
            cases long with
            | false =>
              have HOKN : Hid (okAll false (ps.take (i + 1))) := fun h => absurd h (by decide)
              go_wp2
              refine ⟨⟨i + 1, o ++ t, by omega, rfl, by first | (rw [HS1.out]; go_num) | (rw [HS1.out]; push_cast; rfl) | (rw [HS1.out]; push_cast; go_num), by go_num, by rw [HS1.out]; omega, HNX, HOKN, HNLN⟩, ?_⟩
              first | (simp [intOf]; done) | (simp [intOf]; omega)
            | true =>
              by_cases hz : t.size = 0
              · have e0 : (t.toList == []) = true := by rw [empty_list]; exact decide_eq_true hz
                have HBAD : Hid (badL ps) := .inl ⟨_, HIN.out, fun h => h.1 (List.length_eq_zero_iff.1 (by rw [U.bn_length]; exact hz))⟩
                have HZ := hid hz
                clear hz
                go_wp2
                all_goals (go_ret2; exact HFIN.out _ _ (.inl ⟨rfl, HBAD.out, rfl, rfl⟩))
              · have e0 : (t.toList == []) = false := by rw [empty_list]; exact decide_eq_false hz
                by_cases h63 : 63 < t.size
                · have HBAD : Hid (badL ps) := .inl ⟨_, HIN.out, fun h => by have := h.2; rw [U.bn_length] at this; omega⟩
                  go_wp2
                  go_ret2
                  exact HFIN.out _ _ (.inl ⟨rfl, HBAD.out, rfl, rfl⟩)
                · have HOKN : Hid (okAll true (ps.take (i + 1))) := fun _ p hp => by
                    rcases HMS.out p hp with h | h
                    · exact HOK.out rfl p h
                    · rw [h]
                      exact ⟨fun e => hz (by rw [← U.bn_length, e]; rfl), by rw [U.bn_length]; omega⟩
                  go_wp2
                  refine ⟨⟨i + 1, o ++ t, by omega, rfl, by first | (rw [HS1.out]; go_num) | (rw [HS1.out]; push_cast; rfl) | (rw [HS1.out]; push_cast; go_num), by go_num, by rw [HS1.out]; omega, HNX, HOKN, HNLN⟩, ?_⟩
                  first | (simp [intOf]; done) | (simp [intOf]; omega)
          · have h0z : (0 : Int) < (i : Int) := by omega
            have HNX : Hid (U.bn (o ++ ⟨#[46]⟩ ++ t) = join (ps.take (i + 1))) := by
              show _ = _
              rw [HJT.out, if_neg h0, U.bn_append, U.bn_append, HO.out]
              show _ ++ [46] ++ _ = _
              simp
            by_cases hl : i = k - 1
            · have hlz : ((i : Int) == (k : Int) - 1) = true := by simp; omega
              have hlz2 : (i : Int) = (k : Int) - 1 := by omega
              by_cases hz : t.size = 0
              · have ez : (t.toList == []) = true := by rw [empty_list]; exact decide_eq_true hz
                have HLE : Hid (lastE ps) := (lastE_at HPS.out).2 ⟨by omega, by rw [← hl, HPI.out]; exact List.length_eq_zero_iff.1 (by rw [U.bn_length]; exact hz)⟩
                have HCP : Hid (cps ps = ps.take i) := by show _ = _; unfold cps; rw [if_pos HLE.out, HPS.out, ← hl]
                have HJS : Hid ((join (cps ps)).length = o.size) := by show _ = _; rw [HCP.out, ← HO.out, U.bn_length]
                have HJP : Hid (U.bn (o ++ ⟨#[46]⟩ ++ t) = join ps) := by
                  show _ = _
                  rw [HNX.out, List.take_of_length_le (by rw [HPS.out]; omega)]
                have HZ := hid hz
                have HHL := hid hl
                clear hz hl h0 HJT HCM HNX hlz2
                cases long with
                | false =>
                  go_wp2
                  go_ret2
                  exact HFIN.out _ _ (.inr ⟨fun h => absurd h.1 (by decide), HJP.out, rfl⟩)
                | true =>
                  by_cases h253 : 253 < o.size
                  · have HBAD : Hid (badL ps) := .inr (by rw [HJS.out]; exact h253)
                    go_wp2
                    go_ret2
                    exact HFIN.out _ _ (.inl ⟨rfl, HBAD.out, rfl, rfl⟩)
                  · have HGOOD : Hid (¬ badL ps) := by
                      rintro (⟨p, hp, hno⟩ | h)
                      · rw [HCP.out] at hp; exact hno (HOK.out rfl p hp)
                      · rw [HJS.out] at h; exact h253 h
                    go_wp2
                    go_ret2
                    exact HFIN.out _ _ (.inr ⟨fun h => HGOOD.out h.2, HJP.out, rfl⟩)
              · have HIN := hid (HCM.out (fun h => hz (by have := congrArg List.length h.2.2; rwa [U.bn_length] at this)))
                have HNLN : Hid (i + 1 = k → ¬ lastE ps) := fun e h => by
                  rw [lastE_at HPS.out] at h
                  have h2 := h.2
                  rw [← hl, HPI.out] at h2
                  exact hz (by have := congrArg List.length h2; rwa [U.bn_length] at this)
                have ez : (t.toList == []) = false := by rw [empty_list]; exact decide_eq_false hz
                have HZ := hid hz
                have HHL := hid hl
                clear hl h0 HJT HCM hz hlz2
                cases long with
                | false =>
                  have HOKN : Hid (okAll false (ps.take (i + 1))) := fun h => absurd h (by decide)
                  go_wp2
                  refine ⟨⟨i + 1, o ++ ⟨#[46]⟩ ++ t, by omega, rfl, by first | (rw [HS2.out]; go_num) | (rw [HS2.out]; push_cast; rfl) | (rw [HS2.out]; push_cast; go_num), by go_num, by rw [HS2.out]; omega, HNX, HOKN, HNLN⟩, ?_⟩
                  first | (simp [intOf]; done) | (simp [intOf]; omega)
                | true =>
                  by_cases hz : t.size = 0
                  · have e0 : (t.toList == []) = true := by rw [empty_list]; exact decide_eq_true hz
                    have HBAD : Hid (badL ps) := .inl ⟨_, HIN.out, fun h => h.1 (List.length_eq_zero_iff.1 (by rw [U.bn_length]; exact hz))⟩
                    have HZ := hid hz
                    clear hz
                    go_wp2
                    all_goals (go_ret2; exact HFIN.out _ _ (.inl ⟨rfl, HBAD.out, rfl, rfl⟩))
                  · have e0 : (t.toList == []) = false := by rw [empty_list]; exact decide_eq_false hz
                    by_cases h63 : 63 < t.size
                    · have HBAD : Hid (badL ps) := .inl ⟨_, HIN.out, fun h => by have := h.2; rw [U.bn_length] at this; omega⟩
                      go_wp2
                      go_ret2
                      exact HFIN.out _ _ (.inl ⟨rfl, HBAD.out, rfl, rfl⟩)
                    · have HOKN : Hid (okAll true (ps.take (i + 1))) := fun _ p hp => by
                        rcases HMS.out p hp with h | h
                        · exact HOK.out rfl p h
                        · rw [h]
                          exact ⟨fun e => hz (by rw [← U.bn_length, e]; rfl), by rw [U.bn_length]; omega⟩
                      go_wp2
                      refine ⟨⟨i + 1, o ++ ⟨#[46]⟩ ++ t, by omega, rfl, by first | (rw [HS2.out]; go_num) | (rw [HS2.out]; push_cast; rfl) | (rw [HS2.out]; push_cast; go_num), by go_num, by rw [HS2.out]; omega, HNX, HOKN, HNLN⟩, ?_⟩
                      first | (simp [intOf]; done) | (simp [intOf]; omega)
            · have hlz : ((i : Int) == (k : Int) - 1) = false := by simp; omega
              have hlz2 : ¬ ((i : Int) = (k : Int) - 1) := by omega
              have HIN := hid (HCM.out (fun h => hl h.2.1))
              have HNLN : Hid (i + 1 = k → ¬ lastE ps) := fun e => absurd (show i = k - 1 by omega) hl
              clear HJT HCM
              cases long with
              | false =>
                have HOKN : Hid (okAll false (ps.take (i + 1))) := fun h => absurd h (by decide)
                go_wp2
                refine ⟨⟨i + 1, o ++ ⟨#[46]⟩ ++ t, by omega, rfl, by first | (rw [HS2.out]; go_num) | (rw [HS2.out]; push_cast; rfl) | (rw [HS2.out]; push_cast; go_num), by go_num, by rw [HS2.out]; omega, HNX, HOKN, HNLN⟩, ?_⟩
                first | (simp [intOf]; done) | (simp [intOf]; omega)
              | true =>
                by_cases hz : t.size = 0
                · have e0 : (t.toList == []) = true := by rw [empty_list]; exact decide_eq_true hz
                  have HBAD : Hid (badL ps) := .inl ⟨_, HIN.out, fun h => h.1 (List.length_eq_zero_iff.1 (by rw [U.bn_length]; exact hz))⟩
                  have HZ := hid hz
                  clear hz
                  go_wp2
                  all_goals (go_ret2; exact HFIN.out _ _ (.inl ⟨rfl, HBAD.out, rfl, rfl⟩))
                · have e0 : (t.toList == []) = false := by rw [empty_list]; exact decide_eq_false hz
                  by_cases h63 : 63 < t.size
                  · have HBAD : Hid (badL ps) := .inl ⟨_, HIN.out, fun h => by have := h.2; rw [U.bn_length] at this; omega⟩
                    go_wp2
                    go_ret2
                    exact HFIN.out _ _ (.inl ⟨rfl, HBAD.out, rfl, rfl⟩)
                  · have HOKN : Hid (okAll true (ps.take (i + 1))) := fun _ p hp => by
                      rcases HMS.out p hp with h | h
                      · exact HOK.out rfl p h
                      · rw [h]
                        exact ⟨fun e => hz (by rw [← U.bn_length, e]; rfl), by rw [U.bn_length]; omega⟩
                    go_wp2
                    refine ⟨⟨i + 1, o ++ ⟨#[46]⟩ ++ t, by omega, rfl, by first | (rw [HS2.out]; go_num) | (rw [HS2.out]; push_cast; rfl) | (rw [HS2.out]; push_cast; go_num), by go_num, by rw [HS2.out]; omega, HNX, HOKN, HNLN⟩, ?_⟩
                    first | (simp [intOf]; done) | (simp [intOf]; omega)
        · obtain rfl : i = k := by omega
          have HCP : Hid (cps ps = ps) := by show _ = _; unfold cps; rw [if_neg (HNL.out rfl)]
          have hjs : (join ps).length = o.size := by
            rw [← U.bn_length, HO.out, List.take_of_length_le (by rw [HPS.out]; exact Nat.le_refl _)]
          have HJS := hid hjs
          rw [List.take_of_length_le (by rw [HPS.out]; exact Nat.le_refl _)] at HO HOK
          clear hjs
          cases long with
          | false =>
            go_wp2
            go_ret2
            exact HFIN.out _ _ (.inr ⟨fun h => absurd h.1 (by decide), HO.out, rfl⟩)
          | true =>
            by_cases h253 : 253 < o.size
            · have HBAD : Hid (badL ps) := .inr (by rw [HCP.out, HJS.out]; exact h253)
              go_wp2
              go_ret2
              exact HFIN.out _ _ (.inl ⟨rfl, HBAD.out, rfl, rfl⟩)
            · have HGOOD : Hid (¬ badL ps) := by
                rintro (⟨p, hp, hno⟩ | h)
                · rw [HCP.out] at hp; exact hno (HOK.out rfl p hp)
                · rw [HCP.out, HJS.out] at h; exact h253 h
              go_wp2
              go_ret2
              exact HFIN.out _ _ (.inr ⟨fun h => HGOOD.out h.2, HO.out, rfl⟩)
end Go.Proofs.YtdncaehajhmcoaaGreat.I
