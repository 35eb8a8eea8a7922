/- six.Text; what the walks of stage 11 want. (Stage 11.) -/
import Derived.Test.YtpkmpebhlolhaaaDoorWK
import Derived.Test.YtpkmpebhlolhaaaDoorWQ
namespace Go.Proofs.YtpkmpebhlolhaaaDoor.X
open Go.RowKit
open Go.Proofs.YtpkmpebhlolhaaaDoor.F (hx hx_bd vl vl_snoc bn bn_length bn_append bn_inj bn_get byte_bd hid bn_extract isEmpty_false isEmpty_true str_eq same_eq)
set_option linter.unusedVariables false

theorem longest_any (a : List Nat) (h8 : a.length = 8) (w : World) : Calls Tryd.prog 19 #[.agg (u16s a).toArray] w fun e W' => LonR a e ∧ Below w.heap.size w W' := by
  obtain ⟨a0, a1, a2, a3, a4, a5, a6, a7, rfl⟩ := lit8 h8
  exact longest_lit a0 a1 a2 a3 a4 a5 a6 a7 w
theorem txt_st {a : List Nat} (h8 : a.length = 8) : ((st a 8).2 = 0 ∧ txt a = tl a 0 8) ∨ (∃ p m : Nat, st a 8 = (p, m) ∧ 2 ≤ m ∧ p + m ≤ 8 ∧ txt a = tl a 0 p ++ [58, 58] ++ tl a (p + m) 8) := by
  rcases txt_two h8 with ⟨h1, h2, _⟩ | ⟨p, m, h1, h2, h3, h4, _, h5⟩
  · left
    refine ⟨by unfold st; rw [h1, if_pos (by decide)], ?_⟩
    rw [h2]
    unfold tl
    rw [List.take_of_length_le (by omega), List.drop_zero]
  · right
    refine ⟨p, m, by unfold st; rw [h1, h2, if_neg (by omega), Int.toNat_natCast], h3, h4, ?_⟩
    rw [h5]
    unfold tl
    rw [List.drop_zero, List.take_of_length_le (by omega : a.length ≤ 8)]
    simp
theorem tl_bytes {a : List Nat} (hs : Small a) (f n : Nat) : ∀ x ∈ tl a f n, 0 ≤ x ∧ x ≤ 255 := by
  have key : ∀ ps : List (List Int), (∀ p ∈ ps, ∀ x ∈ p, 0 ≤ x ∧ x ≤ 255) → ∀ x ∈ joinB 58 ps, 0 ≤ x ∧ x ≤ 255 := by
    intro ps
    induction ps with
    | nil => intro _ x hx; cases hx
    | cons p r ih =>
      intro h x hx
      cases r with
      | nil => exact h p (by simp) x hx
      | cons q s =>
        have hx' : x ∈ p ++ 58 :: joinB 58 (q :: s) := hx
        rcases List.mem_append.1 hx' with h1 | h1
        · exact h p (by simp) x h1
        · rcases List.mem_cons.1 h1 with rfl | h1
          · decide
          · exact ih (fun p hp => h p (List.mem_cons_of_mem _ hp)) x h1
  refine key _ (fun p hp x hx => ?_)
  obtain ⟨v, hv, rfl⟩ := List.mem_map.1 hp
  exact hexT_bytes (hs v (List.mem_of_mem_take (List.mem_of_mem_drop hv))) x hx
set_option maxRecDepth 100000 in
set_option maxHeartbeats 8000000 in
theorem text_lit (a0 a1 a2 a3 a4 a5 a6 a7 : Nat) (hs : Small [a0, a1, a2, a3, a4, a5, a6, a7]) (w : World) (hT : Tab w) :
    Calls Tryd.prog 10 #[.agg #[.int .u16 a0, .int .u16 a1, .int .u16 a2, .int .u16 a3, .int .u16 a4, .int .u16 a5, .int .u16 a6, .int .u16 a7]] w fun e W' => TxtR [a0, a1, a2, a3, a4, a5, a6, a7] w e W' := by
  have HB0 : Hid (Below w.heap.size w (w.alloc (.cells #[.int .u16 a0, .int .u16 a1, .int .u16 a2, .int .u16 a3, .int .u16 a4, .int .u16 a5, .int .u16 a6, .int .u16 a7] 23))) := (Below.refl _ w).alloc (Nat.le_refl _) _
  have HZ0 : Hid ((w.alloc (.cells #[.int .u16 a0, .int .u16 a1, .int .u16 a2, .int .u16 a3, .int .u16 a4, .int .u16 a5, .int .u16 a6, .int .u16 a7] 23)).heap.size = w.heap.size + 1) := by show _ = _; simp
  have HA0 : Hid ((w.alloc (.cells #[.int .u16 a0, .int .u16 a1, .int .u16 a2, .int .u16 a3, .int .u16 a4, .int .u16 a5, .int .u16 a6, .int .u16 a7] 23)).heap[w.heap.size]? = some (.cells (u16s [a0, a1, a2, a3, a4, a5, a6, a7]).toArray 23 (0, 0))) := box_in w _ _
  have HL8 : Hid ([a0, a1, a2, a3, a4, a5, a6, a7].length = 8) := rfl
  have hgT := Lib.lt_of_cell (show w.cell? ⟨5, 15, none⟩ = some (.int .u8 4) from hT)
  have HT0 := hid (hT.below HB0.out (Nat.le_refl _))
  obtain ⟨i0, hi0, hz0, hz1, hz2⟩ := info_parts infoB
  obtain ⟨a, ha⟩ : ∃ a, [a0, a1, a2, a3, a4, a5, a6, a7] = a := ⟨_, rfl⟩
  rw [ha] at HA0 HL8 hs ⊢
  have HSM := hid hs
  have HTX := hid (txt_st HL8.out)
  have HLO := hid (longest_any a HL8.out)
  have HMK : Hid (∀ t W, bn t = txt a → Below w.heap.size w W → TxtR a w (.returned (.string t)) W) := fun t W h hB => ⟨⟨t, rfl, h⟩, hB⟩
  have HTL := hid (fun (base : Nat) (v : Value) (l : List Int) (f n : Nat) (hf : f ≤ n) (hn : n ≤ 8) => tell_any a HL8.out hs base v l f n hf hn)
  have HLN := hid (tl_len HL8.out)
  have HBY := hid (tl_bytes hs)
  have HT8 := hid (txt_len HL8.out)
  obtain ⟨y, hy⟩ : ∃ y, txt a = y := ⟨_, rfl⟩
  rw [hy] at HMK HTX HT8
  clear ha hy hs
  go_enter Tryd.func10, Tryd.ntmps10
  go_wp2_with ((refine wpList_load_row rfl 23 (.tmp 1) rfl w.heap.size rfl 23 (u16s a).toArray (0, 0) _ HA0.out Tryd.underlying23 rfl (info8X HL8.out) ?_))
  obtain ⟨w1, hw1⟩ : ∃ w1, w.alloc (.cells #[.int .u16 a0, .int .u16 a1, .int .u16 a2, .int .u16 a3, .int .u16 a4, .int .u16 a5, .int .u16 a6, .int .u16 a7] 23) = w1 := ⟨_, rfl⟩
  rw [hw1] at HB0 HZ0 HA0 HT0 ⊢
  obtain ⟨arg, harg⟩ : ∃ v : Value, Value.agg #[.int .u16 a0, .int .u16 a1, .int .u16 a2, .int .u16 a3, .int .u16 a4, .int .u16 a5, .int .u16 a6, .int .u16 a7] = v := ⟨_, rfl⟩
  rw [harg]
  clear hw1 harg
  refine (HLO.out w1).mono ?_
  rintro e w2 ⟨hlo, B2⟩
  have hlo2 : e = .returned (.tuple #[.int .i64 ((st a 8).1 : Int), .int .i64 ((st a 8).2 : Int)]) := hlo
  subst hlo2
  have HB2 := hid (HB0.out.trans (B2.mono HB0.out.size))
  have HA2 : Hid (w2.heap[w.heap.size]? = some (.cells (u16s a).toArray 23 (0, 0))) := (B2.block _ (by rw [HZ0.out]; omega)).trans HA0.out
  have HT2 := hid (HT0.out.below B2 (Nat.le_refl _))
  have hz2' : w.heap.size + 1 ≤ w2.heap.size := by have := HZ0.out; have := B2.size; omega
  clear B2 HLO hlo HA0 HB0 HT0 HZ0
  rcases HTX.out with ⟨hm0, hty⟩ | ⟨p, m, hst, hm2, hpm, hty⟩
  · rw [hm0]
    obtain ⟨k0, hk0⟩ : ∃ k0, (st a 8).1 = k0 := ⟨_, rfl⟩
    rw [hk0]
    have HTY := hid hty
    have HTL8 := hid (HTL.out (w.heap.size + 1) (.slice none 0 0) [] 0 8 (by omega) (by omega) w2 HT2.out (by omega) (by simp) (Bts.nilS _ _ _) hz2')
    clear hm0 hty hk0 HTL HTX
    go_wp2_with ((refine wpList_load_row rfl 23 (.tmp 1) rfl w.heap.size rfl 23 (u16s a).toArray (0, 0) _ HA2.out Tryd.underlying23 rfl (info8X HL8.out) ?_))
    refine HTL8.out.mono ?_
    rintro e w3 ⟨v', rfl, h3, B3⟩
    rw [List.nil_append, ← HTY.out] at h3
    have hyne : y ≠ [] := fun e => by have := HT8.out.1; rw [e] at this; simp at this
    obtain ⟨g, c3, rfl, _, _, _, hcells⟩ := h3.there hyne
    obtain ⟨t, hcv3, ht⟩ := conv_at w3 g 0 y.length c3 y rfl (fun x hx => HBY.out 0 8 x (by rw [← HTY.out]; exact hx)) (fun j hj => by rw [Nat.zero_add]; exact hcells j hj)
    have HR := hid (HMK.out t w3 ht (HB2.out.trans (B3.mono (by omega))))
    have hyl := HT8.out.2
    obtain ⟨n3, hn3⟩ : ∃ n3, y.length = n3 := ⟨_, rfl⟩
    rw [hn3] at hcv3 hyl ⊢
    clear hn3 h3 hcells ht B3 HTL8 HMK HTY hyne HT8
    go_wp2
    go_ret
    exact HR.out
  · rw [hst]
    have HTY := hid hty
    have hm0b : ((m : Int) == 0) = false := by simp; omega
    have HTLp := hid (HTL.out (w.heap.size + 1) (.slice none 0 0) [] 0 p (by omega) (by omega) w2 HT2.out (by omega) (by simp) (Bts.nilS _ _ _) hz2')
    clear hst hty HTX
    go_wp2_with ((refine wpList_load_row rfl 23 (.tmp 1) rfl w.heap.size rfl 23 (u16s a).toArray (0, 0) _ HA2.out Tryd.underlying23 rfl (info8X HL8.out) ?_))
    refine HTLp.out.mono ?_
    rintro e w3 ⟨v', rfl, h3, B3⟩
    rw [List.nil_append] at h3
    have HB3 := hid (HB2.out.trans (B3.mono (by omega)))
    have HA3 : Hid (w3.heap[w.heap.size]? = some (.cells (u16s a).toArray 23 (0, 0))) := (B3.block _ (by omega)).trans HA2.out
    have HT3 := hid (HT2.out.at B3 (by omega))
    have hz3 : w.heap.size + 1 ≤ w3.heap.size := Nat.le_trans hz2' B3.size
    have hlp := HLN.out 0 p
    have HO3 := hid h3
    obtain ⟨p3, n3, c3, rfl⟩ := h3.form
    obtain ⟨k, hk⟩ : ∃ k, p + m = k := ⟨_, rfl⟩
    have hkz : (p : Int) + (m : Int) = (k : Int) := by omega
    rw [hk] at HTY hpm
    clear B3 HTLp h3 HA2 HB2 HT2 hk
    go_wp2_with (first
      | (at_builtin; refine wpList_append_bts_string _ rfl _ _ 50 9 rfl (w.heap.size + 1) 5 i0 Tryd.underlying50 Tryd.underlying9 hi0 hz0 hz1 hz2 _ (tl a 0 p) rfl HO3.out ⟨#[58, 58]⟩ rfl (by have e : (⟨#[58, 58]⟩ : ByteArray).size = 2 := rfl; omega) hz3 ?_; intro v4 w4 hown4 hgrow4; obtain ⟨p4, n4, c4, rfl⟩ := hown4.form; have hA4 := (hgrow4.block _ (Nat.lt_of_lt_of_le (Nat.lt_succ_self _) hz3) (HO3.out.apart HA3.out (by decide))).trans HA3.out)
      | (refine wpList_load_row rfl 23 (.tmp 1) rfl w.heap.size rfl 23 (u16s a).toArray (0, 0) _ hA4 Tryd.underlying23 rfl (info8X HL8.out) ?_))
    have hbz : bn ⟨#[58, 58]⟩ = [58, 58] := rfl
    rw [hbz] at hown4
    have HB4' := (Below.refl (w.heap.size + 1) w3).grown hgrow4 hz3 (fun k hk => (HO3.out.lt k hk).1)
    have HB4 := hid (HB3.out.trans (HB4'.mono (by omega)))
    have HT4 := hid (HT3.out.at HB4' (by omega))
    have hz4 : w.heap.size + 1 ≤ w4.heap.size := Nat.le_trans hz3 hgrow4.size
    have HTLk := hid (HTL.out (w.heap.size + 1) _ (tl a 0 p ++ [58, 58]) k 8 hpm (by omega) w4 HT4.out (by omega) (by rw [List.length_append]; simp only [List.length_cons, List.length_nil]; omega) hown4 hz4)
    clear hown4 hgrow4 HB4' HA3 HB3 HT3 HO3 HTL hA4
    refine HTLk.out.mono ?_
    rintro e w5 ⟨v5, rfl, h5, B5⟩
    rw [← HTY.out] at h5
    have hyne : y ≠ [] := fun e => by have := HT8.out.1; rw [e] at this; simp at this
    obtain ⟨g, c5, rfl, _, _, _, hcells⟩ := h5.there hyne
    have hyb : ∀ x ∈ y, 0 ≤ x ∧ x ≤ 255 := fun x hx => by
      rw [HTY.out] at hx
      rcases List.mem_append.1 hx with hx | hx
      · rcases List.mem_append.1 hx with hx | hx
        · exact HBY.out _ _ x hx
        · have : x = 58 := by simpa using hx
          omega
      · exact HBY.out _ _ x hx
    obtain ⟨t, hcv3, ht⟩ := conv_at w5 g 0 y.length c5 y rfl hyb (fun j hj => by rw [Nat.zero_add]; exact hcells j hj)
    have HR := hid (HMK.out t w5 ht (HB4.out.trans (B5.mono (by omega))))
    have hyl := HT8.out.2
    obtain ⟨n5, hn5⟩ : ∃ n5, y.length = n5 := ⟨_, rfl⟩
    rw [hn5] at hcv3 hyl ⊢
    clear hn5 h5 hcells ht B5 HTLk HMK HTY hyne HT8 hyb
    go_wp2
    go_ret
    exact HR.out
theorem text_any (a : List Nat) (h8 : a.length = 8) (hs : Small a) (w : World) (hT : Tab w) : Calls Tryd.prog 10 #[.agg (u16s a).toArray] w fun e W' => TxtR a w e W' := by
  obtain ⟨a0, a1, a2, a3, a4, a5, a6, a7, rfl⟩ := lit8 h8
  exact text_lit a0 a1 a2 a3 a4 a5 a6 a7 hs w hT
/-- What the walks want. -/
theorem ctr : Ctr GX where
  keep := fun w w' h hb => h.below hb
  cp := fun s w hs hG => (parse_any s hs w hG).mono (fun e W' h => h)
  ct := fun a w h8 hs hG => text_any a h8 hs w hG.1
end Go.Proofs.YtpkmpebhlolhaaaDoor.X
