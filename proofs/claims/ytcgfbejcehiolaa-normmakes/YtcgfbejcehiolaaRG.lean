/- The walk of NormMakes: it returns true, whatever row and whatever text. -/
import Derived.Test.YtcgfbejcehiolaaRF
namespace Go.Proofs.Ytcgfbejcehiolaa
open Go.RowKit
set_option linter.unusedVariables false

theorem dec_self {α : Type} [DecidableEq α] (a : α) : decide (a = a) = true := decide_eq_true rfl
set_option maxRecDepth 100000 in
set_option maxHeartbeats 16000000 in
theorem makes_walk (a : Option Addr) (len cap : Nat) (z : List Int) (s : ByteArray) (w : World) (h0 : U.IsRow .i32 w a len cap z) (hs : s.size ≤ maxLen) :
    Calls Try.prog 3 #[.slice a len cap, .string s] w fun e w' => e = .returned (.bool true) ∧ Below w.heap.size w w' := by
  have hl := U.row_max h0
  unfold maxLen at hl hs
  by_cases g1 : 300 < len
  · go_enter Try.func3, Try.ntmps3
    go_wp2_with fail
    refine (works_any _).mono ?_
    rintro e w' ⟨rfl, hB⟩
    go_wp2
    go_ret
    exact ⟨rfl, hB⟩
  by_cases g2 : 600 < s.size
  · have g2z : (600 : Int) < (s.size : Int) := by omega
    go_enter Try.func3, Try.ntmps3
    go_wp2_with fail
    refine (works_any _).mono ?_
    rintro e w' ⟨rfl, hB⟩
    go_wp2
    go_ret
    exact ⟨rfl, hB⟩
  have SA := hid (U.row_src h0)
  have IA := hid (U.row_ints h0)
  have hL := U.row_len h0
  generalize z.take len = L at SA IA hL
  have hLl : L.length ≤ 300 := by omega
  clear h0
  have k1 := nfdI_len L
  have k2 := nfcI_len L
  have k3 := ordI_len L
  have k3' : (ordI L).length ≤ 300 := by omega
  obtain ⟨b, hb⟩ : ∃ b, decide (nfcI L = L) = b := ⟨_, rfl⟩
  have E4 := hid hb
  have HL := hid hL
  clear hb hL k3
  go_enter Try.func3, Try.ntmps3
  go_wp2_with fail
  refine (copied_any _ L _ (by omega) SA.out).mono ?_
  rintro e W1 ⟨v1, rfl, r1, B1⟩
  obtain ⟨a1, c1, rfl⟩ := own_sh r1
  have HB := hid B1
  have Rin := hid r1
  clear r1 B1
  go_wp2_with fail
  refine (rnfc_any _ L _ (by omega) (U.IntsAt.below HB.out (Nat.le_refl _) IA.out)).mono ?_
  rintro e W2 ⟨v2, rfl, r2, B2⟩
  obtain ⟨a2, c2, rfl⟩ := own_sh r2
  replace HB := hid (HB.out.trans (B2.mono HB.out.size))
  replace Rin := hid (ownsRow_below Rin.out B2 (Nat.le_refl _))
  have Rc := hid r2
  clear r2 B2
  go_wp2_with fail
  refine (order_any _ L _ (by omega) (Row21.of_own rfl Rin.out)).mono ?_
  rintro e W3 ⟨v3, rfl, r3, B3⟩
  obtain ⟨a3, c3, rfl⟩ := own_sh r3
  replace HB := hid (HB.out.trans (B3.mono HB.out.size))
  replace Rin := hid (ownsRow_below Rin.out B3 (Nat.le_refl _))
  replace Rc := hid (ownsRow_below Rc.out B3 (Nat.le_refl _))
  have Rx := hid r3
  clear r3 B3
  go_wp2_with fail
  refine (rorder_any _ L _ (by omega) (U.SrcInts.below HB.out (Nat.le_refl _) SA.out)).mono ?_
  rintro e W4 ⟨v4, rfl, r4, B4⟩
  obtain ⟨a4, c4, rfl⟩ := own_sh r4
  replace HB := hid (HB.out.trans (B4.mono HB.out.size))
  replace Rin := hid (ownsRow_below Rin.out B4 (Nat.le_refl _))
  replace Rc := hid (ownsRow_below Rc.out B4 (Nat.le_refl _))
  replace Rx := hid (ownsRow_below Rx.out B4 (Nat.le_refl _))
  have Ry := hid r4
  clear r4 B4
  go_wp2_with fail
  refine (same_any _ _ (ordI L) (ordI L) _ (by omega) (U.IntsAt.own rfl Rx.out) (U.IntsAt.own rfl Ry.out)).mono ?_
  rw [dec_self (ordI L)]
  rintro e W5 ⟨rfl, B5⟩
  clear Rx
  clear Ry
  replace HB := hid (HB.out.trans (B5.mono HB.out.size))
  replace Rin := hid (ownsRow_below Rin.out B5 (Nat.le_refl _))
  replace Rc := hid (ownsRow_below Rc.out B5 (Nat.le_refl _))
  clear B5
  go_wp2_with fail
  refine (nfd_any _ L _ (by omega) (Row21.of_own rfl Rin.out)).mono ?_
  rintro e W6 ⟨v6, rfl, r6, B6⟩
  obtain ⟨a6, c6, rfl⟩ := own_sh r6
  replace HB := hid (HB.out.trans (B6.mono HB.out.size))
  replace Rin := hid (ownsRow_below Rin.out B6 (Nat.le_refl _))
  replace Rc := hid (ownsRow_below Rc.out B6 (Nat.le_refl _))
  have Rx := hid r6
  clear r6 B6
  go_wp2_with fail
  refine (rnfd_any _ L _ (by omega) (U.IntsAt.below HB.out (Nat.le_refl _) IA.out)).mono ?_
  rintro e W7 ⟨v7, rfl, r7, B7⟩
  obtain ⟨a7, c7, rfl⟩ := own_sh r7
  replace HB := hid (HB.out.trans (B7.mono HB.out.size))
  replace Rin := hid (ownsRow_below Rin.out B7 (Nat.le_refl _))
  replace Rc := hid (ownsRow_below Rc.out B7 (Nat.le_refl _))
  replace Rx := hid (ownsRow_below Rx.out B7 (Nat.le_refl _))
  have Ry := hid r7
  clear r7 B7
  go_wp2_with fail
  refine (same_any _ _ (nfdI L) (nfdI L) _ (by omega) (U.IntsAt.own rfl Rx.out) (U.IntsAt.own rfl Ry.out)).mono ?_
  rw [dec_self (nfdI L)]
  rintro e W8 ⟨rfl, B8⟩
  clear Rx
  clear Ry
  replace HB := hid (HB.out.trans (B8.mono HB.out.size))
  replace Rin := hid (ownsRow_below Rin.out B8 (Nat.le_refl _))
  replace Rc := hid (ownsRow_below Rc.out B8 (Nat.le_refl _))
  clear B8
  go_wp2_with fail
  refine (nfc_any _ L _ (by omega) (Row21.of_own rfl Rin.out)).mono ?_
  rintro e W9 ⟨v9, rfl, r9, B9⟩
  obtain ⟨a9, c9, rfl⟩ := own_sh r9
  replace HB := hid (HB.out.trans (B9.mono HB.out.size))
  replace Rin := hid (ownsRow_below Rin.out B9 (Nat.le_refl _))
  replace Rc := hid (ownsRow_below Rc.out B9 (Nat.le_refl _))
  have Rx := hid r9
  clear r9 B9
  go_wp2_with fail
  refine (same_any _ _ (nfcI L) (nfcI L) _ (by omega) (U.IntsAt.own rfl Rx.out) (U.IntsAt.own rfl Rc.out)).mono ?_
  rw [dec_self (nfcI L)]
  rintro e W10 ⟨rfl, B10⟩
  clear Rx
  replace HB := hid (HB.out.trans (B10.mono HB.out.size))
  replace Rin := hid (ownsRow_below Rin.out B10 (Nat.le_refl _))
  replace Rc := hid (ownsRow_below Rc.out B10 (Nat.le_refl _))
  clear B10
  go_wp2_with fail
  refine (is_any _ L _ (by omega) (Row21.of_own rfl Rin.out)).mono ?_
  rw [E4.out]
  rintro e W11 ⟨rfl, B11⟩
  replace HB := hid (HB.out.trans (B11.mono HB.out.size))
  replace Rin := hid (ownsRow_below Rin.out B11 (Nat.le_refl _))
  replace Rc := hid (ownsRow_below Rc.out B11 (Nat.le_refl _))
  clear B11
  go_wp2_with fail
  refine (same_any _ _ (nfcI L) L _ (by omega) (U.IntsAt.own rfl Rc.out) (U.IntsAt.below HB.out (Nat.le_refl _) IA.out)).mono ?_
  rw [E4.out]
  rintro e W12 ⟨rfl, B12⟩
  clear Rc
  replace HB := hid (HB.out.trans (B12.mono HB.out.size))
  replace Rin := hid (ownsRow_below Rin.out B12 (Nat.le_refl _))
  clear B12
  have hbb : (b == b) = true := beq_self_eq_true b
  go_wp2_with fail
  refine (text_any s _ (by omega)).mono ?_
  rintro e WT1 ⟨⟨t1, rfl, ht1⟩, BT1⟩
  replace HB := hid (HB.out.trans (BT1.mono HB.out.size))
  replace Rin := hid (ownsRow_below Rin.out BT1 (Nat.le_refl _))
  have HT1 := hid ht1
  clear ht1 BT1
  go_wp2_with fail
  refine (rtext_any s _ (by omega)).mono ?_
  rintro e WT2 ⟨⟨t2, rfl, ht2⟩, BT2⟩
  obtain rfl := textR_one HT1.out ht2
  replace HB := hid (HB.out.trans (BT2.mono HB.out.size))
  replace Rin := hid (ownsRow_below Rin.out BT2 (Nat.le_refl _))
  clear ht2 BT2 HT1
  have htt : (t2.toList == t2.toList) = true := beq_self_eq_true _
  go_wp2_with fail
  refine (same_any _ _ L L _ (by omega) (U.IntsAt.own rfl Rin.out) (U.IntsAt.below HB.out (Nat.le_refl _) IA.out)).mono ?_
  rw [dec_self L]
  rintro e W13 ⟨rfl, B13⟩
  clear Rin
  replace HB := hid (HB.out.trans (B13.mono HB.out.size))
  clear B13
  go_wp2_with fail
  refine (works_any _).mono ?_
  rintro e W14 ⟨rfl, B14⟩
  replace HB := hid (HB.out.trans (B14.mono HB.out.size))
  clear B14
  go_wp2
  go_ret
  exact ⟨by first | rfl | simp, HB.out⟩
end Go.Proofs.Ytcgfbejcehiolaa
