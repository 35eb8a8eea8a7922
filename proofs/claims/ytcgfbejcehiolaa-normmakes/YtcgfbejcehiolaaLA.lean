/- The walk of NormRests: it returns true, whatever row. -/
import Derived.Test.YtcgfbejcehiolaaCD
import Derived.Test.YtcgfbejcehiolaaPA
namespace Go.Proofs.Ytcgfbejcehiolaa
open Go.RowKit
set_option linter.unusedVariables false

theorem own_sh {base n : Nat} {v : Value} {X : List Value} {W : World} (h : W.ownsRow base 21 1 v n X) : ∃ a cap, v = .slice a n cap := by
  rcases h.2 with ⟨rfl, h0⟩ | ⟨g, cap, cur, rfl, _⟩
  · exact ⟨none, 0, by rw [h0]⟩
  · exact ⟨_, cap, rfl⟩
theorem dec_true {α : Type} [DecidableEq α] {a b : α} (h : a = b) : decide (a = b) = true := decide_eq_true h

set_option maxRecDepth 100000 in
set_option maxHeartbeats 8000000 in
theorem rests_walk (a : Option Addr) (len cap : Nat) (z : List Int) (w : World) (h0 : U.IsRow .i32 w a len cap z) :
    Calls Try.prog 4 #[.slice a len cap] w fun e w' => e = .returned (.bool true) ∧ Below w.heap.size w w' := by
  have hl := U.row_max h0
  unfold maxLen at hl
  by_cases h1 : 300 < len
  · go_enter Try.func4, Try.ntmps4
    go_wp2_with fail
    refine (works_any _).mono ?_
    rintro e w' ⟨rfl, hB⟩
    go_wp2
    go_ret
    exact ⟨rfl, hB⟩
  · have SA := hid (U.row_src h0)
    have hL := U.row_len h0
    generalize z.take len = L at SA hL
    have hL1 : L.length ≤ 300 := by omega
    have hD := nfdI_len L
    have hC := nfcI_len L
    have e1 := dec_true (nfc_nfc L)
    have e2 := dec_true (nfc_nfd L)
    have e3 := dec_true (nfd_nfc L)
    have e4 := dec_true (nfd_nfd L)
    have g1 : (nfcI (nfcI L)).length ≤ 900 := by rw [nfc_nfc]; omega
    have g2 : (nfcI (nfdI L)).length ≤ 900 := by rw [nfc_nfd]; omega
    have g3 : (nfdI (nfcI L)).length ≤ 900 := by rw [nfd_nfc]; omega
    have g4 : (nfdI (nfdI L)).length ≤ 900 := by rw [nfd_nfd]; omega
    have hcd : ((nfcI L).length : Int) ≤ ((nfdI L).length : Int) := by omega
    clear h0 hL
    have E1 := hid e1
    have E2 := hid e2
    have E3 := hid e3
    have E4 := hid e4
    clear e1 e2 e3 e4
    go_enter Try.func4, Try.ntmps4
    go_wp2_with fail
    refine (copied_any _ L _ (by omega) SA.out).mono ?_
    rintro e W1 ⟨v1, rfl, r1, B1⟩
    have SAn := hid (U.SrcInts.below B1 (Nat.le_refl _) SA.out)
    clear SA
    have SA := SAn
    clear SAn
    have HB := hid B1
    obtain ⟨a1, c1, rfl⟩ := own_sh r1
    have Rx := hid r1
    clear r1 B1
    go_wp2_with fail
    refine (nfc_any _ (L) _ (by omega) (Row21.of_own rfl Rx.out)).mono ?_
    rintro e W2 ⟨v2, rfl, r2, B2⟩
    have Rxn := hid (ownsRow_below Rx.out B2 (Nat.le_refl _))
    clear Rx
    have Rx := Rxn
    clear Rxn
    have SAn := hid (U.SrcInts.below B2 (Nat.le_refl _) SA.out)
    clear SA
    have SA := SAn
    clear SAn
    have HBn := hid (HB.out.trans (B2.mono HB.out.size))
    clear HB
    have HB := HBn
    clear HBn
    obtain ⟨a2, c2, rfl⟩ := own_sh r2
    have Rc := hid r2
    clear r2 B2
    clear Rx
    go_wp2_with fail
    refine (copied_any _ L _ (by omega) SA.out).mono ?_
    rintro e W3 ⟨v3, rfl, r3, B3⟩
    have Rcn := hid (ownsRow_below Rc.out B3 (Nat.le_refl _))
    clear Rc
    have Rc := Rcn
    clear Rcn
    have SAn := hid (U.SrcInts.below B3 (Nat.le_refl _) SA.out)
    clear SA
    have SA := SAn
    clear SAn
    have HBn := hid (HB.out.trans (B3.mono HB.out.size))
    clear HB
    have HB := HBn
    clear HBn
    obtain ⟨a3, c3, rfl⟩ := own_sh r3
    have Rx := hid r3
    clear r3 B3
    go_wp2_with fail
    refine (nfd_any _ (L) _ (by omega) (Row21.of_own rfl Rx.out)).mono ?_
    rintro e W4 ⟨v4, rfl, r4, B4⟩
    have Rcn := hid (ownsRow_below Rc.out B4 (Nat.le_refl _))
    clear Rc
    have Rc := Rcn
    clear Rcn
    have Rxn := hid (ownsRow_below Rx.out B4 (Nat.le_refl _))
    clear Rx
    have Rx := Rxn
    clear Rxn
    have SAn := hid (U.SrcInts.below B4 (Nat.le_refl _) SA.out)
    clear SA
    have SA := SAn
    clear SAn
    have HBn := hid (HB.out.trans (B4.mono HB.out.size))
    clear HB
    have HB := HBn
    clear HBn
    obtain ⟨a4, c4, rfl⟩ := own_sh r4
    have Rd := hid r4
    clear r4 B4
    clear Rx
    go_wp2_with fail
    refine (copied_any _ (nfcI L) _ (by omega) (U.SrcInts.own rfl Rc.out)).mono ?_
    rintro e W5 ⟨v5, rfl, r5, B5⟩
    have Rcn := hid (ownsRow_below Rc.out B5 (Nat.le_refl _))
    clear Rc
    have Rc := Rcn
    clear Rcn
    have Rdn := hid (ownsRow_below Rd.out B5 (Nat.le_refl _))
    clear Rd
    have Rd := Rdn
    clear Rdn
    have SAn := hid (U.SrcInts.below B5 (Nat.le_refl _) SA.out)
    clear SA
    have SA := SAn
    clear SAn
    have HBn := hid (HB.out.trans (B5.mono HB.out.size))
    clear HB
    have HB := HBn
    clear HBn
    obtain ⟨a5, c5, rfl⟩ := own_sh r5
    have Rx := hid r5
    clear r5 B5
    go_wp2_with fail
    refine (nfc_any _ (nfcI L) _ (by omega) (Row21.of_own rfl Rx.out)).mono ?_
    rintro e W6 ⟨v6, rfl, r6, B6⟩
    have Rcn := hid (ownsRow_below Rc.out B6 (Nat.le_refl _))
    clear Rc
    have Rc := Rcn
    clear Rcn
    have Rdn := hid (ownsRow_below Rd.out B6 (Nat.le_refl _))
    clear Rd
    have Rd := Rdn
    clear Rdn
    have Rxn := hid (ownsRow_below Rx.out B6 (Nat.le_refl _))
    clear Rx
    have Rx := Rxn
    clear Rxn
    have SAn := hid (U.SrcInts.below B6 (Nat.le_refl _) SA.out)
    clear SA
    have SA := SAn
    clear SAn
    have HBn := hid (HB.out.trans (B6.mono HB.out.size))
    clear HB
    have HB := HBn
    clear HBn
    obtain ⟨a6, c6, rfl⟩ := own_sh r6
    have Ry := hid r6
    clear r6 B6
    clear Rx
    go_wp2_with fail
    refine (same_any _ _ (nfcI (nfcI L)) (nfcI L) _ (by omega) (U.IntsAt.own rfl Ry.out) (U.IntsAt.own rfl Rc.out)).mono ?_
    rw [E1.out]
    rintro e W7 ⟨rfl, B7⟩
    have Rcn := hid (ownsRow_below Rc.out B7 (Nat.le_refl _))
    clear Rc
    have Rc := Rcn
    clear Rcn
    have Rdn := hid (ownsRow_below Rd.out B7 (Nat.le_refl _))
    clear Rd
    have Rd := Rdn
    clear Rdn
    have Ryn := hid (ownsRow_below Ry.out B7 (Nat.le_refl _))
    clear Ry
    have Ry := Ryn
    clear Ryn
    have SAn := hid (U.SrcInts.below B7 (Nat.le_refl _) SA.out)
    clear SA
    have SA := SAn
    clear SAn
    have HBn := hid (HB.out.trans (B7.mono HB.out.size))
    clear HB
    have HB := HBn
    clear HBn
    clear B7
    clear Ry
    go_wp2_with fail
    refine (copied_any _ (nfdI L) _ (by omega) (U.SrcInts.own rfl Rd.out)).mono ?_
    rintro e W8 ⟨v8, rfl, r8, B8⟩
    have Rcn := hid (ownsRow_below Rc.out B8 (Nat.le_refl _))
    clear Rc
    have Rc := Rcn
    clear Rcn
    have Rdn := hid (ownsRow_below Rd.out B8 (Nat.le_refl _))
    clear Rd
    have Rd := Rdn
    clear Rdn
    have SAn := hid (U.SrcInts.below B8 (Nat.le_refl _) SA.out)
    clear SA
    have SA := SAn
    clear SAn
    have HBn := hid (HB.out.trans (B8.mono HB.out.size))
    clear HB
    have HB := HBn
    clear HBn
    obtain ⟨a8, c8, rfl⟩ := own_sh r8
    have Rx := hid r8
    clear r8 B8
    go_wp2_with fail
    refine (nfc_any _ (nfdI L) _ (by omega) (Row21.of_own rfl Rx.out)).mono ?_
    rintro e W9 ⟨v9, rfl, r9, B9⟩
    have Rcn := hid (ownsRow_below Rc.out B9 (Nat.le_refl _))
    clear Rc
    have Rc := Rcn
    clear Rcn
    have Rdn := hid (ownsRow_below Rd.out B9 (Nat.le_refl _))
    clear Rd
    have Rd := Rdn
    clear Rdn
    have Rxn := hid (ownsRow_below Rx.out B9 (Nat.le_refl _))
    clear Rx
    have Rx := Rxn
    clear Rxn
    have SAn := hid (U.SrcInts.below B9 (Nat.le_refl _) SA.out)
    clear SA
    have SA := SAn
    clear SAn
    have HBn := hid (HB.out.trans (B9.mono HB.out.size))
    clear HB
    have HB := HBn
    clear HBn
    obtain ⟨a9, c9, rfl⟩ := own_sh r9
    have Ry := hid r9
    clear r9 B9
    clear Rx
    go_wp2_with fail
    refine (same_any _ _ (nfcI (nfdI L)) (nfcI L) _ (by omega) (U.IntsAt.own rfl Ry.out) (U.IntsAt.own rfl Rc.out)).mono ?_
    rw [E2.out]
    rintro e W10 ⟨rfl, B10⟩
    have Rcn := hid (ownsRow_below Rc.out B10 (Nat.le_refl _))
    clear Rc
    have Rc := Rcn
    clear Rcn
    have Rdn := hid (ownsRow_below Rd.out B10 (Nat.le_refl _))
    clear Rd
    have Rd := Rdn
    clear Rdn
    have Ryn := hid (ownsRow_below Ry.out B10 (Nat.le_refl _))
    clear Ry
    have Ry := Ryn
    clear Ryn
    have SAn := hid (U.SrcInts.below B10 (Nat.le_refl _) SA.out)
    clear SA
    have SA := SAn
    clear SAn
    have HBn := hid (HB.out.trans (B10.mono HB.out.size))
    clear HB
    have HB := HBn
    clear HBn
    clear B10
    clear Ry
    go_wp2_with fail
    refine (copied_any _ (nfcI L) _ (by omega) (U.SrcInts.own rfl Rc.out)).mono ?_
    rintro e W11 ⟨v11, rfl, r11, B11⟩
    have Rcn := hid (ownsRow_below Rc.out B11 (Nat.le_refl _))
    clear Rc
    have Rc := Rcn
    clear Rcn
    have Rdn := hid (ownsRow_below Rd.out B11 (Nat.le_refl _))
    clear Rd
    have Rd := Rdn
    clear Rdn
    have SAn := hid (U.SrcInts.below B11 (Nat.le_refl _) SA.out)
    clear SA
    have SA := SAn
    clear SAn
    have HBn := hid (HB.out.trans (B11.mono HB.out.size))
    clear HB
    have HB := HBn
    clear HBn
    obtain ⟨a11, c11, rfl⟩ := own_sh r11
    have Rx := hid r11
    clear r11 B11
    go_wp2_with fail
    refine (nfd_any _ (nfcI L) _ (by omega) (Row21.of_own rfl Rx.out)).mono ?_
    rintro e W12 ⟨v12, rfl, r12, B12⟩
    have Rcn := hid (ownsRow_below Rc.out B12 (Nat.le_refl _))
    clear Rc
    have Rc := Rcn
    clear Rcn
    have Rdn := hid (ownsRow_below Rd.out B12 (Nat.le_refl _))
    clear Rd
    have Rd := Rdn
    clear Rdn
    have Rxn := hid (ownsRow_below Rx.out B12 (Nat.le_refl _))
    clear Rx
    have Rx := Rxn
    clear Rxn
    have SAn := hid (U.SrcInts.below B12 (Nat.le_refl _) SA.out)
    clear SA
    have SA := SAn
    clear SAn
    have HBn := hid (HB.out.trans (B12.mono HB.out.size))
    clear HB
    have HB := HBn
    clear HBn
    obtain ⟨a12, c12, rfl⟩ := own_sh r12
    have Ry := hid r12
    clear r12 B12
    clear Rx
    go_wp2_with fail
    refine (same_any _ _ (nfdI (nfcI L)) (nfdI L) _ (by omega) (U.IntsAt.own rfl Ry.out) (U.IntsAt.own rfl Rd.out)).mono ?_
    rw [E3.out]
    rintro e W13 ⟨rfl, B13⟩
    have Rcn := hid (ownsRow_below Rc.out B13 (Nat.le_refl _))
    clear Rc
    have Rc := Rcn
    clear Rcn
    have Rdn := hid (ownsRow_below Rd.out B13 (Nat.le_refl _))
    clear Rd
    have Rd := Rdn
    clear Rdn
    have Ryn := hid (ownsRow_below Ry.out B13 (Nat.le_refl _))
    clear Ry
    have Ry := Ryn
    clear Ryn
    have SAn := hid (U.SrcInts.below B13 (Nat.le_refl _) SA.out)
    clear SA
    have SA := SAn
    clear SAn
    have HBn := hid (HB.out.trans (B13.mono HB.out.size))
    clear HB
    have HB := HBn
    clear HBn
    clear B13
    clear Ry
    go_wp2_with fail
    refine (copied_any _ (nfdI L) _ (by omega) (U.SrcInts.own rfl Rd.out)).mono ?_
    rintro e W14 ⟨v14, rfl, r14, B14⟩
    have Rcn := hid (ownsRow_below Rc.out B14 (Nat.le_refl _))
    clear Rc
    have Rc := Rcn
    clear Rcn
    have Rdn := hid (ownsRow_below Rd.out B14 (Nat.le_refl _))
    clear Rd
    have Rd := Rdn
    clear Rdn
    have SAn := hid (U.SrcInts.below B14 (Nat.le_refl _) SA.out)
    clear SA
    have SA := SAn
    clear SAn
    have HBn := hid (HB.out.trans (B14.mono HB.out.size))
    clear HB
    have HB := HBn
    clear HBn
    obtain ⟨a14, c14, rfl⟩ := own_sh r14
    have Rx := hid r14
    clear r14 B14
    go_wp2_with fail
    refine (nfd_any _ (nfdI L) _ (by omega) (Row21.of_own rfl Rx.out)).mono ?_
    rintro e W15 ⟨v15, rfl, r15, B15⟩
    have Rcn := hid (ownsRow_below Rc.out B15 (Nat.le_refl _))
    clear Rc
    have Rc := Rcn
    clear Rcn
    have Rdn := hid (ownsRow_below Rd.out B15 (Nat.le_refl _))
    clear Rd
    have Rd := Rdn
    clear Rdn
    have Rxn := hid (ownsRow_below Rx.out B15 (Nat.le_refl _))
    clear Rx
    have Rx := Rxn
    clear Rxn
    have SAn := hid (U.SrcInts.below B15 (Nat.le_refl _) SA.out)
    clear SA
    have SA := SAn
    clear SAn
    have HBn := hid (HB.out.trans (B15.mono HB.out.size))
    clear HB
    have HB := HBn
    clear HBn
    obtain ⟨a15, c15, rfl⟩ := own_sh r15
    have Ry := hid r15
    clear r15 B15
    clear Rx
    go_wp2_with fail
    refine (same_any _ _ (nfdI (nfdI L)) (nfdI L) _ (by omega) (U.IntsAt.own rfl Ry.out) (U.IntsAt.own rfl Rd.out)).mono ?_
    rw [E4.out]
    rintro e W16 ⟨rfl, B16⟩
    have Rcn := hid (ownsRow_below Rc.out B16 (Nat.le_refl _))
    clear Rc
    have Rc := Rcn
    clear Rcn
    have Rdn := hid (ownsRow_below Rd.out B16 (Nat.le_refl _))
    clear Rd
    have Rd := Rdn
    clear Rdn
    have Ryn := hid (ownsRow_below Ry.out B16 (Nat.le_refl _))
    clear Ry
    have Ry := Ryn
    clear Ryn
    have SAn := hid (U.SrcInts.below B16 (Nat.le_refl _) SA.out)
    clear SA
    have SA := SAn
    clear SAn
    have HBn := hid (HB.out.trans (B16.mono HB.out.size))
    clear HB
    have HB := HBn
    clear HBn
    clear B16
    clear Ry
    go_wp2_with fail
    refine (is_any _ (nfcI L) _ (by omega) (Row21.of_own rfl Rc.out)).mono ?_
    rw [E1.out]
    rintro e W17 ⟨rfl, B17⟩
    have Rcn := hid (ownsRow_below Rc.out B17 (Nat.le_refl _))
    clear Rc
    have Rc := Rcn
    clear Rcn
    have Rdn := hid (ownsRow_below Rd.out B17 (Nat.le_refl _))
    clear Rd
    have Rd := Rdn
    clear Rdn
    have SAn := hid (U.SrcInts.below B17 (Nat.le_refl _) SA.out)
    clear SA
    have SA := SAn
    clear SAn
    have HBn := hid (HB.out.trans (B17.mono HB.out.size))
    clear HB
    have HB := HBn
    clear HBn
    clear B17
    go_wp2_with fail
    refine (works_any _).mono ?_
    rintro e W18 ⟨rfl, B18⟩
    have Rcn := hid (ownsRow_below Rc.out B18 (Nat.le_refl _))
    clear Rc
    have Rc := Rcn
    clear Rcn
    have Rdn := hid (ownsRow_below Rd.out B18 (Nat.le_refl _))
    clear Rd
    have Rd := Rdn
    clear Rdn
    have SAn := hid (U.SrcInts.below B18 (Nat.le_refl _) SA.out)
    clear SA
    have SA := SAn
    clear SAn
    have HBn := hid (HB.out.trans (B18.mono HB.out.size))
    clear HB
    have HB := HBn
    clear HBn
    clear B18
    go_wp2
    go_ret
    exact ⟨by first | rfl | simp, HB.out⟩
end Go.Proofs.Ytcgfbejcehiolaa
