/- The walk of NormJoins: it returns true, whatever two rows. -/
import Derived.Test.YtcgfbejcehiolaaLA
import Derived.Test.YtcgfbejcehiolaaPB
import Derived.Test.YtcgfbejcehiolaaDR
namespace Go.Proofs.Ytcgfbejcehiolaa
open Go.RowKit
set_option linter.unusedVariables false

theorem cl_ref (r : Int) : (D.rfnd r).2.2.2.2.2.2.2.2.1 = cl r := by unfold cl; rw [D.fnd_prj]; rfl
theorem below_own {w1 w2 w3 : World} {v : Value} {n : Nat} {X : List Value} (hB : Below w1.heap.size w1 w2) (h : w2.ownsRow w1.heap.size 21 1 v n X) (hg : w2.grownBy w3 v.ownBlock) : Below w1.heap.size w1 w3 :=
  hB.grown hg hB.size (fun k e => (h.lt k e).1)
theorem wpList_unguard {P : Program} {ops : Array Oper} {Q : Exit → Act → World → Prop} {a : Act} {w : World} {rest : List Oper} {o : Oper}
    (hw : Region.wanted o (yielded ops a.tmps) = true) (h : wpList P ops Q ({ o with guard := none } :: rest) a w) : wpList P ops Q (o :: rest) a w := by
  have h0 : Region.wanted { o with guard := none } (yielded ops a.tmps) = true := rfl
  simp only [wpList, h0, hw, if_true] at h ⊢
  exact h

set_option maxRecDepth 100000 in
set_option maxHeartbeats 16000000 in
theorem joins_walk (a0 : Option Addr) (la ca : Nat) (za : List Int) (b0 : Option Addr) (lb cb : Nat) (zb : List Int) (w : World) (h0 : U.IsRow .i32 w a0 la ca za) (h1 : U.IsRow .i32 w b0 lb cb zb) :
    Calls Try.prog 6 #[.slice a0 la ca, .slice b0 lb cb] w fun e w' => e = .returned (.bool true) ∧ Below w.heap.size w w' := by
  have hla := U.row_max h0
  have hlb := U.row_max h1
  unfold maxLen at hla hlb
  by_cases g1 : 300 < la
  · go_enter Try.func6, Try.ntmps6
    go_wp2_with fail
    refine (works_any _).mono ?_
    rintro e w' ⟨rfl, hB⟩
    go_wp2
    go_ret
    exact ⟨rfl, hB⟩
  by_cases g2 : 300 < lb
  · go_enter Try.func6, Try.ntmps6
    go_wp2_with fail
    refine (works_any _).mono ?_
    rintro e w' ⟨rfl, hB⟩
    go_wp2
    go_ret
    exact ⟨rfl, hB⟩
  have SA := hid (U.row_src h0)
  have SB := hid (U.row_src h1)
  have hIb := U.row_ints h1
  have hLa := U.row_len h0
  have hLb := U.row_len h1
  generalize za.take la = A at SA hLa
  generalize zb.take lb = Bb at SB hLb hIb
  clear h0 h1
  have k1 := nfdI_len A
  have k2 := nfcI_len A
  have k3 := nfdI_len Bb
  have k4 := nfcI_len Bb
  have k5 := nfdI_len (A ++ Bb)
  have k6 := nfcI_len (A ++ Bb)
  have k7 : (A ++ Bb).length ≤ 600 := by simp; omega
  have m1 : A.length ≤ 300 := by omega
  have m2 : Bb.length ≤ 300 := by omega
  by_cases g3 : lb = 0
  · subst g3
    have hb0 : Bb = [] := List.length_eq_zero_iff.1 hLb
    have e1 := dec_true (nfc_join A Bb (.inl hb0))
    have e2 := dec_true (nfd_join A Bb (.inl hb0))
    have E1 := hid e1
    have E2 := hid e2
    have HLA := hid hLa
    have HLB := hid hLb
    clear e1 e2 hb0 hLb hLa hIb
    go_enter Try.func6, Try.ntmps6
    go_wp2_with fail
    refine (copied_any _ A _ (by omega) SA.out).mono ?_
    rintro e W1 ⟨v1, rfl, r1, B1⟩
    obtain ⟨a1, c1, rfl⟩ := own_sh r1
    have Rx := hid r1
    clear r1
    have HB := hid B1
    clear B1
    go_wp2_with fail
    refine (nfc_any _ A _ (by omega) (Row21.of_own rfl Rx.out)).mono ?_
    rintro e W2 ⟨v2, rfl, r2, B2⟩
    obtain ⟨a2, c2, rfl⟩ := own_sh r2
    have Ry := hid r2
    clear r2
    replace HB := hid (HB.out.trans (B2.mono HB.out.size))
    clear B2 Rx
    go_wp2_with fail
    refine (copied_any _ (nfcI A) _ (by omega) (U.SrcInts.own rfl Ry.out)).mono ?_
    rintro e W3 ⟨v3, rfl, r3, B3⟩
    obtain ⟨a3, c3, rfl⟩ := own_sh r3
    have Rp := hid r3
    clear r3
    clear Ry
    have BX := hid B3
    clear B3
    go_wp2_with fail
    refine (copied_any _ Bb _ (by omega) (U.SrcInts.below (HB.out.trans (BX.out.mono HB.out.size)) (Nat.le_refl _) SB.out)).mono ?_
    rintro e W4 ⟨v4, rfl, r4, B4⟩
    obtain ⟨a4, c4, rfl⟩ := own_sh r4
    have Rx := hid r4
    clear r4
    replace Rp := hid (ownsRow_below Rp.out B4 (Nat.le_refl _))
    replace BX := hid (BX.out.trans (B4.mono BX.out.size))
    clear B4
    go_wp2_with fail
    refine (nfc_any _ Bb _ (by omega) (Row21.of_own rfl Rx.out)).mono ?_
    rintro e W5 ⟨v5, rfl, r5, B5⟩
    obtain ⟨a5, c5, rfl⟩ := own_sh r5
    have Rq := hid r5
    clear r5
    replace Rp := hid (ownsRow_below Rp.out B5 (Nat.le_refl _))
    replace BX := hid (BX.out.trans (B5.mono BX.out.size))
    clear B5 Rx
    go_wp2_with ((at_builtin; refine U.wpList_append_ints rfl _ _ rfl _ _ _ (nfcI A) rfl Rp.out _ (nfcI Bb) rfl (U.SrcInts.own rfl Rq.out) (by omega) BX.out.size ?_; intro v6 W6 r6 g6))
    have BA := below_own BX.out Rp.out g6
    obtain ⟨a6, c6, rfl⟩ := own_sh r6
    have Rwant := hid r6
    replace HB := hid (HB.out.trans (BA.mono HB.out.size))
    clear BA BX Rp Rq r6 g6
    go_wp2_with fail
    refine (copied_any _ A _ (by omega) (U.SrcInts.below HB.out (Nat.le_refl _) SA.out)).mono ?_
    rintro e W7 ⟨v7, rfl, r7, B7⟩
    obtain ⟨a7, c7, rfl⟩ := own_sh r7
    have Rp := hid r7
    clear r7
    have BX := hid B7
    clear B7
    go_wp2_with ((at_builtin; refine U.wpList_append_ints rfl _ _ rfl _ _ _ A rfl Rp.out _ Bb rfl (U.SrcInts.below (HB.out.trans (BX.out.mono HB.out.size)) (Nat.le_refl _) SB.out) (by omega) BX.out.size ?_; intro v8 W8 r8 g8))
    have BA := below_own BX.out Rp.out g8
    obtain ⟨a8, c8, rfl⟩ := own_sh r8
    have Rx := hid r8
    replace HB := hid (HB.out.trans (BA.mono HB.out.size))
    replace Rwant := hid (ownsRow_below Rwant.out BA (Nat.le_refl _))
    clear BA BX Rp r8 g8
    go_wp2_with fail
    refine (nfc_any _ (A ++ Bb) _ (by omega) (Row21.of_own (by simp) Rx.out)).mono ?_
    rintro e W9 ⟨v9, rfl, r9, B9⟩
    obtain ⟨a9, c9, rfl⟩ := own_sh r9
    have Rgot := hid r9
    clear r9
    replace HB := hid (HB.out.trans (B9.mono HB.out.size))
    replace Rwant := hid (ownsRow_below Rwant.out B9 (Nat.le_refl _))
    clear B9 Rx
    go_wp2_with fail
    refine (copied_any _ A _ (by omega) (U.SrcInts.below HB.out (Nat.le_refl _) SA.out)).mono ?_
    rintro e W10 ⟨v10, rfl, r10, B10⟩
    obtain ⟨a10, c10, rfl⟩ := own_sh r10
    have Rx := hid r10
    clear r10
    replace HB := hid (HB.out.trans (B10.mono HB.out.size))
    replace Rwant := hid (ownsRow_below Rwant.out B10 (Nat.le_refl _))
    replace Rgot := hid (ownsRow_below Rgot.out B10 (Nat.le_refl _))
    clear B10
    go_wp2_with fail
    refine (nfd_any _ A _ (by omega) (Row21.of_own rfl Rx.out)).mono ?_
    rintro e W11 ⟨v11, rfl, r11, B11⟩
    obtain ⟨a11, c11, rfl⟩ := own_sh r11
    have Ry := hid r11
    clear r11
    replace HB := hid (HB.out.trans (B11.mono HB.out.size))
    replace Rwant := hid (ownsRow_below Rwant.out B11 (Nat.le_refl _))
    replace Rgot := hid (ownsRow_below Rgot.out B11 (Nat.le_refl _))
    clear B11 Rx
    go_wp2_with fail
    refine (copied_any _ (nfdI A) _ (by omega) (U.SrcInts.own rfl Ry.out)).mono ?_
    rintro e W12 ⟨v12, rfl, r12, B12⟩
    obtain ⟨a12, c12, rfl⟩ := own_sh r12
    have Rp := hid r12
    clear r12
    clear Ry
    have BX := hid B12
    clear B12
    go_wp2_with fail
    refine (copied_any _ Bb _ (by omega) (U.SrcInts.below (HB.out.trans (BX.out.mono HB.out.size)) (Nat.le_refl _) SB.out)).mono ?_
    rintro e W13 ⟨v13, rfl, r13, B13⟩
    obtain ⟨a13, c13, rfl⟩ := own_sh r13
    have Rx := hid r13
    clear r13
    replace Rp := hid (ownsRow_below Rp.out B13 (Nat.le_refl _))
    replace BX := hid (BX.out.trans (B13.mono BX.out.size))
    clear B13
    go_wp2_with fail
    refine (nfd_any _ Bb _ (by omega) (Row21.of_own rfl Rx.out)).mono ?_
    rintro e W14 ⟨v14, rfl, r14, B14⟩
    obtain ⟨a14, c14, rfl⟩ := own_sh r14
    have Rq := hid r14
    clear r14
    replace Rp := hid (ownsRow_below Rp.out B14 (Nat.le_refl _))
    replace BX := hid (BX.out.trans (B14.mono BX.out.size))
    clear B14 Rx
    go_wp2_with ((at_builtin; refine U.wpList_append_ints rfl _ _ rfl _ _ _ (nfdI A) rfl Rp.out _ (nfdI Bb) rfl (U.SrcInts.own rfl Rq.out) (by omega) BX.out.size ?_; intro v15 W15 r15 g15))
    have BA := below_own BX.out Rp.out g15
    obtain ⟨a15, c15, rfl⟩ := own_sh r15
    have Rapart := hid r15
    replace HB := hid (HB.out.trans (BA.mono HB.out.size))
    replace Rwant := hid (ownsRow_below Rwant.out BA (Nat.le_refl _))
    replace Rgot := hid (ownsRow_below Rgot.out BA (Nat.le_refl _))
    clear BA BX Rp Rq r15 g15
    go_wp2_with fail
    refine (same_any _ _ (nfcI (A ++ Bb)) (nfcI A ++ nfcI Bb) _ (by omega) (U.IntsAt.own rfl Rgot.out) (U.IntsAt.own (by simp) Rwant.out)).mono ?_
    rw [E1.out]
    rintro e W16 ⟨rfl, B16⟩
    replace HB := hid (HB.out.trans (B16.mono HB.out.size))
    replace Rapart := hid (ownsRow_below Rapart.out B16 (Nat.le_refl _))
    clear B16
    clear Rgot Rwant
    go_wp2_with fail
    refine (copied_any _ A _ (by omega) (U.SrcInts.below HB.out (Nat.le_refl _) SA.out)).mono ?_
    rintro e W17 ⟨v17, rfl, r17, B17⟩
    obtain ⟨a17, c17, rfl⟩ := own_sh r17
    have Rp := hid r17
    clear r17
    have BX := hid B17
    clear B17
    go_wp2_with ((at_builtin; refine wpList_unguard (by rfl) ?_; refine U.wpList_append_ints rfl _ _ rfl _ _ _ A rfl Rp.out _ Bb rfl (U.SrcInts.below (HB.out.trans (BX.out.mono HB.out.size)) (Nat.le_refl _) SB.out) (by omega) BX.out.size ?_; intro v18 W18 r18 g18))
    have BA := below_own BX.out Rp.out g18
    obtain ⟨a18, c18, rfl⟩ := own_sh r18
    have Rx := hid r18
    replace HB := hid (HB.out.trans (BA.mono HB.out.size))
    replace Rapart := hid (ownsRow_below Rapart.out BA (Nat.le_refl _))
    clear BA BX Rp r18 g18
    go_wp2_with fail
    refine (nfd_any _ (A ++ Bb) _ (by omega) (Row21.of_own (by simp) Rx.out)).mono ?_
    rintro e W19 ⟨v19, rfl, r19, B19⟩
    obtain ⟨a19, c19, rfl⟩ := own_sh r19
    have Rgot := hid r19
    clear r19
    replace HB := hid (HB.out.trans (B19.mono HB.out.size))
    replace Rapart := hid (ownsRow_below Rapart.out B19 (Nat.le_refl _))
    clear B19 Rx
    go_wp2_with fail
    refine (same_any _ _ (nfdI (A ++ Bb)) (nfdI A ++ nfdI Bb) _ (by omega) (U.IntsAt.own rfl Rgot.out) (U.IntsAt.own (by simp) Rapart.out)).mono ?_
    rw [E2.out]
    rintro e W20 ⟨rfl, B20⟩
    replace HB := hid (HB.out.trans (B20.mono HB.out.size))
    clear B20
    go_wp2_with fail
    refine (works_any _).mono ?_
    rintro e W21 ⟨rfl, B21⟩
    replace HB := hid (HB.out.trans (B21.mono HB.out.size))
    clear B21
    go_wp2
    go_ret
    exact ⟨by first | rfl | simp, HB.out⟩
  · rcases hIb with ⟨rfl, _⟩ | ⟨hbp, bb, off, cap', e, hbc⟩
    · simp at hLb; omega
    · cases e
      have hc0 := hbc 0 hbp
      obtain ⟨r, hr⟩ : ∃ r, Bb[0]?.getD 0 = r := ⟨_, rfl⟩
      obtain ⟨bt, hBt⟩ : ∃ bt, Bb = r :: bt := by
        cases Bb with
        | nil => simp at hbp
        | cons x l => exact ⟨l, by simp at hr; rw [hr]⟩
      rw [hr, Nat.add_zero] at hc0
      have hcl := cl_ref r
      have hfind := D.rfind_any r
      obtain ⟨⟨x0, x1, x2, x3, x4, x5, x6, x7, x8, x9, x10⟩, hx⟩ : ∃ x, x = D.rfnd r := ⟨_, rfl⟩
      rw [← hx] at hfind hcl
      dsimp only at hcl
      have HF := hid hfind
      have HCL := hid hcl
      have hfl : ∀ W : World, (Instr.field 30 (.agg #[.int .i32 x0, .int .i32 x1, .int .u8 x2, .int .i32 x3, .int .i32 x4, .int .i32 x5, .int .u8 x6, .int .u8 x7, .int .u8 x8, .bool x9, .int .u8 x10]) 8).run Try.prog W = .ok (.int .u8 x8) W := fun W => by kernel_rfl
      have hlbz : (0 : Int) < (Bb.length : Int) := by omega
      have hlb0 : decide ((0 : Int) < (Bb.length : Int)) = true := by simp; omega
      obtain ⟨n, hn⟩ : ∃ n, Bb.length = n := ⟨_, rfl⟩
      rw [hn] at hlbz hlb0 hbp g2 g3 hlb
      have sb := SB.out
      rw [hn] at sb
      replace SB := hid sb
      clear sb
      rw [hn]
      have HNB := hid hn
      have HLA := hid hLa
      have HBC := hid hbc
      clear hfind hcl hx hbc hn hLb hLa
      by_cases hx8 : x8 = 0
      · have hcr : cl r = 0 := by rw [← HCL.out]; exact hx8
        have e1 := dec_true (nfc_join A Bb (.inr ⟨r, bt, hBt, hcr⟩))
        have e2 := dec_true (nfd_join A Bb (.inr ⟨r, bt, hBt, hcr⟩))
        have E1 := hid e1
        have E2 := hid e2
        have hxb : (x8 != 0) = false := by simpa using hx8
        have hxb2 : (x8 == 0) = true := by simpa using hx8
        clear e1 e2 hcr hx8 hBt hr
        go_enter Try.func6, Try.ntmps6
        go_wp2_with fail
        refine (HF.out _).mono ?_
        simp only [D.cells11]
        rintro e w0 ⟨rfl, hB0⟩
        replace SA := hid (U.SrcInts.below hB0 (Nat.le_refl _) SA.out)
        replace SB := hid (U.SrcInts.below hB0 (Nat.le_refl _) SB.out)
        have HB0 := hid hB0
        clear hc0 hB0 HF
        go_wp2_with fail
        refine (copied_any _ A _ (by omega) SA.out).mono ?_
        rintro e W1 ⟨v1, rfl, r1, B1⟩
        obtain ⟨a1, c1, rfl⟩ := own_sh r1
        have Rx := hid r1
        clear r1
        have HB := hid B1
        clear B1
        go_wp2_with fail
        refine (nfc_any _ A _ (by omega) (Row21.of_own rfl Rx.out)).mono ?_
        rintro e W2 ⟨v2, rfl, r2, B2⟩
        obtain ⟨a2, c2, rfl⟩ := own_sh r2
        have Ry := hid r2
        clear r2
        replace HB := hid (HB.out.trans (B2.mono HB.out.size))
        clear B2 Rx
        go_wp2_with fail
        refine (copied_any _ (nfcI A) _ (by omega) (U.SrcInts.own rfl Ry.out)).mono ?_
        rintro e W3 ⟨v3, rfl, r3, B3⟩
        obtain ⟨a3, c3, rfl⟩ := own_sh r3
        have Rp := hid r3
        clear r3
        clear Ry
        have BX := hid B3
        clear B3
        go_wp2_with fail
        refine (copied_any _ Bb _ (by omega) (U.SrcInts.below (HB.out.trans (BX.out.mono HB.out.size)) (Nat.le_refl _) SB.out)).mono ?_
        rintro e W4 ⟨v4, rfl, r4, B4⟩
        obtain ⟨a4, c4, rfl⟩ := own_sh r4
        have Rx := hid r4
        clear r4
        replace Rp := hid (ownsRow_below Rp.out B4 (Nat.le_refl _))
        replace BX := hid (BX.out.trans (B4.mono BX.out.size))
        clear B4
        go_wp2_with fail
        refine (nfc_any _ Bb _ (by omega) (Row21.of_own rfl Rx.out)).mono ?_
        rintro e W5 ⟨v5, rfl, r5, B5⟩
        obtain ⟨a5, c5, rfl⟩ := own_sh r5
        have Rq := hid r5
        clear r5
        replace Rp := hid (ownsRow_below Rp.out B5 (Nat.le_refl _))
        replace BX := hid (BX.out.trans (B5.mono BX.out.size))
        clear B5 Rx
        go_wp2_with ((at_builtin; refine U.wpList_append_ints rfl _ _ rfl _ _ _ (nfcI A) rfl Rp.out _ (nfcI Bb) rfl (U.SrcInts.own rfl Rq.out) (by omega) BX.out.size ?_; intro v6 W6 r6 g6))
        have BA := below_own BX.out Rp.out g6
        obtain ⟨a6, c6, rfl⟩ := own_sh r6
        have Rwant := hid r6
        replace HB := hid (HB.out.trans (BA.mono HB.out.size))
        clear BA BX Rp Rq r6 g6
        go_wp2_with fail
        refine (copied_any _ A _ (by omega) (U.SrcInts.below HB.out (Nat.le_refl _) SA.out)).mono ?_
        rintro e W7 ⟨v7, rfl, r7, B7⟩
        obtain ⟨a7, c7, rfl⟩ := own_sh r7
        have Rp := hid r7
        clear r7
        have BX := hid B7
        clear B7
        go_wp2_with ((at_builtin; refine U.wpList_append_ints rfl _ _ rfl _ _ _ A rfl Rp.out _ Bb rfl (U.SrcInts.below (HB.out.trans (BX.out.mono HB.out.size)) (Nat.le_refl _) SB.out) (by omega) BX.out.size ?_; intro v8 W8 r8 g8))
        have BA := below_own BX.out Rp.out g8
        obtain ⟨a8, c8, rfl⟩ := own_sh r8
        have Rx := hid r8
        replace HB := hid (HB.out.trans (BA.mono HB.out.size))
        replace Rwant := hid (ownsRow_below Rwant.out BA (Nat.le_refl _))
        clear BA BX Rp r8 g8
        go_wp2_with fail
        refine (nfc_any _ (A ++ Bb) _ (by omega) (Row21.of_own (by simp) Rx.out)).mono ?_
        rintro e W9 ⟨v9, rfl, r9, B9⟩
        obtain ⟨a9, c9, rfl⟩ := own_sh r9
        have Rgot := hid r9
        clear r9
        replace HB := hid (HB.out.trans (B9.mono HB.out.size))
        replace Rwant := hid (ownsRow_below Rwant.out B9 (Nat.le_refl _))
        clear B9 Rx
        go_wp2_with fail
        refine (copied_any _ A _ (by omega) (U.SrcInts.below HB.out (Nat.le_refl _) SA.out)).mono ?_
        rintro e W10 ⟨v10, rfl, r10, B10⟩
        obtain ⟨a10, c10, rfl⟩ := own_sh r10
        have Rx := hid r10
        clear r10
        replace HB := hid (HB.out.trans (B10.mono HB.out.size))
        replace Rwant := hid (ownsRow_below Rwant.out B10 (Nat.le_refl _))
        replace Rgot := hid (ownsRow_below Rgot.out B10 (Nat.le_refl _))
        clear B10
        go_wp2_with fail
        refine (nfd_any _ A _ (by omega) (Row21.of_own rfl Rx.out)).mono ?_
        rintro e W11 ⟨v11, rfl, r11, B11⟩
        obtain ⟨a11, c11, rfl⟩ := own_sh r11
        have Ry := hid r11
        clear r11
        replace HB := hid (HB.out.trans (B11.mono HB.out.size))
        replace Rwant := hid (ownsRow_below Rwant.out B11 (Nat.le_refl _))
        replace Rgot := hid (ownsRow_below Rgot.out B11 (Nat.le_refl _))
        clear B11 Rx
        go_wp2_with fail
        refine (copied_any _ (nfdI A) _ (by omega) (U.SrcInts.own rfl Ry.out)).mono ?_
        rintro e W12 ⟨v12, rfl, r12, B12⟩
        obtain ⟨a12, c12, rfl⟩ := own_sh r12
        have Rp := hid r12
        clear r12
        clear Ry
        have BX := hid B12
        clear B12
        go_wp2_with fail
        refine (copied_any _ Bb _ (by omega) (U.SrcInts.below (HB.out.trans (BX.out.mono HB.out.size)) (Nat.le_refl _) SB.out)).mono ?_
        rintro e W13 ⟨v13, rfl, r13, B13⟩
        obtain ⟨a13, c13, rfl⟩ := own_sh r13
        have Rx := hid r13
        clear r13
        replace Rp := hid (ownsRow_below Rp.out B13 (Nat.le_refl _))
        replace BX := hid (BX.out.trans (B13.mono BX.out.size))
        clear B13
        go_wp2_with fail
        refine (nfd_any _ Bb _ (by omega) (Row21.of_own rfl Rx.out)).mono ?_
        rintro e W14 ⟨v14, rfl, r14, B14⟩
        obtain ⟨a14, c14, rfl⟩ := own_sh r14
        have Rq := hid r14
        clear r14
        replace Rp := hid (ownsRow_below Rp.out B14 (Nat.le_refl _))
        replace BX := hid (BX.out.trans (B14.mono BX.out.size))
        clear B14 Rx
        go_wp2_with ((at_builtin; refine U.wpList_append_ints rfl _ _ rfl _ _ _ (nfdI A) rfl Rp.out _ (nfdI Bb) rfl (U.SrcInts.own rfl Rq.out) (by omega) BX.out.size ?_; intro v15 W15 r15 g15))
        have BA := below_own BX.out Rp.out g15
        obtain ⟨a15, c15, rfl⟩ := own_sh r15
        have Rapart := hid r15
        replace HB := hid (HB.out.trans (BA.mono HB.out.size))
        replace Rwant := hid (ownsRow_below Rwant.out BA (Nat.le_refl _))
        replace Rgot := hid (ownsRow_below Rgot.out BA (Nat.le_refl _))
        clear BA BX Rp Rq r15 g15
        go_wp2_with fail
        refine (same_any _ _ (nfcI (A ++ Bb)) (nfcI A ++ nfcI Bb) _ (by omega) (U.IntsAt.own rfl Rgot.out) (U.IntsAt.own (by simp) Rwant.out)).mono ?_
        rw [E1.out]
        rintro e W16 ⟨rfl, B16⟩
        replace HB := hid (HB.out.trans (B16.mono HB.out.size))
        replace Rapart := hid (ownsRow_below Rapart.out B16 (Nat.le_refl _))
        clear B16
        clear Rgot Rwant
        go_wp2_with fail
        refine (copied_any _ A _ (by omega) (U.SrcInts.below HB.out (Nat.le_refl _) SA.out)).mono ?_
        rintro e W17 ⟨v17, rfl, r17, B17⟩
        obtain ⟨a17, c17, rfl⟩ := own_sh r17
        have Rp := hid r17
        clear r17
        have BX := hid B17
        clear B17
        go_wp2_with ((at_builtin; refine wpList_unguard (by rfl) ?_; refine U.wpList_append_ints rfl _ _ rfl _ _ _ A rfl Rp.out _ Bb rfl (U.SrcInts.below (HB.out.trans (BX.out.mono HB.out.size)) (Nat.le_refl _) SB.out) (by omega) BX.out.size ?_; intro v18 W18 r18 g18))
        have BA := below_own BX.out Rp.out g18
        obtain ⟨a18, c18, rfl⟩ := own_sh r18
        have Rx := hid r18
        replace HB := hid (HB.out.trans (BA.mono HB.out.size))
        replace Rapart := hid (ownsRow_below Rapart.out BA (Nat.le_refl _))
        clear BA BX Rp r18 g18
        go_wp2_with fail
        refine (nfd_any _ (A ++ Bb) _ (by omega) (Row21.of_own (by simp) Rx.out)).mono ?_
        rintro e W19 ⟨v19, rfl, r19, B19⟩
        obtain ⟨a19, c19, rfl⟩ := own_sh r19
        have Rgot := hid r19
        clear r19
        replace HB := hid (HB.out.trans (B19.mono HB.out.size))
        replace Rapart := hid (ownsRow_below Rapart.out B19 (Nat.le_refl _))
        clear B19 Rx
        go_wp2_with fail
        refine (same_any _ _ (nfdI (A ++ Bb)) (nfdI A ++ nfdI Bb) _ (by omega) (U.IntsAt.own rfl Rgot.out) (U.IntsAt.own (by simp) Rapart.out)).mono ?_
        rw [E2.out]
        rintro e W20 ⟨rfl, B20⟩
        replace HB := hid (HB.out.trans (B20.mono HB.out.size))
        clear B20
        go_wp2_with fail
        refine (works_any _).mono ?_
        rintro e W21 ⟨rfl, B21⟩
        replace HB := hid (HB.out.trans (B21.mono HB.out.size))
        clear B21
        go_wp2
        go_ret
        exact ⟨by first | rfl | simp, HB0.out.trans (HB.out.mono HB0.out.size)⟩
      · have hxb : (x8 != 0) = true := by simpa using hx8
        have hxb2 : (x8 == 0) = false := by simpa using hx8
        clear hx8 hBt hr
        go_enter Try.func6, Try.ntmps6
        go_wp2_with fail
        refine (HF.out _).mono ?_
        simp only [D.cells11]
        rintro e w0 ⟨rfl, hB0⟩
        go_wp2_with fail
        refine (works_any _).mono ?_
        rintro e w' ⟨rfl, hB⟩
        go_wp2
        go_ret
        exact ⟨rfl, hB0.trans (hB.mono hB0.size)⟩
end Go.Proofs.Ytcgfbejcehiolaa
