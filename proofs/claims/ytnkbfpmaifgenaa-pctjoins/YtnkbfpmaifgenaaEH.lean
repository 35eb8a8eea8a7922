/- PctBack's, PctTwice's and PctTells' walks over what they want of the program. -/
import Derived.Test.YtnkbfpmaifgenaaEG
import Derived.Laws.BitsLemmas
namespace Go.Proofs.Ytnkbfpmaifgenaa.E
open Go.RowKit
set_option linter.unusedVariables false

/-! ### PctBack -/
theorem sgn_at {E : List Int} (h : ∀ y ∈ E, 32 ≤ y ∧ y ≤ 126 ∧ (inS y 6 = true → y = 37)) {i : Nat} (hi : i < E.length) : 32 ≤ E[i]?.getD 0 ∧ E[i]?.getD 0 ≤ 126 ∧ (inS (E[i]?.getD 0) 6 = true → E[i]?.getD 0 = 37) := by
  rw [List.getElem?_eq_getElem hi]
  exact h _ (List.getElem_mem hi)
set_option maxRecDepth 100000 in
set_option maxHeartbeats 8000000 in
theorem back_walk (C : Ctr) (s : ByteArray) (w : World) (hs : s.size ≤ maxLen) :
    Calls Try.prog 3 #[.string s] w fun e W' => e = .returned (.bool true) ∧ Below w.heap.size w W' := by
  unfold maxLen at hs
  have HW := hid (works_any C)
  by_cases h1 : 8192 < s.size
  · go_enter Try.func3, Try.ntmps3
    go_wp2_with (go_at_call 6; refine (HW.out _).mono ?_; rintro e w1 ⟨rfl, B1⟩)
    go_ret
    exact ⟨rfl, B1⟩
  have h1z : (s.size : Int) ≤ 8192 := by omega
  have hdl := U.dec_len (U.bn s).length (U.bn s) (Nat.le_refl _) (U.bn_bytes s)
  rw [U.bn_length] at hdl
  have HDEC := hid (U.refDecode_any s (by omega) w)
  have HEN := hid (fun W => C.enc s 6 W (by omega) (by decide))
  have HDE := hid C.dec
  have HIN : Hid (∀ (y : Int) (W : World), 0 ≤ y → y ≤ 255 → Calls Try.prog 10 #[.int .i32 y, .int .u8 6] W fun e W' => e = .returned (.bool (inS y 6)) ∧ Below W.heap.size W W') := fun y W h0 h1 => C.inn y 6 W (by unfold U.scal; exact decide_eq_true (by omega)) (by decide)
  have HSC := hid (dec_scs s)
  have HSZ := hid (fun (t : ByteArray) (h : U.bn t = en 6 (U.dec (U.bn s))) => en_size (by omega) h)
  obtain ⟨L, hL⟩ : ∃ L, U.dec (U.bn s) = L := ⟨_, rfl⟩
  rw [hL] at HDEC HEN HSC HSZ hdl
  have HSG := hid (en_signs (k := 6) (by decide) HSC.out)
  have HBK := hid (de_en L HSC.out)
  clear hL C
  go_enter Try.func3, Try.ntmps3
  go_wp2_with fail
  refine HDEC.out.mono ?_
  rintro e w1 ⟨v1, rfl, r1, B1⟩
  have HRE := hid (U.refEncode_any v1 L (by omega) w1 (U.IntsAt.own rfl r1))
  have HB1 := hid B1
  clear r1 B1 HDEC hdl
  go_wp2_with fail
  refine HRE.out.mono ?_
  rintro e w2 ⟨⟨cl, q, rfl, hcl⟩, B2⟩
  have HCL : Hid (U.bn cl = U.encs L) := by
    rcases hcl with ⟨_, _, h⟩ | ⟨h, _⟩
    · exact h
    · rw [List.all_eq_true.2 HSC.out] at h; cases h
  have HB2 := hid (HB1.out.trans (B2.mono HB1.out.size))
  clear hcl B2 HB1 HRE HSC
  go_wp2_with fail
  refine (HEN.out _).mono ?_
  rintro e w3 ⟨⟨en0, rfl, hen⟩, B3⟩
  have HE := hid hen
  have hsz := HSZ.out en0 hen
  have HB3 := hid (HB2.out.trans (B3.mono HB2.out.size))
  have HDW := hid (fun W => HDE.out en0 W (by omega))
  have HAT : Hid (∀ i, i < en0.size → 32 ≤ (U.bn en0)[i]?.getD 0 ∧ (U.bn en0)[i]?.getD 0 ≤ 126 ∧ (inS ((U.bn en0)[i]?.getD 0) 6 = true → (U.bn en0)[i]?.getD 0 = 37)) := fun i hi => by
    rw [HE.out]
    exact sgn_at HSG.out (by rw [← HE.out, U.bn_length]; exact hi)
  clear hen B3 HB2 HEN HSZ HDE
  go_wp2_with fail
  go_loopw [6] (fun v6 wr => ∃ i : Nat, i ≤ en0.size ∧ v6 = .int .i64 i ∧ Hid (Below w.heap.size w wr)) (fun v6 _ => en0.size - (intOf v6).toNat)
  case atStart => exact ⟨0, Nat.zero_le _, rfl, HB3⟩
  case round =>
    obtain ⟨i, hi, rfl, HB⟩ := hrel
    by_cases hlt : i < en0.size
    · obtain ⟨ha1, ha2, ha3⟩ := HAT.out i hlt
      have hg := (bn_get en0 i hlt).symm
      obtain ⟨y, hy⟩ : ∃ y, (U.bn en0)[i]?.getD 0 = y := ⟨_, rfl⟩
      rw [hy] at ha1 ha2 ha3 hg
      have HC := hid (fun W => HIN.out y W (by omega) (by omega))
      obtain ⟨b, hb⟩ : ∃ b, inS y 6 = b := ⟨_, rfl⟩
      rw [hb] at ha3 HC
      clear hy hb
      cases b with
      | true =>
        have hy37 := ha3 rfl
        have hyn : (y != 37) = false := by simp [hy37]
        have HY := hid hy37
        clear ha3 hy37
        go_wp2_with (go_at_call 10; refine (HC.out _).mono ?_; rintro e w4 ⟨rfl, B4⟩; have HB4 := hid (HB.out.trans (B4.mono HB.out.size)); clear B4)
        go_roundw
        case rel => exact ⟨i + 1, by omega, by go_num, HB4⟩
        case measure => simp [intOf]; omega
      | false =>
        clear ha3
        go_wp2_with (go_at_call 10; refine (HC.out _).mono ?_; rintro e w4 ⟨rfl, B4⟩; have HB4 := hid (HB.out.trans (B4.mono HB.out.size)); clear B4)
        go_roundw
        case rel => exact ⟨i + 1, by omega, by go_num, HB4⟩
        case measure => simp [intOf]; omega
    · clear HAT HIN HSG
      go_wp2_with fail
      refine (HDW.out _).mono ?_
      rintro e w5 ⟨⟨u, rfl, hu⟩, B5⟩
      have hee : (u.toList == cl.toList) = true := same_eq (by rw [hu, HE.out, HBK.out, HCL.out])
      have HB5 := hid (HB.out.trans (B5.mono HB.out.size))
      clear hu B5 HB HE HBK HCL
      go_wp2_with (go_at_call 6; refine (HW.out _).mono ?_; rintro e w6 ⟨rfl, B6⟩)
      go_ret
      exact ⟨rfl, HB5.out.trans (B6.mono HB5.out.size)⟩

end Go.Proofs.Ytnkbfpmaifgenaa.E
