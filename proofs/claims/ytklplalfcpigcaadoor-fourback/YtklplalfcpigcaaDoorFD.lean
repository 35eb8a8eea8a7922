/- FourNoughts' walk over what it wants of the program. (Stage 10.) -/
import Derived.Test.YtklplalfcpigcaaDoorFC
import Derived.Laws.BitsLemmas
namespace Go.Proofs.YtklplalfcpigcaaDoor.F
open Go.RowKit
set_option linter.unusedVariables false

theorem u8_wf {d : Int} (h : (Lit.int .u8 d).wf = true) : 0 ≤ d ∧ d ≤ 255 := by
  simp [Lit.wf, IntKind.min, IntKind.max, IntKind.bits, IntKind.signed] at h
  omega
theorem u32_wf {d : Int} (h : (Lit.int .u32 d).wf = true) : 0 ≤ d ∧ d ≤ 4294967295 := by
  simp [Lit.wf, IntKind.min, IntKind.max, IntKind.bits, IntKind.signed] at h
  omega
theorem wrt_len (k n : Nat) : (wrt k n).length ≤ 67 := by
  unfold wrt
  split
  · have := wr_len 16 n; simp; omega
  · split
    · have := wr_len 8 n; simp; omega
    · have := wr_len 10 n; omega
theorem wrt_size {k n : Nat} {t : ByteArray} (h : bn t = wrt k n) : t.size ≤ 67 := by
  have := wrt_len k n
  rw [← h, bn_length] at this
  exact this
theorem num_of_wrt {k n : Nat} (hn : n < 4294967296) {t : ByteArray} (h : bn t = wrt k n) : num (bn t) = (n, 0) := by
  rw [h, num_wrt (by omega), if_neg (by omega)]
theorem num_of_x {n z : Nat} (hn : n < 4294967296) {t Z : ByteArray} (h : bn t = wrt 0 n) (hZ : bn Z = List.replicate z 48) : num (bn ((⟨#[48, 120]⟩ : ByteArray) ++ Z ++ t.extract 2 t.size)) = (n, 0) := by
  have e : bn ((⟨#[48, 120]⟩ : ByteArray) ++ Z ++ t.extract 2 t.size) = 48 :: 120 :: (List.replicate z 48 ++ wr 16 n) := by
    rw [bn_append, bn_append, bn_extract, h, hZ]; rfl
  rw [e, num_noughts_x z (by omega), if_neg (by omega)]
theorem num_of_o {n z : Nat} (hn : n < 4294967296) {t Z : ByteArray} (h : bn t = wrt 1 n) (hZ : bn Z = List.replicate z 48) : num (bn ((⟨#[48]⟩ : ByteArray) ++ Z ++ t.extract 1 t.size)) = (n, 0) := by
  have e : bn ((⟨#[48]⟩ : ByteArray) ++ Z ++ t.extract 1 t.size) = 48 :: (List.replicate z 48 ++ wr 8 n) := by
    rw [bn_append, bn_append, bn_extract, h, hZ]; rfl
  rw [e, num_noughts_o z (by omega), if_neg (by omega)]
theorem nought_size : (⟨#[48]⟩ : ByteArray).size = 1 := rfl
theorem nx_size : (⟨#[48, 120]⟩ : ByteArray).size = 2 := rfl
set_option maxRecDepth 100000 in
set_option maxHeartbeats 4000000 in
theorem noughts_walk {G : World → Prop} (C : Ctr G) (d d1 d2 : Int) (w : World) (hG : G w) (hd : (Lit.int .u32 d).wf = true) (hd1 : (Lit.int .u8 d1).wf = true) (hd2 : (Lit.int .u8 d2).wf = true) :
    Calls Tryd.prog 5 #[.int .u32 d, .int .u8 d1, .int .u8 d2] w fun e W' => e = .returned (.bool true) ∧ Below w.heap.size w W' := by
  obtain ⟨o0, o1⟩ := u32_wf hd
  obtain ⟨p0, p1⟩ := u8_wf hd1
  obtain ⟨q0, q1⟩ := u8_wf hd2
  obtain ⟨n, rfl⟩ : ∃ n : Nat, d = (n : Int) := ⟨d.toNat, by omega⟩
  obtain ⟨k, hk⟩ : ∃ k : Nat, d1 % 3 = (k : Int) := ⟨(d1 % 3).toNat, by omega⟩
  obtain ⟨m, hm⟩ : ∃ m : Nat, d2 % 30 = (m : Int) := ⟨(d2 % 30).toNat, by omega⟩
  have hn : n < 4294967296 := by omega
  have hk3 : k < 3 := by omega
  have hm30 : m < 30 := by omega
  have hta : Int.tmod d1 3 = (k : Int) := by rw [Int.tmod_eq_emod_of_nonneg p0]; exact hk
  have htb : Int.tmod d2 30 = (m : Int) := by rw [Int.tmod_eq_emod_of_nonneg q0]; exact hm
  have hwa : IntKind.u8.wrap (k : Int) = (k : Int) := by rw [IntKind.wrap_u8]; omega
  have hwb : IntKind.u8.wrap (m : Int) = (m : Int) := by rw [IntKind.wrap_u8]; omega
  have hwn : IntKind.u64.wrap (n : Int) = (n : Int) := wraps_u64 _ (by omega) (by omega)
  have HK : Hid (∀ W, Below w.heap.size w W → G W) := fun W h => C.keep w W hG h
  have HW : Hid (∀ W, G W → _) := fun W h => works_any C W h
  have HWR := hid (fun W => written_any n (by omega) k hk3 W)
  have HNU : Hid (∀ (s : ByteArray) W, s.size ≤ 1000 → num (bn s) = (n, 0) → G W → _) := fun s W hs hh hg => C.cnIs (s := s) (x := n) (y := 0) (by omega) hh W hg
  clear hd hd1 hd2 hk hm C hG
  go_enter Tryd.func5, Tryd.ntmps5
  go_wp2_with fail
  refine (HWR.out _).mono ?_
  rintro e w1 ⟨⟨t, rfl, ht⟩, B1⟩
  have hts := wrt_size ht
  have HT := hid ht
  have HB1 := hid B1
  clear ht B1 HWR
  go_wp2_with fail
  go_loopw [8, 9] (fun v8 v9 wr => ∃ (i : Nat) (Z : ByteArray), i ≤ m ∧ v8 = .string Z ∧ v9 = .int .u8 i ∧ Z.size ≤ i ∧ Hid (bn Z = List.replicate i 48) ∧ Hid (Below w.heap.size w wr)) (fun _ v9 _ => m - (intOf v9).toNat)
  case atStart => exact ⟨0, ⟨#[]⟩, Nat.zero_le _, rfl, rfl, Nat.le_refl _, rfl, HB1⟩
  case round =>
    obtain ⟨i, Z, hi, rfl, rfl, hZ, HZ, HB⟩ := hrel
    by_cases hlt : i < m
    · have HZ2 : Hid (bn (Z ++ ⟨#[48]⟩) = List.replicate (i + 1) 48) := by show _ = _; rw [bn_append, HZ.out, List.replicate_succ']; rfl
      have hltz : (i : Int) < (m : Int) := by omega
      go_wp2
      go_roundw
      case rel => exact ⟨i + 1, Z ++ ⟨#[48]⟩, by omega, rfl, by go_num, by rw [ByteArray.size_append, nought_size]; omega, HZ2, HB⟩
      case measure => simp [intOf]; omega
    · have hltz : ¬ (i : Int) < (m : Int) := by omega
      have H1 : Hid (∀ W, G W → _) := fun W h => HNU.out t W (by omega) (num_of_wrt hn HT.out) h
      go_wp2_with fail
      refine (H1.out _ (HK.out _ HB.out)).mono ?_
      rintro e w2 ⟨rfl, B2⟩
      have HB2 := hid (HB.out.trans (B2.mono HB.out.size))
      clear B2 H1
      obtain rfl | rfl | rfl : k = 0 ∨ k = 1 ∨ k = 2 := by omega
      · have hs2 : 2 ≤ t.size := by rw [← bn_length, HT.out]; simp [wrt]
        have H2 : Hid (∀ W, G W → _) := fun W h => HNU.out ((⟨#[48, 120]⟩ : ByteArray) ++ Z ++ t.extract 2 t.size) W (by simp [ByteArray.size_append, nx_size]; omega) (num_of_x hn HT.out HZ.out) h
        have hsx : (⟨#[48, 120]⟩ : ByteArray).size ≤ 2 := Nat.le_refl _
        go_wp2_with fail
        refine (H2.out _ (HK.out _ HB2.out)).mono ?_
        rintro e w3 ⟨rfl, B3⟩
        have HBL := hid (HB2.out.trans (B3.mono HB2.out.size))
        clear B3 H2
        have HW2 : Hid (∀ W, Below w.heap.size w W → _) := fun W h => HW.out W (HK.out W h)
        go_wp2_with (go_at_call 7; refine (HW2.out _ HBL.out).mono ?_; rintro e w6 ⟨rfl, B6⟩; have HB6 := hid (HBL.out.trans (B6.mono HBL.out.size)); clear B6)
        go_ret
        exact ⟨rfl, HB6.out⟩
      · have hs2 : 1 ≤ t.size := by rw [← bn_length, HT.out]; simp [wrt]
        have H2 : Hid (∀ W, G W → _) := fun W h => HNU.out ((⟨#[48]⟩ : ByteArray) ++ Z ++ t.extract 1 t.size) W (by simp [ByteArray.size_append, nought_size]; omega) (num_of_o hn HT.out HZ.out) h
        have hsx : (⟨#[48]⟩ : ByteArray).size ≤ 1 := Nat.le_refl _
        go_wp2_with fail
        refine (H2.out _ (HK.out _ HB2.out)).mono ?_
        rintro e w3 ⟨rfl, B3⟩
        have HBL := hid (HB2.out.trans (B3.mono HB2.out.size))
        clear B3 H2
        have HW2 : Hid (∀ W, Below w.heap.size w W → _) := fun W h => HW.out W (HK.out W h)
        go_wp2_with (go_at_call 7; refine (HW2.out _ HBL.out).mono ?_; rintro e w6 ⟨rfl, B6⟩; have HB6 := hid (HBL.out.trans (B6.mono HBL.out.size)); clear B6)
        go_ret
        exact ⟨rfl, HB6.out⟩
      · have HBL := HB2
        have HW2 : Hid (∀ W, Below w.heap.size w W → _) := fun W h => HW.out W (HK.out W h)
        go_wp2_with (go_at_call 7; refine (HW2.out _ HBL.out).mono ?_; rintro e w6 ⟨rfl, B6⟩; have HB6 := hid (HBL.out.trans (B6.mono HBL.out.size)); clear B6)
        go_ret
        exact ⟨rfl, HB6.out⟩
end Go.Proofs.YtklplalfcpigcaaDoor.F
