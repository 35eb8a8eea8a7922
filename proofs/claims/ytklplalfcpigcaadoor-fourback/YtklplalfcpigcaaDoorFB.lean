/- FourBack's walk over what it wants of the program. (Stage 10; written by tools/r10/fb.py.) -/
import Derived.Test.YtklplalfcpigcaaDoorFI
namespace Go.Proofs.YtklplalfcpigcaaDoor.F
open Go.RowKit
set_option linter.unusedVariables false

def preL (ps : List (List Int)) : Nat → List Int
  | 0 => []
  | i + 1 => (if 0 < i then preL ps i ++ [46] else []) ++ ps[i]?.getD []
/-- What is read of a text as of this address. (A structure: the walk must not look into it.) -/
structure AdrOk (l : List Int) (a : Nat) : Prop where
  one : prs l = (a, 0)
  two : prs (l ++ [46]) = (a, 0)
  three : ends l = true
theorem bn_dot (T : ByteArray) : bn (T ++ ⟨#[46]⟩) = bn T ++ [46] := by
  have e : bn ⟨#[46]⟩ = [46] := by decide
  rw [bn_append, e]
theorem txt_prs {a : Nat} (ha : a < 4294967296) : prs (txt a) = (a, 0) ∧ ends (txt a) = true := by
  have e : tens (cut a 4) = [2, 2, 2, 2].zip (cut a 4) := rfl
  have hne : tens (cut a 4) ≠ [] := by simp [tens, cut]
  have h4 : (tens (cut a 4)).length = 4 := rfl
  have hb : ∀ v ∈ tens (cut a 4), v.2 < 2 ^ 64 := by simp [tens, cut]; omega
  have hc := cut_sum ha (by decide : 1 ≤ 4) (by decide : 4 ≤ 4) (ks := [2, 2, 2, 2]) rfl
  rw [← e] at hc
  refine ⟨?_, ends_wrts hne hb⟩
  show prs (join (wrts (tens (cut a 4)))) = _
  rw [(prs_wrts hne (by rw [h4]; decide) hb).1, h4, hc.1, hc.2]
  simp
theorem pl_join1 (a k0 : Nat) : preL [wrt k0 (a)] 1 = join [wrt k0 (a)] := by
  simp [preL, join]
theorem pl_st10 (a k0 : Nat) : preL [wrt k0 (a)] 1 = wrt k0 (a) := by
  simp [preL]
theorem cut_prs1 {a k0 : Nat} (ha : a < 4294967296) : prs (join [wrt k0 (a)]) = (a, 0) ∧ prs (join [wrt k0 (a)] ++ [46]) = (a, 0) ∧ ends (join [wrt k0 (a)]) = true := by
  have e : [wrt k0 (a)] = wrts ([k0].zip (cut a 1)) := rfl
  have hl : ([k0].zip (cut a 1)).length = 1 := rfl
  have hne : [k0].zip (cut a 1) ≠ [] := by simp [cut]
  have hb : ∀ v ∈ [k0].zip (cut a 1), v.2 < 2 ^ 64 := by simp [cut]; omega
  have hc := cut_sum ha (by decide : 1 ≤ 1) (by decide : 1 ≤ 4) (ks := [k0]) rfl
  have hp := prs_wrts hne (by rw [hl]; decide) hb
  rw [hl, hc.1, hc.2] at hp
  rw [e]
  exact ⟨by rw [hp.1]; simp, by rw [hp.2]; simp, ends_wrts hne hb⟩
theorem pl_join2 (a k0 k1 : Nat) : preL [wrt k0 (a / 16777216), wrt k1 (a % 16777216)] 2 = join [wrt k0 (a / 16777216), wrt k1 (a % 16777216)] := by
  simp [preL, join]
theorem pl_st20 (a k0 k1 : Nat) : preL [wrt k0 (a / 16777216), wrt k1 (a % 16777216)] 1 = wrt k0 (a / 16777216) := by
  simp [preL]
theorem pl_st21 (a k0 k1 : Nat) : preL [wrt k0 (a / 16777216), wrt k1 (a % 16777216)] 2 = preL [wrt k0 (a / 16777216), wrt k1 (a % 16777216)] 1 ++ [46] ++ wrt k1 (a % 16777216) := by
  simp [preL]
theorem cut_prs2 {a k0 k1 : Nat} (ha : a < 4294967296) : prs (join [wrt k0 (a / 16777216), wrt k1 (a % 16777216)]) = (a, 0) ∧ prs (join [wrt k0 (a / 16777216), wrt k1 (a % 16777216)] ++ [46]) = (a, 0) ∧ ends (join [wrt k0 (a / 16777216), wrt k1 (a % 16777216)]) = true := by
  have e : [wrt k0 (a / 16777216), wrt k1 (a % 16777216)] = wrts ([k0, k1].zip (cut a 2)) := rfl
  have hl : ([k0, k1].zip (cut a 2)).length = 2 := rfl
  have hne : [k0, k1].zip (cut a 2) ≠ [] := by simp [cut]
  have hb : ∀ v ∈ [k0, k1].zip (cut a 2), v.2 < 2 ^ 64 := by simp [cut]; omega
  have hc := cut_sum ha (by decide : 1 ≤ 2) (by decide : 2 ≤ 4) (ks := [k0, k1]) rfl
  have hp := prs_wrts hne (by rw [hl]; decide) hb
  rw [hl, hc.1, hc.2] at hp
  rw [e]
  exact ⟨by rw [hp.1]; simp, by rw [hp.2]; simp, ends_wrts hne hb⟩
theorem pl_join3 (a k0 k1 k2 : Nat) : preL [wrt k0 (a / 16777216), wrt k1 (a / 65536 % 256), wrt k2 (a % 65536)] 3 = join [wrt k0 (a / 16777216), wrt k1 (a / 65536 % 256), wrt k2 (a % 65536)] := by
  simp [preL, join]
theorem pl_st30 (a k0 k1 k2 : Nat) : preL [wrt k0 (a / 16777216), wrt k1 (a / 65536 % 256), wrt k2 (a % 65536)] 1 = wrt k0 (a / 16777216) := by
  simp [preL]
theorem pl_st31 (a k0 k1 k2 : Nat) : preL [wrt k0 (a / 16777216), wrt k1 (a / 65536 % 256), wrt k2 (a % 65536)] 2 = preL [wrt k0 (a / 16777216), wrt k1 (a / 65536 % 256), wrt k2 (a % 65536)] 1 ++ [46] ++ wrt k1 (a / 65536 % 256) := by
  simp [preL]
theorem pl_st32 (a k0 k1 k2 : Nat) : preL [wrt k0 (a / 16777216), wrt k1 (a / 65536 % 256), wrt k2 (a % 65536)] 3 = preL [wrt k0 (a / 16777216), wrt k1 (a / 65536 % 256), wrt k2 (a % 65536)] 2 ++ [46] ++ wrt k2 (a % 65536) := by
  simp [preL]
theorem cut_prs3 {a k0 k1 k2 : Nat} (ha : a < 4294967296) : prs (join [wrt k0 (a / 16777216), wrt k1 (a / 65536 % 256), wrt k2 (a % 65536)]) = (a, 0) ∧ prs (join [wrt k0 (a / 16777216), wrt k1 (a / 65536 % 256), wrt k2 (a % 65536)] ++ [46]) = (a, 0) ∧ ends (join [wrt k0 (a / 16777216), wrt k1 (a / 65536 % 256), wrt k2 (a % 65536)]) = true := by
  have e : [wrt k0 (a / 16777216), wrt k1 (a / 65536 % 256), wrt k2 (a % 65536)] = wrts ([k0, k1, k2].zip (cut a 3)) := rfl
  have hl : ([k0, k1, k2].zip (cut a 3)).length = 3 := rfl
  have hne : [k0, k1, k2].zip (cut a 3) ≠ [] := by simp [cut]
  have hb : ∀ v ∈ [k0, k1, k2].zip (cut a 3), v.2 < 2 ^ 64 := by simp [cut]; omega
  have hc := cut_sum ha (by decide : 1 ≤ 3) (by decide : 3 ≤ 4) (ks := [k0, k1, k2]) rfl
  have hp := prs_wrts hne (by rw [hl]; decide) hb
  rw [hl, hc.1, hc.2] at hp
  rw [e]
  exact ⟨by rw [hp.1]; simp, by rw [hp.2]; simp, ends_wrts hne hb⟩
theorem pl_join4 (a k0 k1 k2 k3 : Nat) : preL [wrt k0 (a / 16777216), wrt k1 (a / 65536 % 256), wrt k2 (a / 256 % 256), wrt k3 (a % 256)] 4 = join [wrt k0 (a / 16777216), wrt k1 (a / 65536 % 256), wrt k2 (a / 256 % 256), wrt k3 (a % 256)] := by
  simp [preL, join]
theorem pl_st40 (a k0 k1 k2 k3 : Nat) : preL [wrt k0 (a / 16777216), wrt k1 (a / 65536 % 256), wrt k2 (a / 256 % 256), wrt k3 (a % 256)] 1 = wrt k0 (a / 16777216) := by
  simp [preL]
theorem pl_st41 (a k0 k1 k2 k3 : Nat) : preL [wrt k0 (a / 16777216), wrt k1 (a / 65536 % 256), wrt k2 (a / 256 % 256), wrt k3 (a % 256)] 2 = preL [wrt k0 (a / 16777216), wrt k1 (a / 65536 % 256), wrt k2 (a / 256 % 256), wrt k3 (a % 256)] 1 ++ [46] ++ wrt k1 (a / 65536 % 256) := by
  simp [preL]
theorem pl_st42 (a k0 k1 k2 k3 : Nat) : preL [wrt k0 (a / 16777216), wrt k1 (a / 65536 % 256), wrt k2 (a / 256 % 256), wrt k3 (a % 256)] 3 = preL [wrt k0 (a / 16777216), wrt k1 (a / 65536 % 256), wrt k2 (a / 256 % 256), wrt k3 (a % 256)] 2 ++ [46] ++ wrt k2 (a / 256 % 256) := by
  simp [preL]
theorem pl_st43 (a k0 k1 k2 k3 : Nat) : preL [wrt k0 (a / 16777216), wrt k1 (a / 65536 % 256), wrt k2 (a / 256 % 256), wrt k3 (a % 256)] 4 = preL [wrt k0 (a / 16777216), wrt k1 (a / 65536 % 256), wrt k2 (a / 256 % 256), wrt k3 (a % 256)] 3 ++ [46] ++ wrt k3 (a % 256) := by
  simp [preL]
theorem cut_prs4 {a k0 k1 k2 k3 : Nat} (ha : a < 4294967296) : prs (join [wrt k0 (a / 16777216), wrt k1 (a / 65536 % 256), wrt k2 (a / 256 % 256), wrt k3 (a % 256)]) = (a, 0) ∧ prs (join [wrt k0 (a / 16777216), wrt k1 (a / 65536 % 256), wrt k2 (a / 256 % 256), wrt k3 (a % 256)] ++ [46]) = (a, 0) ∧ ends (join [wrt k0 (a / 16777216), wrt k1 (a / 65536 % 256), wrt k2 (a / 256 % 256), wrt k3 (a % 256)]) = true := by
  have e : [wrt k0 (a / 16777216), wrt k1 (a / 65536 % 256), wrt k2 (a / 256 % 256), wrt k3 (a % 256)] = wrts ([k0, k1, k2, k3].zip (cut a 4)) := rfl
  have hl : ([k0, k1, k2, k3].zip (cut a 4)).length = 4 := rfl
  have hne : [k0, k1, k2, k3].zip (cut a 4) ≠ [] := by simp [cut]
  have hb : ∀ v ∈ [k0, k1, k2, k3].zip (cut a 4), v.2 < 2 ^ 64 := by simp [cut]; omega
  have hc := cut_sum ha (by decide : 1 ≤ 4) (by decide : 4 ≤ 4) (ks := [k0, k1, k2, k3]) rfl
  have hp := prs_wrts hne (by rw [hl]; decide) hb
  rw [hl, hc.1, hc.2] at hp
  rw [e]
  exact ⟨by rw [hp.1]; simp, by rw [hp.2]; simp, ends_wrts hne hb⟩
set_option maxRecDepth 100000 in
set_option maxHeartbeats 8000000 in
theorem back_walk1 {G : World → Prop} (C : Ctr G) (a k0 k1 k2 k3 : Nat) (b0 b1 b2 b3 d : Int) (w : World) (hG : G w) (ha : a < 4294967296) (h0 : Int.tmod b0 3 = (k0 : Int)) (h1 : Int.tmod b1 3 = (k1 : Int)) (h2 : Int.tmod b2 3 = (k2 : Int)) (h3 : Int.tmod b3 3 = (k3 : Int)) (l0 : k0 < 3) (l1 : k1 < 3) (l2 : k2 < 3) (l3 : k3 < 3) (hd : Int.tmod d 4 = 0) (hd0 : 0 ≤ d) (hd1 : d ≤ 255) :
    Calls Tryd.prog 4 #[.int .u32 a, .agg #[.int .u8 b0, .int .u8 b1, .int .u8 b2, .int .u8 b3], .int .u8 d] w fun e W' => e = .returned (.bool true) ∧ Below w.heap.size w W' := by
  have HK : Hid (∀ W, Below w.heap.size w W → G W) := fun W h => C.keep w W hG h
  have HW : Hid (∀ W, Below w.heap.size w W → _) := fun W h => works_any C W (HK.out W h)
  have HPR : Hid (∀ (s : ByteArray) (l : List Int) W, s.size ≤ 1000 → bn s = l → prs l = (a, 0) → Below w.heap.size w W → _) := fun s l W hs hb hh hg => C.cpIs (s := s) (x := a) (y := 0) (by omega) (by rw [hb]; exact hh) W (HK.out W hg)
  have HEN : Hid (∀ (s : ByteArray) (l : List Int) W, s.size ≤ 1000 → bn s = l → ends l = true → Below w.heap.size w W → _) := fun s l W hs hb hh hg => C.ceIs (s := s) (b := true) (by omega) (by rw [hb]; exact hh) W (HK.out W hg)
  have HTX : Hid (∀ W, Below w.heap.size w W → _) := fun W h => C.ct a W ha (HK.out W h)
  have HTL : Hid ((txt a).length ≤ 300) := by
    show _ ≤ _
    rw [← pre_txt ha]
    have q0 := wr_len 10 (byt a 0)
    have q1 := wr_len 10 (byt a 1)
    have q2 := wr_len 10 (byt a 2)
    have q3 := wr_len 10 (byt a 3)
    simp [pre]
    omega
  have HTP := hid (txt_prs ha)
  have HCE : Hid (∀ W, Below (w.heap.size + 1) (w.alloc (.cells #[.int .u8 b0, .int .u8 b1, .int .u8 b2, .int .u8 b3] 33)) W → ∀ (j : Nat) (u : Value), ([.int .u8 b0, .int .u8 b1, .int .u8 b2, .int .u8 b3] : List Value)[j]? = some u → W.cell? ⟨w.heap.size, j, none⟩ = some u) := fun W h j u hu => cell_new w _ _ j u hu h
  have HCP : AdrOk (preL [wrt k0 (a)] 1) a := by
    have h := cut_prs1 (a := a) (k0 := k0) ha
    rw [← pl_join1] at h
    exact ⟨h.1, h.2.1, h.2.2⟩
  have HB0 : Hid (Below w.heap.size w (w.alloc (.cells #[.int .u8 b0, .int .u8 b1, .int .u8 b2, .int .u8 b3] 33))) := (Below.refl _ _).alloc (Nat.le_refl _) _
  have HZ : Hid ((w.alloc (.cells #[.int .u8 b0, .int .u8 b1, .int .u8 b2, .int .u8 b3] 33)).heap.size = w.heap.size + 1) := by show _ = _; simp
  have hwa : IntKind.u64.wrap (a : Int) = (a : Int) := wraps_u64 _ (by omega) (by omega)
  have HW0 := hid (fun W => written_any (a) (by omega) k0 l0 W)
  clear C hG
  go_enter Tryd.func4, Tryd.ntmps4
  go_wp2_with fail
  obtain ⟨w1, hw1⟩ : ∃ w1, w.alloc (.cells #[.int .u8 b0, .int .u8 b1, .int .u8 b2, .int .u8 b3] 33) = w1 := ⟨_, rfl⟩
  rw [hw1] at HCE HB0 HZ ⊢
  clear hw1
  have HBW : Hid (∀ W, Below (w.heap.size + 1) w1 W → Below w.heap.size w W) := fun W h => HB0.out.trans (h.mono (Nat.le_succ _))
  have HBZ : Hid (Below (w.heap.size + 1) w1 w1) := Below.refl _ _
  have hz1 : w.heap.size + 1 ≤ w1.heap.size := Nat.le_of_eq HZ.out.symm
  refine (HTX.out _ (HBW.out _ HBZ.out)).mono ?_
  rintro e w2 ⟨⟨t1, rfl, ht1⟩, B⟩
  have HB2 := hid (HBZ.out.trans (B.mono hz1))
  have hz2 : w.heap.size + 1 ≤ w2.heap.size := Nat.le_trans hz1 HB2.out.size
  have hs1 : t1.size ≤ 300 := by rw [← bn_length, ht1]; exact HTL.out
  have HT1 := hid ht1
  clear B ht1
  go_wp2_with fail
  refine (HPR.out t1 _ _ (by omega) HT1.out HTP.out.1 (HBW.out _ HB2.out)).mono ?_
  rintro e w3 ⟨rfl, B⟩
  have HB3 := hid (HB2.out.trans (B.mono hz2))
  have hz3 : w.heap.size + 1 ≤ w3.heap.size := Nat.le_trans hz1 HB3.out.size
  clear B HB2 hz2 HT1
  go_wp2_with fail
  refine (HTX.out _ (HBW.out _ HB3.out)).mono ?_
  rintro e w4 ⟨⟨t2, rfl, ht2⟩, B⟩
  have HB4 := hid (HB3.out.trans (B.mono hz3))
  have hz4 : w.heap.size + 1 ≤ w4.heap.size := Nat.le_trans hz1 HB4.out.size
  have hs2 : t2.size ≤ 300 := by rw [← bn_length, ht2]; exact HTL.out
  have HT2 := hid ht2
  clear B ht2 HB3 hz3
  go_wp2_with fail
  refine (HEN.out t2 _ _ (by omega) HT2.out HTP.out.2 (HBW.out _ HB4.out)).mono ?_
  rintro e w5 ⟨rfl, B⟩
  have HB5 := hid (HB4.out.trans (B.mono hz4))
  clear B HB4 hz4 HT2 HTX HTP HTL
  go_wp2_with fail
  go_loopw [10, 11] (fun v10 v11 wr => ∃ (i : Nat) (T : ByteArray), i ≤ 1 ∧ v10 = .string T ∧ v11 = .int .i64 i ∧ T.size ≤ 70 * i ∧ Hid (bn T = preL [wrt k0 (a)] i) ∧ Hid (Below (w.heap.size + 1) w1 wr)) (fun _ v11 _ => 1 - (intOf v11).toNat)
  case atStart => exact ⟨0, ⟨#[]⟩, Nat.zero_le _, rfl, rfl, Nat.le_refl _, rfl, HB5⟩
  case round =>
    obtain ⟨i, T, hi, rfl, rfl, hT, HT, HB⟩ := hrel
    have zj : w.heap.size + 1 ≤ wr.heap.size := Nat.le_trans hz1 HB.out.size
    obtain rfl | rfl : i = 0 ∨ i = 1 := by omega
    · have hc := HCE.out _ HB.out 0 (.int .u8 b0) rfl
      have hwd : IntKind.u64.wrap ((a : Int) / 16777216) = (a : Int) / 16777216 := wraps_u64 _ (by omega) (by omega)
      have hT0 : T.size = 0 := by omega
      have HP2 : Hid (∀ t, bn t = wrt k0 (a) → bn (T ++ t) = preL [wrt k0 (a)] 1) := fun t ht => by rw [pl_st10, bn_append, HT.out, ht]; rfl
      obtain ⟨z, hz⟩ : ∃ z : Nat, bits BinOp.and IntKind.u64 ((a : Int) / 16777216) 255 = (z : Int) := ⟨((((a : Int) / 16777216) % 256 : Int)).toNat, by rw [u64_and255 (by omega) (by omega)]; omega⟩
      have hand : bits BinOp.and IntKind.u64 (a : Int) 4294967295 = ((a : Nat) : Int) := by rw [u64_and32 (by omega) (by omega)]; omega
      have HWi := HW0
      go_wp2_with fail
      refine (HWi.out _).mono ?_
      rintro e w6 ⟨⟨t, rfl, ht⟩, B⟩
      have hts := wrt_size ht
      have HP3 := hid (HP2.out t ht)
      have HB6 := hid (HB.out.trans (B.mono zj))
      clear ht B HP2 hc HWi
      go_wp2_with fail
      go_roundw
      case rel => exact ⟨1, T ++ t, by omega, rfl, by go_num, by simp [ByteArray.size_append]; omega, HP3, HB6⟩
      case measure => simp [intOf]
    · have HAD : AdrOk (bn T) a := by rw [HT.out]; exact HCP
      have hdt : bn (T ++ ⟨#[46]⟩) = bn T ++ [46] := bn_dot T
      have HP7 : Hid (∀ W, Below w.heap.size w W → Calls Tryd.prog 10 #[.string (T ++ ⟨#[46]⟩)] W fun e W' => e = .returned (.tuple #[.int .u32 a, .int .i64 0]) ∧ Below W.heap.size W W') := fun W h => HPR.out (T ++ ⟨#[46]⟩) (bn T ++ [46]) W (by rw [ByteArray.size_append, dot_size]; omega) hdt HAD.two h
      clear HCP HT hdt
      go_wp2_with fail
      refine (HPR.out T _ _ (by omega) rfl HAD.one (HBW.out _ HB.out)).mono ?_
      rintro e w6 ⟨rfl, B⟩
      have HB6 := hid (HB.out.trans (B.mono zj))
      have hz6 : w.heap.size + 1 ≤ w6.heap.size := Nat.le_trans hz1 HB6.out.size
      clear B
      go_wp2_with fail
      refine (HP7.out _ (HBW.out _ HB6.out)).mono ?_
      rintro e w7 ⟨rfl, B⟩
      have HB7 := hid (HB6.out.trans (B.mono hz6))
      have hz7 : w.heap.size + 1 ≤ w7.heap.size := Nat.le_trans hz1 HB7.out.size
      clear B
      go_wp2_with fail
      refine (HEN.out T _ _ (by omega) rfl HAD.three (HBW.out _ HB7.out)).mono ?_
      rintro e w8 ⟨rfl, B⟩
      have HB8 := hid (HB7.out.trans (B.mono hz7))
      have HBL := hid (HBW.out _ HB8.out)
      clear B
      go_wp2_with (go_at_call 7; refine (HW.out _ HBL.out).mono ?_; rintro e w9 ⟨rfl, B⟩; have HB9 := hid (HBL.out.trans (B.mono HBL.out.size)); clear B)
      go_ret
      exact ⟨rfl, HB9.out⟩
set_option maxRecDepth 100000 in
set_option maxHeartbeats 8000000 in
theorem back_walk2 {G : World → Prop} (C : Ctr G) (a k0 k1 k2 k3 : Nat) (b0 b1 b2 b3 d : Int) (w : World) (hG : G w) (ha : a < 4294967296) (h0 : Int.tmod b0 3 = (k0 : Int)) (h1 : Int.tmod b1 3 = (k1 : Int)) (h2 : Int.tmod b2 3 = (k2 : Int)) (h3 : Int.tmod b3 3 = (k3 : Int)) (l0 : k0 < 3) (l1 : k1 < 3) (l2 : k2 < 3) (l3 : k3 < 3) (hd : Int.tmod d 4 = 1) (hd0 : 0 ≤ d) (hd1 : d ≤ 255) :
    Calls Tryd.prog 4 #[.int .u32 a, .agg #[.int .u8 b0, .int .u8 b1, .int .u8 b2, .int .u8 b3], .int .u8 d] w fun e W' => e = .returned (.bool true) ∧ Below w.heap.size w W' := by
  have HK : Hid (∀ W, Below w.heap.size w W → G W) := fun W h => C.keep w W hG h
  have HW : Hid (∀ W, Below w.heap.size w W → _) := fun W h => works_any C W (HK.out W h)
  have HPR : Hid (∀ (s : ByteArray) (l : List Int) W, s.size ≤ 1000 → bn s = l → prs l = (a, 0) → Below w.heap.size w W → _) := fun s l W hs hb hh hg => C.cpIs (s := s) (x := a) (y := 0) (by omega) (by rw [hb]; exact hh) W (HK.out W hg)
  have HEN : Hid (∀ (s : ByteArray) (l : List Int) W, s.size ≤ 1000 → bn s = l → ends l = true → Below w.heap.size w W → _) := fun s l W hs hb hh hg => C.ceIs (s := s) (b := true) (by omega) (by rw [hb]; exact hh) W (HK.out W hg)
  have HTX : Hid (∀ W, Below w.heap.size w W → _) := fun W h => C.ct a W ha (HK.out W h)
  have HTL : Hid ((txt a).length ≤ 300) := by
    show _ ≤ _
    rw [← pre_txt ha]
    have q0 := wr_len 10 (byt a 0)
    have q1 := wr_len 10 (byt a 1)
    have q2 := wr_len 10 (byt a 2)
    have q3 := wr_len 10 (byt a 3)
    simp [pre]
    omega
  have HTP := hid (txt_prs ha)
  have HCE : Hid (∀ W, Below (w.heap.size + 1) (w.alloc (.cells #[.int .u8 b0, .int .u8 b1, .int .u8 b2, .int .u8 b3] 33)) W → ∀ (j : Nat) (u : Value), ([.int .u8 b0, .int .u8 b1, .int .u8 b2, .int .u8 b3] : List Value)[j]? = some u → W.cell? ⟨w.heap.size, j, none⟩ = some u) := fun W h j u hu => cell_new w _ _ j u hu h
  have HCP : AdrOk (preL [wrt k0 (a / 16777216), wrt k1 (a % 16777216)] 2) a := by
    have h := cut_prs2 (a := a) (k0 := k0) (k1 := k1) ha
    rw [← pl_join2] at h
    exact ⟨h.1, h.2.1, h.2.2⟩
  have HB0 : Hid (Below w.heap.size w (w.alloc (.cells #[.int .u8 b0, .int .u8 b1, .int .u8 b2, .int .u8 b3] 33))) := (Below.refl _ _).alloc (Nat.le_refl _) _
  have HZ : Hid ((w.alloc (.cells #[.int .u8 b0, .int .u8 b1, .int .u8 b2, .int .u8 b3] 33)).heap.size = w.heap.size + 1) := by show _ = _; simp
  have hwa : IntKind.u64.wrap (a : Int) = (a : Int) := wraps_u64 _ (by omega) (by omega)
  have HW0 := hid (fun W => written_any (a / 16777216) (by omega) k0 l0 W)
  have HW1 := hid (fun W => written_any (a % 16777216) (by omega) k1 l1 W)
  clear C hG
  go_enter Tryd.func4, Tryd.ntmps4
  go_wp2_with fail
  obtain ⟨w1, hw1⟩ : ∃ w1, w.alloc (.cells #[.int .u8 b0, .int .u8 b1, .int .u8 b2, .int .u8 b3] 33) = w1 := ⟨_, rfl⟩
  rw [hw1] at HCE HB0 HZ ⊢
  clear hw1
  have HBW : Hid (∀ W, Below (w.heap.size + 1) w1 W → Below w.heap.size w W) := fun W h => HB0.out.trans (h.mono (Nat.le_succ _))
  have HBZ : Hid (Below (w.heap.size + 1) w1 w1) := Below.refl _ _
  have hz1 : w.heap.size + 1 ≤ w1.heap.size := Nat.le_of_eq HZ.out.symm
  refine (HTX.out _ (HBW.out _ HBZ.out)).mono ?_
  rintro e w2 ⟨⟨t1, rfl, ht1⟩, B⟩
  have HB2 := hid (HBZ.out.trans (B.mono hz1))
  have hz2 : w.heap.size + 1 ≤ w2.heap.size := Nat.le_trans hz1 HB2.out.size
  have hs1 : t1.size ≤ 300 := by rw [← bn_length, ht1]; exact HTL.out
  have HT1 := hid ht1
  clear B ht1
  go_wp2_with fail
  refine (HPR.out t1 _ _ (by omega) HT1.out HTP.out.1 (HBW.out _ HB2.out)).mono ?_
  rintro e w3 ⟨rfl, B⟩
  have HB3 := hid (HB2.out.trans (B.mono hz2))
  have hz3 : w.heap.size + 1 ≤ w3.heap.size := Nat.le_trans hz1 HB3.out.size
  clear B HB2 hz2 HT1
  go_wp2_with fail
  refine (HTX.out _ (HBW.out _ HB3.out)).mono ?_
  rintro e w4 ⟨⟨t2, rfl, ht2⟩, B⟩
  have HB4 := hid (HB3.out.trans (B.mono hz3))
  have hz4 : w.heap.size + 1 ≤ w4.heap.size := Nat.le_trans hz1 HB4.out.size
  have hs2 : t2.size ≤ 300 := by rw [← bn_length, ht2]; exact HTL.out
  have HT2 := hid ht2
  clear B ht2 HB3 hz3
  go_wp2_with fail
  refine (HEN.out t2 _ _ (by omega) HT2.out HTP.out.2 (HBW.out _ HB4.out)).mono ?_
  rintro e w5 ⟨rfl, B⟩
  have HB5 := hid (HB4.out.trans (B.mono hz4))
  clear B HB4 hz4 HT2 HTX HTP HTL
  go_wp2_with fail
  go_loopw [10, 11] (fun v10 v11 wr => ∃ (i : Nat) (T : ByteArray), i ≤ 2 ∧ v10 = .string T ∧ v11 = .int .i64 i ∧ T.size ≤ 70 * i ∧ Hid (bn T = preL [wrt k0 (a / 16777216), wrt k1 (a % 16777216)] i) ∧ Hid (Below (w.heap.size + 1) w1 wr)) (fun _ v11 _ => 2 - (intOf v11).toNat)
  case atStart => exact ⟨0, ⟨#[]⟩, Nat.zero_le _, rfl, rfl, Nat.le_refl _, rfl, HB5⟩
  case round =>
    obtain ⟨i, T, hi, rfl, rfl, hT, HT, HB⟩ := hrel
    have zj : w.heap.size + 1 ≤ wr.heap.size := Nat.le_trans hz1 HB.out.size
    obtain rfl | rfl | rfl : i = 0 ∨ i = 1 ∨ i = 2 := by omega
    · have hc := HCE.out _ HB.out 0 (.int .u8 b0) rfl
      have hwd : IntKind.u64.wrap ((a : Int) / 16777216) = (a : Int) / 16777216 := wraps_u64 _ (by omega) (by omega)
      have hT0 : T.size = 0 := by omega
      have HP2 : Hid (∀ t, bn t = wrt k0 (a / 16777216) → bn (T ++ t) = preL [wrt k0 (a / 16777216), wrt k1 (a % 16777216)] 1) := fun t ht => by rw [pl_st20, bn_append, HT.out, ht]; rfl
      have hand : bits BinOp.and IntKind.u64 ((a : Int) / 16777216) 255 = ((a / 16777216 : Nat) : Int) := by rw [u64_and255 (by omega) (by omega)]; omega
      have HWi := HW0
      obtain ⟨x, hx⟩ : ∃ x, a / 16777216 = x := ⟨_, rfl⟩
      rw [hx] at hand HWi
      have HQ2 : Hid (∀ t, bn t = wrt k0 x → bn (T ++ t) = preL [wrt k0 (a / 16777216), wrt k1 (a % 16777216)] 1) := fun t ht => HP2.out t (by rw [hx]; exact ht)
      replace HP2 := HQ2
      clear hx HQ2
      go_wp2_with fail
      refine (HWi.out _).mono ?_
      rintro e w6 ⟨⟨t, rfl, ht⟩, B⟩
      have hts := wrt_size ht
      have HP3 := hid (HP2.out t ht)
      have HB6 := hid (HB.out.trans (B.mono zj))
      clear ht B HP2 hc HWi
      go_wp2_with fail
      go_roundw
      case rel => exact ⟨1, T ++ t, by omega, rfl, by go_num, by simp [ByteArray.size_append]; omega, HP3, HB6⟩
      case measure => simp [intOf]
    · have hc := HCE.out _ HB.out 1 (.int .u8 b1) rfl
      have hwd : IntKind.u64.wrap ((a : Int) / 65536) = (a : Int) / 65536 := wraps_u64 _ (by omega) (by omega)
      have HP2 : Hid (∀ t, bn t = wrt k1 (a % 16777216) → bn (T ++ ⟨#[46]⟩ ++ t) = preL [wrt k0 (a / 16777216), wrt k1 (a % 16777216)] 2) := fun t ht => by rw [pl_st21, bn_append, bn_append, HT.out, ht]; rfl
      obtain ⟨z, hz⟩ : ∃ z : Nat, bits BinOp.and IntKind.u64 ((a : Int) / 65536) 255 = (z : Int) := ⟨((((a : Int) / 65536) % 256 : Int)).toNat, by rw [u64_and255 (by omega) (by omega)]; omega⟩
      have hand : bits BinOp.and IntKind.u64 (a : Int) 16777215 = ((a % 16777216 : Nat) : Int) := by rw [u64_and24 (by omega) (by omega)]; omega
      have HWi := HW1
      obtain ⟨x, hx⟩ : ∃ x, a % 16777216 = x := ⟨_, rfl⟩
      rw [hx] at hand HWi
      have HQ2 : Hid (∀ t, bn t = wrt k1 x → bn (T ++ ⟨#[46]⟩ ++ t) = preL [wrt k0 (a / 16777216), wrt k1 (a % 16777216)] 2) := fun t ht => HP2.out t (by rw [hx]; exact ht)
      replace HP2 := HQ2
      clear hx HQ2
      go_wp2_with fail
      refine (HWi.out _).mono ?_
      rintro e w6 ⟨⟨t, rfl, ht⟩, B⟩
      have hts := wrt_size ht
      have HP3 := hid (HP2.out t ht)
      have HB6 := hid (HB.out.trans (B.mono zj))
      clear ht B HP2 hc HWi
      go_wp2_with fail
      go_roundw
      case rel => exact ⟨2, T ++ ⟨#[46]⟩ ++ t, by omega, rfl, by go_num, by simp [ByteArray.size_append, dot_size]; omega, HP3, HB6⟩
      case measure => simp [intOf]
    · have HAD : AdrOk (bn T) a := by rw [HT.out]; exact HCP
      have hdt : bn (T ++ ⟨#[46]⟩) = bn T ++ [46] := bn_dot T
      have HP7 : Hid (∀ W, Below w.heap.size w W → Calls Tryd.prog 10 #[.string (T ++ ⟨#[46]⟩)] W fun e W' => e = .returned (.tuple #[.int .u32 a, .int .i64 0]) ∧ Below W.heap.size W W') := fun W h => HPR.out (T ++ ⟨#[46]⟩) (bn T ++ [46]) W (by rw [ByteArray.size_append, dot_size]; omega) hdt HAD.two h
      clear HCP HT hdt
      go_wp2_with fail
      refine (HPR.out T _ _ (by omega) rfl HAD.one (HBW.out _ HB.out)).mono ?_
      rintro e w6 ⟨rfl, B⟩
      have HB6 := hid (HB.out.trans (B.mono zj))
      have hz6 : w.heap.size + 1 ≤ w6.heap.size := Nat.le_trans hz1 HB6.out.size
      clear B
      go_wp2_with fail
      refine (HP7.out _ (HBW.out _ HB6.out)).mono ?_
      rintro e w7 ⟨rfl, B⟩
      have HB7 := hid (HB6.out.trans (B.mono hz6))
      have hz7 : w.heap.size + 1 ≤ w7.heap.size := Nat.le_trans hz1 HB7.out.size
      clear B
      go_wp2_with fail
      refine (HEN.out T _ _ (by omega) rfl HAD.three (HBW.out _ HB7.out)).mono ?_
      rintro e w8 ⟨rfl, B⟩
      have HB8 := hid (HB7.out.trans (B.mono hz7))
      have HBL := hid (HBW.out _ HB8.out)
      clear B
      go_wp2_with (go_at_call 7; refine (HW.out _ HBL.out).mono ?_; rintro e w9 ⟨rfl, B⟩; have HB9 := hid (HBL.out.trans (B.mono HBL.out.size)); clear B)
      go_ret
      exact ⟨rfl, HB9.out⟩
set_option maxRecDepth 100000 in
set_option maxHeartbeats 8000000 in
theorem back_walk3 {G : World → Prop} (C : Ctr G) (a k0 k1 k2 k3 : Nat) (b0 b1 b2 b3 d : Int) (w : World) (hG : G w) (ha : a < 4294967296) (h0 : Int.tmod b0 3 = (k0 : Int)) (h1 : Int.tmod b1 3 = (k1 : Int)) (h2 : Int.tmod b2 3 = (k2 : Int)) (h3 : Int.tmod b3 3 = (k3 : Int)) (l0 : k0 < 3) (l1 : k1 < 3) (l2 : k2 < 3) (l3 : k3 < 3) (hd : Int.tmod d 4 = 2) (hd0 : 0 ≤ d) (hd1 : d ≤ 255) :
    Calls Tryd.prog 4 #[.int .u32 a, .agg #[.int .u8 b0, .int .u8 b1, .int .u8 b2, .int .u8 b3], .int .u8 d] w fun e W' => e = .returned (.bool true) ∧ Below w.heap.size w W' := by
  have HK : Hid (∀ W, Below w.heap.size w W → G W) := fun W h => C.keep w W hG h
  have HW : Hid (∀ W, Below w.heap.size w W → _) := fun W h => works_any C W (HK.out W h)
  have HPR : Hid (∀ (s : ByteArray) (l : List Int) W, s.size ≤ 1000 → bn s = l → prs l = (a, 0) → Below w.heap.size w W → _) := fun s l W hs hb hh hg => C.cpIs (s := s) (x := a) (y := 0) (by omega) (by rw [hb]; exact hh) W (HK.out W hg)
  have HEN : Hid (∀ (s : ByteArray) (l : List Int) W, s.size ≤ 1000 → bn s = l → ends l = true → Below w.heap.size w W → _) := fun s l W hs hb hh hg => C.ceIs (s := s) (b := true) (by omega) (by rw [hb]; exact hh) W (HK.out W hg)
  have HTX : Hid (∀ W, Below w.heap.size w W → _) := fun W h => C.ct a W ha (HK.out W h)
  have HTL : Hid ((txt a).length ≤ 300) := by
    show _ ≤ _
    rw [← pre_txt ha]
    have q0 := wr_len 10 (byt a 0)
    have q1 := wr_len 10 (byt a 1)
    have q2 := wr_len 10 (byt a 2)
    have q3 := wr_len 10 (byt a 3)
    simp [pre]
    omega
  have HTP := hid (txt_prs ha)
  have HCE : Hid (∀ W, Below (w.heap.size + 1) (w.alloc (.cells #[.int .u8 b0, .int .u8 b1, .int .u8 b2, .int .u8 b3] 33)) W → ∀ (j : Nat) (u : Value), ([.int .u8 b0, .int .u8 b1, .int .u8 b2, .int .u8 b3] : List Value)[j]? = some u → W.cell? ⟨w.heap.size, j, none⟩ = some u) := fun W h j u hu => cell_new w _ _ j u hu h
  have HCP : AdrOk (preL [wrt k0 (a / 16777216), wrt k1 (a / 65536 % 256), wrt k2 (a % 65536)] 3) a := by
    have h := cut_prs3 (a := a) (k0 := k0) (k1 := k1) (k2 := k2) ha
    rw [← pl_join3] at h
    exact ⟨h.1, h.2.1, h.2.2⟩
  have HB0 : Hid (Below w.heap.size w (w.alloc (.cells #[.int .u8 b0, .int .u8 b1, .int .u8 b2, .int .u8 b3] 33))) := (Below.refl _ _).alloc (Nat.le_refl _) _
  have HZ : Hid ((w.alloc (.cells #[.int .u8 b0, .int .u8 b1, .int .u8 b2, .int .u8 b3] 33)).heap.size = w.heap.size + 1) := by show _ = _; simp
  have hwa : IntKind.u64.wrap (a : Int) = (a : Int) := wraps_u64 _ (by omega) (by omega)
  have HW0 := hid (fun W => written_any (a / 16777216) (by omega) k0 l0 W)
  have HW1 := hid (fun W => written_any (a / 65536 % 256) (by omega) k1 l1 W)
  have HW2 := hid (fun W => written_any (a % 65536) (by omega) k2 l2 W)
  clear C hG
  go_enter Tryd.func4, Tryd.ntmps4
  go_wp2_with fail
  obtain ⟨w1, hw1⟩ : ∃ w1, w.alloc (.cells #[.int .u8 b0, .int .u8 b1, .int .u8 b2, .int .u8 b3] 33) = w1 := ⟨_, rfl⟩
  rw [hw1] at HCE HB0 HZ ⊢
  clear hw1
  have HBW : Hid (∀ W, Below (w.heap.size + 1) w1 W → Below w.heap.size w W) := fun W h => HB0.out.trans (h.mono (Nat.le_succ _))
  have HBZ : Hid (Below (w.heap.size + 1) w1 w1) := Below.refl _ _
  have hz1 : w.heap.size + 1 ≤ w1.heap.size := Nat.le_of_eq HZ.out.symm
  refine (HTX.out _ (HBW.out _ HBZ.out)).mono ?_
  rintro e w2 ⟨⟨t1, rfl, ht1⟩, B⟩
  have HB2 := hid (HBZ.out.trans (B.mono hz1))
  have hz2 : w.heap.size + 1 ≤ w2.heap.size := Nat.le_trans hz1 HB2.out.size
  have hs1 : t1.size ≤ 300 := by rw [← bn_length, ht1]; exact HTL.out
  have HT1 := hid ht1
  clear B ht1
  go_wp2_with fail
  refine (HPR.out t1 _ _ (by omega) HT1.out HTP.out.1 (HBW.out _ HB2.out)).mono ?_
  rintro e w3 ⟨rfl, B⟩
  have HB3 := hid (HB2.out.trans (B.mono hz2))
  have hz3 : w.heap.size + 1 ≤ w3.heap.size := Nat.le_trans hz1 HB3.out.size
  clear B HB2 hz2 HT1
  go_wp2_with fail
  refine (HTX.out _ (HBW.out _ HB3.out)).mono ?_
  rintro e w4 ⟨⟨t2, rfl, ht2⟩, B⟩
  have HB4 := hid (HB3.out.trans (B.mono hz3))
  have hz4 : w.heap.size + 1 ≤ w4.heap.size := Nat.le_trans hz1 HB4.out.size
  have hs2 : t2.size ≤ 300 := by rw [← bn_length, ht2]; exact HTL.out
  have HT2 := hid ht2
  clear B ht2 HB3 hz3
  go_wp2_with fail
  refine (HEN.out t2 _ _ (by omega) HT2.out HTP.out.2 (HBW.out _ HB4.out)).mono ?_
  rintro e w5 ⟨rfl, B⟩
  have HB5 := hid (HB4.out.trans (B.mono hz4))
  clear B HB4 hz4 HT2 HTX HTP HTL
  go_wp2_with fail
  go_loopw [10, 11] (fun v10 v11 wr => ∃ (i : Nat) (T : ByteArray), i ≤ 3 ∧ v10 = .string T ∧ v11 = .int .i64 i ∧ T.size ≤ 70 * i ∧ Hid (bn T = preL [wrt k0 (a / 16777216), wrt k1 (a / 65536 % 256), wrt k2 (a % 65536)] i) ∧ Hid (Below (w.heap.size + 1) w1 wr)) (fun _ v11 _ => 3 - (intOf v11).toNat)
  case atStart => exact ⟨0, ⟨#[]⟩, Nat.zero_le _, rfl, rfl, Nat.le_refl _, rfl, HB5⟩
  case round =>
    obtain ⟨i, T, hi, rfl, rfl, hT, HT, HB⟩ := hrel
    have zj : w.heap.size + 1 ≤ wr.heap.size := Nat.le_trans hz1 HB.out.size
    obtain rfl | rfl | rfl | rfl : i = 0 ∨ i = 1 ∨ i = 2 ∨ i = 3 := by omega
    · have hc := HCE.out _ HB.out 0 (.int .u8 b0) rfl
      have hwd : IntKind.u64.wrap ((a : Int) / 16777216) = (a : Int) / 16777216 := wraps_u64 _ (by omega) (by omega)
      have hT0 : T.size = 0 := by omega
      have HP2 : Hid (∀ t, bn t = wrt k0 (a / 16777216) → bn (T ++ t) = preL [wrt k0 (a / 16777216), wrt k1 (a / 65536 % 256), wrt k2 (a % 65536)] 1) := fun t ht => by rw [pl_st30, bn_append, HT.out, ht]; rfl
      have hand : bits BinOp.and IntKind.u64 ((a : Int) / 16777216) 255 = ((a / 16777216 : Nat) : Int) := by rw [u64_and255 (by omega) (by omega)]; omega
      have HWi := HW0
      obtain ⟨x, hx⟩ : ∃ x, a / 16777216 = x := ⟨_, rfl⟩
      rw [hx] at hand HWi
      have HQ2 : Hid (∀ t, bn t = wrt k0 x → bn (T ++ t) = preL [wrt k0 (a / 16777216), wrt k1 (a / 65536 % 256), wrt k2 (a % 65536)] 1) := fun t ht => HP2.out t (by rw [hx]; exact ht)
      replace HP2 := HQ2
      clear hx HQ2
      go_wp2_with fail
      refine (HWi.out _).mono ?_
      rintro e w6 ⟨⟨t, rfl, ht⟩, B⟩
      have hts := wrt_size ht
      have HP3 := hid (HP2.out t ht)
      have HB6 := hid (HB.out.trans (B.mono zj))
      clear ht B HP2 hc HWi
      go_wp2_with fail
      go_roundw
      case rel => exact ⟨1, T ++ t, by omega, rfl, by go_num, by simp [ByteArray.size_append]; omega, HP3, HB6⟩
      case measure => simp [intOf]
    · have hc := HCE.out _ HB.out 1 (.int .u8 b1) rfl
      have hwd : IntKind.u64.wrap ((a : Int) / 65536) = (a : Int) / 65536 := wraps_u64 _ (by omega) (by omega)
      have HP2 : Hid (∀ t, bn t = wrt k1 (a / 65536 % 256) → bn (T ++ ⟨#[46]⟩ ++ t) = preL [wrt k0 (a / 16777216), wrt k1 (a / 65536 % 256), wrt k2 (a % 65536)] 2) := fun t ht => by rw [pl_st31, bn_append, bn_append, HT.out, ht]; rfl
      have hand : bits BinOp.and IntKind.u64 ((a : Int) / 65536) 255 = ((a / 65536 % 256 : Nat) : Int) := by rw [u64_and255 (by omega) (by omega)]; omega
      have HWi := HW1
      obtain ⟨x, hx⟩ : ∃ x, a / 65536 % 256 = x := ⟨_, rfl⟩
      rw [hx] at hand HWi
      have HQ2 : Hid (∀ t, bn t = wrt k1 x → bn (T ++ ⟨#[46]⟩ ++ t) = preL [wrt k0 (a / 16777216), wrt k1 (a / 65536 % 256), wrt k2 (a % 65536)] 2) := fun t ht => HP2.out t (by rw [hx]; exact ht)
      replace HP2 := HQ2
      clear hx HQ2
      go_wp2_with fail
      refine (HWi.out _).mono ?_
      rintro e w6 ⟨⟨t, rfl, ht⟩, B⟩
      have hts := wrt_size ht
      have HP3 := hid (HP2.out t ht)
      have HB6 := hid (HB.out.trans (B.mono zj))
      clear ht B HP2 hc HWi
      go_wp2_with fail
      go_roundw
      case rel => exact ⟨2, T ++ ⟨#[46]⟩ ++ t, by omega, rfl, by go_num, by simp [ByteArray.size_append, dot_size]; omega, HP3, HB6⟩
      case measure => simp [intOf]
    · have hc := HCE.out _ HB.out 2 (.int .u8 b2) rfl
      have hwd : IntKind.u64.wrap ((a : Int) / 256) = (a : Int) / 256 := wraps_u64 _ (by omega) (by omega)
      have HP2 : Hid (∀ t, bn t = wrt k2 (a % 65536) → bn (T ++ ⟨#[46]⟩ ++ t) = preL [wrt k0 (a / 16777216), wrt k1 (a / 65536 % 256), wrt k2 (a % 65536)] 3) := fun t ht => by rw [pl_st32, bn_append, bn_append, HT.out, ht]; rfl
      obtain ⟨z, hz⟩ : ∃ z : Nat, bits BinOp.and IntKind.u64 ((a : Int) / 256) 255 = (z : Int) := ⟨((((a : Int) / 256) % 256 : Int)).toNat, by rw [u64_and255 (by omega) (by omega)]; omega⟩
      have hand : bits BinOp.and IntKind.u64 (a : Int) 65535 = ((a % 65536 : Nat) : Int) := by rw [u64_and16 (by omega) (by omega)]; omega
      have HWi := HW2
      obtain ⟨x, hx⟩ : ∃ x, a % 65536 = x := ⟨_, rfl⟩
      rw [hx] at hand HWi
      have HQ2 : Hid (∀ t, bn t = wrt k2 x → bn (T ++ ⟨#[46]⟩ ++ t) = preL [wrt k0 (a / 16777216), wrt k1 (a / 65536 % 256), wrt k2 (a % 65536)] 3) := fun t ht => HP2.out t (by rw [hx]; exact ht)
      replace HP2 := HQ2
      clear hx HQ2
      go_wp2_with fail
      refine (HWi.out _).mono ?_
      rintro e w6 ⟨⟨t, rfl, ht⟩, B⟩
      have hts := wrt_size ht
      have HP3 := hid (HP2.out t ht)
      have HB6 := hid (HB.out.trans (B.mono zj))
      clear ht B HP2 hc HWi
      go_wp2_with fail
      go_roundw
      case rel => exact ⟨3, T ++ ⟨#[46]⟩ ++ t, by omega, rfl, by go_num, by simp [ByteArray.size_append, dot_size]; omega, HP3, HB6⟩
      case measure => simp [intOf]
    · have HAD : AdrOk (bn T) a := by rw [HT.out]; exact HCP
      have hdt : bn (T ++ ⟨#[46]⟩) = bn T ++ [46] := bn_dot T
      have HP7 : Hid (∀ W, Below w.heap.size w W → Calls Tryd.prog 10 #[.string (T ++ ⟨#[46]⟩)] W fun e W' => e = .returned (.tuple #[.int .u32 a, .int .i64 0]) ∧ Below W.heap.size W W') := fun W h => HPR.out (T ++ ⟨#[46]⟩) (bn T ++ [46]) W (by rw [ByteArray.size_append, dot_size]; omega) hdt HAD.two h
      clear HCP HT hdt
      go_wp2_with fail
      refine (HPR.out T _ _ (by omega) rfl HAD.one (HBW.out _ HB.out)).mono ?_
      rintro e w6 ⟨rfl, B⟩
      have HB6 := hid (HB.out.trans (B.mono zj))
      have hz6 : w.heap.size + 1 ≤ w6.heap.size := Nat.le_trans hz1 HB6.out.size
      clear B
      go_wp2_with fail
      refine (HP7.out _ (HBW.out _ HB6.out)).mono ?_
      rintro e w7 ⟨rfl, B⟩
      have HB7 := hid (HB6.out.trans (B.mono hz6))
      have hz7 : w.heap.size + 1 ≤ w7.heap.size := Nat.le_trans hz1 HB7.out.size
      clear B
      go_wp2_with fail
      refine (HEN.out T _ _ (by omega) rfl HAD.three (HBW.out _ HB7.out)).mono ?_
      rintro e w8 ⟨rfl, B⟩
      have HB8 := hid (HB7.out.trans (B.mono hz7))
      have HBL := hid (HBW.out _ HB8.out)
      clear B
      go_wp2_with (go_at_call 7; refine (HW.out _ HBL.out).mono ?_; rintro e w9 ⟨rfl, B⟩; have HB9 := hid (HBL.out.trans (B.mono HBL.out.size)); clear B)
      go_ret
      exact ⟨rfl, HB9.out⟩
set_option maxRecDepth 100000 in
set_option maxHeartbeats 8000000 in
theorem back_walk4 {G : World → Prop} (C : Ctr G) (a k0 k1 k2 k3 : Nat) (b0 b1 b2 b3 d : Int) (w : World) (hG : G w) (ha : a < 4294967296) (h0 : Int.tmod b0 3 = (k0 : Int)) (h1 : Int.tmod b1 3 = (k1 : Int)) (h2 : Int.tmod b2 3 = (k2 : Int)) (h3 : Int.tmod b3 3 = (k3 : Int)) (l0 : k0 < 3) (l1 : k1 < 3) (l2 : k2 < 3) (l3 : k3 < 3) (hd : Int.tmod d 4 = 3) (hd0 : 0 ≤ d) (hd1 : d ≤ 255) :
    Calls Tryd.prog 4 #[.int .u32 a, .agg #[.int .u8 b0, .int .u8 b1, .int .u8 b2, .int .u8 b3], .int .u8 d] w fun e W' => e = .returned (.bool true) ∧ Below w.heap.size w W' := by
  have HK : Hid (∀ W, Below w.heap.size w W → G W) := fun W h => C.keep w W hG h
  have HW : Hid (∀ W, Below w.heap.size w W → _) := fun W h => works_any C W (HK.out W h)
  have HPR : Hid (∀ (s : ByteArray) (l : List Int) W, s.size ≤ 1000 → bn s = l → prs l = (a, 0) → Below w.heap.size w W → _) := fun s l W hs hb hh hg => C.cpIs (s := s) (x := a) (y := 0) (by omega) (by rw [hb]; exact hh) W (HK.out W hg)
  have HEN : Hid (∀ (s : ByteArray) (l : List Int) W, s.size ≤ 1000 → bn s = l → ends l = true → Below w.heap.size w W → _) := fun s l W hs hb hh hg => C.ceIs (s := s) (b := true) (by omega) (by rw [hb]; exact hh) W (HK.out W hg)
  have HTX : Hid (∀ W, Below w.heap.size w W → _) := fun W h => C.ct a W ha (HK.out W h)
  have HTL : Hid ((txt a).length ≤ 300) := by
    show _ ≤ _
    rw [← pre_txt ha]
    have q0 := wr_len 10 (byt a 0)
    have q1 := wr_len 10 (byt a 1)
    have q2 := wr_len 10 (byt a 2)
    have q3 := wr_len 10 (byt a 3)
    simp [pre]
    omega
  have HTP := hid (txt_prs ha)
  have HCE : Hid (∀ W, Below (w.heap.size + 1) (w.alloc (.cells #[.int .u8 b0, .int .u8 b1, .int .u8 b2, .int .u8 b3] 33)) W → ∀ (j : Nat) (u : Value), ([.int .u8 b0, .int .u8 b1, .int .u8 b2, .int .u8 b3] : List Value)[j]? = some u → W.cell? ⟨w.heap.size, j, none⟩ = some u) := fun W h j u hu => cell_new w _ _ j u hu h
  have HCP : AdrOk (preL [wrt k0 (a / 16777216), wrt k1 (a / 65536 % 256), wrt k2 (a / 256 % 256), wrt k3 (a % 256)] 4) a := by
    have h := cut_prs4 (a := a) (k0 := k0) (k1 := k1) (k2 := k2) (k3 := k3) ha
    rw [← pl_join4] at h
    exact ⟨h.1, h.2.1, h.2.2⟩
  have HB0 : Hid (Below w.heap.size w (w.alloc (.cells #[.int .u8 b0, .int .u8 b1, .int .u8 b2, .int .u8 b3] 33))) := (Below.refl _ _).alloc (Nat.le_refl _) _
  have HZ : Hid ((w.alloc (.cells #[.int .u8 b0, .int .u8 b1, .int .u8 b2, .int .u8 b3] 33)).heap.size = w.heap.size + 1) := by show _ = _; simp
  have hwa : IntKind.u64.wrap (a : Int) = (a : Int) := wraps_u64 _ (by omega) (by omega)
  have HW0 := hid (fun W => written_any (a / 16777216) (by omega) k0 l0 W)
  have HW1 := hid (fun W => written_any (a / 65536 % 256) (by omega) k1 l1 W)
  have HW2 := hid (fun W => written_any (a / 256 % 256) (by omega) k2 l2 W)
  have HW3 := hid (fun W => written_any (a % 256) (by omega) k3 l3 W)
  clear C hG
  go_enter Tryd.func4, Tryd.ntmps4
  go_wp2_with fail
  obtain ⟨w1, hw1⟩ : ∃ w1, w.alloc (.cells #[.int .u8 b0, .int .u8 b1, .int .u8 b2, .int .u8 b3] 33) = w1 := ⟨_, rfl⟩
  rw [hw1] at HCE HB0 HZ ⊢
  clear hw1
  have HBW : Hid (∀ W, Below (w.heap.size + 1) w1 W → Below w.heap.size w W) := fun W h => HB0.out.trans (h.mono (Nat.le_succ _))
  have HBZ : Hid (Below (w.heap.size + 1) w1 w1) := Below.refl _ _
  have hz1 : w.heap.size + 1 ≤ w1.heap.size := Nat.le_of_eq HZ.out.symm
  refine (HTX.out _ (HBW.out _ HBZ.out)).mono ?_
  rintro e w2 ⟨⟨t1, rfl, ht1⟩, B⟩
  have HB2 := hid (HBZ.out.trans (B.mono hz1))
  have hz2 : w.heap.size + 1 ≤ w2.heap.size := Nat.le_trans hz1 HB2.out.size
  have hs1 : t1.size ≤ 300 := by rw [← bn_length, ht1]; exact HTL.out
  have HT1 := hid ht1
  clear B ht1
  go_wp2_with fail
  refine (HPR.out t1 _ _ (by omega) HT1.out HTP.out.1 (HBW.out _ HB2.out)).mono ?_
  rintro e w3 ⟨rfl, B⟩
  have HB3 := hid (HB2.out.trans (B.mono hz2))
  have hz3 : w.heap.size + 1 ≤ w3.heap.size := Nat.le_trans hz1 HB3.out.size
  clear B HB2 hz2 HT1
  go_wp2_with fail
  refine (HTX.out _ (HBW.out _ HB3.out)).mono ?_
  rintro e w4 ⟨⟨t2, rfl, ht2⟩, B⟩
  have HB4 := hid (HB3.out.trans (B.mono hz3))
  have hz4 : w.heap.size + 1 ≤ w4.heap.size := Nat.le_trans hz1 HB4.out.size
  have hs2 : t2.size ≤ 300 := by rw [← bn_length, ht2]; exact HTL.out
  have HT2 := hid ht2
  clear B ht2 HB3 hz3
  go_wp2_with fail
  refine (HEN.out t2 _ _ (by omega) HT2.out HTP.out.2 (HBW.out _ HB4.out)).mono ?_
  rintro e w5 ⟨rfl, B⟩
  have HB5 := hid (HB4.out.trans (B.mono hz4))
  clear B HB4 hz4 HT2 HTX HTP HTL
  go_wp2_with fail
  go_loopw [10, 11] (fun v10 v11 wr => ∃ (i : Nat) (T : ByteArray), i ≤ 4 ∧ v10 = .string T ∧ v11 = .int .i64 i ∧ T.size ≤ 70 * i ∧ Hid (bn T = preL [wrt k0 (a / 16777216), wrt k1 (a / 65536 % 256), wrt k2 (a / 256 % 256), wrt k3 (a % 256)] i) ∧ Hid (Below (w.heap.size + 1) w1 wr)) (fun _ v11 _ => 4 - (intOf v11).toNat)
  case atStart => exact ⟨0, ⟨#[]⟩, Nat.zero_le _, rfl, rfl, Nat.le_refl _, rfl, HB5⟩
  case round =>
    obtain ⟨i, T, hi, rfl, rfl, hT, HT, HB⟩ := hrel
    have zj : w.heap.size + 1 ≤ wr.heap.size := Nat.le_trans hz1 HB.out.size
    obtain rfl | rfl | rfl | rfl | rfl : i = 0 ∨ i = 1 ∨ i = 2 ∨ i = 3 ∨ i = 4 := by omega
    · have hc := HCE.out _ HB.out 0 (.int .u8 b0) rfl
      have hwd : IntKind.u64.wrap ((a : Int) / 16777216) = (a : Int) / 16777216 := wraps_u64 _ (by omega) (by omega)
      have hT0 : T.size = 0 := by omega
      have HP2 : Hid (∀ t, bn t = wrt k0 (a / 16777216) → bn (T ++ t) = preL [wrt k0 (a / 16777216), wrt k1 (a / 65536 % 256), wrt k2 (a / 256 % 256), wrt k3 (a % 256)] 1) := fun t ht => by rw [pl_st40, bn_append, HT.out, ht]; rfl
      have hand : bits BinOp.and IntKind.u64 ((a : Int) / 16777216) 255 = ((a / 16777216 : Nat) : Int) := by rw [u64_and255 (by omega) (by omega)]; omega
      have HWi := HW0
      obtain ⟨x, hx⟩ : ∃ x, a / 16777216 = x := ⟨_, rfl⟩
      rw [hx] at hand HWi
      have HQ2 : Hid (∀ t, bn t = wrt k0 x → bn (T ++ t) = preL [wrt k0 (a / 16777216), wrt k1 (a / 65536 % 256), wrt k2 (a / 256 % 256), wrt k3 (a % 256)] 1) := fun t ht => HP2.out t (by rw [hx]; exact ht)
      replace HP2 := HQ2
      clear hx HQ2
      go_wp2_with fail
      refine (HWi.out _).mono ?_
      rintro e w6 ⟨⟨t, rfl, ht⟩, B⟩
      have hts := wrt_size ht
      have HP3 := hid (HP2.out t ht)
      have HB6 := hid (HB.out.trans (B.mono zj))
      clear ht B HP2 hc HWi
      go_wp2_with fail
      go_roundw
      case rel => exact ⟨1, T ++ t, by omega, rfl, by go_num, by simp [ByteArray.size_append]; omega, HP3, HB6⟩
      case measure => simp [intOf]
    · have hc := HCE.out _ HB.out 1 (.int .u8 b1) rfl
      have hwd : IntKind.u64.wrap ((a : Int) / 65536) = (a : Int) / 65536 := wraps_u64 _ (by omega) (by omega)
      have HP2 : Hid (∀ t, bn t = wrt k1 (a / 65536 % 256) → bn (T ++ ⟨#[46]⟩ ++ t) = preL [wrt k0 (a / 16777216), wrt k1 (a / 65536 % 256), wrt k2 (a / 256 % 256), wrt k3 (a % 256)] 2) := fun t ht => by rw [pl_st41, bn_append, bn_append, HT.out, ht]; rfl
      have hand : bits BinOp.and IntKind.u64 ((a : Int) / 65536) 255 = ((a / 65536 % 256 : Nat) : Int) := by rw [u64_and255 (by omega) (by omega)]; omega
      have HWi := HW1
      obtain ⟨x, hx⟩ : ∃ x, a / 65536 % 256 = x := ⟨_, rfl⟩
      rw [hx] at hand HWi
      have HQ2 : Hid (∀ t, bn t = wrt k1 x → bn (T ++ ⟨#[46]⟩ ++ t) = preL [wrt k0 (a / 16777216), wrt k1 (a / 65536 % 256), wrt k2 (a / 256 % 256), wrt k3 (a % 256)] 2) := fun t ht => HP2.out t (by rw [hx]; exact ht)
      replace HP2 := HQ2
      clear hx HQ2
      go_wp2_with fail
      refine (HWi.out _).mono ?_
      rintro e w6 ⟨⟨t, rfl, ht⟩, B⟩
      have hts := wrt_size ht
      have HP3 := hid (HP2.out t ht)
      have HB6 := hid (HB.out.trans (B.mono zj))
      clear ht B HP2 hc HWi
      go_wp2_with fail
      go_roundw
      case rel => exact ⟨2, T ++ ⟨#[46]⟩ ++ t, by omega, rfl, by go_num, by simp [ByteArray.size_append, dot_size]; omega, HP3, HB6⟩
      case measure => simp [intOf]
    · have hc := HCE.out _ HB.out 2 (.int .u8 b2) rfl
      have hwd : IntKind.u64.wrap ((a : Int) / 256) = (a : Int) / 256 := wraps_u64 _ (by omega) (by omega)
      have HP2 : Hid (∀ t, bn t = wrt k2 (a / 256 % 256) → bn (T ++ ⟨#[46]⟩ ++ t) = preL [wrt k0 (a / 16777216), wrt k1 (a / 65536 % 256), wrt k2 (a / 256 % 256), wrt k3 (a % 256)] 3) := fun t ht => by rw [pl_st42, bn_append, bn_append, HT.out, ht]; rfl
      have hand : bits BinOp.and IntKind.u64 ((a : Int) / 256) 255 = ((a / 256 % 256 : Nat) : Int) := by rw [u64_and255 (by omega) (by omega)]; omega
      have HWi := HW2
      obtain ⟨x, hx⟩ : ∃ x, a / 256 % 256 = x := ⟨_, rfl⟩
      rw [hx] at hand HWi
      have HQ2 : Hid (∀ t, bn t = wrt k2 x → bn (T ++ ⟨#[46]⟩ ++ t) = preL [wrt k0 (a / 16777216), wrt k1 (a / 65536 % 256), wrt k2 (a / 256 % 256), wrt k3 (a % 256)] 3) := fun t ht => HP2.out t (by rw [hx]; exact ht)
      replace HP2 := HQ2
      clear hx HQ2
      go_wp2_with fail
      refine (HWi.out _).mono ?_
      rintro e w6 ⟨⟨t, rfl, ht⟩, B⟩
      have hts := wrt_size ht
      have HP3 := hid (HP2.out t ht)
      have HB6 := hid (HB.out.trans (B.mono zj))
      clear ht B HP2 hc HWi
      go_wp2_with fail
      go_roundw
      case rel => exact ⟨3, T ++ ⟨#[46]⟩ ++ t, by omega, rfl, by go_num, by simp [ByteArray.size_append, dot_size]; omega, HP3, HB6⟩
      case measure => simp [intOf]
    · have hc := HCE.out _ HB.out 3 (.int .u8 b3) rfl
      have hwd : IntKind.u64.wrap ((a : Int)) = (a : Int) := wraps_u64 _ (by omega) (by omega)
      have HP2 : Hid (∀ t, bn t = wrt k3 (a % 256) → bn (T ++ ⟨#[46]⟩ ++ t) = preL [wrt k0 (a / 16777216), wrt k1 (a / 65536 % 256), wrt k2 (a / 256 % 256), wrt k3 (a % 256)] 4) := fun t ht => by rw [pl_st43, bn_append, bn_append, HT.out, ht]; rfl
      have hand : bits BinOp.and IntKind.u64 (a : Int) 255 = ((a % 256 : Nat) : Int) := by rw [u64_and255 (by omega) (by omega)]; omega
      have HWi := HW3
      obtain ⟨x, hx⟩ : ∃ x, a % 256 = x := ⟨_, rfl⟩
      rw [hx] at hand HWi
      have HQ2 : Hid (∀ t, bn t = wrt k3 x → bn (T ++ ⟨#[46]⟩ ++ t) = preL [wrt k0 (a / 16777216), wrt k1 (a / 65536 % 256), wrt k2 (a / 256 % 256), wrt k3 (a % 256)] 4) := fun t ht => HP2.out t (by rw [hx]; exact ht)
      replace HP2 := HQ2
      clear hx HQ2
      go_wp2_with fail
      refine (HWi.out _).mono ?_
      rintro e w6 ⟨⟨t, rfl, ht⟩, B⟩
      have hts := wrt_size ht
      have HP3 := hid (HP2.out t ht)
      have HB6 := hid (HB.out.trans (B.mono zj))
      clear ht B HP2 hc HWi
      go_wp2_with fail
      go_roundw
      case rel => exact ⟨4, T ++ ⟨#[46]⟩ ++ t, by omega, rfl, by go_num, by simp [ByteArray.size_append, dot_size]; omega, HP3, HB6⟩
      case measure => simp [intOf]
    · have HAD : AdrOk (bn T) a := by rw [HT.out]; exact HCP
      have hdt : bn (T ++ ⟨#[46]⟩) = bn T ++ [46] := bn_dot T
      have HP7 : Hid (∀ W, Below w.heap.size w W → Calls Tryd.prog 10 #[.string (T ++ ⟨#[46]⟩)] W fun e W' => e = .returned (.tuple #[.int .u32 a, .int .i64 0]) ∧ Below W.heap.size W W') := fun W h => HPR.out (T ++ ⟨#[46]⟩) (bn T ++ [46]) W (by rw [ByteArray.size_append, dot_size]; omega) hdt HAD.two h
      clear HCP HT hdt
      go_wp2_with fail
      refine (HPR.out T _ _ (by omega) rfl HAD.one (HBW.out _ HB.out)).mono ?_
      rintro e w6 ⟨rfl, B⟩
      have HB6 := hid (HB.out.trans (B.mono zj))
      have hz6 : w.heap.size + 1 ≤ w6.heap.size := Nat.le_trans hz1 HB6.out.size
      clear B
      go_wp2_with fail
      refine (HP7.out _ (HBW.out _ HB6.out)).mono ?_
      rintro e w7 ⟨rfl, B⟩
      have HB7 := hid (HB6.out.trans (B.mono hz6))
      have hz7 : w.heap.size + 1 ≤ w7.heap.size := Nat.le_trans hz1 HB7.out.size
      clear B
      go_wp2_with fail
      refine (HEN.out T _ _ (by omega) rfl HAD.three (HBW.out _ HB7.out)).mono ?_
      rintro e w8 ⟨rfl, B⟩
      have HB8 := hid (HB7.out.trans (B.mono hz7))
      have HBL := hid (HBW.out _ HB8.out)
      clear B
      go_wp2_with (go_at_call 7; refine (HW.out _ HBL.out).mono ?_; rintro e w9 ⟨rfl, B⟩; have HB9 := hid (HBL.out.trans (B.mono HBL.out.size)); clear B)
      go_ret
      exact ⟨rfl, HB9.out⟩
theorem back_walk {G : World → Prop} (C : Ctr G) (m b0 b1 b2 b3 d : Int) (w : World) (hG : G w) (hm : (Lit.int .u32 m).wf = true) (h0 : (Lit.int .u8 b0).wf = true) (h1 : (Lit.int .u8 b1).wf = true) (h2 : (Lit.int .u8 b2).wf = true) (h3 : (Lit.int .u8 b3).wf = true) (hd : (Lit.int .u8 d).wf = true) :
    Calls Tryd.prog 4 #[.int .u32 m, .agg #[.int .u8 b0, .int .u8 b1, .int .u8 b2, .int .u8 b3], .int .u8 d] w fun e W' => e = .returned (.bool true) ∧ Below w.heap.size w W' := by
  obtain ⟨p0, p1⟩ := u8_wf hd
  have qm := u32_wf hm
  have q0 := u8_wf h0
  have q1 := u8_wf h1
  have q2 := u8_wf h2
  have q3 := u8_wf h3
  obtain ⟨a, rfl⟩ : ∃ n : Nat, m = (n : Int) := ⟨m.toNat, by omega⟩
  obtain ⟨k0, e0⟩ : ∃ k : Nat, b0 % 3 = (k : Int) := ⟨(b0 % 3).toNat, by omega⟩
  obtain ⟨k1, e1⟩ : ∃ k : Nat, b1 % 3 = (k : Int) := ⟨(b1 % 3).toNat, by omega⟩
  obtain ⟨k2, e2⟩ : ∃ k : Nat, b2 % 3 = (k : Int) := ⟨(b2 % 3).toNat, by omega⟩
  obtain ⟨k3, e3⟩ : ∃ k : Nat, b3 % 3 = (k : Int) := ⟨(b3 % 3).toNat, by omega⟩
  have f0 : Int.tmod b0 3 = (k0 : Int) := by rw [Int.tmod_eq_emod_of_nonneg q0.1]; exact e0
  have f1 : Int.tmod b1 3 = (k1 : Int) := by rw [Int.tmod_eq_emod_of_nonneg q1.1]; exact e1
  have f2 : Int.tmod b2 3 = (k2 : Int) := by rw [Int.tmod_eq_emod_of_nonneg q2.1]; exact e2
  have f3 : Int.tmod b3 3 = (k3 : Int) := by rw [Int.tmod_eq_emod_of_nonneg q3.1]; exact e3
  have ht : Int.tmod d 4 = d % 4 := Int.tmod_eq_emod_of_nonneg p0
  obtain h | h | h | h : d % 4 = 0 ∨ d % 4 = 1 ∨ d % 4 = 2 ∨ d % 4 = 3 := by omega
  · exact back_walk1 C a k0 k1 k2 k3 b0 b1 b2 b3 d w hG (by omega) f0 f1 f2 f3 (by omega) (by omega) (by omega) (by omega) (by omega) p0 p1
  · exact back_walk2 C a k0 k1 k2 k3 b0 b1 b2 b3 d w hG (by omega) f0 f1 f2 f3 (by omega) (by omega) (by omega) (by omega) (by omega) p0 p1
  · exact back_walk3 C a k0 k1 k2 k3 b0 b1 b2 b3 d w hG (by omega) f0 f1 f2 f3 (by omega) (by omega) (by omega) (by omega) (by omega) p0 p1
  · exact back_walk4 C a k0 k1 k2 k3 b0 b1 b2 b3 d w hG (by omega) f0 f1 f2 f3 (by omega) (by omega) (by omega) (by omega) (by omega) p0 p1
end Go.Proofs.YtklplalfcpigcaaDoor.F
