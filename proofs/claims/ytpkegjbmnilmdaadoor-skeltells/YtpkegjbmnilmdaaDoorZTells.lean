/- The statement SkelTells: for any texts and any number Skeleton, Alike, Scripts, Level, Name and Of answer what the document says; for every input, the listed variable, the names of the scripts, as the text of the program lays it (the card ties it): the call returns true and its arguments read behind it as they read before. -/
import Derived.Test.YtpkegjbmnilmdaaDoorZM4
import Derived.Test.YtpkegjbmnilmdaaDoorZM2
import Derived.Test.YtpkegjbmnilmdaaDoorCards
import Derived.Test.YtpkegjbmnilmdaaDoorTie
import Derived.Test.YtpkegjbmnilmdaaDoorZM3
import Derived.BigQuiet
import Derived.Deep.QuietTactic
import Derived.WalkKit
import Derived.ShutString
import Derived.ChangeOld
import Derived.Below
import Derived.SevenTiedAt
/- SkelTells: the walk. -/
namespace Go.Proofs.YtpkegjbmnilmdaaDoor.S
open Go.RowKit
set_option linter.unusedVariables false

theorem u8_wf {d : Int} (h : (Lit.int .u8 d).wf = true) : 0 ≤ d ∧ d ≤ 255 := by
  simp [Lit.wf, IntKind.min, IntKind.max, IntKind.bits, IntKind.signed] at h
  omega
theorem asc_bn (s : ByteArray) : asc (U.dec (U.bn s)) = asc (U.bn s) := asc_dec _ _ (Nat.le_refl _) (U.bn_bytes s)
/-- Where the text stands among the first k names. -/
def FR (t : ByteArray) (k : Nat) (f : Int) : Prop := (∃ i : Nat, i < k ∧ nmAt i = t ∧ f = i) ∨ ((∀ i : Nat, i < k → ¬ nmAt i = t) ∧ f = -1)
theorem FR.zero (t : ByteArray) : FR t 0 (-1) := .inr ⟨fun i hi => by omega, rfl⟩
theorem FR.yes {t : ByteArray} {k : Nat} (h : nmAt k = t) : FR t (k + 1) k := .inl ⟨k, by omega, h, rfl⟩
theorem FR.no {t : ByteArray} {k : Nat} {f : Int} (h : ¬ nmAt k = t) (hf : FR t k f) : FR t (k + 1) f := by
  rcases hf with ⟨i, hi, e, rfl⟩ | ⟨ha, rfl⟩
  · exact .inl ⟨i, by omega, e, rfl⟩
  · refine .inr ⟨fun i hi => ?_, rfl⟩
    by_cases e : i = k
    · rw [e]; exact h
    · exact ha i (by omega)
theorem FR.bd {t : ByteArray} {k : Nat} {f : Int} (h : FR t k f) : -1 ≤ f ∧ f < k ∨ f = -1 := by
  rcases h with ⟨i, hi, e, rfl⟩ | ⟨ha, rfl⟩
  · left; omega
  · right; rfl
/-- Both found the same, or neither. -/
theorem both {t : ByteArray} {n c f : Int} (h : OfR t n c) (k : FR t 12 f) : (∃ i : Nat, i < 12 ∧ n = i ∧ c = 0 ∧ f = i) ∨ (n = 0 ∧ c = 5 ∧ f = -1) := by
  rcases h with ⟨i, hi, e, rfl, rfl⟩ | ⟨ha, rfl, rfl⟩
  · rcases k with ⟨j, hj, e2, rfl⟩ | ⟨kb, _⟩
    · have := names_apart ⟨i, hi⟩ ⟨j, hj⟩ (by show nmAt i = nmAt j; rw [e, e2])
      have h2 : i = j := congrArg Fin.val this
      subst h2
      exact .inl ⟨i, hi, rfl, rfl, rfl⟩
    · exact absurd e (kb i hi)
  · rcases k with ⟨j, hj, e2, rfl⟩ | ⟨_, rfl⟩
    · exact absurd e2 (ha j hj)
    · exact .inr ⟨rfl, rfl, rfl⟩
/-- Whether two skeletons are told alike. -/
structure EncE (s t : ByteArray) (E : Bool) : Prop where
  out : decide (U.encs (sk s) = U.encs (sk t)) = E
set_option maxRecDepth 100000 in
set_option maxHeartbeats 16000000 in
theorem tells_walk (s t : ByteArray) (d : Int) (w : World) (hN : Nms w) (hs : s.size ≤ maxLen) (ht : t.size ≤ maxLen) (hd : (Lit.int .u8 d).wf = true) :
    Calls Tryd.prog 3 #[.string s, .string t, .int .u8 d] w fun e W' => e = .returned (.bool true) ∧ Below w.heap.size w W' := by
  unfold maxLen at hs ht
  obtain ⟨hd0, hd1⟩ := u8_wf hd
  obtain ⟨x, rfl⟩ : ∃ x : Nat, d = (x : Int) := ⟨d.toNat, by omega⟩
  have HW : Hid (∀ W, Below w.heap.size w W → Calls Tryd.prog 8 #[] W fun e W' => e = .returned (.bool true) ∧ Below W.heap.size W W') := fun W hB => works_any W (hN.below hB (Nat.le_refl _))
  have HOF : Hid (∀ W, Below w.heap.size w W → Calls Tryd.prog 17 #[.string t] W fun e W' => (∃ n c, e = .returned (.tuple #[.int .u8 n, .int .i64 c]) ∧ OfR t n c) ∧ W' = W) := fun W hB => of_any t W (hN.below hB (Nat.le_refl _))
  have HNA : Hid (∀ W, Below w.heap.size w W → Calls Tryd.prog 18 #[.int .u8 x] W fun e W' => e = .returned (.string (names[x]?.getD ⟨#[]⟩)) ∧ W' = W) := fun W hB => name_any x (by omega) W (hN.below hB (Nat.le_refl _))
  clear hN hd
  by_cases h1 : 600 < s.size
  · go_enter Tryd.func3, Tryd.ntmps3
    go_wp2_with (go_at_call 8; refine (HW.out _ (Below.refl _ _)).mono ?_; rintro e w1 ⟨rfl, B1⟩)
    go_ret
    exact ⟨rfl, B1⟩
  by_cases h2 : 600 < t.size
  · have h1z : (s.size : Int) ≤ 600 := by omega
    go_enter Tryd.func3, Tryd.ntmps3
    go_wp2_with (go_at_call 8; refine (HW.out _ (Below.refl _ _)).mono ?_; rintro e w1 ⟨rfl, B1⟩)
    go_ret
    exact ⟨rfl, B1⟩
  have h1z : (s.size : Int) ≤ 600 := by omega
  have h2z : (t.size : Int) ≤ 600 := by omega
  have fs : Fit s := fit_small (by omega)
  have ft : Fit t := fit_small (by omega)
  have HR1 := hid (fun W => rskel_any s W fs.1 fs.2)
  have HR2 := hid (fun W => rskel_any t W ft.1 ft.2)
  have HSK := hid (fun (a : ByteArray) (h : U.encs (sk s) = U.bn a) W => skel_is (by omega) h W)
  have HAL := hid (fun W => alike_any s t W fs ft)
  have HSC : Hid (∀ W, Calls Tryd.prog 10 #[.string s] W fun e W' => (∃ v, e = .returned v ∧ W'.ownsRow W.heap.size 5 1 v (scs (U.dec (U.bn s))).length ((scs (U.dec (U.bn s))).map (Value.int .u8))) ∧ Below W.heap.size W W') := fun W => scripts_any s W (by omega)
  have HSD : Hid (∀ W, Calls Tryd.prog 11 #[.string s] W fun e W' => (∃ v, e = .returned v ∧ W'.ownsRow W.heap.size 5 1 v (scs (U.dec (U.bn s))).length ((scs (U.dec (U.bn s))).map (Value.int .u8))) ∧ Below W.heap.size W W') := fun W => rscripts_any s W (by omega)
  have HL1 := hid (fun W => level_any s W (by omega))
  have HL2 := hid (fun W => rlevel_any s W (by omega))
  rw [asc_bn] at HL1
  have hn10 := scs_len (U.dec (U.bn s))
  obtain ⟨v, hv⟩ : ∃ v, lev (asc (U.bn s)) (scs (U.dec (U.bn s))) = v := ⟨_, rfl⟩
  rw [hv] at HL1 HL2
  obtain ⟨M, hM⟩ : ∃ M, scs (U.dec (U.bn s)) = M := ⟨_, rfl⟩
  rw [hM] at HSC HSD hn10
  obtain ⟨n, hn⟩ : ∃ n, M.length = n := ⟨_, rfl⟩
  have HN := hid hn
  rw [hn] at HSC HSD hn10
  obtain ⟨E, hE⟩ : ∃ E, decide (sk s = sk t) = E := ⟨_, rfl⟩
  have HE : EncE s t E := ⟨(encs_same (a := sk s) (b := sk t) (skl_scal (dec_scs s)) (skl_scal (dec_scs t))).trans hE⟩
  rw [hE] at HAL
  clear hv hM hn hE fs ft
  go_enter Tryd.func3, Tryd.ntmps3
  go_wp2_with fail
  refine (HR1.out _).mono ?_
  rintro e w1 ⟨⟨a, rfl, ha⟩, B1⟩
  have HA := hid ha
  have HB1 := hid B1
  have HSK' := hid (HSK.out a ha.symm)
  clear B1 ha HR1 HSK
  go_wp2_with fail
  refine (HR2.out _).mono ?_
  rintro e w2 ⟨⟨b, rfl, hb⟩, B2⟩
  have HB2 := hid (HB1.out.trans (B2.mono HB1.out.size))
  have hab : (a.toList == b.toList) = E := by rw [U.str_eq_bn, HA.out, hb]; exact HE.out
  have hse := self_eq a
  have hsn : (a.toList != a.toList) = false := by rw [bne, hse]; rfl
  clear B2 hb HA HE HR2 HB1
  go_wp2_with fail
  refine (HSC.out _).mono ?_
  rintro e w3 ⟨⟨v3, rfl, r3⟩, B3⟩
  obtain ⟨a3, c3, rfl⟩ := own_sh5 r3
  have R3 := hid r3
  have HB3 := hid (HB2.out.trans (B3.mono HB2.out.size))
  clear B3 r3 HSC HB2
  go_wp2_with fail
  refine (HSD.out _).mono ?_
  rintro e w4 ⟨⟨v4, rfl, r4⟩, B4⟩
  obtain ⟨a4, c4, rfl⟩ := own_sh5 r4
  have R4 := hid r4
  have R34 := hid (U.ownsRow_below R3.out B4 (Nat.le_refl _))
  have HB4 := hid (HB3.out.trans (B4.mono HB3.out.size))
  obtain ⟨a3', c3', e3, f3⟩ := own_cells HN.out.symm R34.out
  cases e3
  obtain ⟨a4', c4', e4, f4⟩ := own_cells HN.out.symm R4.out
  cases e4
  have HF3 := hid f3
  have HF4 := hid f4
  clear B4 r4 HSD HB3 R3 R4 R34 f3 f4
  go_wp2_with fail
  refine (HSK'.out _).mono ?_
  rintro e w5 ⟨rfl, B5⟩
  have HB5 := hid (HB4.out.trans (B5.mono HB4.out.size))
  have HC5 := hid B5
  clear B5 HSK' HB4
  go_wp2_with fail
  refine (HAL.out _).mono ?_
  rintro e w6 ⟨rfl, B6⟩
  have HB6 := hid (HB5.out.trans (B6.mono HB5.out.size))
  have HC6 := hid (HC5.out.trans (B6.mono HC5.out.size))
  have hEE : (E != E) = false := by cases E <;> rfl
  clear B6 HAL HB5 HC5
  go_wp2_with fail
  refine (HL1.out _).mono ?_
  rintro e w7 ⟨rfl, B7⟩
  have HB7 := hid (HB6.out.trans (B7.mono HB6.out.size))
  have HC7 := hid (HC6.out.trans (B7.mono HC6.out.size))
  clear B7 HL1 HB6 HC6
  go_wp2_with fail
  refine (HL2.out _).mono ?_
  rintro e w8 ⟨rfl, B8⟩
  have HB8 := hid (HB7.out.trans (B8.mono HB7.out.size))
  have HC8 := hid (HC7.out.trans (B8.mono HC7.out.size))
  clear B8 HL2 HB7 HC7
  go_wp2_with fail
  go_loopw [11] (fun v11 wq => ∃ (j : Nat), j ≤ n ∧ v11 = .int .i64 j ∧ Hid (∃ k, wq = w8.drewN k)) (fun v11 _ => n - (intOf v11).toNat)
  case atStart => exact ⟨0, Nat.zero_le _, rfl, ⟨0, rfl⟩⟩
  case round =>
    obtain ⟨j, hj, rfl, HD⟩ := hrel
    by_cases hjn : j < n
    · obtain ⟨kk, rfl⟩ := HD.out
      obtain ⟨b3, _, rfl, h3⟩ := HF3.out (by omega)
      obtain ⟨b4, _, rfl, h4⟩ := HF4.out (by omega)
      have k3 : w8.cell? ⟨b3, j, none⟩ = some (.int .u8 (M[j]?.getD 0)) := (HC8.out.cell (p := ⟨b3, j, none⟩) (U.lt_of_cell (h3 j hjn))).trans (h3 j hjn)
      have k4 : w8.cell? ⟨b4, j, none⟩ = some (.int .u8 (M[j]?.getD 0)) := (HC8.out.cell (p := ⟨b4, j, none⟩) (U.lt_of_cell (h4 j hjn))).trans (h4 j hjn)
      obtain ⟨y, hy⟩ : ∃ y, M[j]?.getD 0 = y := ⟨_, rfl⟩
      rw [hy] at k3 k4
      have hjz : (j : Int) < (n : Int) := by omega
      clear h3 h4 hy
      go_wp2
      go_quiet (fail)
      go_wp2
      go_roundw
      case rel => exact ⟨j + 1, by omega, by go_num, ⟨_, rfl⟩⟩
      case measure => simp [intOf]; omega
    · obtain ⟨kk, rfl⟩ := HD.out
      obtain rfl : j = n := by omega
      have HB9 : Hid (Below w.heap.size w (w8.drewN kk)) := D.below_drewN HB8.out kk
      obtain ⟨w9, hw9⟩ : ∃ w9, w8.drewN kk = w9 := ⟨_, rfl⟩
      rw [hw9] at HB9 ⊢
      clear hw9 HF3 HF4 HC8 HB8 HD
      go_wp2_with fail
      refine (rnames_any w9).mono ?_
      rintro e w10 ⟨rfl, hw10⟩
      have HCN : Hid (∀ k, k < 12 → w10.cell? ⟨w9.heap.size, k, none⟩ = some (.string (nmAt k))) := fun k hk => by rw [hw10]; exact names_cell w9 k hk
      have HB10 : Hid (Below w.heap.size w w10) := by show Below _ _ _; rw [hw10]; exact HB9.out.alloc HB9.out.size _
      obtain ⟨g, hg⟩ : ∃ g, w9.heap.size = g := ⟨_, rfl⟩
      rw [hg] at HCN ⊢
      clear hw10 hg HB9
      have HO := hid (HOF.out w10 HB10.out)
      have HNX := hid (HNA.out w10 HB10.out)
      obtain ⟨T, hT⟩ : ∃ T, names[x]?.getD ⟨#[]⟩ = T := ⟨_, rfl⟩
      have HTT := hid hT
      rw [hT] at HNX
      clear hT HOF HNA
      by_cases hx : x < 12
      · have hxz : (x : Int) < 12 := by omega
        have hcx : w10.cell? ⟨g, x, none⟩ = some (.string T) := by rw [← HTT.out]; exact HCN.out x hx
        have hse1 := self_eq T
        clear HTT
        go_wp2_with fail
        refine HO.out.mono ?_
        rintro e w11 ⟨⟨n0, c0, rfl, hof⟩, hw11⟩
        obtain rfl := hw11.symm
        have HOR := hid hof
        clear hof HO
        go_wp2_with fail
        go_loop [16, 17] (fun v16 v17 => ∃ (k : Nat) (f : Int), k ≤ 12 ∧ v16 = .int .i64 f ∧ v17 = .int .i64 k ∧ -1 ≤ f ∧ f ≤ 12 ∧ Hid (FR t k f)) (fun _ v17 => 12 - (intOf v17).toNat)
        case atStart => exact ⟨0, -1, by omega, rfl, rfl, by omega, by omega, FR.zero t⟩
        case round =>
          obtain ⟨k, f, hk, rfl, rfl, hf0, hf1, HFR⟩ := hrel
          by_cases hk12 : k < 12
          · have hkz : (k : Int) < 12 := by omega
            have hck := HCN.out k hk12
            have HY : Hid (nmAt k = t → FR t (k + 1) k) := FR.yes
            have HNN : Hid (¬ nmAt k = t → FR t (k + 1) f) := fun h => FR.no h HFR.out
            obtain ⟨q, hq⟩ : ∃ q, nmAt k = q := ⟨_, rfl⟩
            rw [hq] at hck HY HNN
            clear hq HFR
            by_cases he : q = t
            · have H := hid (HY.out he)
              have hqe : (q.toList == t.toList) = true := by rw [he]; exact self_eq t
              clear HY HNN he
              go_wp2
              exact ⟨⟨k + 1, k, by omega, rfl, by go_num, by omega, by omega, H⟩, by simp [intOf]; omega⟩
            · have H := hid (HNN.out he)
              have hqe := str_ne he
              clear HY HNN he
              go_wp2
              exact ⟨⟨k + 1, f, by omega, rfl, by go_num, by omega, by omega, H⟩, by simp [intOf]; omega⟩
          · obtain rfl : k = 12 := by omega
            rcases both HOR.out HFR.out with ⟨i, hi, rfl, rfl, rfl⟩ | ⟨rfl, rfl, rfl⟩
            · have hiz : (i : Int) < 12 := by omega
              have hi0 : (0 : Int) ≤ (i : Int) := by omega
              clear HOR HFR hi
              go_wp2_with fail
              refine HNX.out.mono ?_
              rintro e w12 ⟨rfl, hw12⟩
              obtain rfl := hw12.symm
              go_wp2_with (go_at_call 8; refine (HW.out _ HB10.out).mono ?_; rintro e w13 ⟨rfl, B13⟩)
              go_ret
              exact ⟨rfl, HB10.out.trans (B13.mono HB10.out.size)⟩
            · clear HOR HFR
              go_wp2_with fail
              refine HNX.out.mono ?_
              rintro e w12 ⟨rfl, hw12⟩
              obtain rfl := hw12.symm
              go_wp2_with (go_at_call 8; refine (HW.out _ HB10.out).mono ?_; rintro e w13 ⟨rfl, B13⟩)
              go_ret
              exact ⟨rfl, HB10.out.trans (B13.mono HB10.out.size)⟩
      · have hxz : ¬ (x : Int) < 12 := by omega
        have HTE : Hid (T = ⟨#[]⟩) := by show _ = _; rw [← HTT.out, List.getElem?_eq_none (by have : names.length = 12 := rfl; omega)]; rfl
        rw [HTE.out] at HNX
        have hse1 := self_eq ⟨#[]⟩
        clear HTT HTE
        go_wp2_with fail
        refine HO.out.mono ?_
        rintro e w11 ⟨⟨n0, c0, rfl, hof⟩, hw11⟩
        obtain rfl := hw11.symm
        have HOR := hid hof
        clear hof HO
        go_wp2_with fail
        go_loop [16, 17] (fun v16 v17 => ∃ (k : Nat) (f : Int), k ≤ 12 ∧ v16 = .int .i64 f ∧ v17 = .int .i64 k ∧ -1 ≤ f ∧ f ≤ 12 ∧ Hid (FR t k f)) (fun _ v17 => 12 - (intOf v17).toNat)
        case atStart => exact ⟨0, -1, by omega, rfl, rfl, by omega, by omega, FR.zero t⟩
        case round =>
          obtain ⟨k, f, hk, rfl, rfl, hf0, hf1, HFR⟩ := hrel
          by_cases hk12 : k < 12
          · have hkz : (k : Int) < 12 := by omega
            have hck := HCN.out k hk12
            have HY : Hid (nmAt k = t → FR t (k + 1) k) := FR.yes
            have HNN : Hid (¬ nmAt k = t → FR t (k + 1) f) := fun h => FR.no h HFR.out
            obtain ⟨q, hq⟩ : ∃ q, nmAt k = q := ⟨_, rfl⟩
            rw [hq] at hck HY HNN
            clear hq HFR
            by_cases he : q = t
            · have H := hid (HY.out he)
              have hqe : (q.toList == t.toList) = true := by rw [he]; exact self_eq t
              clear HY HNN he
              go_wp2
              exact ⟨⟨k + 1, k, by omega, rfl, by go_num, by omega, by omega, H⟩, by simp [intOf]; omega⟩
            · have H := hid (HNN.out he)
              have hqe := str_ne he
              clear HY HNN he
              go_wp2
              exact ⟨⟨k + 1, f, by omega, rfl, by go_num, by omega, by omega, H⟩, by simp [intOf]; omega⟩
          · obtain rfl : k = 12 := by omega
            rcases both HOR.out HFR.out with ⟨i, hi, rfl, rfl, rfl⟩ | ⟨rfl, rfl, rfl⟩
            · have hiz : (i : Int) < 12 := by omega
              have hi0 : (0 : Int) ≤ (i : Int) := by omega
              clear HOR HFR hi
              go_wp2_with fail
              refine HNX.out.mono ?_
              rintro e w12 ⟨rfl, hw12⟩
              obtain rfl := hw12.symm
              go_wp2_with (go_at_call 8; refine (HW.out _ HB10.out).mono ?_; rintro e w13 ⟨rfl, B13⟩)
              go_ret
              exact ⟨rfl, HB10.out.trans (B13.mono HB10.out.size)⟩
            · clear HOR HFR
              go_wp2_with fail
              refine HNX.out.mono ?_
              rintro e w12 ⟨rfl, hw12⟩
              obtain rfl := hw12.symm
              go_wp2_with (go_at_call 8; refine (HW.out _ HB10.out).mono ?_; rintro e w13 ⟨rfl, B13⟩)
              go_ret
              exact ⟨rfl, HB10.out.trans (B13.mono HB10.out.size)⟩
end Go.Proofs.YtpkegjbmnilmdaaDoor.S
namespace Go.Proofs.YtpkegjbmnilmdaaDoor
open Go.ChangeShapes Go.WideShapes Go.ChangeAt Go.RowKit
open Go.ChangeMaps (open_string shut_string)
set_option linter.unusedVariables false

set_option maxRecDepth 100000 in
theorem skelTells_lifted (os : Os) (started : os.Started) (H : Type) (enc : TypeId × Value → H) :
    ReturnsInHanded {} Tryd.checked os 3 .any (fun w args => (Rows.skelTellsSpec.pre enc Tryd.prog Tryd.f3 [] false w args ∧ laidMetH Tryd.prog laid1 w) ∧ sizedMet enc Tryd.prog Tryd.f3 (OpenSpec.ofChange Rows.skelTellsSpec) false w args)
      (Rows.skelTellsSpec.post enc Tryd.prog Tryd.f3 false true false false) := by
  refine returnsInHanded_of_change_and (C := Tryd.checked) (X := fun w _ => laidMetH Tryd.prog laid1 w) (fun _ _ _ hh h => h.of_heap hh) own started (by kernel_rfl) Tryd.func3
    (ChangeSpec.witness_shaped (enc := enc) (C := Tryd.checked) (os := os) (X := fun w _ => laidMetH Tryd.prog laid1 w) false (World.doorLaid Tryd.prog 4000 os) #[.string ByteArray.empty, .string ByteArray.empty, .int .u8 0] 8 rfl (World.shaped_of_RefB (by kernel_rfl) (by kernel_rfl)) (by kernel_rfl) (by kernel_rfl) (by kernel_rfl) (door_met os _)) ?_
  intro W base args ds gs before hval0 hW _ _ hL _
  have hval : ∀ (j : Nat) t v, Tryd.f3.params[j]? = some t → args[j]? = some v → Value.okWide Tryd.prog W .any base t v := hval0
  have hW' := hW
  obtain ⟨p, q, hA0, hV, rfl, hfz, hnd⟩ := hW
  have hA : DataW.TrodAll enc Tryd.prog W 0 (fun _ => true) true Tryd.f3.params.toList args.toList ds p := hA0
  rw [Tryd.params3] at hA hval
  obtain ⟨v0, vs0, d0, ds0, p0, q0, hargs, rfl, rfl, h0, r0⟩ := trodAll_cons hA
  obtain ⟨v1, vs1, d1, ds1, p1, q1, rfl, rfl, rfl, h1, r1⟩ := trodAll_cons r0
  obtain ⟨v2, vs2, d2, ds2, p2, q2, rfl, rfl, rfl, h2, r2⟩ := trodAll_cons r1
  obtain ⟨rfl, rfl, rfl⟩ := trodAll_nil r2
  obtain rfl : args = #[v0, v1, v2] := by cases args; simp_all
  obtain ⟨rfl, rfl⟩ := trodVars_none hV
  obtain ⟨a0, rfl, rfl, rfl, w0⟩ := open_string Tryd.underlying9 (hval 0 9 v0 rfl rfl) h0
  obtain ⟨a1, rfl, rfl, rfl, w1⟩ := open_string Tryd.underlying9 (hval 1 9 v1 rfl rfl) h1
  obtain ⟨a2, rfl, rfl, rfl, w2⟩ := open_int Tryd.underlying5 (hval 2 5 v2 rfl rfl) h2
  clear hA0 hval0
  refine (S.tells_walk a0 a1 a2 W (of_laid hL) w0 w1 w2).mono fun e W' ⟨he, bel⟩ => ?_
  subst he
  exact ⟨_, rfl, _, _, _, [], _, [], hW', trodAll_mk1 (shut_bool Tryd.underlying4 _), (trodAll_cons_mk (shut_string Tryd.underlying9 w0) (trodAll_cons_mk (shut_string Tryd.underlying9 w1) (trodAll_cons_mk (shut_int Tryd.underlying5 w2) trodAll_mk0))), rfl, bel.frame _, fun h => by cases h⟩

theorem skelTells_over : Rows.skelTellsRow.holds Tryd.pinned (OpenSpec.ofChange Rows.skelTellsSpec) :=
  OpenClaim.holds_of_wide 3 Tryd.f3 rfl rfl rfl rfl rfl rfl rfl ⟨rfl, rfl, rfl, rfl, rfl⟩ rfl rfl rfl rfl rfl (by kernel_rfl) Tryd.func3 (by kernel_rfl)
    (of_decide_eq_true (by kernel_rfl)) (by unfold Func.isWrapper; first | (rw [if_pos (by decide +kernel)]; kernel_rfl) | (rw [if_neg (by decide +kernel)]; exact ⟨rfl, rfl⟩))
    (fun os started H enc _ => skelTells_lifted os started H enc)

/-- The statement: the tied card. -/
theorem skelTells_holds : Rows.SkelTellsCardSaid :=
  Claim7.holds_tied_plain_at .later [] [.data] true Rows.skelTellsCard.stood.harness false
    skelTells_over (fun _ h => by cases h) (by kernel_rfl) (fun _ h => by cases h) skelTells_row_tie rfl ⟨rfl, rfl⟩ (by kernel_rfl) rfl
    (fun f fn hf hfn => by
      obtain rfl : f = 3 := Option.some.inj ((show Tryd.prog.funcNamed Rows.skelTellsRow.func = some 3 by kernel_rfl).symm.trans hf) |>.symm
      obtain rfl : fn = Tryd.f3 := (Option.some.inj (Tryd.func3.symm.trans hfn)).symm
      exact ⟨by kernel_rfl, fun j t ht => by
        rw [Tryd.params3] at ht
        have hm : t ∈ [9, 9, 5] := by simpa using Array.mem_of_getElem? ht
        have hall : ([9, 9, 5].all fun u => !Tryd.prog.wantsStandIn u) = true := by kernel_rfl
        exact (show Tryd.prog.wantsStandIn t = false by simpa using List.all_eq_true.1 hall t hm)⟩)
    (by kernel_rfl)
#print axioms skelTells_holds
end Go.Proofs.YtpkegjbmnilmdaaDoor
