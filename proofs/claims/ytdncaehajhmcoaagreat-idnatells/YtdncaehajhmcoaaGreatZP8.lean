/- Texts of one layer, one behind the other: PRB PWK PRC. -/
import Derived.Test.YtdncaehajhmcoaaGreatZP7
import Derived.Deep.Cut
import Derived.Deep.CutRange
/- The document's Encode, whole. -/
namespace Go.Proofs.YtdncaehajhmcoaaGreat.P
open Go.RowKit U
set_option linter.unusedVariables false

theorem wn_step {bias K Q t x : Nat} {y : Int} {acc full : List Int} (hT : thr K bias = t) (hq : ¬ Q < t) (hx : x = t + (Q - t) % (36 - t)) (hy : y = sgn x) (h : acc ++ wn bias K Q = full) : acc ++ [y] ++ wn bias (K + 36) ((Q - t) / (36 - t)) = full := by
  rw [← h, wn_more bias K Q (by rw [hT]; exact hq), hT, ← hx, hy, List.append_assoc]; rfl
theorem wn_stop {bias K Q t : Nat} {y : Int} {acc full : List Int} (hT : thr K bias = t) (hq : Q < t) (hy : y = sgn Q) (h : acc ++ wn bias K Q = full) : acc ++ [y] = full := by
  rw [← h, wn_less bias K Q (by rw [hT]; exact hq), hy]

set_option maxRecDepth 100000 in
set_option maxHeartbeats 20000000 in
theorem rencode_some (b off cap N : Nat) (l : List Int) (hN : l.length = N) (hlen : N ≤ 63) (w : World) (hp : 0 < N) (hc : ∀ j, j < N → w.cell? ⟨b, off + j, none⟩ = some (.int .i32 (l[j]?.getD 0))) :
    Calls Tryz.prog 28 #[.slice (some ⟨b, off, none⟩) N cap] w fun e W' => (∃ t r, e = .returned (.tuple #[.string t, .int .i64 r]) ∧ EncR l t r) ∧ Below w.heap.size w W' := by
  obtain ⟨i0, hi0, hz0, hz1, hz2⟩ := info_parts Tryz.info5
  have hb : b < w.heap.size := lt_of_cell (hc 0 hp)
  have HN := hid hN
  clear hN
  go_enter Tryz.func28, Tryz.ntmps28
  go_wp2_with fail
  go_loopw [4, 5] (fun v4 v5 wr => ∃ (k m c : Nat) (a : Option Addr), k ≤ N ∧ m ≤ k ∧ v4 = .slice a m c ∧ v5 = .int .i64 k ∧ Hid ((l.take k).all scal = true) ∧ Hid (m = (plain (l.take k)).length) ∧ Hid (wr.ownsRow w.heap.size 5 1 (.slice a m c) m ((plain (l.take k)).map (Value.int .u8))) ∧ Hid (Below w.heap.size w wr))
    (fun _ v5 _ => N - (intOf v5).toNat)
  case atStart => exact ⟨0, 0, 0, none, Nat.zero_le _, Nat.le_refl _, rfl, rfl, rfl, rfl, World.ownsRow_nil _ _ _ _, Below.refl _ _⟩
  case round =>
    obtain ⟨k, m, c0, a, hk, hmk, rfl, rfl, HA, HM, HR, HB⟩ := hrel
    by_cases hlt : k < N
    · have hck : wr.cell? ⟨b, off + k, none⟩ = some (.int .i32 (l[k]?.getD 0)) := (HB.out.cell (p := ⟨b, off + k, none⟩) hb).trans (hc k hlt)
      have hkl : k < l.length := by rw [HN.out]; exact hlt
      have HP := hid (plain_snoc l k hkl)
      have HAT := hid (fun h => all_take_snoc l k hkl HA.out h)
      have HAF := hid (fun h => all_false l k hkl h)
      clear hkl
      obtain ⟨c, hcc⟩ : ∃ c, l[k]?.getD 0 = c := ⟨_, rfl⟩
      rw [hcc] at hck HP HAT HAF
      clear hcc
      cases hs : scal c with
      | false =>
        have HS := hid hs
        clear hs
        go_wp2_with (go_at_call 53; refine (refScalar_any c _).mono ?_; rw [HS.out]; rintro e w' ⟨rfl, rfl⟩)
        go_ret2
        exact ⟨⟨_, _, rfl, .inr (.inl ⟨by rw [HN.out]; exact hlen, HAF.out HS.out, rfl, rfl⟩)⟩, HB.out⟩
      | true =>
        have hs1 := scal_le hs
        have HS := hid hs
        clear hs
        by_cases hx : c < 128
        · go_wp2_with (first
            | (go_at_call 53; refine (refScalar_any c _).mono ?_; rw [HS.out]; rintro e w' ⟨rfl, hw'⟩; obtain rfl := hw'.symm)
            | (at_builtin; refine wpList_append_own _ rfl _ _ 39 rfl w.heap.size 5 i0 (.int .u8 0) 1 1 Tryz.underlying39 hi0 hz0 hz1 hz2 rfl (by decide) _ _ _ rfl (HR.out.alloc _) ⟨wr.heap.size, 0, none⟩ 1 1 [.int .u8 c] rfl rfl (news_at _ _ _) (by simp [Value.oneCell']) (by unfold maxLen; omega) (by omega) (by have := HB.out.size; simp; omega) ?_; intro v' w1 hown' hgrow _; obtain ⟨a1, c1, rfl⟩ := own_sh5 hown'))
          go_roundw
          case rel =>
            have e : plain (l.take (k + 1)) = plain (l.take k) ++ [c] := by rw [HP.out, if_pos hx]
            refine ⟨k + 1, m + 1, c1, a1, by omega, by omega, rfl, by go_num, HAT.out HS.out, by show m + 1 = _; rw [e, List.length_append, ← HM.out]; rfl, ?_, ?_⟩
            · show World.ownsRow _ _ _ _ _ _ _
              rw [e, List.map_append]; exact hown'
            · exact below_grow (w1 := wr.alloc (.cells #[.int .u8 c] 5)) (HB.out.alloc HB.out.size _) (Nat.le_trans HB.out.size (by simp)) (HR.out.alloc _) hgrow
          case measure => simp [intOf]; omega
        · go_wp2_with (go_at_call 53; refine (refScalar_any c _).mono ?_; rw [HS.out]; rintro e w' ⟨rfl, hw'⟩; obtain rfl := hw'.symm)
          go_roundw
          case rel =>
            have e : plain (l.take (k + 1)) = plain (l.take k) := by rw [HP.out, if_neg (by omega), List.append_nil]
            refine ⟨k + 1, m, c0, a, by omega, by omega, rfl, by go_num, HAT.out HS.out, by show m = _; rw [e]; exact HM.out, ?_, HB⟩
            show World.ownsRow _ _ _ _ _ _ _
            rw [e]; exact HR.out
          case measure => simp [intOf]; omega
    · have hkk : k = N := by omega
      have htk : l.take k = l := List.take_of_length_le (by rw [HN.out]; omega)
      rw [htk] at HA HM HR
      have hbd := all_bd HA.out
      have HBD := hid hbd
      have hs1 := HB.out.size
      clear htk hbd hkk
      go_upto_if 48 with fail
      go_cut [4] from 48 (fun v4 wc => ∃ (k c : Nat) (a : Option Addr), v4 = .slice a k c ∧ Hid (wc.ownsRow w.heap.size 5 1 (.slice a k c) k ((hd (plain l)).map (Value.int .u8))) ∧ Hid (k = (hd (plain l)).length) ∧ Hid (Below w.heap.size w wc))
      case first =>
        by_cases hp0 : m = 0
        · subst hp0
          go_wp2_with fail
          go_meet
          case rel =>
            have e : hd (plain l) = [] := hd_none _ HM.out.symm
            have e2 : plain l = [] := List.eq_nil_of_length_eq_zero HM.out.symm
            refine ⟨0, c0, a, rfl, ?_, by show 0 = _; rw [e]; rfl, HB⟩
            have := HR.out
            rw [e2] at this
            show World.ownsRow _ _ _ _ _ _ _
            rw [e]; exact this
        · have hpz : (0 : Int) < (m : Int) := by omega
          go_wp2_with (at_builtin; refine wpList_append_own _ rfl _ _ 39 rfl w.heap.size 5 i0 (.int .u8 0) 1 1 Tryz.underlying39 hi0 hz0 hz1 hz2 rfl (by decide) _ _ _ rfl (HR.out.alloc _) ⟨wr.heap.size, 0, none⟩ 1 1 [.int .u8 45] rfl rfl (news_at _ _ _) (by simp [Value.oneCell']) (by unfold maxLen; omega) (by omega) (by simp; omega) ?_; intro v2 w3 hown hgrow _; obtain ⟨a2, c2, rfl⟩ := own_sh5 hown)
          go_meet
          case rel =>
            have e : hd (plain l) = plain l ++ [45] := hd_some _ (by rw [← HM.out]; omega)
            refine ⟨m + 1, c2, a2, rfl, ?_, by show m + 1 = _; rw [e, List.length_append, ← HM.out]; rfl, ?_⟩
            · show World.ownsRow _ _ _ _ _ _ _
              rw [e, List.map_append]; exact hown
            · exact below_grow (w1 := wr.alloc (.cells #[.int .u8 45] 5)) (HB.out.alloc HB.out.size _) (Nat.le_trans HB.out.size (by simp)) (HR.out.alloc _) hgrow
      case rest =>
        obtain ⟨k0, c1, a1, rfl, HR2, HK2, HB2⟩ := hcut
        have hkl := hd_len (plain l)
        rw [← HK2.out, ← HM.out] at hkl
        have HW0 : Hid (Rw l w.heap.size w wc (.slice a1 k0 c1) k0 m 0 72 128 0) :=
          ⟨by omega, by omega, ⟨[], EI.start l, (fun d hd => by cases hd), by rw [← HM.out]; rfl, by omega, by rw [HK2.out]; simp [tx], rfl, by simpa [tx] using HR2.out⟩, HB2.out⟩
        clear HR2 HK2 hkl HR
        go_wp2_with fail
        go_loopw [4, 7, 8, 9, 10] (fun v4 v7 v8 v9 v10 wr => ∃ (k c : Nat) (a : Option Addr) (n : Int) (dl bias h : Nat), v4 = .slice a k c ∧ v7 = .int .i32 n ∧ v8 = .int .i64 dl ∧ v9 = .int .i64 bias ∧ v10 = .int .i64 h ∧ Hid (Rw l w.heap.size w wr (.slice a k c) k h dl bias n 0))
          (fun _ v7 _ _ _ _ => ups l (intOf v7))
        case atStart => exact ⟨k0, c1, a1, 128, 0, 72, m, rfl, rfl, rfl, rfl, rfl, HW0⟩
        case round =>
          obtain ⟨k, c, a, n, dl, bias, h, rfl, rfl, rfl, rfl, rfl, HW⟩ := hrel
          have n0 := HW.out.n0
          have n1 := HW.out.n1
          have d1 := HW.out.dl_le (by rw [HN.out]; exact hlen)
          have k1 := HW.out.k_le (by rw [HN.out]; exact hlen)
          by_cases hlt : h < N
          · have HM2 := hid (lst2_least l n (fun x hx => (HBD.out x hx).2) (HW.out.left (by rw [HN.out]; exact hlt)))
            have hcr : ∀ j, j < N → wr.cell? ⟨b, off + j, none⟩ = some (.int .i32 (l[j]?.getD 0)) := fun j hj => (HW.out.be.cell (p := ⟨b, off + j, none⟩) hb).trans (hc j hj)
            have HCR := hid hcr
            clear hcr
            go_wp2_with fail
            go_loop [11, 12] (fun v11 v12 => ∃ i : Nat, i ≤ N ∧ v11 = .int .i32 (lst2 (l.take i) n) ∧ v12 = .int .i64 i) (fun _ v12 => N - (intOf v12).toNat)
            case atStart => exact ⟨0, Nat.zero_le _, rfl, rfl⟩
            case round =>
              obtain ⟨i, hi, rfl, rfl⟩ := hrel
              by_cases hin : i < N
              · have hck := HCR.out i hin
                have HP := hid (lst2_snoc l n i (by rw [HN.out]; exact hin))
                obtain ⟨x, hx⟩ : ∃ x, l[i]?.getD 0 = x := ⟨_, rfl⟩
                rw [hx] at hck HP
                clear hx
                obtain ⟨M, hM⟩ : ∃ M, lst2 (l.take i) n = M := ⟨_, rfl⟩
                rw [hM] at HP
                rw [hM]
                clear hM
                by_cases q1 : n ≤ x
                · by_cases q2 : x < M
                  · go_wp2
                    exact ⟨⟨i + 1, by omega, by rw [HP.out, if_pos ⟨q1, q2⟩], by go_num⟩, by simp [intOf]; omega⟩
                  · go_wp2
                    exact ⟨⟨i + 1, by omega, by rw [HP.out, if_neg (by omega)], by go_num⟩, by simp [intOf]; omega⟩
                · go_wp2
                  exact ⟨⟨i + 1, by omega, by rw [HP.out, if_neg (by omega)], by go_num⟩, by simp [intOf]; omega⟩
              · have hii : l.take i = l := List.take_of_length_le (by rw [HN.out]; omega)
                rw [hii]
                have m1 := (HBD.out _ HM2.out.1).2
                have m0 := HM2.out.2.1
                obtain ⟨m', hm'⟩ : ∃ m', lst2 l n = m' := ⟨_, rfl⟩
                rw [hm'] at HM2 m0 m1
                rw [hm']
                clear hm' hii
                obtain ⟨X, hX⟩ : ∃ X : Nat, (m' - n) * ((h : Int) + 1) = (X : Int) := ⟨((m' - n) * ((h : Int) + 1)).toNat, by have := Int.mul_nonneg (show 0 ≤ m' - n by omega) (show 0 ≤ (h : Int) + 1 by omega); omega⟩
                have hX1 : X ≤ 1114112 * 63 := by
                  have a1 : (m' - n) * ((h : Int) + 1) ≤ 1114112 * ((h : Int) + 1) := Int.mul_le_mul_of_nonneg_right (by omega) (by omega)
                  omega
                have HW2 := hid (HW.out.jump m' HM2.out (fun x hx => (HBD.out x hx).2) (dl + X) (by rw [hX]; push_cast; rfl))
                go_wp2_with fail
                go_loopw [4, 8, 9, 10, 13] (fun v4 v8 v9 v10 v13 wi => ∃ (k c : Nat) (a : Option Addr) (dl bias h j : Nat), v4 = .slice a k c ∧ v8 = .int .i64 dl ∧ v9 = .int .i64 bias ∧ v10 = .int .i64 h ∧ v13 = .int .i64 j ∧ j ≤ N ∧ Hid (Rw l w.heap.size w wi (.slice a k c) k h dl bias m' j))
                  (fun _ _ _ _ v13 _ => N - (intOf v13).toNat)
                case atStart => exact ⟨k, c, a, dl + X, bias, h, 0, rfl, by first | rfl | go_num, rfl, rfl, rfl, Nat.zero_le _, HW2⟩
                case round =>
                  clear HW2 HW hX hX1 d1 k1
                  obtain ⟨k, c, a, dl, bias, h, j, rfl, rfl, rfl, rfl, rfl, hj, HV⟩ := hrel
                  have e1 := HV.out.dl_le (by rw [HN.out]; exact hlen)
                  have e2 := HV.out.h_le.1
                  have e3 := HV.out.k_le (by rw [HN.out]; exact hlen)
                  rw [HN.out] at e2
                  by_cases hjn : j < N
                  · have hck : wr.cell? ⟨b, off + j, none⟩ = some (.int .i32 (l[j]?.getD 0)) := (HV.out.be.cell (p := ⟨b, off + j, none⟩) hb).trans (hc j hjn)
                    have HLs := hid (fun h => HV.out.less (by rw [HN.out]; exact hjn) h)
                    have HMo := hid (fun h => HV.out.more (by rw [HN.out]; exact hjn) h)
                    obtain ⟨x, hxx⟩ : ∃ x, l[j]?.getD 0 = x := ⟨_, rfl⟩
                    have HXX := hid hxx
                    rw [hxx] at hck HLs HMo
                    clear hxx
                    rcases Int.lt_trichotomy x m' with hcm | hcm | hcm
                    · go_wp2
                      go_roundw
                      case rel => exact ⟨k, c, a, dl + 1, bias, h, j + 1, rfl, by go_num, rfl, rfl, by go_num, by omega, HLs.out hcm⟩
                      case measure => simp [intOf]; omega
                    · obtain ⟨XX, hXX⟩ : ∃ XX, XX = hd (plain l) ++ tx (plain l).length (Classical.choose HV.out.ex) := ⟨_, rfl⟩
                      have HR4 : Hid (wr.ownsRow w.heap.size 5 1 (.slice a k c) k ((XX ++ []).map (Value.int .u8))) := by
                        show World.ownsRow _ _ _ _ _ _ _
                        rw [List.append_nil, hXX]; exact (Classical.choose_spec HV.out.ex).2.2.2.2.2.2
                      have HPU := hid (fun (w2 : World) (v2 : Value) r2 b2 => HV.out.put (X := XX) (w2 := w2) (v2 := v2) (by rw [HN.out]; exact hlen) (by rw [HN.out]; exact hjn) (HXX.out.trans hcm) hXX r2 b2)
                      have HBE := hid HV.out.be
                      have HX2 := hid hXX
                      have hxm := hid hcm
                      clear hXX
                      have hxn : ¬ (x < m') := by omega
                      go_wp2_with fail
                      go_loopw [4, 14, 15] (fun v4 v14 v15 wi => ∃ (k2 c2 : Nat) (a2 : Option Addr) (Q K : Nat) (acc : List Int), v4 = .slice a2 k2 c2 ∧ v14 = .int .i64 Q ∧ v15 = .int .i64 K ∧ Q ≤ 71303231 ∧ K + Q ≤ 71303267 + 36 * acc.length ∧ acc.length + Q ≤ 71303231 ∧ k2 = k + acc.length ∧ Hid (acc ++ wn bias K Q = wn bias 36 dl) ∧ Hid (wi.ownsRow w.heap.size 5 1 (.slice a2 k2 c2) k2 ((XX ++ acc).map (Value.int .u8))) ∧ Hid (Below w.heap.size w wi))
                        (fun _ v14 _ _ => (intOf v14).toNat)
                      case atStart => exact ⟨k, c, a, dl, 36, [], rfl, rfl, rfl, e1, by simp; omega, by simp; omega, by simp, rfl, HR4, HBE⟩
                      case round =>
                        obtain ⟨k2, c2, a2, Q, K, acc, rfl, rfl, rfl, g1, g2, g3, hk2, g4, HR5, HB5⟩ := hrel
                        have t1 := thr_lo K bias
                        have t2 := thr_hi K bias
                        obtain ⟨t, ht⟩ : ∃ t, thr K bias = t := ⟨_, rfl⟩
                        have HTh := hid ht
                        rw [ht] at t1 t2
                        clear ht
                        have HK2 := hid hk2
                        have k2b : k2 ≤ 20000000000 := by omega
                        clear hk2
                        have z5 := HB5.out.size
                        by_cases hq : Q < t
                        · obtain ⟨y, hy⟩ : ∃ y, y = sgn Q := ⟨_, rfl⟩
                          have HY := hid hy
                          have hs1 := sgn_lt Q (by omega)
                          rw [← hy] at hs1
                          clear hy
                          have HRA := hid (fun (f : Bool) (w : World) => (show Calls Tryz.prog 56 #[.int .i64 dl, .int .i64 ((h : Int) + 1), .bool f] w _ from radapt_any dl (h + 1) f (by omega) (by omega) (by omega) w))
                          go_wp2_with (first
                            | (go_at_call 54; refine (rthr_any K bias (by omega) (by omega) _).mono ?_; rw [HTh.out]; rintro e w' ⟨rfl, hw'⟩; obtain rfl := hw'.symm)
                            | (go_at_call 55; refine (letter_any Q (by omega) _).mono ?_; rw [← HY.out]; rintro e w' ⟨rfl, hw'⟩; obtain rfl := hw'.symm)
                            | (go_at_call 56; refine (HRA.out _ _).mono ?_; rintro e w' ⟨rfl, hw'⟩; obtain rfl := hw'.symm)
                            | (at_builtin; refine wpList_append_own _ rfl _ _ 39 rfl w.heap.size 5 i0 (.int .u8 0) 1 1 Tryz.underlying39 hi0 hz0 hz1 hz2 rfl (by decide) _ _ _ rfl (HR5.out.alloc _) ⟨wr.heap.size, 0, none⟩ 1 1 [.int .u8 y] rfl rfl (news_at _ _ _) (by simp [Value.oneCell']) (by unfold maxLen; omega) (by omega) (by simp; omega) ?_; intro v6 w6 hown6 hgrow6 _; obtain ⟨a6, c6, rfl⟩ := own_sh5 hown6))
                          have b6 : Below w.heap.size w w6 := below_grow (w1 := wr.alloc (.cells #[.int .u8 y] 5)) (HB5.out.alloc HB5.out.size _) (Nat.le_trans HB5.out.size (by simp)) (HR5.out.alloc _) hgrow6
                          have ew := wn_stop HTh.out hq HY.out g4.out
                          have ek : k2 + 1 = k + (wn bias 36 dl).length := by rw [← ew, HK2.out, List.length_append]; simp only [List.length_cons, List.length_nil]; omega
                          have r6 : w6.ownsRow w.heap.size 5 1 (.slice a6 (k2 + 1) c6) (k + (wn bias 36 dl).length) ((XX ++ wn bias 36 dl).map (Value.int .u8)) := by
                            rw [← ek, ← ew, ← List.append_assoc, List.map_append]; exact hown6
                          have P6 := HPU.out w6 _ r6 b6
                          rw [← ek] at P6
                          have eF : ((h : Int) == (m : Int)) = decide (h = (plain l).length) := by
                            rw [← HM.out, Bool.eq_iff_iff]; simp; omega
                          rw [← eF] at P6
                          go_roundw
                          case rel => exact ⟨k2 + 1, c6, a6, 0, adapt dl (h + 1) ((h : Int) == (m : Int)), h + 1, j + 1, rfl, rfl, rfl, by go_num, by go_num, by omega, P6⟩
                          case measure => simp [intOf]; omega
                        · have hqz : (t : Int) ≤ (Q : Int) := by omega
                          have m0' : 0 ≤ ((Q : Int) - t) % (36 - t) := Int.emod_nonneg _ (by omega)
                          have m1' : ((Q : Int) - t) % (36 - t) < 36 - t := Int.emod_lt_of_pos _ (by omega)
                          have q3 : ((Q : Int) - t) % (36 - t) = (((Q - t) % (36 - t) : Nat) : Int) := by
                            rw [Int.natCast_emod, Int.ofNat_sub (by omega), Int.ofNat_sub (by omega)]; rfl
                          have q2 : ((Q : Int) - t) / (36 - t) = (((Q - t) / (36 - t) : Nat) : Int) := by
                            rw [Int.natCast_ediv, Int.ofNat_sub (by omega), Int.ofNat_sub (by omega)]; rfl
                          obtain ⟨z, hz⟩ : ∃ z, z = t + (Q - t) % (36 - t) := ⟨_, rfl⟩
                          have ez : (t : Int) + ((Q : Int) - t) % (36 - t) = (z : Int) := by omega
                          have hz36 : z < 36 := by omega
                          have HZ := hid hz
                          have Q2 := hid q2
                          clear hz q3 q2
                          obtain ⟨y, hy⟩ : ∃ y, y = sgn z := ⟨_, rfl⟩
                          have HY := hid hy
                          have hs1 := sgn_lt z hz36
                          rw [← hy] at hs1
                          clear hy
                          go_wp2_with (first
                            | (go_at_call 54; refine (rthr_any K bias (by omega) (by omega) _).mono ?_; rw [HTh.out]; rintro e w' ⟨rfl, hw'⟩; obtain rfl := hw'.symm)
                            | (go_at_call 55; refine (letter_any z hz36 _).mono ?_; rw [← HY.out]; rintro e w' ⟨rfl, hw'⟩; obtain rfl := hw'.symm)
                            | (at_builtin; refine wpList_append_own _ rfl _ _ 39 rfl w.heap.size 5 i0 (.int .u8 0) 1 1 Tryz.underlying39 hi0 hz0 hz1 hz2 rfl (by decide) _ _ _ rfl (HR5.out.alloc _) ⟨wr.heap.size, 0, none⟩ 1 1 [.int .u8 y] rfl rfl (news_at _ _ _) (by simp [Value.oneCell']) (by unfold maxLen; omega) (by omega) (by simp; omega) ?_; intro v6 w6 hown6 hgrow6 _; obtain ⟨a6, c6, rfl⟩ := own_sh5 hown6))
                          have b6 : Below w.heap.size w w6 := below_grow (w1 := wr.alloc (.cells #[.int .u8 y] 5)) (HB5.out.alloc HB5.out.size _) (Nat.le_trans HB5.out.size (by simp)) (HR5.out.alloc _) hgrow6
                          have q1' : (Q - t) / (36 - t) ≤ Q - t := Nat.div_le_self _ _
                          have r6 : w6.ownsRow w.heap.size 5 1 (.slice a6 (k2 + 1) c6) (k2 + 1) ((XX ++ (acc ++ [y])).map (Value.int .u8)) := by
                            rw [← List.append_assoc, List.map_append]; exact hown6
                          go_roundw
                          case rel =>
                            refine ⟨k2 + 1, c6, a6, (Q - t) / (36 - t), K + 36, acc ++ [y], rfl, by rw [Q2.out], by go_num, by omega, by rw [List.length_append]; simp only [List.length_cons, List.length_nil]; omega, by rw [List.length_append]; simp only [List.length_cons, List.length_nil]; omega, by rw [List.length_append, HK2.out]; rfl, wn_step HTh.out hq HZ.out HY.out g4.out, r6, b6⟩
                          case measure => simp [intOf]; rw [Q2.out]; omega
                    · go_wp2
                      go_roundw
                      case rel => exact ⟨k, c, a, dl, bias, h, j + 1, rfl, rfl, rfl, rfl, by go_num, by omega, HMo.out hcm⟩
                      case measure => simp [intOf]; omega
                  · obtain rfl : j = N := by omega
                    go_wp2
                    go_roundw
                    case rel => exact ⟨k, c, a, m' + 1, dl + 1, bias, h, rfl, by go_num, by go_num, rfl, rfl, Rw.pass (by rw [HN.out]; exact HV.out) m1⟩
                    case measure => exact ups_less l n m' HM2.out
          · obtain ⟨T, hcv, HE, hTk⟩ := HW.out.fin (by rw [HN.out]; omega) (fun x hx => (HBD.out x hx).1)
            have HE' := hid HE
            have HTk := hid hTk
            clear HE hTk
            by_cases h63 : 63 < k
            · go_wp2
              go_ret2
              exact ⟨⟨_, _, rfl, .inr (.inr ⟨by rw [HN.out]; exact hlen, HA.out, _, HE'.out, .inl ⟨by rw [bn_length, HTk.out]; exact h63, rfl, rfl⟩⟩)⟩, HW.out.be⟩
            · go_wp2
              go_ret2
              exact ⟨⟨_, _, rfl, .inr (.inr ⟨by rw [HN.out]; exact hlen, HA.out, _, HE'.out, .inr ⟨by rw [bn_length, HTk.out]; omega, rfl, rfl⟩⟩)⟩, HW.out.be⟩
end Go.Proofs.YtdncaehajhmcoaaGreat.P
/- The contract of works: one word, there and back. -/
namespace Go.Proofs.YtdncaehajhmcoaaGreat.P
open Go.RowKit U
set_option linter.unusedVariables false

def word : List Int := [98, 252, 99, 104, 101, 114]
def wordT : List Int := [98, 99, 104, 101, 114, 45, 107, 118, 97]
theorem word_enc : Enc word wordT := by
  refine ⟨[745], ?_, ?_⟩
  · have e1 : plain word = [98, 99, 104, 101, 114] := by decide
    have e2 : wn 72 36 745 = [107, 118, 97] := by
      rw [wn_more 72 36 745 (by decide), wn_more 72 (36 + 36) _ (by decide), wn_less 72 (36 + 36 + 36) _ (by decide)]
      decide
    rw [e1]
    show _ = hd [98, 99, 104, 101, 114] ++ ([] ++ wn 72 36 745)
    rw [e2]
    decide
  · decide
def t1 : ByteArray := ⟨#[98, 99, 104, 101, 114, 45, 107, 118, 97]⟩
def t2 : ByteArray := ⟨#[57, 57, 57, 57, 57, 57, 57, 57]⟩
theorem bn_t1 : bn t1 = wordT := by decide
theorem word_back : DecP (bn t1) = some word := by rw [bn_t1]; exact (dec_enc word_enc (by decide) (by decide)).1
theorem nines : DecP (bn t2) = none := by
  have e : bn t2 = [57, 57, 57, 57, 57, 57, 57, 57] := by decide
  have e1 : fore [57, 57, 57, 57, 57, 57, 57, 57] = [] := by decide
  have e2 : aft [57, 57, 57, 57, 57, 57, 57, 57] = [57, 57, 57, 57, 57, 57, 57, 57] := by decide
  unfold DecP
  rw [e, e1, e2]
  exact RD_none _ _ _ (by simp) (by decide)
theorem bn_inj {a b : ByteArray} (h : bn a = bn b) : a = b := by
  have h1 : a.data.toList = b.data.toList := by
    unfold bn at h
    have : Function.Injective fun c : UInt8 => (c.toNat : Int) := fun x y hxy => UInt8.toNat_inj.mp (by have h : (x.toNat : Int) = (y.toNat : Int) := hxy; omega)
    exact (List.map_inj_right (fun x y hxy => this hxy)).1 h
  cases a; cases b
  simp at h1
  rw [h1]

theorem ints_new (w : World) (l : List Int) (h : 0 < l.length) : IntsAt (w.alloc (.cells (l.map (Value.int .i32)).toArray 21)) (.slice (some ⟨w.heap.size, 0, none⟩) l.length l.length) l := by
  refine .inr ⟨h, _, _, _, rfl, fun j hj => ?_⟩
  have := news_at w 21 (l.map (Value.int .i32)) j (.int .i32 (l[j]?.getD 0)) (by rw [List.getElem?_map, List.getElem?_eq_getElem hj]; rfl)
  rw [addr_add0] at this
  rw [Nat.zero_add]; exact this
theorem EncR.ok {l : List Int} {t : ByteArray} {r : Int} {T : List Int} (h : EncR l t r) (hl : l.length ≤ 63) (hs : l.all scal = true) (hE : Enc l T) (hT : T.length ≤ 63) : bn t = T ∧ r = 0 := by
  rcases h with h | h | ⟨_, _, T', hE', h⟩
  · omega
  · rw [hs] at h; cases h.2.1
  · obtain rfl := hE'.one hE
    rcases h with h | ⟨_, h1, h2⟩
    · omega
    · exact ⟨h1, h2⟩
theorem DecR.ok {l : List Int} {w' : World} {base : Nat} {v : Value} {r : Int} {pts : List Int} (h : DecR l w' base v r) (hl : l.length ≤ 63) (ha : asc l = true) (hD : DecP l = some pts) : r = 0 ∧ w'.ownsRow base 21 1 v pts.length (pts.map (Value.int .i32)) := by
  rcases h with h | ⟨_, h, _⟩ | ⟨_, _, pts', h1, h2, h3⟩
  · omega
  · rcases h with h | h
    · rw [ha] at h; cases h
    · rw [hD] at h; cases h
  · rw [hD] at h1
    obtain rfl := Option.some.inj h1
    exact ⟨h2, h3⟩
theorem DecR.no {l : List Int} {w' : World} {base : Nat} {v : Value} {r : Int} (h : DecR l w' base v r) (hl : l.length ≤ 63) (hD : DecP l = none) : r = 8 ∧ v = .slice none 0 0 := by
  rcases h with h | ⟨_, _, h1, h2⟩ | ⟨_, _, pts', h1, h2, h3⟩
  · omega
  · exact ⟨h2, h1⟩
  · rw [hD] at h1; cases h1

end Go.Proofs.YtdncaehajhmcoaaGreat.P
/- The document's Encode at every row; PunyWrites' walk. -/
namespace Go.Proofs.YtdncaehajhmcoaaGreat.P
open Go.RowKit U
set_option linter.unusedVariables false

set_option maxRecDepth 100000 in
set_option maxHeartbeats 4000000 in
theorem rencode_none (a : Option Addr) (cap : Nat) (w : World) :
    Calls Tryz.prog 28 #[.slice a 0 cap] w fun e W' => (∃ t r, e = .returned (.tuple #[.string t, .int .i64 r]) ∧ EncR [] t r) ∧ Below w.heap.size w W' := by
  obtain ⟨t, hcv, ht⟩ := conv_string w w.heap.size (.slice none 0 0) 0 [] rfl (fun b hb => by cases hb) (World.ownsRow_nil _ _ _ _)
  have HT : Hid (bn t = []) := ht
  clear ht
  go_enter Tryz.func28, Tryz.ntmps28
  go_wp2_with fail
  refine wp_loop_rounds 1 ?_
  rw [rounds_succ]
  go_wp2_with fail
  refine wp_loop_rounds 1 ?_
  rw [rounds_succ]
  go_wp2
  go_ret2
  exact ⟨⟨_, _, rfl, .inr (.inr ⟨by decide, by decide, [], ⟨[], rfl, rfl⟩, .inr ⟨by decide, HT.out, rfl⟩⟩)⟩, Below.refl _ _⟩
set_option maxRecDepth 100000 in
set_option maxHeartbeats 4000000 in
theorem rencode_big (a : Option Addr) (cap N : Nat) (l : List Int) (hN : l.length = N) (h : 63 < N) (hm : N ≤ 1024) (w : World) :
    Calls Tryz.prog 28 #[.slice a N cap] w fun e W' => (∃ t r, e = .returned (.tuple #[.string t, .int .i64 r]) ∧ EncR l t r) ∧ Below w.heap.size w W' := by
  have HN := hid hN
  clear hN
  go_enter Tryz.func28, Tryz.ntmps28
  go_wp2
  go_ret2
  exact ⟨⟨_, _, rfl, .inl ⟨by rw [HN.out]; exact h, rfl, rfl⟩⟩, Below.refl _ _⟩
theorem rencode_any (v : Value) (l : List Int) (hlen : l.length ≤ 1024) (w : World) (hv : IntsAt w v l) :
    Calls Tryz.prog 28 #[v] w fun e W' => (∃ t r, e = .returned (.tuple #[.string t, .int .i64 r]) ∧ EncR l t r) ∧ Below w.heap.size w W' := by
  by_cases h : 63 < l.length
  · obtain ⟨a, cap, rfl⟩ := ints_sh hv
    exact rencode_big a cap _ l rfl h hlen w
  · rcases hv with ⟨rfl, a, cap, rfl⟩ | ⟨hp, b, off, cap, rfl, hc⟩
    · exact rencode_none a cap w
    · exact rencode_some b off cap _ l rfl (by omega) w hp hc
theorem EncR.one {l : List Int} {t t' : ByteArray} {r r' : Int} (h : EncR l t r) (h' : EncR l t' r') : t = t' ∧ r = r' := by
  rcases h with ⟨a1, a2, a3⟩ | ⟨a1, a2, a3, a4⟩ | ⟨a1, a2, T, a3, a4⟩ <;> rcases h' with ⟨b1, b2, b3⟩ | ⟨b1, b2, b3, b4⟩ | ⟨b1, b2, T', b3, b4⟩
  · exact ⟨a2.trans b2.symm, a3.trans b3.symm⟩
  · omega
  · omega
  · omega
  · exact ⟨a3.trans b3.symm, a4.trans b4.symm⟩
  · rw [a2] at b2; cases b2
  · omega
  · rw [a2] at b2; cases b2
  · obtain rfl := a3.one b3
    rcases a4 with ⟨c1, c2, c3⟩ | ⟨c1, c2, c3⟩ <;> rcases b4 with ⟨d1, d2, d3⟩ | ⟨d1, d2, d3⟩
    · exact ⟨c2.trans d2.symm, c3.trans d3.symm⟩
    · omega
    · omega
    · exact ⟨bn_inj (c2.trans d2.symm), c3.trans d3.symm⟩
set_option maxHeartbeats 400000 in
theorem adapt_no (d p : Int) (first : Bool) (h : d < 0 ∨ p < 1) (w : World) :
    Calls Tryz.prog 143 #[.int .i64 d, .int .i64 p, .bool first] w fun e w' => e = .returned (.int .i64 0) ∧ w' = w := by
  by_cases h0 : d < 0
  · go_enter Tryz.func143, Tryz.ntmps143
    go_wp2
    go_ret
    exact ⟨rfl, rfl⟩
  · have h1 : p < 1 := by omega
    go_enter Tryz.func143, Tryz.ntmps143
    go_wp2
    go_ret
    exact ⟨rfl, rfl⟩
set_option maxHeartbeats 400000 in
theorem radapt_no (d p : Int) (first : Bool) (h : d < 0 ∨ p < 1) (w : World) :
    Calls Tryz.prog 56 #[.int .i64 d, .int .i64 p, .bool first] w fun e w' => e = .returned (.int .i64 0) ∧ w' = w := by
  by_cases h0 : d < 0
  · go_enter Tryz.func56, Tryz.ntmps56
    go_wp2
    go_ret
    exact ⟨rfl, rfl⟩
  · have h1 : p < 1 := by omega
    go_enter Tryz.func56, Tryz.ntmps56
    go_wp2
    go_ret
    exact ⟨rfl, rfl⟩
/-- Both adapt alike. -/
theorem adapt_both (d p : Int) (first : Bool) (hd : d < 1099511627776) (hp : p ≤ 9223372036854775807) : ∃ A : Int, ∀ w : World,
    (Calls Tryz.prog 143 #[.int .i64 d, .int .i64 p, .bool first] w fun e w' => e = .returned (.int .i64 A) ∧ w' = w) ∧ (Calls Tryz.prog 56 #[.int .i64 d, .int .i64 p, .bool first] w fun e w' => e = .returned (.int .i64 A) ∧ w' = w) := by
  by_cases h : d < 0 ∨ p < 1
  · exact ⟨0, fun w => ⟨adapt_no d p first h w, radapt_no d p first h w⟩⟩
  · obtain ⟨D, rfl⟩ : ∃ D : Nat, d = (D : Int) := ⟨d.toNat, by omega⟩
    obtain ⟨P, rfl⟩ : ∃ P : Nat, p = (P : Int) := ⟨p.toNat, by omega⟩
    exact ⟨_, fun w => ⟨adapt_any D P first (by omega) (by omega) (by omega) w, radapt_any D P first (by omega) (by omega) (by omega) w⟩⟩

end Go.Proofs.YtdncaehajhmcoaaGreat.P
