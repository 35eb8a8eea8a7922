/- Texts of one layer, one behind the other: PRD PRE. -/
import Derived.Test.YtdncaehajhmcoaaGreatZP8
/- The document's Decode: the same answers. -/
namespace Go.Proofs.YtdncaehajhmcoaaGreat.P
open Go.RowKit U
set_option linter.unusedVariables false

theorem cutK_snoc (s : ByteArray) (k : Nat) (h : k < s.size) : cutK (bn s) (k + 1) = if (s[k].toNat : Int) = 45 then k else cutK (bn s) k := by
  rw [cutK, bn_get s k h]

theorem sizeOf22 (W : World) : (sizeOf (Tryz.prog.elem 34)).run Tryz.prog W = .ok 1 W := by kernel_rfl
/-- What stands ahead of a place, and what stands from it on. -/
theorem cut_any {W : World} {base m cap i : Nat} {a : Option Addr} {Z : List Int} (h : W.ownsRow base 21 1 (.slice a m cap) m (Z.map (Value.int .i32))) (hn : Z.length = m) (hi : i ≤ m) (hsz : m ≤ 100000) :
    ∃ vl vr, (∀ W2, (Instr.slice 34 (.slice a m cap) none (some (.int .i64 (i : Int))) none).run Tryz.prog W2 = .ok vl W2) ∧
      (∀ W2, (Instr.slice 34 (.slice a m cap) (some (.int .i64 (i : Int))) none none).run Tryz.prog W2 = .ok vr W2) ∧
      U.SrcInts W vl (Z.take i) ∧ U.SrcInts W vr (Z.drop i) := by
  rcases id h.2 with ⟨e, h0⟩ | ⟨g, cap', cur, e, _, _, hnc, _⟩
  · cases e
    obtain rfl : i = 0 := by omega
    have hz : Z = [] := List.length_eq_zero_iff.1 hn
    subst hz
    refine ⟨.slice none 0 0, .slice none 0 0, fun W2 => ?_, fun W2 => ?_, .inl ⟨rfl, rfl⟩, .inl ⟨rfl, rfl⟩⟩
    · rw [run_slice_h W2 34 none 0 0 (by kernel_rfl) .i64 ((0 : Nat) : Int) (by omega) (by omega), sizeOf22 W2]
      simp [Result.andThen, sliced]
    · rw [run_slice_l W2 34 none 0 0 (by kernel_rfl) .i64 ((0 : Nat) : Int) (by omega) (by omega), sizeOf22 W2]
      simp [Result.andThen, sliced]
  · cases e
    have ht : (Z.take i).length = i := by rw [List.length_take]; omega
    have hd : (Z.drop i).length = m - i := by rw [List.length_drop]; omega
    have hc : ∀ j, j < m → W.cell? ⟨g, j, none⟩ = some (.int .i32 (Z[j]?.getD 0)) := fun j hj => by
      rw [h.cellAt j (by omega), List.getElem?_map, List.getElem?_eq_getElem (by omega)]; rfl
    refine ⟨.slice (some ⟨g, 0, none⟩) i cap, .slice (if cap = i then some ⟨g, 0, none⟩ else some ⟨g, i, none⟩) (m - i) (cap - i), fun W2 => ?_, fun W2 => ?_, ?_, ?_⟩
    · rw [run_slice_h W2 34 (some ⟨g, 0, none⟩) m cap (by kernel_rfl) .i64 (i : Int) (by omega) (by omega), sizeOf22 W2]
      simp only [Result.andThen, sliced, Int.toNat_natCast]
      split <;> simp [Addr.add]
    · rw [run_slice_l W2 34 (some ⟨g, 0, none⟩) m cap (by kernel_rfl) .i64 (i : Int) (by omega) (by omega), sizeOf22 W2]
      simp only [Result.andThen, sliced, Int.toNat_natCast]
      split
      · simp
      · simp [Addr.add]
        omega
    · refine .inr ⟨⟨g, 0, none⟩, cap, by rw [ht], fun j hj => ?_⟩
      rw [ht] at hj
      rw [U.addr_add0, hc j (by omega), List.getElem?_take_of_lt hj]
    · by_cases hm : cap = i
      · refine .inr ⟨⟨g, 0, none⟩, _, by rw [if_pos hm, hd], fun j hj => ?_⟩
        rw [hd] at hj; omega
      · refine .inr ⟨⟨g, i, none⟩, _, by rw [if_neg hm, hd], fun j hj => ?_⟩
        rw [hd] at hj
        rw [Addr.add_lit, hc (i + j) (by omega), List.getElem?_drop]

set_option maxRecDepth 100000 in
set_option maxHeartbeats 20000000 in
theorem rdecode_some (s : ByteArray) (h63 : s.size ≤ 63) (w : World) :
    Calls Tryz.prog 70 #[.string s] w fun e W' => (∃ v r, e = .returned (.tuple #[v, .int .i64 r]) ∧ DecR (bn s) W' w.heap.size v r) ∧ Below w.heap.size w W' := by
  have HL : Hid ((bn s).length ≤ 63) := by show _ ≤ _; rw [bn_length]; exact h63
  go_enter Tryz.func70, Tryz.ntmps70
  go_wp2_with fail
  go_loop [4, 5] (fun v4 v5 => ∃ k q : Nat, k ≤ s.size ∧ q ≤ k ∧ v4 = .int .i64 q ∧ v5 = .int .i64 k ∧ Hid (q = cutK (bn s) k) ∧ Hid (asc ((bn s).take k) = true)) (fun _ v5 => s.size - (intOf v5).toNat)
  case atStart => exact ⟨0, 0, Nat.zero_le _, Nat.le_refl _, rfl, rfl, rfl, rfl⟩
  case round =>
    obtain ⟨k, q, hk, hqk, rfl, rfl, HQ, HA⟩ := hrel
    by_cases hlt : k < s.size
    · have HS := hid (asc_snoc s k hlt)
      have HC := hid (cutK_snoc s k hlt)
      by_cases hb : 128 ≤ (s[k].toNat : Int)
      · have HF := hid (asc_false s k hlt hb)
        go_wp2
        go_ret2
        exact ⟨⟨_, _, rfl, .inr (.inl ⟨HL.out, .inl HF.out, rfl, rfl⟩)⟩, Below.refl _ _⟩
      · have HAn : Hid (asc ((bn s).take (k + 1)) = true) := by show _ = _; rw [HS.out, HA.out]; simp; omega
        by_cases hh : (s[k].toNat : Int) = 45
        · have HC2 : Hid (k = cutK (bn s) (k + 1)) := by show _ = _; rw [HC.out, if_pos hh]
          go_wp2
          exact ⟨⟨k + 1, k, by omega, by omega, rfl, by go_num, HC2, HAn⟩, by simp [intOf]; omega⟩
        · have HC2 : Hid (q = cutK (bn s) (k + 1)) := by show _ = _; rw [HC.out, if_neg hh]; exact HQ.out
          go_wp2
          exact ⟨⟨k + 1, q, by omega, by omega, rfl, by go_num, HC2, HAn⟩, by simp [intOf]; omega⟩
    · have hkk : k = s.size := by omega
      have HAs : Hid (asc (bn s) = true) := by
        have := HA.out
        rw [hkk, List.take_of_length_le (by rw [bn_length]; exact Nat.le_refl _)] at this
        exact this
      have HQs : Hid (q = cutAt (bn s)) := by show _ = _; rw [HQ.out, hkk, cutAt, bn_length]
      have hqs : q ≤ s.size := by omega
      clear HQ HA hkk
      go_wp2_with fail
      go_loopw [6, 7] (fun v6 v7 wr => ∃ (i c : Nat) (a : Option Addr), i ≤ q ∧ v6 = .slice a i c ∧ v7 = .int .i64 i ∧ Hid (wr.ownsRow w.heap.size 21 1 (.slice a i c) i (((bn s).take i).map (Value.int .i32))) ∧ Hid (Below w.heap.size w wr))
        (fun _ v7 _ => q - (intOf v7).toNat)
      case atStart => exact ⟨0, 0, none, Nat.zero_le _, rfl, rfl, World.ownsRow_nil _ _ _ _, Below.refl _ _⟩
      case round =>
        obtain ⟨i, c, a, hi, rfl, rfl, HR, HB⟩ := hrel
        by_cases hiq : i < q
        · have his : i < s.size := by omega
          have HT := hid (bn_take s i his)
          have z := HB.out.size
          obtain ⟨x, hx⟩ : ∃ x, (s[i].toNat : Int) = x := ⟨_, rfl⟩
          have x0 : 0 ≤ x := by omega
          have x1 : x ≤ 255 := by have := s[i].toNat_lt; omega
          rw [hx] at HT
          go_wp2_with (at_builtin; refine U.wpList_append_ints rfl _ _ rfl w.heap.size _ i ((bn s).take i) rfl (HR.out.alloc _) _ [x] rfl (.inr ⟨⟨wr.heap.size, 0, none⟩, 1, rfl, fun j hj => by (have hj0 : j = 0 := by (simp only [List.length_cons, List.length_nil] at hj; omega)); subst hj0; rw [addr_add0]; exact (Boxed.new wr 21 (.int .i32 x)).cell⟩) (by simp only [List.length_cons, List.length_nil]; omega) (by simp; omega) ?_; intro v1 w1 r1 g1; simp only [List.length_cons, List.length_nil, Nat.zero_add] at r1; obtain ⟨a1, c1, rfl⟩ := own_sh21 r1)
          go_roundw
          case rel =>
            refine ⟨i + 1, c1, a1, by omega, rfl, by go_num, ?_, below_grow (w1 := wr.alloc (.cells #[.int .i32 x] 21)) (HB.out.alloc HB.out.size _) (Nat.le_trans HB.out.size (by simp)) (HR.out.alloc _) g1⟩
            show World.ownsRow _ _ _ _ _ _ _
            rw [HT.out]; exact r1
          case measure => simp [intOf]; omega
        · have hiq2 : i = q := by omega
          subst hiq2
          have HF : Hid ((bn s).take i = fore (bn s)) := by show _ = _; rw [fore, ← HQs.out]
          rw [HF.out] at HR
          have hfl : (fore (bn s)).length = i := by rw [← HF.out, List.length_take, bn_length]; omega
          have HFL := hid hfl
          have HW := hid (cutK_at (bn s) (bn s).length)
          clear hfl
          go_upto_if 51 with fail
          go_cut [8] from 51 (fun v8 wc => ∃ t : Nat, v8 = .int .i64 t ∧ t ≤ s.size ∧ Hid (aft (bn s) = (bn s).drop t) ∧ wr = wc)
          case first =>
            by_cases hq0 : i = 0
            · subst hq0
              go_wp2_with fail
              go_meet
              case rel => exact ⟨0, rfl, Nat.zero_le _, by show _ = _; rw [aft, if_pos HQs.out.symm]; rfl, rfl⟩
            · have hlt2 : i < s.size := by
                have h1 := HQs.out
                have h2 := (HW.out (by show cutAt (bn s) ≠ 0; omega)).2
                change cutAt (bn s) < _ at h2
                rw [bn_length] at h2; omega
              go_wp2_with fail
              go_meet
              case rel => exact ⟨i + 1, by go_num, by omega, by show _ = _; rw [aft, if_neg (by rw [← HQs.out]; exact hq0), ← HQs.out], rfl⟩
          case rest =>
            obtain ⟨t0, rfl, ht0, HAf, rfl⟩ := hcut
            have HD0 : Hid (DecP (bn s) = RD ⟨128, 0, fore (bn s)⟩ 72 ((bn s).drop t0)) := by show _ = _; rw [DecP, HAf.out]; rfl
            go_wp2_with fail
            go_loopw [6, 8, 9, 10, 11] (fun v6 v8 v9 v10 v11 wr => ∃ (a : Option Addr) (c p t ii b : Nat) (n : Int) (pts : List Int), v6 = .slice a p c ∧ v8 = .int .i64 t ∧ v9 = .int .i64 n ∧ v10 = .int .i64 ii ∧ v11 = .int .i64 b ∧ t ≤ s.size ∧ p ≤ i + t ∧ ii ≤ p ∧ 128 ≤ n ∧ n ≤ 1114111 ∧ b ≤ 100000000000 ∧ Hid (pts.length = p) ∧ Hid (wr.ownsRow w.heap.size 21 1 (.slice a p c) p (pts.map (Value.int .i32))) ∧ Hid (DecP (bn s) = RD ⟨n, ii, pts⟩ b ((bn s).drop t)) ∧ Hid (Below w.heap.size w wr))
              (fun _ v8 _ _ _ _ => s.size - (intOf v8).toNat)
            case atStart => exact ⟨a, c, i, t0, 0, 72, 128, fore (bn s), rfl, rfl, rfl, rfl, rfl, ht0, by omega, Nat.zero_le _, by omega, by omega, by omega, HFL, HR, HD0, HB⟩
            case round =>
              clear HD0 HAf HR HB HW
              obtain ⟨a, c, p, t, ii, b, n, pts, rfl, rfl, rfl, rfl, rfl, g1, g2, g3, g4, g5, g6, HPL, HR, HD, HB⟩ := hrel
              by_cases hts : t < s.size
              · have HNo : Hid (rn b 36 ii 1 ((bn s).drop t) = none → DecP (bn s) = none) := fun h => by
                  rw [HD.out]
                  exact RD_none _ _ _ (by rw [bn_drop s t hts]; simp) h
                go_wp2_with fail
                go_loop [8, 10, 13, 14] (fun v8 v10 v13 v14 => ∃ T I W K : Nat, v8 = .int .i64 T ∧ v10 = .int .i64 I ∧ v13 = .int .i64 W ∧ v14 = .int .i64 K ∧ T ≤ s.size ∧ t ≤ T ∧ I ≤ 2147483647 ∧ W ≤ 2147483647 ∧ K ≤ 36 + 36 * T ∧ ii ≤ I ∧ Hid (rn b 36 ii 1 ((bn s).drop t) = rn b K I W ((bn s).drop T)))
                  (fun v8 _ _ _ => s.size - (intOf v8).toNat)
                case atStart => exact ⟨t, ii, 1, 36, rfl, rfl, rfl, rfl, by omega, Nat.le_refl _, by omega, by omega, by omega, Nat.le_refl _, rfl⟩
                case round =>
                  obtain ⟨T, I, W, K, rfl, rfl, rfl, rfl, f1, f2, f3, f4, f5, f6, HRn⟩ := hrel
                  by_cases hTs : T < s.size
                  · have HBD := hid (bn_drop s T hTs)
                    rw [HBD.out] at HRn
                    have x0 : (0 : Int) ≤ (s[T].toNat : Int) := by omega
                    have x1 : (s[T].toNat : Int) ≤ 255 := by have := s[T].toNat_lt; omega
                    have hTn : ¬ ((T : Int) = (s.size : Int)) := by omega
                    cases hg : dg (s[T].toNat : Int) with
                    | none =>
                      have HG := hid hg
                      clear hg
                      go_wp2_with (go_at_call 98; refine (rdigit_none _ x0 x1 HG.out _).mono ?_; rintro e w' ⟨rfl, hw'⟩; obtain rfl := hw'.symm)
                      go_ret2
                      exact ⟨⟨_, _, rfl, .inr (.inl ⟨HL.out, .inr (HNo.out (HRn.out.trans (rn_bad _ _ _ _ _ _ HG.out))), rfl, rfl⟩)⟩, HB.out⟩
                    | some d =>
                      have HG := hid hg
                      have hd := (sgn_of _ d hg).2
                      clear hg
                      have t1 := thr_lo K b
                      have t2 := thr_hi K b
                      obtain ⟨u, hu⟩ : ∃ u, thr K b = u := ⟨_, rfl⟩
                      have HU := hid hu
                      rw [hu] at t1 t2
                      clear hu
                      have p1 : d * W ≤ 35 * 2147483647 := Nat.mul_le_mul (by omega) f4
                      have p2 : W * (36 - u) ≤ 2147483647 * 35 := Nat.mul_le_mul f4 (by omega)
                      obtain ⟨X, hX⟩ : ∃ X, d * W = X := ⟨_, rfl⟩
                      obtain ⟨Y, hY⟩ : ∃ Y, W * (36 - u) = Y := ⟨_, rfl⟩
                      have eX : (d : Int) * (W : Int) = (X : Int) := by rw [← hX]; push_cast; rfl
                      have eY : (W : Int) * (36 - (u : Int)) = (Y : Int) := by rw [← hY]; push_cast [Int.ofNat_sub (show u ≤ 36 by omega)]; rfl
                      have HX := hid hX
                      have HY := hid hY
                      rw [hX] at p1
                      rw [hY] at p2
                      clear hX hY
                      by_cases q1 : 2147483647 < I + X
                      · go_wp2_with (go_at_call 98; refine (rdigit_some _ d HG.out _).mono ?_; rintro e w' ⟨rfl, hw'⟩; obtain rfl := hw'.symm)
                        go_ret2
                        exact ⟨⟨_, _, rfl, .inr (.inl ⟨HL.out, .inr (HNo.out (HRn.out.trans (rn_big _ _ _ _ d _ _ HG.out (by rw [HX.out]; exact q1)))), rfl, rfl⟩)⟩, HB.out⟩
                      · by_cases q2 : d < u
                        · have HR2 : Hid (rn b 36 ii 1 ((bn s).drop t) = some (I + X, (bn s).drop (T + 1))) := by
                            show _ = _
                            rw [HRn.out, rn_end _ _ _ _ d _ _ HG.out (by rw [HX.out]; exact q1) (by rw [HU.out]; exact q2), HX.out]
                          obtain ⟨j, hj⟩ : ∃ j, I + X = j := ⟨_, rfl⟩
                          rw [hj] at HR2
                          have ej : (I : Int) + (X : Int) = (j : Int) := by omega
                          have j1 : j ≤ 2147483647 := by omega
                          have hij : ii ≤ j := by omega
                          clear hj HRn HNo q1
                          obtain ⟨P, hP⟩ : ∃ P, p + 1 = P := ⟨_, rfl⟩
                          have hP1 : 1 ≤ P := by omega
                          have hP2 : P ≤ 3000 := by omega
                          have qd := Nat.div_le_self j P
                          have r1 := Nat.mod_lt j (show 0 < P by omega)
                          have HST : Hid ((⟨n, ii, pts⟩ : St).step (j - ii) = ⟨n + ((j / P : Nat) : Int), j % P + 1, pts.take (j % P) ++ (n + ((j / P : Nat) : Int)) :: pts.drop (j % P)⟩) := by
                            show _ = _
                            have := step_eq ⟨n, ii, pts⟩ j hij
                            rw [show (⟨n, ii, pts⟩ : St).pts.length + 1 = P by show pts.length + 1 = P; rw [HPL.out]; exact hP] at this
                            exact this
                          obtain ⟨Q, hQ⟩ : ∃ Q, j / P = Q := ⟨_, rfl⟩
                          obtain ⟨R, hR⟩ : ∃ R, j % P = R := ⟨_, rfl⟩
                          have eQ : (j : Int) / ((p : Int) + 1) = (Q : Int) := by rw [← hQ, ← hP]; push_cast; rfl
                          have eR : (j : Int) % ((p : Int) + 1) = (R : Int) := by rw [← hR, ← hP]; push_cast; rfl
                          rw [hQ, hR] at HST
                          rw [hQ] at qd
                          rw [hR] at r1
                          have rp : R ≤ p := by omega
                          clear hQ hR hP
                          obtain ⟨D, hD⟩ : ∃ D, j - ii = D := ⟨_, rfl⟩
                          have ed : (j : Int) - (ii : Int) = (D : Int) := by omega
                          have d1 : D ≤ 2147483647 := by omega
                          rw [hD] at HST
                          have HDD := hid hD
                          clear hD
                          have HAL := hid (adapt_le D (p + 1))
                          have HA := hid (fun (f : Bool) (w : World) => (show Calls Tryz.prog 56 #[.int .i64 D, .int .i64 ((p : Int) + 1), .bool f] w _ from radapt_any D (p + 1) f (by omega) (by omega) (by omega) w))
                          cases hsc : scal (n + (Q : Int)) with
                          | false =>
                            have HO : Hid (DecP (bn s) = none) := by
                              show _ = _
                              rw [HD.out]
                              exact RD_bad _ _ _ _ _ HR2.out (by show scal ((⟨n, ii, pts⟩ : St).step (j - ii)).n = false; rw [HDD.out, HST.out]; exact hsc)
                            have HSC := hid hsc
                            clear hsc
                            by_cases hbig : 1114111 < n + (Q : Int)
                            · go_wp2_with (first
                                | (go_at_call 98; refine (rdigit_some _ d HG.out _).mono ?_; rintro e w' ⟨rfl, hw'⟩; obtain rfl := hw'.symm)
                                | (go_at_call 54; refine (rthr_any K b (by omega) (by omega) _).mono ?_; rw [HU.out]; rintro e w' ⟨rfl, hw'⟩; obtain rfl := hw'.symm)
                                | (go_at_call 56; refine (HA.out _ _).mono ?_; rintro e w' ⟨rfl, hw'⟩; obtain rfl := hw'.symm))
                              go_ret2
                              exact ⟨⟨_, _, rfl, .inr (.inl ⟨HL.out, .inr HO.out, rfl, rfl⟩)⟩, HB.out⟩
                            · go_wp2_with (first
                                | (go_at_call 98; refine (rdigit_some _ d HG.out _).mono ?_; rintro e w' ⟨rfl, hw'⟩; obtain rfl := hw'.symm)
                                | (go_at_call 54; refine (rthr_any K b (by omega) (by omega) _).mono ?_; rw [HU.out]; rintro e w' ⟨rfl, hw'⟩; obtain rfl := hw'.symm)
                                | (go_at_call 56; refine (HA.out _ _).mono ?_; rintro e w' ⟨rfl, hw'⟩; obtain rfl := hw'.symm)
                                | (go_at_call 53; refine (refScalar_any _ _).mono ?_; rw [HSC.out]; rintro e w' ⟨rfl, hw'⟩; obtain rfl := hw'.symm))
                              go_ret2
                              exact ⟨⟨_, _, rfl, .inr (.inl ⟨HL.out, .inr HO.out, rfl, rfl⟩)⟩, HB.out⟩
                          | true =>
                            have hsl := scal_le hsc
                            have HO : Hid (DecP (bn s) = RD ⟨n + (Q : Int), R + 1, pts.take R ++ (n + (Q : Int)) :: pts.drop R⟩ (adapt D (p + 1) (ii == 0)) ((bn s).drop (T + 1))) := by
                              show _ = _
                              have e := RD_next _ _ _ _ _ HR2.out (by show scal ((⟨n, ii, pts⟩ : St).step (j - ii)).n = true; rw [HDD.out, HST.out]; exact hsc)
                              rw [HD.out, e]
                              show RD ((⟨n, ii, pts⟩ : St).step (j - ii)) (adapt (j - ii) (pts.length + 1) (ii == 0)) _ = _
                              rw [HDD.out, HST.out, HPL.out]
                            have HSC := hid hsc
                            clear hsc
                            obtain ⟨vl, vr, hs1, hs2, sl, sr⟩ := cut_any (i := R) HR.out HPL.out rp (by omega)
                            have SL := hid sl
                            have SR := hid sr
                            have hl1 : (pts.take R).length = R := by rw [List.length_take, HPL.out]; omega
                            have hl2 : (pts.drop R).length = p - R := by rw [List.length_drop, HPL.out]
                            have HL1 := hid hl1
                            have HL2 := hid hl2
                            have HBB : Hid ((((ii : Int) == 0) : Bool) = (ii == 0)) := by
                              show _ = _
                              cases ii with
                              | zero => rfl
                              | succ k => simp; omega
                            have hal := HAL.out ((ii : Int) == 0) (by omega)
                            have hwp : IntKind.i64.wrap ((R : Int) + 1) = (R : Int) + 1 := by rw [IntKind.wrap_i64]; omega
                            clear sl sr hl1 hl2 HST HD HR2
                            obtain ⟨x, hx⟩ : ∃ x, n + (Q : Int) = x := ⟨_, rfl⟩
                            rw [hx] at hsl HO HSC
                            have h7 : ∀ W7 v7, W7.ownsRow wr.heap.size 21 1 v7 (0 + (pts.take R).length) (([] ++ pts.take R).map (Value.int .i32)) → wr.grownBy W7 (Value.slice none 0 0).ownBlock → ∃ a7 c7, v7 = .slice a7 R c7 ∧ W7.ownsRow wr.heap.size 21 1 v7 R ((pts.take R).map (Value.int .i32)) ∧ Below wr.heap.size wr W7 := fun W7 v7 r7 g7 => by
                              rw [HL1.out, Nat.zero_add, List.nil_append] at r7
                              obtain ⟨a7, c7, rfl⟩ := own_sh21 r7
                              exact ⟨a7, c7, rfl, r7, (Below.refl _ _).grown g7 (Nat.le_refl _) (fun k e => by simp [Value.ownBlock] at e)⟩
                            have H7 := hid h7
                            have h8 : ∀ (W7 W8 : World) (v7 v8 : Value), W7.ownsRow wr.heap.size 21 1 v7 R ((pts.take R).map (Value.int .i32)) → Below wr.heap.size wr W7 → W8.ownsRow wr.heap.size 21 1 v8 (R + [x].length) ((pts.take R ++ [x]).map (Value.int .i32)) → (W7.alloc (.cells #[.int .i32 x] 21)).grownBy W8 v7.ownBlock → ∃ a8 c8, v8 = .slice a8 (R + 1) c8 ∧ W8.ownsRow wr.heap.size 21 1 v8 (R + 1) ((pts.take R ++ [x]).map (Value.int .i32)) ∧ Below wr.heap.size wr W8 := fun W7 W8 v7 v8 r7 b7 r8 g8 => by
                              simp only [List.length_cons, List.length_nil, Nat.zero_add] at r8
                              obtain ⟨a8, c8, rfl⟩ := own_sh21 r8
                              exact ⟨a8, c8, rfl, r8, below_grow (w1 := W7.alloc (.cells #[.int .i32 x] 21)) (b7.alloc b7.size _) (Nat.le_trans b7.size (by simp)) (r7.alloc _) g8⟩
                            have H8 := hid h8
                            have h9 : ∀ (W8 W9 : World) (v8 v9 : Value), W8.ownsRow wr.heap.size 21 1 v8 (R + 1) ((pts.take R ++ [x]).map (Value.int .i32)) → Below wr.heap.size wr W8 → W9.ownsRow wr.heap.size 21 1 v9 (R + 1 + (pts.drop R).length) ((pts.take R ++ [x] ++ pts.drop R).map (Value.int .i32)) → W8.grownBy W9 v8.ownBlock → ∃ a9 c9, v9 = .slice a9 (p + 1) c9 ∧ Hid (W9.ownsRow w.heap.size 21 1 v9 (p + 1) ((pts.take R ++ x :: pts.drop R).map (Value.int .i32))) ∧ Hid (Below w.heap.size w W9) := fun W8 W9 v8 v9 r8 b8 r9 g9 => by
                              rw [HL2.out, show R + 1 + (p - R) = p + 1 by omega, List.append_assoc] at r9
                              obtain ⟨a9, c9, rfl⟩ := own_sh21 r9
                              have b9 : Below wr.heap.size wr W9 := b8.grown g9 b8.size (fun k e => (r8.lt k e).1)
                              exact ⟨a9, c9, rfl, own_base r9 HB.out.size, HB.out.trans (b9.mono HB.out.size)⟩
                            have H9 := hid h9
                            clear h7 h8 h9
                            go_wp2_with (first
                              | (go_at_call 98; refine (rdigit_some _ d HG.out _).mono ?_; rintro e w' ⟨rfl, hw'⟩; obtain rfl := hw'.symm)
                              | (go_at_call 54; refine (rthr_any K b (by omega) (by omega) _).mono ?_; rw [HU.out]; rintro e w' ⟨rfl, hw'⟩; obtain rfl := hw'.symm)
                              | (go_at_call 56; refine (HA.out _ _).mono ?_; rintro e w' ⟨rfl, hw'⟩; obtain rfl := hw'.symm)
                              | (go_at_call 53; refine (refScalar_any _ _).mono ?_; rw [HSC.out]; rintro e w' ⟨rfl, hw'⟩; obtain rfl := hw'.symm)
                              | (at_builtin; refine U.wpList_append_ints rfl _ _ rfl wr.heap.size (.slice none 0 0) 0 [] rfl (World.ownsRow_nil _ _ _ _) _ (pts.take R) rfl SL.out (by have := HL1.out; omega) (Nat.le_refl _) ?_; intro v7 W7 r7 g7; obtain ⟨a7, c7, rfl, r7', b7'⟩ := H7.out W7 v7 r7 g7; clear r7 g7; have R7 := hid r7'; have B7 := hid b7'; clear r7' b7')
                              | (at_builtin; refine U.wpList_append_ints rfl _ _ rfl wr.heap.size (.slice a7 R c7) R (pts.take R) rfl (R7.out.alloc _) _ [x] rfl (.inr ⟨⟨W7.heap.size, 0, none⟩, 1, rfl, fun j hj => by (have hj0 : j = 0 := by (simp only [List.length_cons, List.length_nil] at hj; omega)); subst hj0; rw [addr_add0]; exact (Boxed.new W7 21 (.int .i32 x)).cell⟩) (by simp only [List.length_cons, List.length_nil]; omega) (by have := B7.out.size; simp; omega) ?_; intro v8 W8 r8 g8; obtain ⟨a8, c8, rfl, r8', b8'⟩ := H8.out W7 W8 _ v8 R7.out B7.out r8 g8; clear r8 g8; have R8 := hid r8'; have B8 := hid b8'; clear r8' b8')
                              | (at_builtin; refine U.wpList_append_ints rfl _ _ rfl wr.heap.size (.slice a8 (R + 1) c8) (R + 1) (pts.take R ++ [x]) rfl R8.out _ (pts.drop R) rfl (U.SrcInts.below B8.out (Nat.le_refl _) SR.out) (by have := HL2.out; omega) B8.out.size ?_; intro v9 W9 r9 g9; obtain ⟨a9, c9, rfl, R9, B9⟩ := H9.out W8 W9 _ v9 R8.out B8.out r9 g9; clear r9 g9))
                            go_roundw
                            case rel =>
                              refine ⟨a9, c9, p + 1, T + 1, R + 1, adapt D (p + 1) ((ii : Int) == 0), x, pts.take R ++ x :: pts.drop R, rfl, by go_num, rfl, by go_num, by first | rfl | go_num, by omega, by omega, by omega, by omega, by omega, by omega, ?_, R9, ?_, B9⟩
                              · show _ = _
                                rw [List.length_append, List.length_cons, HL1.out, HL2.out]; omega
                              · show _ = _
                                rw [HO.out, HBB.out]
                            case measure => simp [intOf]; omega
                        · by_cases q3 : 2147483647 < Y
                          · go_wp2_with (first | (go_at_call 98; refine (rdigit_some _ d HG.out _).mono ?_; rintro e w' ⟨rfl, hw'⟩; obtain rfl := hw'.symm) | (go_at_call 54; refine (rthr_any K b (by omega) (by omega) _).mono ?_; rw [HU.out]; rintro e w' ⟨rfl, hw'⟩; obtain rfl := hw'.symm))
                            go_ret2
                            exact ⟨⟨_, _, rfl, .inr (.inl ⟨HL.out, .inr (HNo.out (HRn.out.trans (rn_wide _ _ _ _ d _ _ HG.out (by rw [HX.out]; exact q1) (by rw [HU.out]; exact q2) (by rw [HU.out, HY.out]; exact q3)))), rfl, rfl⟩)⟩, HB.out⟩
                          · go_wp2_with (first | (go_at_call 98; refine (rdigit_some _ d HG.out _).mono ?_; rintro e w' ⟨rfl, hw'⟩; obtain rfl := hw'.symm) | (go_at_call 54; refine (rthr_any K b (by omega) (by omega) _).mono ?_; rw [HU.out]; rintro e w' ⟨rfl, hw'⟩; obtain rfl := hw'.symm))
                            refine ⟨⟨T + 1, I + X, Y, K + 36, by go_num, by first | rfl | go_num, rfl, by go_num, by omega, by omega, by omega, by omega, by omega, by omega, ?_⟩, by simp [intOf]; omega⟩
                            show _ = _
                            rw [HRn.out, rn_on _ _ _ _ d _ _ HG.out (by rw [HX.out]; exact q1) (by rw [HU.out]; exact q2) (by rw [HU.out, HY.out]; exact q3), HX.out, HU.out, HY.out]
                  · have hTe : T = s.size := by omega
                    have hTe2 : (T : Int) = (s.size : Int) := by omega
                    rw [bn_drop_nil s T (by omega)] at HRn
                    clear hTe
                    go_wp2
                    go_ret2
                    exact ⟨⟨_, _, rfl, .inr (.inl ⟨HL.out, .inr (HNo.out (HRn.out.trans (rn_nil _ _ _ _))), rfl, rfl⟩)⟩, HB.out⟩
              · have HO : Hid (DecP (bn s) = some pts) := by
                  show _ = _
                  rw [HD.out, bn_drop_nil s t (by omega)]; rfl
                go_wp2
                go_ret2
                exact ⟨⟨_, _, rfl, .inr (.inr ⟨HL.out, HAs.out, pts, HO.out, rfl, by rw [HPL.out]; exact HR.out⟩)⟩, HB.out⟩
end Go.Proofs.YtdncaehajhmcoaaGreat.P
/- The document's Decode at every text; PunyReads' walk. -/
namespace Go.Proofs.YtdncaehajhmcoaaGreat.P
open Go.RowKit U
set_option linter.unusedVariables false

set_option maxRecDepth 100000 in
set_option maxHeartbeats 4000000 in
theorem rdecode_any (s : ByteArray) (w : World) :
    Calls Tryz.prog 70 #[.string s] w fun e W' => (∃ v r, e = .returned (.tuple #[v, .int .i64 r]) ∧ DecR (bn s) W' w.heap.size v r) ∧ Below w.heap.size w W' := by
  by_cases h : s.size ≤ 63
  · exact rdecode_some s h w
  · have h1 : 63 < s.size := by omega
    go_enter Tryz.func70, Tryz.ntmps70
    go_wp2
    go_ret2
    exact ⟨⟨_, _, rfl, .inl ⟨by rw [bn_length]; exact h1, rfl, rfl⟩⟩, Below.refl _ _⟩
/-- What is answered of a text, and by which error. -/
def decA (l : List Int) : List Int × Int :=
  if 63 < l.length then ([], 4) else if asc l = false then ([], 8) else match DecP l with
    | none => ([], 8)
    | some pts => (pts, 0)
theorem DecR.one {l : List Int} {W : World} {base : Nat} {v : Value} {e : Int} (h : DecR l W base v e) (hb : Bytes l) : IntsAt W v (decA l).1 ∧ e = (decA l).2 ∧ (decA l).1.length ≤ 63 := by
  unfold decA
  rcases h with ⟨h1, rfl, rfl⟩ | ⟨h1, h2, rfl, rfl⟩ | ⟨h1, h2, pts, h3, rfl, h4⟩
  · rw [if_pos h1]
    exact ⟨.inl ⟨rfl, _, _, rfl⟩, rfl, Nat.zero_le _⟩
  · rw [if_neg (by omega)]
    split
    · exact ⟨.inl ⟨rfl, _, _, rfl⟩, rfl, Nat.zero_le _⟩
    · rename_i h3
      rcases h2 with h2 | h2
      · exact absurd h2 h3
      · rw [h2]
        exact ⟨.inl ⟨rfl, _, _, rfl⟩, rfl, Nat.zero_le _⟩
  · rw [if_neg (by omega), if_neg (by rw [h2]; exact Bool.noConfusion), h3]
    exact ⟨IntsAt.own rfl h4, rfl, (enc_dec h3 h2 hb h1).2.2⟩
theorem dec_same (l : List Int) : decide (l = l) = true := decide_eq_true rfl
end Go.Proofs.YtdncaehajhmcoaaGreat.P
