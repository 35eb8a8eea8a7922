/- Two rows of points of one length are exchanged; two rows side by side change places. -/
import Derived.Test.YtcgfbejcehiolaaSC
namespace Go.Proofs.Ytcgfbejcehiolaa
open Go.RowKit
set_option linter.unusedVariables false

theorem get_far (U : List Pt) (x : Pt) (V : List Pt) (y : Pt) (Z : List Pt) (j : Nat) (h : U.length + 1 + V.length = j) : (U ++ x :: (V ++ y :: Z))[j]?.getD z2 = y := by
  have : U ++ x :: (V ++ y :: Z) = (U ++ x :: V) ++ y :: Z := by simp
  rw [this]
  exact get_mid _ _ _ _ (by simp; omega)
theorem swap_far (U : List Pt) (x : Pt) (V : List Pt) (y : Pt) (Z : List Pt) (i j : Nat) (hi : U.length = i) (h : U.length + 1 + V.length = j) : ((U ++ x :: (V ++ y :: Z)).set i y).set j x = U ++ y :: (V ++ x :: Z) := by
  have e1 : (U ++ x :: (V ++ y :: Z)).set i y = (U ++ y :: V) ++ y :: Z := by subst hi; simp
  have e2 : (U ++ y :: V).length = j := by simp; omega
  rw [e1, ← e2]
  simp

set_option maxRecDepth 100000 in
set_option maxHeartbeats 2000000 in
theorem swapRange_any (b o cap n a c m : Nat) (A X B Y C : List Pt) (f : Value) (W : World) (ha : A.length = a) (hx : X.length = m) (hy : Y.length = m) (hc : a + m + B.length = c) (hn : c + m + C.length = n) (hsz : n ≤ 1000000) (hP : Pts W b o (A ++ X ++ B ++ Y ++ C)) :
    Calls Try.prog 83 #[.slice (some ⟨b, o, none⟩) n cap, .int .i64 a, .int .i64 c, .int .i64 m, f] W fun e W' => e = .returned (.tuple #[]) ∧ Pts W' b o (A ++ Y ++ B ++ X ++ C) ∧ Chg b o n W W' := by
  have hac : a + m ≤ c := by omega
  have hcm : c + m ≤ n := by omega
  have HA := hid ha
  have HX := hid hx
  have HY := hid hy
  have HC := hid hc
  have HN := hid hn
  have HP := hid hP
  clear ha hx hy hc hn hP
  go_enter Try.func83, Try.ntmps83
  go_wp2_with fail
  go_loopw [10] (fun i wr => ∃ (k : Nat), k ≤ m ∧ i = .int .i64 k ∧ Pts wr b o (A ++ (Y.take k ++ X.drop k) ++ B ++ (X.take k ++ Y.drop k) ++ C) ∧ Chg b o n W wr)
    (fun i _ => m - (intOf i).toNat)
  case atStart => exact ⟨0, Nat.zero_le _, rfl, by simpa using HP.out, Chg.refl HP.out n⟩
  case round =>
    obtain ⟨k, hk, rfl, hPr, hCr⟩ := hrel
    by_cases hlt : k < m
    · have hltz : (k : Int) < (m : Int) := by omega
      have hkx : k < X.length := by rw [HX.out]; exact hlt
      have hky : k < Y.length := by rw [HY.out]; exact hlt
      obtain ⟨x, hxe⟩ : ∃ x, X[k] = x := ⟨_, rfl⟩
      obtain ⟨y, hye⟩ : ∃ y, Y[k] = y := ⟨_, rfl⟩
      have dx : X.drop k = x :: X.drop (k + 1) := by rw [List.drop_eq_getElem_cons hkx, hxe]
      have dy : Y.drop k = y :: Y.drop (k + 1) := by rw [List.drop_eq_getElem_cons hky, hye]
      have tx : X.take (k + 1) = X.take k ++ [x] := by rw [List.take_succ_eq_append_getElem hkx, hxe]
      have ty : Y.take (k + 1) = Y.take k ++ [y] := by rw [List.take_succ_eq_append_getElem hky, hye]
      obtain ⟨U, hU⟩ : ∃ U, U = A ++ Y.take k := ⟨_, rfl⟩
      obtain ⟨V, hV⟩ : ∃ V, V = X.drop (k + 1) ++ B ++ X.take k := ⟨_, rfl⟩
      obtain ⟨Z, hZ⟩ : ∃ Z, Z = Y.drop (k + 1) ++ C := ⟨_, rfl⟩
      have e1 : A ++ (Y.take k ++ X.drop k) ++ B ++ (X.take k ++ Y.drop k) ++ C = U ++ x :: (V ++ y :: Z) := by rw [hU, hV, hZ, dx, dy]; simp
      have e2 : A ++ (Y.take (k + 1) ++ X.drop (k + 1)) ++ B ++ (X.take (k + 1) ++ Y.drop (k + 1)) ++ C = U ++ y :: (V ++ x :: Z) := by rw [hU, hV, hZ, tx, ty]; simp
      have lU : U.length = a + k := by rw [hU]; have := HA.out; have := HY.out; simp; omega
      have lV : U.length + 1 + V.length = c + k := by rw [lU, hV]; have := HX.out; have := HC.out; simp; omega
      have lZ : (U ++ x :: (V ++ y :: Z)).length = n := by rw [hU, hV, hZ]; have := HX.out; have := HC.out; have := HN.out; have := HY.out; have := HA.out; simp; omega
      rw [e1] at hPr
      have HE2 := hid e2
      clear dx dy tx ty e1 e2 hU hV hZ hxe hye hkx hky
      have c0 := hPr.c0 (a + k) (by omega)
      have c1 := hPr.c1 (a + k) (by omega)
      have c2 := hPr.c0 (c + k) (by omega)
      have c3 := hPr.c1 (c + k) (by omega)
      rw [get_mid _ _ _ _ lU] at c0 c1
      rw [get_far _ _ _ _ _ _ lV] at c2 c3
      have f0 : wr.frozen? ⟨b, o + (a + k) * 2, none⟩ = false := hPr.fr _
      have f1 : wr.frozen? ⟨b, o + (a + k) * 2 + 1, none⟩ = false := hPr.fr _
      have f2 : wr.frozen? ⟨b, o + (c + k) * 2, none⟩ = false := hPr.fr _
      have f3 : wr.frozen? ⟨b, o + (c + k) * 2 + 1, none⟩ = false := hPr.fr _
      have z1 : (a : Int) + (k : Int) < (n : Int) := by omega
      have z2 : (c : Int) + (k : Int) < (n : Int) := by omega
      have z3 : (0 : Int) ≤ (a : Int) + (k : Int) := by omega
      have z4 : (0 : Int) ≤ (c : Int) + (k : Int) := by omega
      have z5 : ((a : Int) + (k : Int)).toNat = a + k := by omega
      have z6 : ((c : Int) + (k : Int)).toNat = c + k := by omega
      have z7 : a + k ≠ c + k := by omega
      have HPr := hid hPr
      have HCr := hid hCr
      clear hPr hCr
      go_wp2_with fail
      go_region
      have hPn := (HPr.out.set (a + k) y (by omega)).set (c + k) x (by rw [List.length_set]; omega)
      rw [swap_far _ _ _ _ _ _ _ lU lV] at hPn
      have hCn := ((((HCr.out.set (o + (a + k) * 2) (.int .i32 y.1) (by omega) (by omega)).set (o + (a + k) * 2 + 1) (.int .u8 y.2) (by omega) (by omega)).set (o + (c + k) * 2) (.int .i32 x.1) (by omega) (by omega)).set (o + (c + k) * 2 + 1) (.int .u8 x.2) (by omega) (by omega)).drew
      have HPn := hid hPn.drew
      have HCn := hid hCn
      clear hPn hCn HPr HCr c0 c1 c2 c3 f0 f1 f2 f3
      generalize World.drew _ = wn at HPn HCn ⊢
      go_wp2
      go_roundw
      case rel => exact ⟨k + 1, by omega, by go_num, by rw [HE2.out]; exact HPn.out, HCn.out⟩
      case measure => simp [intOf]; omega
    · have hltz : ¬ (k : Int) < (m : Int) := by omega
      have hk : k = m := by omega
      have HE : Hid (X.drop k = [] ∧ X.take k = X ∧ Y.drop k = [] ∧ Y.take k = Y) := by
        have h1 : X.length ≤ k := by rw [HX.out]; omega
        have h2 : Y.length ≤ k := by rw [HY.out]; omega
        exact ⟨List.drop_of_length_le h1, List.take_of_length_le h1, List.drop_of_length_le h2, List.take_of_length_le h2⟩
      go_wp2
      go_end0
      refine ⟨rfl, ?_, hCr⟩
      rw [HE.out.1, HE.out.2.1, HE.out.2.2.1, HE.out.2.2.2] at hPr
      simpa using hPr

set_option maxRecDepth 100000 in
set_option maxHeartbeats 2000000 in
theorem rotate_any (b o cap n a m e : Nat) (A X Y C : List Pt) (f : Value) (W : World) (ha : A.length = a) (hx : a + X.length = m) (hy : m + Y.length = e) (hn : e + C.length = n) (hX : 0 < X.length) (hY : 0 < Y.length) (hsz : n ≤ 1000000) (hP : Pts W b o (A ++ X ++ Y ++ C)) :
    Calls Try.prog 82 #[.slice (some ⟨b, o, none⟩) n cap, .int .i64 a, .int .i64 m, .int .i64 e, f] W fun r W' => r = .returned (.tuple #[]) ∧ Pts W' b o (A ++ Y ++ X ++ C) ∧ Chg b o n W W' := by
  have ham : a < m := by omega
  have hme : m < e := by omega
  have hen : e ≤ n := by omega
  have HA := hid ha
  have HX := hid hx
  have HY := hid hy
  have HN := hid hn
  have HP := hid hP
  have HXp := hid hX
  have HYp := hid hY
  clear ha hx hy hn hP hX hY
  have q1 : ((m : Int) - (a : Int)) = ((m - a : Nat) : Int) := by omega
  have q2 : ((e : Int) - (m : Int)) = ((e - m : Nat) : Int) := by omega
  go_enter Try.func82, Try.ntmps82
  go_wp2_with fail
  go_loopw [10, 11] (fun vi vj wr => ∃ (i j : Nat) (L P Q R : List Pt), vi = .int .i64 i ∧ vj = .int .i64 j ∧ 0 < i ∧ 0 < j ∧ i ≤ m ∧ m + j ≤ n ∧ Pts wr b o (A ++ L ++ P ++ Q ++ R ++ C) ∧ Hid (a + L.length + i = m) ∧ Hid (P.length = i) ∧ Hid (Q.length = j) ∧ Hid (m + j + R.length = e) ∧ Hid (Y ++ X = L ++ Q ++ P ++ R) ∧ Chg b o n W wr)
    (fun vi vj _ => (intOf vi).toNat + (intOf vj).toNat)
  case atStart =>
    refine ⟨m - a, e - m, [], X, Y, [], by first | rfl | (congr 1), by first | rfl | (congr 1), by omega, by omega, by omega, by omega, by simpa using HP.out, ?_, ?_, ?_, ?_, ?_, Chg.refl HP.out n⟩
    · show _ = _
      simp; omega
    · show _ = _
      have := HX.out; omega
    · show _ = _
      have := HY.out; omega
    · show _ = _
      simp; omega
    · show _ = _
      simp
  case round =>
    obtain ⟨i, j, L, P, Q, R, rfl, rfl, hi0, hj0, him, hjn, hPr, H1, H2, H3, H4, H5, hCr⟩ := hrel
    have w1 : ((m : Int) - (i : Int)) = ((m - i : Nat) : Int) := by omega
    have w2 : ((m : Int) + (j : Int) - (i : Int)) = ((m + j - i : Nat) : Int) := by omega
    have HPr := hid hPr
    have HCr := hid hCr
    clear hPr hCr
    by_cases hij : i = j
    · subst hij
      have hb : ((i : Int) != (i : Int)) = false := by simp
      have hc := swapRange_any b o cap n (m - i) m i (A ++ L) P [] Q (R ++ C) f wr (by have := H1.out; have := HA.out; simp; omega) H2.out H3.out (by simp; omega) (by have := H4.out; have := HN.out; simp; omega) hsz (by have := HPr.out; simpa using this)
      have HCc := hid hc
      clear hc
      go_wp2_with fail
      refine (show Calls _ _ _ _ _ from HCc.out).mono ?_
      rintro r w2 ⟨rfl, hP2, hC2⟩
      go_wp2
      go_end0
      refine ⟨rfl, ?_, HCr.out.trans hC2⟩
      have e1 : A ++ Y ++ X ++ C = A ++ L ++ Q ++ [] ++ P ++ (R ++ C) := by
        have := H5.out
        rw [List.append_assoc A Y X, this]; simp
      rw [e1]; exact hP2
    · have hb : ((i : Int) != (j : Int)) = true := by simp; omega
      have hb2 : ((i : Int) == (j : Int)) = false := by simp; omega
      by_cases hlt : j < i
      · have hltz : (j : Int) < (i : Int) := by omega
        have hlt2 : ¬ (i : Int) ≤ (j : Int) := by omega
        obtain ⟨P1, P2, hPP, hP1⟩ : ∃ P1 P2, P = P1 ++ P2 ∧ P1.length = j := ⟨P.take j, P.drop j, (List.take_append_drop _ _).symm, by rw [List.length_take, H2.out]; omega⟩
        have hP2 : P2.length = i - j := by have := H2.out; rw [hPP] at this; simp at this; omega
        have hc := swapRange_any b o cap n (m - i) m j (A ++ L) P1 P2 Q (R ++ C) f wr (by have := H1.out; have := HA.out; simp; omega) hP1 H3.out (by omega) (by have := H4.out; have := HN.out; simp; omega) hsz (by have := HPr.out; rw [hPP] at this; simpa using this)
        have HCc := hid hc
        have HPP := hid hPP
        have w3 : ((i : Int) - (j : Int)) = ((i - j : Nat) : Int) := by omega
        clear hc hPP
        go_wp2_with fail
        refine (show Calls _ _ _ _ _ from HCc.out).mono ?_
        rintro r w2 ⟨rfl, hPn, hCn⟩
        go_wp2
        go_roundw
        case rel =>
          refine ⟨i - j, j, L ++ Q, P2, P1, R, by first | rfl | (congr 1), rfl, by omega, hj0, by omega, hjn, ?_, ?_, hP2, hP1, H4, ?_, HCr.out.trans hCn⟩
          · simpa using hPn
          · show _ = _
            have := H1.out; have := H3.out; simp; omega
          · show _ = _
            rw [H5.out, HPP.out]; simp
        case measure => simp [intOf] <;> omega
      · have hltz : ¬ (j : Int) < (i : Int) := by omega
        obtain ⟨Q1, Q2, hQQ, hQ1⟩ : ∃ Q1 Q2, Q = Q1 ++ Q2 ∧ Q1.length = j - i := ⟨Q.take (j - i), Q.drop (j - i), (List.take_append_drop _ _).symm, by rw [List.length_take, H3.out]; omega⟩
        have hQ2 : Q2.length = i := by have := H3.out; rw [hQQ] at this; simp at this; omega
        have hc := swapRange_any b o cap n (m - i) (m + j - i) i (A ++ L) P Q1 Q2 (R ++ C) f wr (by have := H1.out; have := HA.out; simp; omega) H2.out hQ2 (by omega) (by have := H4.out; have := HN.out; simp; omega) hsz (by have := HPr.out; rw [hQQ] at this; simpa using this)
        have HCc := hid hc
        have HQQ := hid hQQ
        have w3 : ((j : Int) - (i : Int)) = ((j - i : Nat) : Int) := by omega
        clear hc hQQ
        go_wp2_with fail
        refine (show Calls _ _ _ _ _ from HCc.out).mono ?_
        rintro r w2 ⟨rfl, hPn, hCn⟩
        go_wp2
        go_roundw
        case rel =>
          refine ⟨i, j - i, L, Q2, Q1, P ++ R, rfl, by first | rfl | (congr 1), hi0, by omega, him, by omega, ?_, H1, hQ2, hQ1, ?_, ?_, HCr.out.trans hCn⟩
          · simpa using hPn
          · show _ = _
            have := H4.out; have := H2.out; simp; omega
          · show _ = _
            rw [H5.out, HQQ.out]; simp
        case measure => simp [intOf] <;> omega
end Go.Proofs.Ytcgfbejcehiolaa
