/- Texts of one layer, one behind the other: NSG. -/
import Derived.Test.YtpkegjbmnilmdaaDoorZN2
/- Two sorted rows side by side are merged: where the second one is a single point. -/
namespace Go.Proofs.YtpkegjbmnilmdaaDoor.N
open Go.RowKit
set_option linter.unusedVariables false

set_option maxRecDepth 100000 in
set_option maxHeartbeats 2000000 in
theorem sym_right (b o cap n a m e : Nat) (A X : List Pt) (y : Pt) (C : List Pt) (W : World) (ha : A.length = a) (hx : a + X.length = m) (hx1 : X.length ≠ 1) (hy : m + 1 = e) (hn : e + C.length = n) (hX : Srt X) (hsz : n ≤ 1000000) (hP : Pts W b o (A ++ X ++ y :: C)) :
    Calls Tryd.prog 93 #[.slice (some ⟨b, o, none⟩) n cap, .int .i64 a, .int .i64 m, .int .i64 e, .func (.func 79) #[] #[]] W fun r W' => r = .returned (.tuple #[]) ∧ ∃ Z, Pts W' b o (A ++ Z ++ C) ∧ Chg b o n W W' ∧ Srt Z ∧ Stb (X ++ [y]) Z := by
  have hme : m < e := by omega
  have hen : e ≤ n := by omega
  have ham : a ≤ m := by omega
  have HA := hid ha
  have HX := hid hx
  have HY := hid hy
  have HN := hid hn
  have HS := hid hX
  have HP := hid hP
  have q1 : ((m : Int) - (a : Int) == 1) = false := by simp; omega
  have q2 : ((e : Int) - (m : Int) == 1) = true := by simp; omega
  clear ha hx hy hn hP hX hx1
  go_enter Tryd.func93, Tryd.ntmps93
  go_wp2_with fail
  go_loopw [14, 15, 16] (fun vi vj vh wr => ∃ (i j : Nat), vi = .int .i64 i ∧ vj = .int .i64 j ∧ a ≤ i ∧ i ≤ j ∧ j ≤ m ∧ Below W.heap.size W wr ∧ Hid (i = a ∨ cls X (i - 1 - a) ≤ y.2) ∧ Hid (j = m ∨ y.2 < cls X (j - a)))
    (fun vi vj _ _ => (intOf vj).toNat - (intOf vi).toNat)
  case atStart => exact ⟨a, m, rfl, rfl, Nat.le_refl _, ham, Nat.le_refl _, Below.refl _ _, .inl rfl, .inl rfl⟩
  case round =>
    obtain ⟨i, j, rfl, rfl, hi, hij, hj, hB, H1, H2⟩ := hrel
    by_cases hlt : i < j
    · have hltz : (i : Int) < (j : Int) := by omega
      obtain ⟨h, hh, hhi, hhj⟩ : ∃ h : Nat, ((i : Int) + (j : Int)) / 2 = (h : Int) ∧ i ≤ h ∧ h < j := ⟨(i + j) / 2, by omega, by omega, by omega⟩
      have hPr : Pts wr b o (A ++ X ++ y :: C) := HP.out.below hB HP.out.lt
      have hlen : (A ++ X ++ y :: C).length = n := by have := HA.out; have := HX.out; have := HY.out; have := HN.out; simp; omega
      have hhx : h - a < X.length := by have := HX.out; omega
      have e0 := hPr.c0 h (by omega)
      have e1 := hPr.c1 h (by omega)
      have e2 := hPr.c0 m (by omega)
      have e3 := hPr.c1 m (by omega)
      rw [get_mid _ _ _ _ (by have := HA.out; have := HX.out; simp; omega)] at e2 e3
      have eg : (A ++ X ++ y :: C)[h]?.getD z2 = X[h - a]?.getD z2 := by
        rw [show h = a + (h - a) by omega, get_in _ _ _ a (h - a) HA.out hhx]
        congr 2; omega
      rw [eg] at e0 e1
      have HCL : Hid (cls X (h - a) = (X[h - a]?.getD z2).2) := rfl
      generalize X[h - a]?.getD z2 = x at e0 e1 HCL
      have hlb : b < wr.heap.size := hPr.lt
      have hz1 : (h : Int) < (n : Int) := by omega
      have hz2 : (m : Int) < (n : Int) := by omega
      have hne : Nonempty (Later wr) := ⟨⟨wr, Below.refl _ _⟩⟩
      have x0 : ∀ u : Later wr, u.W.cell? ⟨b, o + h * 2, none⟩ = some (.int .i32 x.1) := fun u => (u.h.cell (p := ⟨b, o + h * 2, none⟩) hlb).trans e0
      have x1 : ∀ u : Later wr, u.W.cell? ⟨b, o + h * 2 + 1, none⟩ = some (.int .u8 x.2) := fun u => (u.h.cell (p := ⟨b, o + h * 2 + 1, none⟩) hlb).trans e1
      have x2 : ∀ u : Later wr, u.W.cell? ⟨b, o + m * 2, none⟩ = some (.int .i32 y.1) := fun u => (u.h.cell (p := ⟨b, o + m * 2, none⟩) hlb).trans e2
      have x3 : ∀ u : Later wr, u.W.cell? ⟨b, o + m * 2 + 1, none⟩ = some (.int .u8 y.2) := fun u => (u.h.cell (p := ⟨b, o + m * 2 + 1, none⟩) hlb).trans e3
      have hcall : Hid (∀ W : World, Calls Tryd.prog 79 #[.agg #[.int .i32 y.1, .int .u8 y.2], .agg #[.int .i32 x.1, .int .u8 x.2]] W fun e w' => e = .returned (.int .i64 (cmpI y.2 x.2)) ∧ Below W.heap.size W w') := fun W => byClass_any y x W
      have hci := cmpI_neg y.2 x.2
      generalize cmpI y.2 x.2 = ci at hci hcall
      have HB := hid hB
      clear e0 e1 e2 e3 eg hPr hB
      by_cases hxp : y.2 < x.2
      · have hci' : ci < 0 := hci.2 hxp
        clear hci
        go_wp2_with fail
        refine wp_region_quiet_in (by kernel_rfl) (by kernel_rfl) ?_
        repeat (go_big_quiet_step ((go_at_call 79; exact Later.call _ (hcall.out _))))
        refine wpQuiet_nil ?_
        rintro _ ⟨u, rfl⟩
        have HBu := hid (HB.out.trans (u.h.mono HB.out.size))
        clear x0 x1 x2 x3 hne
        generalize u.W = wu at *
        go_wp2
        go_roundw
        case rel => exact ⟨i, h, rfl, rfl, hi, hhi, by omega, HBu.out, H1, .inr (by rw [HCL.out]; exact hxp)⟩
        case measure => simp [intOf] <;> omega
      · have hci' : ¬ ci < 0 := fun h => hxp (hci.1 h)
        have hcd : decide (ci < 0) = false := by simpa using hci'
        clear hci
        go_wp2_with fail
        refine wp_region_quiet_in (by kernel_rfl) (by kernel_rfl) ?_
        repeat (go_big_quiet_step ((go_at_call 79; exact Later.call _ (hcall.out _))))
        refine wpQuiet_nil ?_
        rintro _ ⟨u, rfl⟩
        have HBu := hid (HB.out.trans (u.h.mono HB.out.size))
        clear x0 x1 x2 x3 hne
        generalize u.W = wu at *
        go_wp2
        go_roundw
        case rel => exact ⟨h + 1, j, by go_num, rfl, by omega, by omega, hj, HBu.out, .inr (by rw [show h + 1 - 1 - a = h - a by omega, HCL.out]; omega), H2⟩
        case measure => simp [intOf] <;> omega
    · have hltz : ¬ (i : Int) < (j : Int) := by omega
      obtain rfl : i = j := by omega
      obtain ⟨X1, X2, hXX, hX1, hlo, hhi⟩ : ∃ X1 X2, X = X1 ++ X2 ∧ X1.length = i - a ∧ (∀ x ∈ X1, x.2 ≤ y.2) ∧ (∀ x ∈ X2, y.2 < x.2) := by
        refine ⟨X.take (i - a), X.drop (i - a), (List.take_append_drop _ _).symm, by rw [List.length_take]; have := HX.out; omega, fun x hx => ?_, fun x hx => ?_⟩
        · obtain ⟨k, hk1, hk2, e⟩ := mem_take_cls hx
          rcases H1.out with h | h
          · omega
          · have := srt_cls HS.out (show k ≤ i - 1 - a by omega) (by have := HX.out; omega)
            rw [e]; omega
        · obtain ⟨k, hk1, hk2, e⟩ := mem_drop_cls hx
          rcases H2.out with h | h
          · have := HX.out; omega
          · have := srt_cls HS.out hk1 hk2
            rw [e]; omega
      have HZ : Hid (Srt (X1 ++ y :: X2) ∧ Stb (X ++ [y]) (X1 ++ y :: X2)) := by
        rw [hXX]
        exact ins_step (by rw [← hXX]; exact HS.out) hhi hlo
      have hPr : Pts wr b o (A ++ X1 ++ X2 ++ y :: C) := by
        have := HP.out.below hB HP.out.lt
        rw [hXX] at this; simpa using this
      have hCr : Chg b o n W wr := (Chg.refl HP.out n).below hB
      have HPr := hid hPr
      have HCr := hid hCr
      have hlX : Hid (X1.length + X2.length = X.length) := by show _ = _; rw [hXX]; simp
      have HX1 := hid hX1
      clear hPr hCr hB hXX hlo hhi hX1
      go_wp2_with fail
      go_loopw [17] (fun vk wr => ∃ (k : Nat) (P Q : List Pt), vk = .int .i64 k ∧ i ≤ k ∧ k ≤ m ∧ Pts wr b o (A ++ X1 ++ P ++ y :: (Q ++ C)) ∧ Hid (i + P.length = k) ∧ Hid (P ++ Q = X2) ∧ Chg b o n W wr)
        (fun vk _ => (intOf vk).toNat)
      case atStart =>
        exact ⟨m, X2, [], rfl, by omega, Nat.le_refl _, by simpa using HPr.out, (by show _ = _; have := HX1.out; have := hlX.out; have := HX.out; omega), (by show _ = _; simp), HCr.out⟩
      case round =>
        obtain ⟨k, P, Q, rfl, hk1, hk2, hPk, HPL, HPQ, hCk⟩ := hrel
        by_cases hlt : i < k
        · obtain ⟨j, rfl⟩ : ∃ j, k = j + 1 := ⟨k - 1, by omega⟩
          have hltz : (i : Int) < (j : Int) + 1 := by omega
          obtain ⟨P', p, hP'⟩ : ∃ P' p, P = P' ++ [p] := by
            refine ⟨P.dropLast, P.getLast (fun h => ?_), (List.dropLast_concat_getLast _).symm⟩
            have := HPL.out; rw [h] at this; simp at this; omega
          have hPl : (A ++ X1 ++ P').length = j := by
            have h1 := HPL.out; have := HA.out; have := HX1.out; rw [hP'] at h1; simp at h1 ⊢; omega
          have hPk2 : Pts wr b o ((A ++ X1 ++ P') ++ p :: y :: (Q ++ C)) := by rw [hP'] at hPk; simpa using hPk
          have hlen2 : ((A ++ X1 ++ P') ++ p :: y :: (Q ++ C)).length = n := by
            have h1 := congrArg List.length HPQ.out; have h2 := HPL.out; have h3 := HX1.out; have h4 := HX.out; have h5 := HY.out; have h6 := HN.out; have h7 := hlX.out
            rw [hP'] at h1 h2; simp at h1 h2 hPl ⊢; omega
          have e0 := hPk2.c0 j (by omega)
          have e1 := hPk2.c1 j (by omega)
          have e2 := hPk2.c0 (j + 1) (by omega)
          have e3 := hPk2.c1 (j + 1) (by omega)
          rw [get_mid _ _ _ _ hPl] at e0 e1
          rw [get_mid2 _ _ _ _ _ hPl] at e2 e3
          have f0 : wr.frozen? ⟨b, o + j * 2, none⟩ = false := hPk2.fr _
          have f1 : wr.frozen? ⟨b, o + j * 2 + 1, none⟩ = false := hPk2.fr _
          have f2 : wr.frozen? ⟨b, o + (j + 1) * 2, none⟩ = false := hPk2.fr _
          have f3 : wr.frozen? ⟨b, o + (j + 1) * 2 + 1, none⟩ = false := hPk2.fr _
          have z1 : (j : Int) < (n : Int) := by omega
          have z2 : (j : Int) + 1 < (n : Int) := by omega
          have z3 : (0 : Int) ≤ (j : Int) + 1 := by omega
          have z4 : ((j : Int) + 1).toNat = j + 1 := by omega
          have HPk := hid hPk2
          have HCk := hid hCk
          have HP' := hid hP'
          clear hPk hPk2 hCk hP'
          go_wp2_with fail
          go_region
          have hPn := (HPk.out.set (j + 1) p (by omega)).set j y (by rw [List.length_set]; omega)
          rw [swap_nb _ _ _ _ _ hPl] at hPn
          have hCn := ((((HCk.out.set (o + (j + 1) * 2) (.int .i32 p.1) (by omega) (by omega)).set (o + (j + 1) * 2 + 1) (.int .u8 p.2) (by omega) (by omega)).set (o + j * 2) (.int .i32 y.1) (by omega) (by omega)).set (o + j * 2 + 1) (.int .u8 y.2) (by omega) (by omega)).drew
          have HPn := hid hPn.drew
          have HCn := hid hCn
          clear hPn hCn HPk HCk e0 e1 e2 e3 f0 f1 f2 f3
          generalize World.drew _ = wn at HPn HCn ⊢
          go_wp2
          go_roundw
          case rel =>
            refine ⟨j, P', p :: Q, by go_num, by omega, by omega, ?_, ?_, ?_, HCn.out⟩
            · simpa using HPn.out
            · show _ = _
              have h1 := HPL.out; rw [HP'.out] at h1; simp at h1; omega
            · show _ = _
              rw [← HPQ.out, HP'.out]; simp
          case measure => simp [intOf] <;> omega
        · have hltz : ¬ (i : Int) < (k : Int) := by omega
          have hP0 : Hid (P = []) := List.length_eq_zero_iff.1 (by have := HPL.out; omega)
          go_wp2
          refine bodyPost_ret (results_none rfl _ _ _) rfl ?_
          refine ⟨rfl, X1 ++ y :: X2, ?_, hCk, HZ.out.1, HZ.out.2⟩
          have h1 := HPQ.out
          rw [hP0.out] at hPk h1
          rw [List.nil_append] at h1
          rw [h1] at hPk
          simpa using hPk
end Go.Proofs.YtpkegjbmnilmdaaDoor.N
