/- Sorting by insertion, in place. -/
import Derived.Test.YtcgfbejcehiolaaSC
namespace Go.Proofs.Ytcgfbejcehiolaa
open Go.RowKit
set_option linter.unusedVariables false

theorem len3 (A P Q : List Pt) : (A ++ P ++ Q).length = A.length + P.length + Q.length := by simp; omega

set_option maxRecDepth 100000 in
set_option maxHeartbeats 2000000 in
theorem ins_any (b o cap n a m : Nat) (A M C : List Pt) (W : World) (ha : A.length = a) (hm : M.length = m) (hn : a + m + C.length = n) (hsz : n ≤ 1000000) (hP : Pts W b o (A ++ M ++ C)) :
    Calls Try.prog 80 #[.slice (some ⟨b, o, none⟩) n cap, .int .i64 a, .int .i64 (a + m : Nat), .func (.func 56) #[] #[]] W fun e W' => e = .returned (.tuple #[]) ∧ ∃ M', Pts W' b o (A ++ M' ++ C) ∧ Chg b o n W W' ∧ Srt M' ∧ Stb M M' := by
  obtain ⟨t, ht⟩ : ∃ t, a + m = t := ⟨_, rfl⟩
  have htn : t ≤ n := by omega
  rw [ht]
  have HA := hid ha
  have HM := hid hm
  have HN := hid hn
  have HT := hid ht
  have HP := hid hP
  clear ha hm hn ht hP
  by_cases hm0 : m = 0
  · have hM0 : Hid (M = []) := List.length_eq_zero_iff.1 (by rw [HM.out, hm0])
    have hta : t = a := by have := HT.out; omega
    go_enter Try.func80, Try.ntmps80
    go_wp2_with fail
    refine wp_loop_rounds 1 ?_
    rw [rounds_succ]
    go_wp2
    all_goals first | (exfalso; omega) | skip
    go_end0
    exact ⟨rfl, M, HP.out, Chg.refl HP.out n, by rw [hM0.out]; exact Srt.nil, Stb.refl _⟩
  have hat : a + 1 ≤ t := by have := HT.out; omega
  go_enter Try.func80, Try.ntmps80
  go_wp2_with fail
  go_loopw [8] (fun i wr => ∃ (k : Nat) (D : List Pt), a + 1 ≤ k ∧ k ≤ t ∧ i = .int .i64 k ∧ Pts wr b o (A ++ D ++ (M.drop (k - a) ++ C)) ∧ Hid (D.length = k - a) ∧ Hid (Srt D) ∧ Hid (Stb (M.take (k - a)) D) ∧ Chg b o n W wr)
    (fun i _ => t - (intOf i).toNat)
  case atStart =>
    refine ⟨a + 1, M.take 1, Nat.le_refl _, hat, by go_num, ?_, ?_, ?_, ?_, Chg.refl HP.out n⟩
    · have := HP.out
      rw [show a + 1 - a = 1 by omega]
      rw [show A ++ M.take 1 ++ (M.drop 1 ++ C) = A ++ M ++ C by rw [List.append_assoc, ← List.append_assoc (M.take 1), List.take_append_drop, List.append_assoc]]
      exact this
    · show _ = _
      rw [List.length_take, HM.out]; omega
    · show Srt _
      obtain ⟨x, M', hM'⟩ : ∃ x M', M = x :: M' := by
        cases M with
        | nil => exact absurd HM.out (by simp; omega)
        | cons x M' => exact ⟨x, M', rfl⟩
      rw [hM']; exact srt_one x
    · show Stb _ _
      rw [show a + 1 - a = 1 by omega]; exact Stb.refl _
  case round =>
    obtain ⟨k, D, hk1, hk2, rfl, hPr, HL, HS, HB, hCr⟩ := hrel
    by_cases hlt : k < t
    · have hltz : (k : Int) < (t : Int) := by omega
      obtain ⟨x, R, hx⟩ : ∃ x R, M.drop (k - a) = x :: R := by
        have hh : k - a < M.length := by rw [HM.out]; have := HT.out; omega
        exact ⟨M[k - a], M.drop (k - a + 1), List.drop_eq_getElem_cons hh⟩
      have HR : Hid (M.drop (k + 1 - a) = R ∧ M.take (k + 1 - a) = M.take (k - a) ++ [x]) := by
        have hh : k - a < M.length := by rw [HM.out]; have := HT.out; omega
        have e := List.drop_eq_getElem_cons hh
        rw [hx] at e
        obtain ⟨e1, e2⟩ := List.cons.inj e
        rw [show k + 1 - a = k - a + 1 by omega]
        exact ⟨e2.symm, by rw [List.take_succ_eq_append_getElem hh, e1]⟩
      rw [hx] at hPr
      have HPr := hid hPr
      have HCr := hid hCr
      clear hx hPr hCr
      go_wp2_with fail
      go_loopw [9] (fun j wr => ∃ (i : Nat) (P Q : List Pt), a ≤ i ∧ i ≤ k ∧ j = .int .i64 i ∧ Pts wr b o (A ++ P ++ x :: (Q ++ (R ++ C))) ∧ Hid (a + P.length = i) ∧ Hid (P ++ Q = D) ∧ Hid (∀ q ∈ Q, x.2 < q.2) ∧ Chg b o n W wr)
        (fun j _ => (intOf j).toNat)
      case atStart =>
        refine ⟨k, D, [], by omega, Nat.le_refl _, rfl, by simpa using HPr.out, ?_, ?_, ?_, HCr.out⟩
        · show _ = _
          have := HL.out; omega
        · show _ = _
          simp
        · intro q hq; cases hq
      case round =>
        obtain ⟨i, P, Q, hi1, hi2, rfl, hPq, HPL, HPQ, HQ, hCq⟩ := hrel
        have FIN : Hid ((∀ p ∈ P, p.2 ≤ x.2) → Srt (P ++ x :: Q) ∧ Stb (M.take (k + 1 - a)) (P ++ x :: Q) ∧ (P ++ x :: Q).length = k + 1 - a) := fun hp => by
          have h := ins_step (by rw [HPQ.out]; exact HS.out) HQ.out hp
          refine ⟨h.1, ?_, ?_⟩
          · rw [HR.out.2]
            refine (HB.out.append (Stb.refl [x])).trans ?_
            rw [← HPQ.out]; exact h.2
          · have h2 := h.2.len
            rw [h2, List.length_append, HPQ.out, HL.out]
            simp; omega
        by_cases hia : a < i
        · obtain ⟨j, rfl⟩ : ∃ j, i = j + 1 := ⟨i - 1, by omega⟩
          obtain ⟨P', p, hP'⟩ : ∃ P' p, P = P' ++ [p] := by
            refine ⟨P.dropLast, P.getLast (fun h => ?_), (List.dropLast_concat_getLast _).symm⟩
            have := HPL.out; rw [h] at this; simp at this; omega
          have hPl : (A ++ P').length = j := by
            have := HPL.out; rw [hP'] at this; have h2 := HA.out; simp at this ⊢; omega
          have hPq2 : Pts wr b o ((A ++ P') ++ p :: x :: (Q ++ (R ++ C))) := by rw [hP'] at hPq; simpa using hPq
          have hlen2 : ((A ++ P') ++ p :: x :: (Q ++ (R ++ C))).length = n := by
            have h1 := HPL.out; have h2 := HPQ.out; have h3 := HL.out; have h4 := HR.out.1; have h5 := HN.out; have h6 := HM.out
            have h7 := congrArg List.length h2
            have h8 := congrArg List.length h4
            rw [hP'] at h1 h7
            simp at h1 h7 h8 hPl ⊢
            have := HT.out
            omega
          have e0 := hPq2.c0 j (by omega)
          have e1 := hPq2.c1 j (by omega)
          have e2 := hPq2.c0 (j + 1) (by omega)
          have e3 := hPq2.c1 (j + 1) (by omega)
          rw [get_mid _ _ _ _ hPl] at e0 e1
          rw [get_mid2 _ _ _ _ _ hPl] at e2 e3
          have jz : (j : Int) + 1 < (n : Int) := by omega
          have jz1 : (j : Int) < (n : Int) := by omega
          have jz0 : (a : Int) < (j : Int) + 1 := by omega
          have j0 : (0 : Int) ≤ (j : Int) := by omega
          have j1 : (0 : Int) ≤ (j : Int) + 1 := by omega
          have je : ((j : Int) + 1).toNat = j + 1 := by omega
          have hne : Nonempty (Later wr) := ⟨⟨wr, Below.refl _ _⟩⟩
          have hlb : b < wr.heap.size := hPq2.lt
          have x0 : ∀ y : Later wr, y.W.cell? ⟨b, o + j * 2, none⟩ = some (.int .i32 p.1) := fun y => (y.h.cell (p := ⟨b, o + j * 2, none⟩) hlb).trans e0
          have x1 : ∀ y : Later wr, y.W.cell? ⟨b, o + j * 2 + 1, none⟩ = some (.int .u8 p.2) := fun y => (y.h.cell (p := ⟨b, o + j * 2 + 1, none⟩) hlb).trans e1
          have x2 : ∀ y : Later wr, y.W.cell? ⟨b, o + (j + 1) * 2, none⟩ = some (.int .i32 x.1) := fun y => (y.h.cell (p := ⟨b, o + (j + 1) * 2, none⟩) hlb).trans e2
          have x3 : ∀ y : Later wr, y.W.cell? ⟨b, o + (j + 1) * 2 + 1, none⟩ = some (.int .u8 x.2) := fun y => (y.h.cell (p := ⟨b, o + (j + 1) * 2 + 1, none⟩) hlb).trans e3
          have hcall : Hid (∀ W : World, Calls Try.prog 56 #[.agg #[.int .i32 x.1, .int .u8 x.2], .agg #[.int .i32 p.1, .int .u8 p.2]] W fun e w' => e = .returned (.int .i64 (cmpI x.2 p.2)) ∧ Below W.heap.size W w') := fun W => byClass_any x p W
          have hci := cmpI_neg x.2 p.2
          generalize cmpI x.2 p.2 = ci at hci hcall
          have HP' := hid hP'
          clear e0 e1 e2 e3 hP'
          by_cases hxp : x.2 < p.2
          · have hci' : ci < 0 := hci.2 hxp
            clear hci
            go_wp2_with fail
            refine wp_region_quiet_in (by kernel_rfl) (by kernel_rfl) ?_
            repeat (go_big_quiet_step ((go_at_call 56; exact Later.call _ (hcall.out _))))
            refine wpQuiet_nil ?_
            rintro _ ⟨y, rfl⟩
            have hPy : Pts y.W b o ((A ++ P') ++ p :: x :: (Q ++ (R ++ C))) := hPq2.below y.h hlb
            have hCy : Chg b o n W y.W := hCq.below y.h
            have y0 := x0 y
            have y1 := x1 y
            have y2 := x2 y
            have y3 := x3 y
            clear x0 x1 x2 x3 hPq hPq2 hCq hne
            generalize y.W = wy at *
            have f0 : wy.frozen? ⟨b, o + j * 2, none⟩ = false := hPy.fr _
            have f1 : wy.frozen? ⟨b, o + j * 2 + 1, none⟩ = false := hPy.fr _
            have f2 : wy.frozen? ⟨b, o + (j + 1) * 2, none⟩ = false := hPy.fr _
            have f3 : wy.frozen? ⟨b, o + (j + 1) * 2 + 1, none⟩ = false := hPy.fr _
            have HPy := hid hPy
            have HCy := hid hCy
            clear hPy hCy
            go_wp2_with fail
            go_region
            have hPn := (HPy.out.set (j + 1) p (by omega)).set j x (by rw [List.length_set]; omega)
            rw [swap_nb _ _ _ _ _ hPl] at hPn
            have hCn := ((((HCy.out.set (o + (j + 1) * 2) (.int .i32 p.1) (by omega) (by omega)).set (o + (j + 1) * 2 + 1) (.int .u8 p.2) (by omega) (by omega)).set (o + j * 2) (.int .i32 x.1) (by omega) (by omega)).set (o + j * 2 + 1) (.int .u8 x.2) (by omega) (by omega)).drew
            have HPn := hid hPn.drew
            have HCn := hid hCn
            clear hPn hCn HPy HCy y0 y1 y2 y3 f0 f1 f2 f3
            generalize World.drew _ = wn at HPn HCn ⊢
            go_wp2
            go_roundw
            case rel =>
              refine ⟨j, P', p :: Q, by omega, by omega, by go_num, ?_, ?_, ?_, ?_, HCn.out⟩
              · simpa using HPn.out
              · show _ = _
                have := hPl; have h2 := HA.out; simp at this; omega
              · show _ = _
                rw [← HPQ.out, HP'.out]; simp
              · intro q hq
                rcases List.mem_cons.1 hq with rfl | hq
                · exact hxp
                · exact HQ.out q hq
            case measure => simp [intOf] <;> omega
          · have hci' : ¬ ci < 0 := fun h => hxp (hci.1 h)
            have hcd : decide (ci < 0) = false := by simpa using hci'
            clear hci
            go_wp2_with fail
            refine wp_region_quiet_in (by kernel_rfl) (by kernel_rfl) ?_
            repeat (go_big_quiet_step ((go_at_call 56; exact Later.call _ (hcall.out _))))
            refine wpQuiet_nil ?_
            rintro _ ⟨y, rfl⟩
            have hPy : Hid (Pts y.W b o (A ++ P ++ x :: (Q ++ (R ++ C)))) := hPq.below y.h hlb
            have hCy : Hid (Chg b o n W y.W) := hCq.below y.h
            have hall : ∀ a ∈ P, a.2 ≤ x.2 := by
              rw [HP'.out]
              refine srt_last ?_ (by omega)
              have h1 := HS.out
              rw [← HPQ.out, HP'.out] at h1
              exact (srt_append.1 h1).1
            have HF := hid (FIN.out hall)
            clear x0 x1 x2 x3 hPq hPq2 hCq hne
            generalize y.W = wy at *
            go_wp2
            go_roundw
            case rel =>
              refine ⟨k + 1, P ++ x :: Q, by omega, by omega, by go_num, ?_, HF.out.2.2, HF.out.1, HF.out.2.1, hCy.out⟩
              rw [HR.out.1]
              have := hPy.out
              simpa using this
            case measure => simp [intOf]; omega
        · have hia' : decide ((a : Int) < (i : Int)) = false := by simp; omega
          have hia2 : ¬ (a : Int) < (i : Int) := by omega
          have hP0 : P = [] := List.length_eq_zero_iff.1 (by have := HPL.out; omega)
          have HF := hid (FIN.out (fun p hp => by rw [hP0] at hp; cases hp))
          have HPq := hid hPq
          have HCq := hid hCq
          clear hPq hCq hP0 FIN
          go_wp2_with fail
          go_region
          have HPq := hid HPq.out.drew
          have HCq := hid HCq.out.drew
          generalize World.drew _ = wn at HPq HCq ⊢
          go_wp2
          go_roundw
          case rel =>
            refine ⟨k + 1, P ++ x :: Q, by omega, by omega, by go_num, ?_, HF.out.2.2, HF.out.1, HF.out.2.1, HCq.out⟩
            rw [HR.out.1]
            have := HPq.out
            simpa using this
          case measure => simp [intOf]; omega
    · have hltz : ¬ (k : Int) < (t : Int) := by omega
      have hk : k = t := by omega
      have HE : Hid (M.drop (k - a) = [] ∧ M.take (k - a) = M) := by
        have : M.length ≤ k - a := by rw [HM.out]; have := HT.out; omega
        exact ⟨List.drop_of_length_le this, List.take_of_length_le this⟩
      go_wp2
      go_end0
      refine ⟨rfl, D, ?_, hCr, HS.out, ?_⟩
      · rw [HE.out.1] at hPr; simpa using hPr
      · have := HB.out; rw [HE.out.2] at this; exact this
end Go.Proofs.Ytcgfbejcehiolaa
