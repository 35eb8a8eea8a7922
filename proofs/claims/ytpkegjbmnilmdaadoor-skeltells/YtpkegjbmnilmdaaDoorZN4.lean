/- Texts of one layer, one behind the other: NSH. -/
import Derived.Test.YtpkegjbmnilmdaaDoorZN3
import Derived.Deep.Cut
/- Two sorted rows side by side are merged. -/
namespace Go.Proofs.YtpkegjbmnilmdaaDoor.N
open Go.RowKit
set_option linter.unusedVariables false

theorem merge_parts {X1 X2 Y1 Y2 Z1 Z2 : List Pt} (hX : Srt (X1 ++ X2)) (hY : Srt (Y1 ++ Y2)) (C1 : ∀ x ∈ X1, ∀ y ∈ Y2, x.2 ≤ y.2) (C2 : ∀ y ∈ Y1, ∀ x ∈ X2, y.2 < x.2)
    (s1 : Srt Z1) (s2 : Srt Z2) (t1 : Stb (X1 ++ Y1) Z1) (t2 : Stb (X2 ++ Y2) Z2) : Srt (Z1 ++ Z2) ∧ Stb ((X1 ++ X2) ++ (Y1 ++ Y2)) (Z1 ++ Z2) := by
  have hx := srt_append.1 hX
  have hy := srt_append.1 hY
  refine ⟨srt_append.2 ⟨s1, s2, fun p hp q hq => ?_⟩, ?_⟩
  · have hp' := List.mem_append.1 (t1.perm.mem_iff.1 hp)
    have hq' := List.mem_append.1 (t2.perm.mem_iff.1 hq)
    rcases hp' with hp' | hp' <;> rcases hq' with hq' | hq'
    · exact hx.2.2 p hp' q hq'
    · exact C1 p hp' q hq'
    · have := C2 p hp' q hq'; omega
    · exact hy.2.2 p hp' q hq'
  · have h1 := ((Stb.refl X1).append (Stb.swap (X := X2) (Y := Y1) (fun p hp q hq => by have := C2 q hq p hp; omega))).append (Stb.refl Y2)
    have h2 : Stb (X1 ++ Y1 ++ (X2 ++ Y2)) (Z1 ++ Z2) := t1.append t2
    refine Stb.trans ?_ h2
    simpa using h1

theorem srt_or {a b : List Pt} (ha : Srt a) (hb : Srt b) (h : a = [] ∨ b = []) : Srt (a ++ b) := by
  rcases h with rfl | rfl
  · simpa using hb
  · simpa using ha
/-- What was found by halving: where the two rows are cut. -/
theorem cut_parts {X Y : List Pt} {a m e mid N s lo hi : Nat} (hx : a + X.length = m) (hy : m + Y.length = e) (hN : mid + m = N) (hX : Srt X) (hY : Srt Y) (hc : (lo = a ∧ hi = m) ∨ (lo + e = N ∧ hi = mid)) (h1 : lo ≤ s) (h2 : s ≤ hi)
    (ha : a ≤ s) (hm : s ≤ m) (hd : s ≤ mid) (he : N ≤ s + e) (I1 : s = lo ∨ cls X (s - 1 - a) ≤ cls Y (N - s - m)) (I2 : s = hi ∨ cls Y (N - 1 - s - m) < cls X (s - a)) :
    ∃ X1 X2 Y1 Y2, X = X1 ++ X2 ∧ Y = Y1 ++ Y2 ∧ a + X1.length = s ∧ s + X2.length = m ∧ m + Y1.length = N - s ∧ N - s + Y2.length = e ∧ (∀ x ∈ X1, ∀ y ∈ Y2, x.2 ≤ y.2) ∧ (∀ y ∈ Y1, ∀ x ∈ X2, y.2 < x.2) := by
  refine ⟨X.take (s - a), X.drop (s - a), Y.take (N - s - m), Y.drop (N - s - m), (List.take_append_drop _ _).symm, (List.take_append_drop _ _).symm, by rw [List.length_take]; omega, by rw [List.length_drop]; omega, by rw [List.length_take]; omega, by rw [List.length_drop]; omega, fun x hxm y hym => ?_, fun y hym x hxm => ?_⟩
  · obtain ⟨i, hi1, hi2, e1⟩ := mem_take_cls hxm
    obtain ⟨k, hk1, hk2, e2⟩ := mem_drop_cls hym
    rcases I1 with h | h
    · rcases hc with ⟨hc1, hc2⟩ | ⟨hc1, hc2⟩ <;> omega
    · have g1 := srt_cls hX (show i ≤ s - 1 - a by omega) (by omega)
      have g2 := srt_cls hY hk1 hk2
      rw [e1, e2]; omega
  · obtain ⟨i, hi1, hi2, e1⟩ := mem_drop_cls hxm
    obtain ⟨k, hk1, hk2, e2⟩ := mem_take_cls hym
    rcases I2 with h | h
    · rcases hc with ⟨hc1, hc2⟩ | ⟨hc1, hc2⟩ <;> omega
    · have g1 := srt_cls hX hi1 hi2
      have g2 := srt_cls hY (show k ≤ N - 1 - s - m by omega) (by omega)
      rw [e1, e2]; omega

/-- What is merged. -/
def Merged (b o n : Nat) (A X Y C : List Pt) (W : World) (r : Ending) (W' : World) : Prop := r = .returned (.tuple #[]) ∧ ∃ Z, Pts W' b o (A ++ Z ++ C) ∧ Chg b o n W W' ∧ Srt Z ∧ Stb (X ++ Y) Z

set_option maxRecDepth 100000 in
set_option maxHeartbeats 4000000 in
theorem sym_gen (F b o cap n : Nat) (hsz : n ≤ 1000000)
    (ih : ∀ (a m e : Nat) (A X Y C : List Pt) (W : World), A.length = a → a + X.length = m → m + Y.length = e → e + C.length = n → 0 < X.length → 0 < Y.length → Srt X → Srt Y → e - a < F → Pts W b o (A ++ X ++ Y ++ C) →
      Calls Tryd.prog 93 #[.slice (some ⟨b, o, none⟩) n cap, .int .i64 a, .int .i64 m, .int .i64 e, .func (.func 79) #[] #[]] W fun r W' => Merged b o n A X Y C W r W')
    (a m e : Nat) (A X Y C : List Pt) (W : World) (ha : A.length = a) (hx : a + X.length = m) (hy : m + Y.length = e) (hn : e + C.length = n) (hx1 : 1 < X.length) (hy1 : 1 < Y.length) (hX : Srt X) (hY : Srt Y) (hF : e - a = F) (hP : Pts W b o (A ++ X ++ Y ++ C)) :
    Calls Tryd.prog 93 #[.slice (some ⟨b, o, none⟩) n cap, .int .i64 a, .int .i64 m, .int .i64 e, .func (.func 79) #[] #[]] W fun r W' => Merged b o n A X Y C W r W' := by
  have ham : a + 1 < m := by omega
  have hme : m + 1 < e := by omega
  have hen : e ≤ n := by omega
  have q1 : ((m : Int) - (a : Int) == 1) = false := by simp; omega
  have q2 : ((e : Int) - (m : Int) == 1) = false := by simp; omega
  obtain ⟨mid, hmid, hm1, hm2⟩ : ∃ mid : Nat, ((a : Int) + (e : Int)) / 2 = (mid : Int) ∧ 2 * mid ≤ a + e ∧ a + e ≤ 2 * mid + 1 := ⟨(a + e) / 2, by omega, by omega, by omega⟩
  obtain ⟨N, hN, hN2⟩ : ∃ N : Nat, (mid : Int) + (m : Int) = (N : Int) ∧ mid + m = N := ⟨mid + m, by omega, rfl⟩
  obtain ⟨p, hp, hp2⟩ : ∃ p : Nat, (N : Int) - 1 = (p : Int) ∧ p + 1 = N := ⟨N - 1, by omega, by omega⟩
  have HN2 := hid hN2
  have HP2 := hid hp2
  have HIH := hid ih
  have HA := hid ha
  have HX := hid hx
  have HY := hid hy
  have HN := hid hn
  have HSX := hid hX
  have HSY := hid hY
  have HP := hid hP
  have HF := hid hF
  have hNn : N ≤ 2000000 := by omega
  clear ha hx hy hn hP hX hY hF ih hN2 hp2 hx1 hy1
  go_enter Tryd.func93, Tryd.ntmps93
  go_upto_if 140 with fail
  go_cut [20, 21] from 138 (fun v20 v21 wc => ∃ lo hi : Nat, v20 = .int .i64 lo ∧ v21 = .int .i64 hi ∧ W = wc ∧ Hid ((lo = a ∧ hi = m) ∨ (lo + e = N ∧ hi = mid)) ∧ a ≤ lo ∧ lo ≤ hi ∧ hi ≤ m ∧ hi ≤ mid ∧ N ≤ lo + e)
  case first =>
    by_cases hmm : mid < m
    · have hz : (mid : Int) < (m : Int) := by omega
      have hz2 : (N : Int) - (e : Int) = ((N - e : Nat) : Int) := by have := HN2.out; omega
      go_wp2
      go_meet
      case rel => exact ⟨N - e, mid, by first | rfl | (congr 1), rfl, rfl, .inr ⟨by have := HN2.out; omega, rfl⟩, by have := HN2.out; omega, by have := HN2.out; omega, by omega, Nat.le_refl _, by have := HN2.out; omega⟩
    · have hz : ¬ (mid : Int) < (m : Int) := by omega
      go_wp2
      go_meet
      case rel => exact ⟨a, m, rfl, rfl, rfl, .inl ⟨rfl, rfl⟩, Nat.le_refl _, by omega, Nat.le_refl _, by omega, by have := HN2.out; omega⟩
  case rest =>
    obtain ⟨lo, hi, rfl, rfl, rfl, HC, hl1, hl2, hl3, hl4, hl5⟩ := hcut
    go_wp2_with fail
    go_loopw [20, 21, 23] (fun vs vr vc wr => ∃ (s r : Nat), vs = .int .i64 s ∧ vr = .int .i64 r ∧ lo ≤ s ∧ s ≤ r ∧ r ≤ hi ∧ Below W.heap.size W wr ∧ Hid (s = lo ∨ cls X (s - 1 - a) ≤ cls Y (N - s - m)) ∧ Hid (r = hi ∨ cls Y (N - 1 - r - m) < cls X (r - a)))
      (fun vs vr _ _ => (intOf vr).toNat - (intOf vs).toNat)
    case atStart => exact ⟨lo, hi, rfl, rfl, Nat.le_refl _, hl2, Nat.le_refl _, Below.refl _ _, .inl rfl, .inl rfl⟩
    case round =>
      obtain ⟨s, r, rfl, rfl, hs1, hsr, hr1, hB, I1, I2⟩ := hrel
      by_cases hlt : s < r
      · have hltz : (s : Int) < (r : Int) := by omega
        obtain ⟨c, hc, hc1, hc2⟩ : ∃ c : Nat, ((s : Int) + (r : Int)) / 2 = (c : Int) ∧ s ≤ c ∧ c < r := ⟨(s + r) / 2, by omega, by omega, by omega⟩
        obtain ⟨d, hd, hd2⟩ : ∃ d : Nat, (p : Int) - (c : Int) = (d : Int) ∧ d + c + 1 = N := ⟨p - c, by have := HP2.out; have := HN2.out; omega, by have := HP2.out; have := HN2.out; omega⟩
        have HD2 := hid hd2
        have hdm : m ≤ d := by have := HN2.out; omega
        have hde : d < e := by have := HN2.out; omega
        clear hd2
        have hPr : Pts wr b o (A ++ X ++ Y ++ C) := HP.out.below hB HP.out.lt
        have hlen : (A ++ X ++ Y ++ C).length = n := by have := HA.out; have := HX.out; have := HY.out; have := HN.out; simp; omega
        have hcx : c - a < X.length := by have := HX.out; omega
        have hdy : d - m < Y.length := by have := HY.out; omega
        have e0 := hPr.c0 c (by omega)
        have e1 := hPr.c1 c (by omega)
        have e2 := hPr.c0 d (by omega)
        have e3 := hPr.c1 d (by omega)
        have eg : (A ++ X ++ Y ++ C)[c]?.getD z2 = X[c - a]?.getD z2 := by
          rw [show A ++ X ++ Y ++ C = A ++ X ++ (Y ++ C) by simp, show c = a + (c - a) by omega, get_in _ _ _ a (c - a) HA.out hcx]
          congr 2; omega
        have eh : (A ++ X ++ Y ++ C)[d]?.getD z2 = Y[d - m]?.getD z2 := by
          rw [show d = m + (d - m) by omega, get_in _ _ _ m (d - m) (by have := HA.out; have := HX.out; simp; omega) hdy]
          congr 2; omega
        rw [eg] at e0 e1
        rw [eh] at e2 e3
        have HCX : Hid (cls X (c - a) = (X[c - a]?.getD z2).2) := rfl
        have HCY : Hid (cls Y (d - m) = (Y[d - m]?.getD z2).2) := rfl
        generalize X[c - a]?.getD z2 = x at e0 e1 HCX
        generalize Y[d - m]?.getD z2 = y at e2 e3 HCY
        have hlb : b < wr.heap.size := hPr.lt
        have hz1 : (c : Int) < (n : Int) := by omega
        have hz2 : (d : Int) < (n : Int) := by omega
        have hne : Nonempty (Later wr) := ⟨⟨wr, Below.refl _ _⟩⟩
        have x0 : ∀ u : Later wr, u.W.cell? ⟨b, o + c * 2, none⟩ = some (.int .i32 x.1) := fun u => (u.h.cell (p := ⟨b, o + c * 2, none⟩) hlb).trans e0
        have x1 : ∀ u : Later wr, u.W.cell? ⟨b, o + c * 2 + 1, none⟩ = some (.int .u8 x.2) := fun u => (u.h.cell (p := ⟨b, o + c * 2 + 1, none⟩) hlb).trans e1
        have x2 : ∀ u : Later wr, u.W.cell? ⟨b, o + d * 2, none⟩ = some (.int .i32 y.1) := fun u => (u.h.cell (p := ⟨b, o + d * 2, none⟩) hlb).trans e2
        have x3 : ∀ u : Later wr, u.W.cell? ⟨b, o + d * 2 + 1, none⟩ = some (.int .u8 y.2) := fun u => (u.h.cell (p := ⟨b, o + d * 2 + 1, none⟩) hlb).trans e3
        have hcall : Hid (∀ W : World, Calls Tryd.prog 79 #[.agg #[.int .i32 y.1, .int .u8 y.2], .agg #[.int .i32 x.1, .int .u8 x.2]] W fun e w' => e = .returned (.int .i64 (cmpI y.2 x.2)) ∧ Below W.heap.size W w') := fun W => byClass_any y x W
        have hci := cmpI_neg y.2 x.2
        generalize cmpI y.2 x.2 = ci at hci hcall
        have HB := hid hB
        clear e0 e1 e2 e3 eg eh hPr hB
        by_cases hxp : y.2 < x.2
        · have hci' : ci < 0 := hci.2 hxp
          clear hci
          go_wp2_with fail
          refine wp_region_quiet_in (by kernel_rfl) (by kernel_rfl) ?_
          repeat (go_big_quiet_step ((go_at_call 79; exact Later.call _ (hcall.out _))))
          refine wpQuiet_nil ?_
          rintro _ ⟨u, rfl⟩
          have HBu := hid (HB.out.trans (u.h.mono HB.out.size))
          clear x0 x1 x2 x3 hne
          generalize u.W = wu at *
          go_wp2
          go_roundw
          case rel => exact ⟨s, c, rfl, rfl, hs1, hc1, by omega, HBu.out, I1, .inr (by rw [show N - 1 - c - m = d - m by have := HD2.out; omega, HCX.out, HCY.out]; exact hxp)⟩
          case measure => simp [intOf] <;> omega
        · have hci' : ¬ ci < 0 := fun h => hxp (hci.1 h)
          have hcd : decide (ci < 0) = false := by simpa using hci'
          clear hci
          go_wp2_with fail
          refine wp_region_quiet_in (by kernel_rfl) (by kernel_rfl) ?_
          repeat (go_big_quiet_step ((go_at_call 79; exact Later.call _ (hcall.out _))))
          refine wpQuiet_nil ?_
          rintro _ ⟨u, rfl⟩
          have HBu := hid (HB.out.trans (u.h.mono HB.out.size))
          clear x0 x1 x2 x3 hne
          generalize u.W = wu at *
          go_wp2
          go_roundw
          case rel => exact ⟨c + 1, r, by go_num, rfl, by omega, by omega, hr1, HBu.out, .inr (by rw [show c + 1 - 1 - a = c - a by omega, show N - (c + 1) - m = d - m by have := HD2.out; omega, HCX.out, HCY.out]; omega), I2⟩
          case measure => simp [intOf] <;> omega
      · have hltz : ¬ (s : Int) < (r : Int) := by omega
        obtain rfl : s = r := by omega
        obtain ⟨X1, X2, Y1, Y2, hXX, hYY, l1, l2, l3, l4, C1, C2⟩ := cut_parts HX.out HY.out HN2.out HSX.out HSY.out HC.out hs1 hr1 (by omega) (by omega) (by omega) (by omega) I1.out I2.out
        obtain ⟨t, ht, ht2⟩ : ∃ t : Nat, (N : Int) - (s : Int) = (t : Int) ∧ t + s = N := ⟨N - s, by have := HN2.out; omega, by have := HN2.out; omega⟩
        have hts : N - s = t := by omega
        rw [hts] at l3 l4
        have HT2 := hid ht2
        have L1 := hid l1
        have L2 := hid l2
        have L3 := hid l3
        have L4 := hid l4
        have b1 : a ≤ s := by omega
        have b2 : s ≤ m := by omega
        have b3 : m ≤ t := by omega
        have b4 : t ≤ e := by omega
        have b5 : s ≤ mid := by omega
        have b6 : mid ≤ t := by have := HN2.out; omega
        have HXX := hid hXX
        have HYY := hid hYY
        have HC1 := hid C1
        have HC2 := hid C2
        have HSp : Hid (Srt (X1 ++ X2) ∧ Srt (Y1 ++ Y2)) := ⟨by rw [← hXX]; exact HSX.out, by rw [← hYY]; exact HSY.out⟩
        have hPr : Hid (Pts wr b o (A ++ X1 ++ X2 ++ Y1 ++ Y2 ++ C)) := by
          have := HP.out.below hB HP.out.lt
          show Pts _ _ _ _
          rw [hXX, hYY] at this; simpa using this
        have hCr : Hid (Chg b o n W wr) := (Chg.refl HP.out n).below hB
        clear hXX hYY l1 l2 l3 l4 C1 C2 ht2 hts hB I1 I2 hltz
        go_upto_region 39 with fail
        go_cut [185] from 178 (fun v wc => v = .bool (decide (s < m ∧ m < t)) ∧ wr = wc)
        case first =>
          by_cases g1 : s < m
          · have g1z : (s : Int) < (m : Int) := by omega
            have g1d : decide ((s : Int) < (m : Int)) = true := decide_eq_true g1z
            by_cases g2 : m < t
            · have g2z : (m : Int) < (t : Int) := by omega
              have g2d : decide ((m : Int) < (t : Int)) = true := decide_eq_true g2z
              have GG : Hid (decide (s < m ∧ m < t) = true) := decide_eq_true ⟨g1, g2⟩
              go_wp2
              go_meet
              case rel => exact ⟨by rw [GG.out], rfl⟩
            · have g2d : decide ((m : Int) < (t : Int)) = false := decide_eq_false (by omega)
              have GG : Hid (decide (s < m ∧ m < t) = false) := decide_eq_false (fun h => g2 h.2)
              go_wp2
              go_meet
              case rel => exact ⟨by rw [GG.out], rfl⟩
          · have g1d : decide ((s : Int) < (m : Int)) = false := decide_eq_false (by omega)
            have GG : Hid (decide (s < m ∧ m < t) = false) := decide_eq_false (fun h => g1 h.1)
            go_wp2
            go_meet
            case rel => exact ⟨by rw [GG.out], rfl⟩
        case rest =>
          obtain ⟨rfl, rfl⟩ := hcut
          obtain ⟨B, hB⟩ : ∃ B : Bool, B = decide (s < m ∧ m < t) := ⟨_, rfl⟩
          rw [← hB]
          have HB := hid hB
          clear hB
          go_upto_if 185 with fail
          go_cut [] from 178 (fun wc => Hid (Pts wc b o (A ++ X1 ++ Y1 ++ X2 ++ Y2 ++ C)) ∧ Hid (Chg b o n W wc))
          case first =>
            cases B with
            | true =>
              have hb := of_decide_eq_true HB.out.symm
              have hc := rotate_any b o cap n s m t (A ++ X1) X2 Y1 (Y2 ++ C) (.func (.func 79) #[] #[]) wr (by have := HA.out; have := L1.out; simp; omega) L2.out L3.out (by have := L4.out; have := HN.out; simp; omega) (by have := L2.out; omega) (by have := L3.out; omega) hsz (by have := hPr.out; simpa using this)
              have HCc := hid hc
              clear hc hb
              go_wp2_with fail
              refine (show Calls _ _ _ _ _ from HCc.out).mono ?_
              rintro r w2 ⟨rfl, hPn, hCn⟩
              go_wp2
              go_meet
              case rel => exact ⟨by show Pts _ _ _ _; simpa using hPn, hCr.out.trans hCn⟩
            | false =>
              have hb := of_decide_eq_false HB.out.symm
              have hz : X2 = [] ∨ Y1 = [] := by
                by_cases h : s < m
                · exact .inr (List.length_eq_zero_iff.1 (by have := L3.out; omega))
                · exact .inl (List.length_eq_zero_iff.1 (by have := L2.out; omega))
              have HPn : Hid (Pts wr b o (A ++ X1 ++ Y1 ++ X2 ++ Y2 ++ C)) := by
                show Pts _ _ _ _
                have := hPr.out
                rcases hz with hz | hz <;> rw [hz] at this ⊢ <;> simpa using this
              clear hb hz
              go_wp2
              go_meet
              case rel => exact ⟨HPn, hCr⟩
          case rest =>
            obtain ⟨HP1, HC1r⟩ := hcut
            clear hPr hCr HB
            generalize wc = wr at *
            go_upto_region 41 with fail
            go_cut [199] from 192 (fun v wc => v = .bool (decide (a < s ∧ s < mid)) ∧ wr = wc)
            case first =>
              by_cases g1 : a < s
              · have g1z : (a : Int) < (s : Int) := by omega
                have g1d : decide ((a : Int) < (s : Int)) = true := decide_eq_true g1z
                by_cases g2 : s < mid
                · have g2z : (s : Int) < (mid : Int) := by omega
                  have g2d : decide ((s : Int) < (mid : Int)) = true := decide_eq_true g2z
                  have GG : Hid (decide (a < s ∧ s < mid) = true) := decide_eq_true ⟨g1, g2⟩
                  go_wp2
                  go_meet
                  case rel => exact ⟨by rw [GG.out], rfl⟩
                · have g2d : decide ((s : Int) < (mid : Int)) = false := decide_eq_false (by omega)
                  have GG : Hid (decide (a < s ∧ s < mid) = false) := decide_eq_false (fun h => g2 h.2)
                  go_wp2
                  go_meet
                  case rel => exact ⟨by rw [GG.out], rfl⟩
              · have g1d : decide ((a : Int) < (s : Int)) = false := decide_eq_false (by omega)
                have GG : Hid (decide (a < s ∧ s < mid) = false) := decide_eq_false (fun h => g1 h.1)
                go_wp2
                go_meet
                case rel => exact ⟨by rw [GG.out], rfl⟩
            case rest =>
              obtain ⟨rfl, rfl⟩ := hcut
              obtain ⟨B, hB⟩ : ∃ B : Bool, B = decide (a < s ∧ s < mid) := ⟨_, rfl⟩
              rw [← hB]
              have HB := hid hB
              clear hB
              go_upto_if 199 with fail
              go_cut [] from 192 (fun wc => ∃ Z1, Hid (Pts wc b o (A ++ Z1 ++ X2 ++ Y2 ++ C)) ∧ Hid (Chg b o n W wc) ∧ Hid (Srt Z1) ∧ Hid (Stb (X1 ++ Y1) Z1))
              case first =>
                cases B with
                | true =>
                  have hb := of_decide_eq_true HB.out.symm
                  have hc := HIH.out a s mid A X1 Y1 (X2 ++ Y2 ++ C) wr HA.out L1.out (by have := L3.out; have := HT2.out; have := HN2.out; omega) (by have := L2.out; have := L4.out; have := HN.out; have := HT2.out; have := HN2.out; simp; omega) (by have := L1.out; omega) (by have := L3.out; have := HT2.out; have := HN2.out; omega) (srt_append.1 HSp.out.1).1 (srt_append.1 HSp.out.2).1 (by have := HF.out; omega) (by have := HP1.out; simpa using this)
                  have HCc := hid hc
                  clear hc hb
                  go_wp2_with fail
                  refine (show Calls _ _ _ _ _ from HCc.out).mono ?_
                  rintro r w2 ⟨rfl, Z1, hPn, hCn, hS1, hT1⟩
                  go_wp2
                  go_meet
                  case rel => exact ⟨Z1, by show Pts _ _ _ _; simpa using hPn, HC1r.out.trans hCn, hS1, hT1⟩
                | false =>
                  have hb := of_decide_eq_false HB.out.symm
                  have hz : X1 = [] ∨ Y1 = [] := by
                    by_cases h : a < s
                    · exact .inr (List.length_eq_zero_iff.1 (by have := L3.out; have := HT2.out; have := HN2.out; omega))
                    · exact .inl (List.length_eq_zero_iff.1 (by have := L1.out; omega))
                  have HPn : Hid (Pts wr b o (A ++ (X1 ++ Y1) ++ X2 ++ Y2 ++ C) ∧ Srt (X1 ++ Y1)) := by
                    refine ⟨by have := HP1.out; simpa using this, ?_⟩
                    exact srt_or (srt_append.1 HSp.out.1).1 (srt_append.1 HSp.out.2).1 hz
                  clear hb hz
                  go_wp2
                  go_meet
                  case rel => exact ⟨X1 ++ Y1, HPn.out.1, HC1r, HPn.out.2, Stb.refl _⟩
              case rest =>
                obtain ⟨Z1, HP2r, HC2r, HS1, HT1⟩ := hcut
                clear HP1 HC1r HB
                generalize wc = wr at *
                have HL1 : Hid (Z1.length + a = mid) := by
                  show _ = _
                  have := HT1.out.len; have := L1.out; have := L3.out; have := HT2.out; have := HN2.out; simp at *; omega
                go_upto_region 43 with fail
                go_cut [213] from 206 (fun v wc => v = .bool (decide (mid < t ∧ t < e)) ∧ wr = wc)
                case first =>
                  by_cases g1 : mid < t
                  · have g1z : (mid : Int) < (t : Int) := by omega
                    have g1d : decide ((mid : Int) < (t : Int)) = true := decide_eq_true g1z
                    by_cases g2 : t < e
                    · have g2z : (t : Int) < (e : Int) := by omega
                      have g2d : decide ((t : Int) < (e : Int)) = true := decide_eq_true g2z
                      have GG : Hid (decide (mid < t ∧ t < e) = true) := decide_eq_true ⟨g1, g2⟩
                      go_wp2
                      go_meet
                      case rel => exact ⟨by rw [GG.out], rfl⟩
                    · have g2d : decide ((t : Int) < (e : Int)) = false := decide_eq_false (by omega)
                      have GG : Hid (decide (mid < t ∧ t < e) = false) := decide_eq_false (fun h => g2 h.2)
                      go_wp2
                      go_meet
                      case rel => exact ⟨by rw [GG.out], rfl⟩
                  · have g1d : decide ((mid : Int) < (t : Int)) = false := decide_eq_false (by omega)
                    have GG : Hid (decide (mid < t ∧ t < e) = false) := decide_eq_false (fun h => g1 h.1)
                    go_wp2
                    go_meet
                    case rel => exact ⟨by rw [GG.out], rfl⟩
                case rest =>
                  obtain ⟨rfl, rfl⟩ := hcut
                  obtain ⟨B, hB⟩ : ∃ B : Bool, B = decide (mid < t ∧ t < e) := ⟨_, rfl⟩
                  rw [← hB]
                  have HB := hid hB
                  clear hB
                  cases B with
                  | true =>
                    have hb := of_decide_eq_true HB.out.symm
                    have hc := HIH.out mid t e (A ++ Z1) X2 Y2 C wr (by have := HA.out; have := HL1.out; simp; omega) (by have := L2.out; have := HT2.out; have := HN2.out; omega) L4.out HN.out (by have := L2.out; have := HT2.out; have := HN2.out; omega) (by have := L4.out; omega) (srt_append.1 HSp.out.1).2.1 (srt_append.1 HSp.out.2).2.1 (by have := HF.out; omega) (by have := HP2r.out; simpa using this)
                    have HCc := hid hc
                    clear hc hb
                    go_wp2_with fail
                    refine (show Calls _ _ _ _ _ from HCc.out).mono ?_
                    rintro r w2 ⟨rfl, Z2, hPn, hCn, hS2, hT2⟩
                    go_wp2
                    go_end0
                    have hfin := merge_parts HSp.out.1 HSp.out.2 HC1.out HC2.out HS1.out hS2 HT1.out hT2
                    refine ⟨rfl, Z1 ++ Z2, by simpa using hPn, HC2r.out.trans hCn, hfin.1, ?_⟩
                    rw [HXX.out, HYY.out]; exact hfin.2
                  | false =>
                    have hb := of_decide_eq_false HB.out.symm
                    have hz : X2 = [] ∨ Y2 = [] := by
                      by_cases h : mid < t
                      · exact .inr (List.length_eq_zero_iff.1 (by have := L4.out; omega))
                      · exact .inl (List.length_eq_zero_iff.1 (by have := L2.out; have := HT2.out; have := HN2.out; omega))
                    have HS2 : Hid (Srt (X2 ++ Y2)) := by
                      exact srt_or (srt_append.1 HSp.out.1).2.1 (srt_append.1 HSp.out.2).2.1 hz
                    clear hb hz
                    go_wp2
                    go_end0
                    have hfin := merge_parts HSp.out.1 HSp.out.2 HC1.out HC2.out HS1.out HS2.out HT1.out (Stb.refl _)
                    refine ⟨rfl, Z1 ++ (X2 ++ Y2), by have := HP2r.out; simpa using this, HC2r.out, hfin.1, ?_⟩
                    rw [HXX.out, HYY.out]; exact hfin.2

theorem sym_any (b o cap n : Nat) (hsz : n ≤ 1000000) : ∀ (F : Nat) (a m e : Nat) (A X Y C : List Pt) (W : World), A.length = a → a + X.length = m → m + Y.length = e → e + C.length = n → 0 < X.length → 0 < Y.length → Srt X → Srt Y → e - a < F → Pts W b o (A ++ X ++ Y ++ C) →
    Calls Tryd.prog 93 #[.slice (some ⟨b, o, none⟩) n cap, .int .i64 a, .int .i64 m, .int .i64 e, .func (.func 79) #[] #[]] W fun r W' => Merged b o n A X Y C W r W' := by
  intro F
  induction F with
  | zero => intro a m e A X Y C W _ _ _ _ _ _ _ _ h; omega
  | succ F ih =>
    intro a m e A X Y C W ha hx hy hn hX0 hY0 hX hY hF hP
    by_cases h1 : X.length = 1
    · obtain ⟨x, rfl⟩ := List.length_eq_one_iff.1 h1
      exact sym_left b o cap n a m e A x Y C W ha (by simpa using hx) hy hn hY hsz (by simpa using hP)
    by_cases h2 : Y.length = 1
    · obtain ⟨y, rfl⟩ := List.length_eq_one_iff.1 h2
      exact sym_right b o cap n a m e A X y C W ha hx h1 (by simpa using hy) hn hX hsz (by simpa using hP)
    exact sym_gen (e - a) b o cap n hsz (fun a' m' e' A' X' Y' C' W' q1 q2 q3 q4 q5 q6 q7 q8 q9 q10 => ih a' m' e' A' X' Y' C' W' q1 q2 q3 q4 q5 q6 q7 q8 (by omega) q10) a m e A X Y C W ha hx hy hn (by omega) (by omega) hX hY rfl hP
end Go.Proofs.YtpkegjbmnilmdaaDoor.N
