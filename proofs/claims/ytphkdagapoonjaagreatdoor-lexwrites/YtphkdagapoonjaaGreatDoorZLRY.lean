/- The document's Write; LexWrites. -/
import Derived.Test.YtphkdagapoonjaaGreatDoorZLRW
import Derived.Test.YtphkdagapoonjaaGreatDoorZLPT
import Derived.Test.YtphkdagapoonjaaGreatDoorLQC
namespace Go.Proofs.YtphkdagapoonjaaGreatDoor.Lx
open Go.RowKit
open Go.Proofs.YtphkdagapoonjaaGreatDoor.F (bn bn_length bn_append bn_inj bn_get byte_bd hid bn_extract isEmpty_false isEmpty_true str_eq same_eq)
open Go.Proofs.YtphkdagapoonjaaGreatDoor.U (nx enc encs scal Bytes)
set_option linter.unusedVariables false

theorem rok_cons (last : Nat) (t : Tk) (r : List Tk) : ok last (t :: r) ↔ (t.k = 1 ∧ wd t.x ∨ t.k = 2 ∧ U.val t.x = true ∨ (t.k = 3 ∨ t.k = 4 ∨ t.k = 5 ∧ last ≠ 5) ∧ t.x = []) ∧ ok t.k r := by rw [ok]
theorem wr_cons (last : Nat) (t : Tk) (r : List Tk) : Lx.wr last (t :: r) = sep last t.k ++ (tw t ++ Lx.wr t.k r) := by rw [Lx.wr, List.append_assoc]
theorem drop_tk {l : List Tb} {i : Nat} {t : Tb} (hi : i < l.length) (ht : l[i]?.getD z4 = t) : (l.map Tb.tk).drop i = t.tk :: (l.map Tb.tk).drop (i + 1) := by
  rw [List.drop_eq_getElem_cons (by simpa using hi), List.getElem_map]
  rw [List.getElem?_eq_getElem hi] at ht
  rw [show l[i] = t from ht]
def Sml8 (l : List Tb) : Prop := ∀ t ∈ l, t.k ≤ 255 ∧ t.x.size ≤ 8192
set_option maxRecDepth 100000 in
set_option maxHeartbeats 16000000 in
theorem rwrite_any (a : Option Addr) (n c : Nat) (l : List Tb) (w : World) (hat : TokAt w (.slice a n c) l) (hn : n ≤ 2048) (hs : Sml8 l) :
    Calls Tryz.prog 11 #[.slice a n c] w fun e w' => WrtR (l.map Tb.tk) e ∧ Below w.heap.size w w' := by
  obtain rfl := hat.len
  have HA := hid hat
  have HSM := hid hs
  have HWD : Hid (∀ (x : ByteArray) (hx : x.size ≤ 8192) (W : World), Calls Tryz.prog 26 #[.string x] W fun e W' => (∃ b : Bool, e = .returned (.bool b) ∧ (b = true ↔ wd (bn x))) ∧ Below W.heap.size W W') := fun x hx W => rword_any x (by omega) W
  have HQU : Hid (∀ (x : ByteArray) (hx : x.size ≤ 8192) (W : World), Calls Tryz.prog 13 #[.string x] W fun e W' => QuR (bn x) e ∧ Below W.heap.size W W') := fun x hx W => rquote_any x (by omega) W
  clear hat hs
  go_enter Tryz.func11, Tryz.ntmps11
  go_wp2_with fail
  go_loopw [4, 5, 6, 7] (fun vs vg vk vi wr => ∃ (i last : Nat) (S : ByteArray), i ≤ l.length ∧ last ≤ 255 ∧ S.size ≤ i * 60000 ∧ vs = .string S ∧ vg = .bool false ∧ vk = .int .u8 (last : Int) ∧ vi = .int .i64 (i : Int) ∧ Hid (ok 5 (l.map Tb.tk) ↔ ok last ((l.map Tb.tk).drop i)) ∧ Hid (Lx.wr 5 (l.map Tb.tk) = bn S ++ Lx.wr last ((l.map Tb.tk).drop i)) ∧ Hid (Below w.heap.size w wr)) (fun _ _ _ vi _ => l.length - (intOf vi).toNat)
  case atStart => exact ⟨0, 5, ⟨#[]⟩, Nat.zero_le _, by decide, Nat.zero_le _, rfl, rfl, rfl, rfl, Iff.rfl, rfl, Below.refl _ _⟩
  case round =>
    obtain ⟨i, last, S, hi, hlast, hS, rfl, rfl, rfl, rfl, HOK, HWR, HW⟩ := hrel
    by_cases hlt : i < l.length
    rotate_left
    · have hltz : ¬ (i : Int) < (l.length : Int) := by omega
      have hd : (l.map Tb.tk).drop i = [] := List.drop_eq_nil_of_le (by rw [List.length_map]; omega)
      have HOK2 : Hid (ok 5 (l.map Tb.tk) ↔ last = 5) := by
        have h := HOK.out
        rw [hd] at h
        exact h
      have HWR2 : Hid (Lx.wr 5 (l.map Tb.tk) = bn S) := by
        have h := HWR.out
        rw [hd, show Lx.wr last [] = [] by rw [Lx.wr], List.append_nil] at h
        exact h
      clear HOK HWR HWD HQU HA HSM hd
      by_cases h5 : last = 5
      rotate_left
      · have q5 : ((last : Int) != 5) = true := by simp; omega
        have HNO : Hid (¬ ok 5 (l.map Tb.tk)) := fun h => h5 (HOK2.out.1 h)
        clear HOK2 HWR2 h5
        go_wp2
        go_ret2
        exact ⟨.inl ⟨HNO.out, rfl⟩, HW.out⟩
      have q5 : ((last : Int) != 5) = false := by simp; omega
      have HY := hid (HOK2.out.2 h5)
      clear HOK2 h5
      by_cases hbig : 65536 < S.size
      · have qb : (65536 : Int) < (S.size : Int) := by omega
        have HL : Hid (65536 < (Lx.wr 5 (l.map Tb.tk)).length) := by show _ < _; rw [HWR2.out, bn_length]; exact hbig
        clear HWR2
        go_wp2
        go_ret2
        exact ⟨.inr (.inl ⟨HY.out, HL.out, rfl⟩), HW.out⟩
      · have qb : ¬ (65536 : Int) < (S.size : Int) := by omega
        have HL : Hid ((Lx.wr 5 (l.map Tb.tk)).length ≤ 65536) := by show _ ≤ _; rw [HWR2.out, bn_length]; omega
        go_wp2
        go_ret2
        exact ⟨.inr (.inr ⟨HY.out, HL.out, S, HWR2.out.symm, rfl⟩), HW.out⟩
    have hltz : (i : Int) < (l.length : Int) := by omega
    obtain ⟨t, ht⟩ : ∃ t, l[i]?.getD z4 = t := ⟨_, rfl⟩
    have hmem : t ∈ l := by rw [← ht, List.getElem?_eq_getElem hlt]; exact List.getElem_mem hlt
    obtain ⟨hk255, hx8⟩ := HSM.out t hmem
    obtain ⟨b, off, rfl, c0, c1, c2, c3⟩ := (HA.out.below HW.out).cell hlt
    rw [ht] at c0 c1 c2 c3
    have HT0 := hid (drop_tk hlt ht)
    have HT1 : Hid (ok 5 (l.map Tb.tk) ↔ (t.k = 1 ∧ wd (bn t.x) ∨ t.k = 2 ∧ U.val (bn t.x) = true ∨ (t.k = 3 ∨ t.k = 4 ∨ t.k = 5 ∧ last ≠ 5) ∧ bn t.x = []) ∧ ok t.k ((l.map Tb.tk).drop (i + 1))) := by
      show _ ↔ _
      rw [HOK.out, HT0.out, rok_cons]; rfl
    have HT2 : Hid (∀ (Z : ByteArray), bn Z = sep last t.k ++ tw t.tk → Lx.wr 5 (l.map Tb.tk) = bn (S ++ Z) ++ Lx.wr t.k ((l.map Tb.tk).drop (i + 1))) := fun Z hZ => by
      rw [HWR.out, HT0.out, wr_cons, bn_append, hZ]; simp only [List.append_assoc]; rfl
    clear HT0 HOK HWR ht hmem
    obtain ⟨k, x, tn, ta⟩ := t
    simp only at c0 c1 c2 c3 hk255 hx8 HT1 HT2
    have HAL : Hid (Below w.heap.size w (wr.alloc (.cells (tcs ⟨k, x, tn, ta⟩) 40))) := HW.out.alloc HW.out.size _
    have hl3 : (((last : Int) != 5) = false ∧ ((last : Int) == 5) = true ∧ last = 5) ∨ (((last : Int) != 5) = true ∧ ((last : Int) == 5) = false ∧ ((last : Int) != 4) = false ∧ last = 4) ∨ (((last : Int) != 5) = true ∧ ((last : Int) == 5) = false ∧ ((last : Int) != 4) = true ∧ last ≠ 5 ∧ last ≠ 4) := by
      rcases Nat.decEq last 5 with h5 | h5
      · rcases Nat.decEq last 4 with h4 | h4
        · exact .inr (.inr ⟨by simp; omega, by simp; omega, by simp; omega, h5, h4⟩)
        · exact .inr (.inl ⟨by simp; omega, by simp; omega, by simp; omega, h4⟩)
      · exact .inl ⟨by simp; omega, by simp; omega, h5⟩
    have HL3 := hid hl3
    clear hl3
    by_cases hk1 : k = 1
    · subst hk1
      replace c0 : wr.cell? ⟨b, off + i * 4, none⟩ = some (.int .u8 1) := c0
      have HT3 : Hid (ok 5 (l.map Tb.tk) ↔ wd (bn x) ∧ ok 1 ((l.map Tb.tk).drop (i + 1))) := (by show _ ↔ _; simpa using HT1.out)
      have HT4 : Hid (∀ Z : ByteArray, bn Z = sep last 1 ++ bn x → Lx.wr 5 (l.map Tb.tk) = bn (S ++ Z) ++ Lx.wr 1 ((l.map Tb.tk).drop (i + 1))) := HT2.out
      clear HT1 HT2 HQU
      go_wp2_with fail
      refine (HWD.out x hx8 _).mono ?_
      rintro e w5 ⟨⟨v, rfl, hv⟩, B⟩
      have HE := hid (HAL.out.trans (B.mono HAL.out.size))
      have k0 : w5.cell? ⟨wr.heap.size, 0, none⟩ = some (.int .u8 1) := keeps B (World.cell?_alloc_new wr _ _ 0)
      have k1 : w5.cell? ⟨wr.heap.size, 1, none⟩ = some (.string x) := keeps B (World.cell?_alloc_new wr _ _ 1)
      clear B HAL HW c0 c1 c2 c3 HWD HA HSM
      cases v with
      | false =>
        have HNO : Hid (¬ ok 5 (l.map Tb.tk)) := fun h => by have := hv.2 (HT3.out.1 h).1; cases this
        clear HT3 HT4 hv HL3
        go_wp2
        go_ret2
        exact ⟨.inl ⟨HNO.out, rfl⟩, HE.out⟩
      | true =>
        have hw := hv.1 rfl
        have hpos : 0 < x.size := by
          have := List.length_pos_iff.2 hw.1
          rw [bn_length] at this; exact this
        have hemp := isEmpty_false x hpos
        have HOK2 : Hid (ok 5 (l.map Tb.tk) ↔ ok 1 ((l.map Tb.tk).drop (i + 1))) := HT3.out.trans ⟨fun h => h.2, fun h => ⟨hw, h⟩⟩
        clear HT3 hv hw hpos
        have hxs : x.size ≤ 50000 := by omega
        have hSb : S.size ≤ 122880000 := by omega
        have hXe : bn x = bn x := rfl
        rcases HL3.out with ⟨hb1, hq5, h5⟩ | ⟨hb1, hq5, hb2, h5⟩ | ⟨hb1, hq5, hb2, h5, h4⟩
        · have hsep : sep last 1 = [] := by rw [h5]; rfl
          have HW2 : Hid (Lx.wr 5 (l.map Tb.tk) = bn (S ++ x) ++ Lx.wr 1 ((l.map Tb.tk).drop (i + 1))) := HT4.out x (by rw [hsep, hXe]; rfl)
          have hs3 : (S ++ x).size ≤ (i + 1) * 60000 := by rw [ByteArray.size_append]; omega
          have HS3 := hid hs3
          clear HT4 hsep HL3 h5  hs3
          go_wp2
          go_roundw
          case rel => exact ⟨i + 1, 1, S ++ x, by omega, by decide, HS3.out, rfl, rfl, rfl, by go_num, HOK2.out, HW2.out, HE.out⟩
          case measure => simp [intOf]; omega
        · have hsep : sep last 1 = [] := by rw [h5]; rfl
          have HW2 : Hid (Lx.wr 5 (l.map Tb.tk) = bn (S ++ x) ++ Lx.wr 1 ((l.map Tb.tk).drop (i + 1))) := HT4.out x (by rw [hsep, hXe]; rfl)
          have hs3 : (S ++ x).size ≤ (i + 1) * 60000 := by rw [ByteArray.size_append]; omega
          have HS3 := hid hs3
          clear HT4 hsep HL3 h5  hs3
          go_wp2
          go_roundw
          case rel => exact ⟨i + 1, 1, S ++ x, by omega, by decide, HS3.out, rfl, rfl, rfl, by go_num, HOK2.out, HW2.out, HE.out⟩
          case measure => simp [intOf]; omega
        · have hsep : sep last 1 = [32] := by unfold sep; rw [if_pos ⟨h5, h4, by decide, by decide⟩]
          have HW2 : Hid (Lx.wr 5 (l.map Tb.tk) = bn (S ++ ⟨#[32]⟩ ++ x) ++ Lx.wr 1 ((l.map Tb.tk).drop (i + 1))) := by
            have h := HT4.out (⟨#[32]⟩ ++ x) (by rw [hsep, bn_append, hXe]; rfl)
            rw [← ByteArray.append_assoc] at h
            exact h
          have hs3 : (S ++ ⟨#[32]⟩ ++ x).size ≤ (i + 1) * 60000 := by rw [ByteArray.size_append, ByteArray.size_append]; show S.size + 1 + _ ≤ _; omega
          have HS3 := hid hs3
          clear HT4 hsep HL3 h5 h4 hs3
          go_wp2
          go_roundw
          case rel => exact ⟨i + 1, 1, S ++ (⟨#[32]⟩ : ByteArray) ++ x, by omega, by decide, HS3.out, rfl, rfl, rfl, by go_num, HOK2.out, HW2.out, HE.out⟩
          case measure => simp [intOf]; omega
    by_cases hk2 : k = 2
    · subst hk2
      replace c0 : wr.cell? ⟨b, off + i * 4, none⟩ = some (.int .u8 2) := c0
      have HT3 : Hid (ok 5 (l.map Tb.tk) ↔ U.val (bn x) = true ∧ ok 2 ((l.map Tb.tk).drop (i + 1))) := (by show _ ↔ _; simpa using HT1.out)
      have HT4 : Hid (∀ Z : ByteArray, bn Z = sep last 2 ++ qt (bn x) → Lx.wr 5 (l.map Tb.tk) = bn (S ++ Z) ++ Lx.wr 2 ((l.map Tb.tk).drop (i + 1))) := HT2.out
      clear HT1 HT2 HWD
      go_wp2_with fail
      refine (HQU.out x hx8 _).mono ?_
      rintro e w5 ⟨⟨y, hy, rfl⟩, B⟩
      have HE := hid (HAL.out.trans (B.mono HAL.out.size))
      have k0 : w5.cell? ⟨wr.heap.size, 0, none⟩ = some (.int .u8 2) := keeps B (World.cell?_alloc_new wr _ _ 0)
      have k1 : w5.cell? ⟨wr.heap.size, 1, none⟩ = some (.string x) := keeps B (World.cell?_alloc_new wr _ _ 1)
      clear B HAL HW c0 c1 c2 c3 HQU HA HSM
      cases hv : U.val (bn x) with
      | false =>
        have HNO : Hid (¬ ok 5 (l.map Tb.tk)) := fun h => by have := (HT3.out.1 h).1; rw [hv] at this; cases this
        have e1 : (quote (bn x)).2 = 152 := by unfold quote; rw [if_pos hv]
        rw [e1]
        clear HT3 HT4 hv HL3 hy e1
        go_wp2
        go_ret2
        exact ⟨.inl ⟨HNO.out, rfl⟩, HE.out⟩
      | true =>
        have e1 : quote (bn x) = (qt (bn x), 0) := by unfold quote; rw [if_neg (by simp [hv]), if_neg (by rw [bn_length]; omega)]
        rw [e1] at hy ⊢
        have HX : Hid (bn y = qt (bn x)) := hy
        have hys : y.size ≤ 50000 := by
          have h := congrArg List.length hy
          have h2 := flat_len (bn x)
          simp only [bn_length, qt, List.length_cons, List.length_append, List.length_nil] at h h2
          omega
        have HOK2 : Hid (ok 5 (l.map Tb.tk) ↔ ok 2 ((l.map Tb.tk).drop (i + 1))) := HT3.out.trans ⟨fun h => h.2, fun h => ⟨hv, h⟩⟩
        have hem : x.toList.isEmpty = true ∨ x.toList.isEmpty = false := by cases x.toList.isEmpty <;> simp
        clear hy e1 hv HT3
        have hSb : S.size ≤ 122880000 := by omega
        rcases HL3.out with ⟨hb1, hq5, h5⟩ | ⟨hb1, hq5, hb2, h5⟩ | ⟨hb1, hq5, hb2, h5, h4⟩
        · rcases hem with hemp | hemp
          · have hsep : sep last 2 = [] := by rw [h5]; rfl
            have HW2 : Hid (Lx.wr 5 (l.map Tb.tk) = bn (S ++ y) ++ Lx.wr 2 ((l.map Tb.tk).drop (i + 1))) := HT4.out y (by rw [hsep, HX.out]; rfl)
            have hs3 : (S ++ y).size ≤ (i + 1) * 60000 := by rw [ByteArray.size_append]; omega
            have HS3 := hid hs3
            clear HT4 hsep HL3 h5  hs3
            go_wp2
            go_roundw
            case rel => exact ⟨i + 1, 2, S ++ y, by omega, by decide, HS3.out, rfl, rfl, rfl, by go_num, HOK2.out, HW2.out, HE.out⟩
            case measure => simp [intOf]; omega
          · have hsep : sep last 2 = [] := by rw [h5]; rfl
            have HW2 : Hid (Lx.wr 5 (l.map Tb.tk) = bn (S ++ y) ++ Lx.wr 2 ((l.map Tb.tk).drop (i + 1))) := HT4.out y (by rw [hsep, HX.out]; rfl)
            have hs3 : (S ++ y).size ≤ (i + 1) * 60000 := by rw [ByteArray.size_append]; omega
            have HS3 := hid hs3
            clear HT4 hsep HL3 h5  hs3
            go_wp2
            go_roundw
            case rel => exact ⟨i + 1, 2, S ++ y, by omega, by decide, HS3.out, rfl, rfl, rfl, by go_num, HOK2.out, HW2.out, HE.out⟩
            case measure => simp [intOf]; omega
        · rcases hem with hemp | hemp
          · have hsep : sep last 2 = [] := by rw [h5]; rfl
            have HW2 : Hid (Lx.wr 5 (l.map Tb.tk) = bn (S ++ y) ++ Lx.wr 2 ((l.map Tb.tk).drop (i + 1))) := HT4.out y (by rw [hsep, HX.out]; rfl)
            have hs3 : (S ++ y).size ≤ (i + 1) * 60000 := by rw [ByteArray.size_append]; omega
            have HS3 := hid hs3
            clear HT4 hsep HL3 h5  hs3
            go_wp2
            go_roundw
            case rel => exact ⟨i + 1, 2, S ++ y, by omega, by decide, HS3.out, rfl, rfl, rfl, by go_num, HOK2.out, HW2.out, HE.out⟩
            case measure => simp [intOf]; omega
          · have hsep : sep last 2 = [] := by rw [h5]; rfl
            have HW2 : Hid (Lx.wr 5 (l.map Tb.tk) = bn (S ++ y) ++ Lx.wr 2 ((l.map Tb.tk).drop (i + 1))) := HT4.out y (by rw [hsep, HX.out]; rfl)
            have hs3 : (S ++ y).size ≤ (i + 1) * 60000 := by rw [ByteArray.size_append]; omega
            have HS3 := hid hs3
            clear HT4 hsep HL3 h5  hs3
            go_wp2
            go_roundw
            case rel => exact ⟨i + 1, 2, S ++ y, by omega, by decide, HS3.out, rfl, rfl, rfl, by go_num, HOK2.out, HW2.out, HE.out⟩
            case measure => simp [intOf]; omega
        · rcases hem with hemp | hemp
          · have hsep : sep last 2 = [32] := by unfold sep; rw [if_pos ⟨h5, h4, by decide, by decide⟩]
            have HW2 : Hid (Lx.wr 5 (l.map Tb.tk) = bn (S ++ ⟨#[32]⟩ ++ y) ++ Lx.wr 2 ((l.map Tb.tk).drop (i + 1))) := by
              have h := HT4.out (⟨#[32]⟩ ++ y) (by rw [hsep, bn_append, HX.out]; rfl)
              rw [← ByteArray.append_assoc] at h
              exact h
            have hs3 : (S ++ ⟨#[32]⟩ ++ y).size ≤ (i + 1) * 60000 := by rw [ByteArray.size_append, ByteArray.size_append]; show S.size + 1 + _ ≤ _; omega
            have HS3 := hid hs3
            clear HT4 hsep HL3 h5 h4 hs3
            go_wp2
            go_roundw
            case rel => exact ⟨i + 1, 2, S ++ (⟨#[32]⟩ : ByteArray) ++ y, by omega, by decide, HS3.out, rfl, rfl, rfl, by go_num, HOK2.out, HW2.out, HE.out⟩
            case measure => simp [intOf]; omega
          · have hsep : sep last 2 = [32] := by unfold sep; rw [if_pos ⟨h5, h4, by decide, by decide⟩]
            have HW2 : Hid (Lx.wr 5 (l.map Tb.tk) = bn (S ++ ⟨#[32]⟩ ++ y) ++ Lx.wr 2 ((l.map Tb.tk).drop (i + 1))) := by
              have h := HT4.out (⟨#[32]⟩ ++ y) (by rw [hsep, bn_append, HX.out]; rfl)
              rw [← ByteArray.append_assoc] at h
              exact h
            have hs3 : (S ++ ⟨#[32]⟩ ++ y).size ≤ (i + 1) * 60000 := by rw [ByteArray.size_append, ByteArray.size_append]; show S.size + 1 + _ ≤ _; omega
            have HS3 := hid hs3
            clear HT4 hsep HL3 h5 h4 hs3
            go_wp2
            go_roundw
            case rel => exact ⟨i + 1, 2, S ++ (⟨#[32]⟩ : ByteArray) ++ y, by omega, by decide, HS3.out, rfl, rfl, rfl, by go_num, HOK2.out, HW2.out, HE.out⟩
            case measure => simp [intOf]; omega
    by_cases hk3 : k = 3
    · subst hk3
      replace c0 : wr.cell? ⟨b, off + i * 4, none⟩ = some (.int .u8 3) := c0
      have HT3 : Hid (ok 5 (l.map Tb.tk) ↔ (bn x = []) ∧ ok 3 ((l.map Tb.tk).drop (i + 1))) := (by show _ ↔ _; simpa using HT1.out)
      have HT4 : Hid (∀ Z : ByteArray, bn Z = sep last 3 ++ [44] → Lx.wr 5 (l.map Tb.tk) = bn (S ++ Z) ++ Lx.wr 3 ((l.map Tb.tk).drop (i + 1))) := HT2.out
      have HE := hid HAL.out
      clear HT1 HT2 HWD HQU HW HA HSM HAL
      by_cases hx0 : 0 < x.size
      · have hemp := isEmpty_false x hx0
        have HNO : Hid (¬ ok 5 (l.map Tb.tk)) := fun h => by
          have h2 := (HT3.out.1 h).1
          have := congrArg List.length h2
          rw [bn_length, List.length_nil] at this; omega
        clear HT3 HT4 HL3 hx0
        go_wp2
        go_ret2
        exact ⟨.inl ⟨HNO.out, rfl⟩, HE.out⟩
      have hemp := isEmpty_true x (by omega)
      have hxe : bn x = [] := List.length_eq_zero_iff.1 (by rw [bn_length]; omega)
      have hxs : (⟨#[44]⟩ : ByteArray).size ≤ 50000 := by decide
      have hx1 : (⟨#[44]⟩ : ByteArray).size = 1 := rfl
      have hSb : S.size ≤ 122880000 := by omega
      have hXe : bn (⟨#[44]⟩ : ByteArray) = [44] := rfl
      have HOK2 : Hid (ok 5 (l.map Tb.tk) ↔ ok 3 ((l.map Tb.tk).drop (i + 1))) := HT3.out.trans ⟨fun h => h.2, fun h => ⟨hxe, h⟩⟩
      clear HT3 hxe hx0
      rcases HL3.out with ⟨hb1, hq5, h5⟩ | ⟨hb1, hq5, hb2, h5⟩ | ⟨hb1, hq5, hb2, h5, h4⟩
      · have hsep : sep last 3 = [] := by rw [h5]; rfl
        have HW2 : Hid (Lx.wr 5 (l.map Tb.tk) = bn (S ++ ⟨#[44]⟩) ++ Lx.wr 3 ((l.map Tb.tk).drop (i + 1))) := HT4.out ⟨#[44]⟩ (by rw [hsep, hXe]; rfl)
        have hs3 : (S ++ ⟨#[44]⟩).size ≤ (i + 1) * 60000 := by rw [ByteArray.size_append]; omega
        have HS3 := hid hs3
        clear hXe HT4 hsep HL3 h5  hs3
        go_wp2
        go_roundw
        case rel => exact ⟨i + 1, 3, S ++ (⟨#[44]⟩ : ByteArray), by omega, by decide, HS3.out, rfl, rfl, rfl, by go_num, HOK2.out, HW2.out, HE.out⟩
        case measure => simp [intOf]; omega
      · have hsep : sep last 3 = [] := by rw [h5]; rfl
        have HW2 : Hid (Lx.wr 5 (l.map Tb.tk) = bn (S ++ ⟨#[44]⟩) ++ Lx.wr 3 ((l.map Tb.tk).drop (i + 1))) := HT4.out ⟨#[44]⟩ (by rw [hsep, hXe]; rfl)
        have hs3 : (S ++ ⟨#[44]⟩).size ≤ (i + 1) * 60000 := by rw [ByteArray.size_append]; omega
        have HS3 := hid hs3
        clear hXe HT4 hsep HL3 h5  hs3
        go_wp2
        go_roundw
        case rel => exact ⟨i + 1, 3, S ++ (⟨#[44]⟩ : ByteArray), by omega, by decide, HS3.out, rfl, rfl, rfl, by go_num, HOK2.out, HW2.out, HE.out⟩
        case measure => simp [intOf]; omega
      · have hsep : sep last 3 = [] := by unfold sep; rw [if_neg (by simp)]
        have HW2 : Hid (Lx.wr 5 (l.map Tb.tk) = bn (S ++ ⟨#[44]⟩) ++ Lx.wr 3 ((l.map Tb.tk).drop (i + 1))) := HT4.out ⟨#[44]⟩ (by rw [hsep, hXe]; rfl)
        have hs3 : (S ++ ⟨#[44]⟩).size ≤ (i + 1) * 60000 := by rw [ByteArray.size_append]; omega
        have HS3 := hid hs3
        clear hXe HT4 hsep HL3 h5 h4 hs3
        go_wp2
        go_roundw
        case rel => exact ⟨i + 1, 3, S ++ (⟨#[44]⟩ : ByteArray), by omega, by decide, HS3.out, rfl, rfl, rfl, by go_num, HOK2.out, HW2.out, HE.out⟩
        case measure => simp [intOf]; omega
    by_cases hk4 : k = 4
    · subst hk4
      replace c0 : wr.cell? ⟨b, off + i * 4, none⟩ = some (.int .u8 4) := c0
      have HT3 : Hid (ok 5 (l.map Tb.tk) ↔ (bn x = []) ∧ ok 4 ((l.map Tb.tk).drop (i + 1))) := (by show _ ↔ _; simpa using HT1.out)
      have HT4 : Hid (∀ Z : ByteArray, bn Z = sep last 4 ++ [33] → Lx.wr 5 (l.map Tb.tk) = bn (S ++ Z) ++ Lx.wr 4 ((l.map Tb.tk).drop (i + 1))) := HT2.out
      have HE := hid HAL.out
      clear HT1 HT2 HWD HQU HW HA HSM HAL
      by_cases hx0 : 0 < x.size
      · have hemp := isEmpty_false x hx0
        have HNO : Hid (¬ ok 5 (l.map Tb.tk)) := fun h => by
          have h2 := (HT3.out.1 h).1
          have := congrArg List.length h2
          rw [bn_length, List.length_nil] at this; omega
        clear HT3 HT4 HL3 hx0
        go_wp2
        go_ret2
        exact ⟨.inl ⟨HNO.out, rfl⟩, HE.out⟩
      have hemp := isEmpty_true x (by omega)
      have hxe : bn x = [] := List.length_eq_zero_iff.1 (by rw [bn_length]; omega)
      have hxs : (⟨#[33]⟩ : ByteArray).size ≤ 50000 := by decide
      have hx1 : (⟨#[33]⟩ : ByteArray).size = 1 := rfl
      have hSb : S.size ≤ 122880000 := by omega
      have hXe : bn (⟨#[33]⟩ : ByteArray) = [33] := rfl
      have HOK2 : Hid (ok 5 (l.map Tb.tk) ↔ ok 4 ((l.map Tb.tk).drop (i + 1))) := HT3.out.trans ⟨fun h => h.2, fun h => ⟨hxe, h⟩⟩
      clear HT3 hxe hx0
      rcases HL3.out with ⟨hb1, hq5, h5⟩ | ⟨hb1, hq5, hb2, h5⟩ | ⟨hb1, hq5, hb2, h5, h4⟩
      · have hsep : sep last 4 = [] := by rw [h5]; rfl
        have HW2 : Hid (Lx.wr 5 (l.map Tb.tk) = bn (S ++ ⟨#[33]⟩) ++ Lx.wr 4 ((l.map Tb.tk).drop (i + 1))) := HT4.out ⟨#[33]⟩ (by rw [hsep, hXe]; rfl)
        have hs3 : (S ++ ⟨#[33]⟩).size ≤ (i + 1) * 60000 := by rw [ByteArray.size_append]; omega
        have HS3 := hid hs3
        clear hXe HT4 hsep HL3 h5  hs3
        go_wp2
        go_roundw
        case rel => exact ⟨i + 1, 4, S ++ (⟨#[33]⟩ : ByteArray), by omega, by decide, HS3.out, rfl, rfl, rfl, by go_num, HOK2.out, HW2.out, HE.out⟩
        case measure => simp [intOf]; omega
      · have hsep : sep last 4 = [] := by rw [h5]; rfl
        have HW2 : Hid (Lx.wr 5 (l.map Tb.tk) = bn (S ++ ⟨#[33]⟩) ++ Lx.wr 4 ((l.map Tb.tk).drop (i + 1))) := HT4.out ⟨#[33]⟩ (by rw [hsep, hXe]; rfl)
        have hs3 : (S ++ ⟨#[33]⟩).size ≤ (i + 1) * 60000 := by rw [ByteArray.size_append]; omega
        have HS3 := hid hs3
        clear hXe HT4 hsep HL3 h5  hs3
        go_wp2
        go_roundw
        case rel => exact ⟨i + 1, 4, S ++ (⟨#[33]⟩ : ByteArray), by omega, by decide, HS3.out, rfl, rfl, rfl, by go_num, HOK2.out, HW2.out, HE.out⟩
        case measure => simp [intOf]; omega
      · have hsep : sep last 4 = [32] := by unfold sep; rw [if_pos ⟨h5, h4, by decide, by decide⟩]
        have HW2 : Hid (Lx.wr 5 (l.map Tb.tk) = bn (S ++ ⟨#[32]⟩ ++ ⟨#[33]⟩) ++ Lx.wr 4 ((l.map Tb.tk).drop (i + 1))) := by
          have h := HT4.out (⟨#[32]⟩ ++ ⟨#[33]⟩) (by rw [hsep, bn_append, hXe]; rfl)
          rw [← ByteArray.append_assoc] at h
          exact h
        have hs3 : (S ++ ⟨#[32]⟩ ++ ⟨#[33]⟩).size ≤ (i + 1) * 60000 := by rw [ByteArray.size_append, ByteArray.size_append]; show S.size + 1 + _ ≤ _; omega
        have HS3 := hid hs3
        clear hXe HT4 hsep HL3 h5 h4 hs3
        go_wp2
        go_roundw
        case rel => exact ⟨i + 1, 4, S ++ (⟨#[32]⟩ : ByteArray) ++ (⟨#[33]⟩ : ByteArray), by omega, by decide, HS3.out, rfl, rfl, rfl, by go_num, HOK2.out, HW2.out, HE.out⟩
        case measure => simp [intOf]; omega
    by_cases hk5 : k = 5
    · subst hk5
      replace c0 : wr.cell? ⟨b, off + i * 4, none⟩ = some (.int .u8 5) := c0
      have HT3 : Hid (ok 5 (l.map Tb.tk) ↔ (last ≠ 5 ∧ bn x = []) ∧ ok 5 ((l.map Tb.tk).drop (i + 1))) := (by show _ ↔ _; simpa using HT1.out)
      have HT4 : Hid (∀ Z : ByteArray, bn Z = sep last 5 ++ [10] → Lx.wr 5 (l.map Tb.tk) = bn (S ++ Z) ++ Lx.wr 5 ((l.map Tb.tk).drop (i + 1))) := HT2.out
      have HE := hid HAL.out
      clear HT1 HT2 HWD HQU HW HA HSM HAL
      by_cases hx0 : 0 < x.size
      · have hemp := isEmpty_false x hx0
        have HNO : Hid (¬ ok 5 (l.map Tb.tk)) := fun h => by
          have h2 := (HT3.out.1 h).1.2
          have := congrArg List.length h2
          rw [bn_length, List.length_nil] at this; omega
        clear HT3 HT4 HL3 hx0
        go_wp2
        go_ret2
        exact ⟨.inl ⟨HNO.out, rfl⟩, HE.out⟩
      have hemp := isEmpty_true x (by omega)
      have hxe : bn x = [] := List.length_eq_zero_iff.1 (by rw [bn_length]; omega)
      have hxs : (⟨#[10]⟩ : ByteArray).size ≤ 50000 := by decide
      have hx1 : (⟨#[10]⟩ : ByteArray).size = 1 := rfl
      have hSb : S.size ≤ 122880000 := by omega
      have hXe : bn (⟨#[10]⟩ : ByteArray) = [10] := rfl
      rcases HL3.out with ⟨hb1, hq5, h5⟩ | ⟨hb1, hq5, hb2, h5⟩ | ⟨hb1, hq5, hb2, h5, h4⟩
      · have HNO : Hid (¬ ok 5 (l.map Tb.tk)) := fun h => (HT3.out.1 h).1.1 h5
        clear HT3 HT4 HL3 hx0 h5 hxe hXe hxs hx1
        go_wp2
        go_ret2
        exact ⟨.inl ⟨HNO.out, rfl⟩, HE.out⟩
      · have HOK2 : Hid (ok 5 (l.map Tb.tk) ↔ ok 5 ((l.map Tb.tk).drop (i + 1))) := HT3.out.trans ⟨fun h => h.2, fun h => ⟨⟨by omega, hxe⟩, h⟩⟩
        clear HT3 hxe hx0
        have hsep : sep last 5 = [] := by rw [h5]; rfl
        have HW2 : Hid (Lx.wr 5 (l.map Tb.tk) = bn (S ++ ⟨#[10]⟩) ++ Lx.wr 5 ((l.map Tb.tk).drop (i + 1))) := HT4.out ⟨#[10]⟩ (by rw [hsep, hXe]; rfl)
        have hs3 : (S ++ ⟨#[10]⟩).size ≤ (i + 1) * 60000 := by rw [ByteArray.size_append]; omega
        have HS3 := hid hs3
        clear hXe HT4 hsep HL3 h5  hs3
        go_wp2
        go_roundw
        case rel => exact ⟨i + 1, 5, S ++ (⟨#[10]⟩ : ByteArray), by omega, by decide, HS3.out, rfl, rfl, rfl, by go_num, HOK2.out, HW2.out, HE.out⟩
        case measure => simp [intOf]; omega
      · have HOK2 : Hid (ok 5 (l.map Tb.tk) ↔ ok 5 ((l.map Tb.tk).drop (i + 1))) := HT3.out.trans ⟨fun h => h.2, fun h => ⟨⟨by omega, hxe⟩, h⟩⟩
        clear HT3 hxe hx0
        have hsep : sep last 5 = [] := by unfold sep; rw [if_neg (by simp)]
        have HW2 : Hid (Lx.wr 5 (l.map Tb.tk) = bn (S ++ ⟨#[10]⟩) ++ Lx.wr 5 ((l.map Tb.tk).drop (i + 1))) := HT4.out ⟨#[10]⟩ (by rw [hsep, hXe]; rfl)
        have hs3 : (S ++ ⟨#[10]⟩).size ≤ (i + 1) * 60000 := by rw [ByteArray.size_append]; omega
        have HS3 := hid hs3
        clear hXe HT4 hsep HL3 h5 h4 hs3
        go_wp2
        go_roundw
        case rel => exact ⟨i + 1, 5, S ++ (⟨#[10]⟩ : ByteArray), by omega, by decide, HS3.out, rfl, rfl, rfl, by go_num, HOK2.out, HW2.out, HE.out⟩
        case measure => simp [intOf]; omega
    have HNO : Hid (¬ ok 5 (l.map Tb.tk)) := fun h => by
      rcases (HT1.out.1 h).1 with ⟨h, _⟩ | ⟨h, _⟩ | ⟨h | h | ⟨h, _⟩, _⟩
      all_goals omega
    have n1 : ((k : Int) == 1) = false := by simp; omega
    have n2 : ((k : Int) == 2) = false := by simp; omega
    have n3 : ((k : Int) == 3) = false := by simp; omega
    have n4 : ((k : Int) == 4) = false := by simp; omega
    have n5 : ((k : Int) == 5) = false := by simp; omega
    have HE := hid HAL.out
    clear HT1 HT2 HWD HQU HW HA HSM HAL HL3 hk1 hk2 hk3 hk4 hk5
    go_wp2
    go_ret2
    exact ⟨.inl ⟨HNO.out, rfl⟩, HE.out⟩
end Go.Proofs.YtphkdagapoonjaaGreatDoor.Lx
namespace Go.Proofs.YtphkdagapoonjaaGreatDoor.Lx
open Go.RowKit
open Go.Proofs.YtphkdagapoonjaaGreatDoor.F (bn bn_length bn_append bn_inj bn_get byte_bd hid bn_extract isEmpty_false isEmpty_true str_eq same_eq)
open Go.Proofs.YtphkdagapoonjaaGreatDoor.U (nx enc encs scal val Bytes)
set_option linter.unusedVariables false

theorem wrt_same {l : List Tk} {e e' : Ending} (h : WrtR l e) (h' : WrtR l e') : ∃ (u : ByteArray) (c : Int), e = .returned (.tuple #[.string u, .int .i64 c]) ∧ e' = .returned (.tuple #[.string u, .int .i64 c]) := by
  rcases h with ⟨n, rfl⟩ | ⟨y, b, rfl⟩ | ⟨y, b, u, hu, rfl⟩ <;> rcases h' with ⟨n', rfl⟩ | ⟨y', b', rfl⟩ | ⟨y', b', u', hu', rfl⟩
  · exact ⟨_, _, rfl, rfl⟩
  · exact absurd y' n
  · exact absurd y' n
  · exact absurd y n'
  · exact ⟨_, _, rfl, rfl⟩
  · omega
  · exact absurd y n'
  · omega
  · obtain rfl := bn_inj (hu.trans hu'.symm)
    exact ⟨_, _, rfl, rfl⟩
theorem quo_same {l : List Int} {e e' : Ending} (h : PqR l e) (h' : QuR l e') : ∃ (u : ByteArray) (c : Int), e = .returned (.tuple #[.string u, .int .i64 c]) ∧ e' = .returned (.tuple #[.string u, .int .i64 c]) := by
  obtain ⟨u, hu, rfl⟩ := h
  obtain ⟨u', hu', rfl⟩ := h'
  obtain rfl := bn_inj (hu.trans hu'.symm)
  exact ⟨_, _, rfl, rfl⟩
theorem own_empty (w1 : World) {base : Nat} (h : base ≤ w1.heap.size) : TokOwn (w1.alloc (.cells #[] 40)) base (.slice (some ⟨w1.heap.size, 0, none⟩) 0 0) [] := by
  refine ⟨rfl, .inr ⟨w1.heap.size, 0, #[], rfl, h, heap_alloc_new w1 _, Nat.le_refl _, by decide, rfl, rfl⟩⟩
theorem str_self (u : ByteArray) : (u.toList == u.toList) = true := by simp
set_option maxRecDepth 100000 in
set_option maxHeartbeats 8000000 in
theorem writes_any (a : Option Addr) (n c : Nat) (l : List Tb) (s : ByteArray) (w : World) (hat : TokAt w (.slice a n c) l) (hn : n ≤ maxLen) (hx : ∀ t ∈ l, t.x.size ≤ 140737488351232) (hk : ∀ t ∈ l, t.k ≤ 255) (hsz : s.size ≤ maxLen) (G : Gl w) :
    Calls Tryz.prog 4 #[.slice a n c, .string s] w fun e w' => e = .returned (.bool true) ∧ Below w.heap.size w w' := by
  obtain rfl := hat.len
  have hsz2 : s.size ≤ 9223372036854775807 := hsz
  have HG := hid (fun W (h : Below w.heap.size w W) => G.below h)
  have HAL := hid (fun W (h : Below w.heap.size w W) => alive_any W (G.below h))
  have HA := hid hat
  have HK := hid hk
  have H0 := hid (long_any a _ c l w hat hn hx)
  clear hat hx hk G
  go_enter Tryz.func4, Tryz.ntmps4
  go_wp2_with fail
  refine H0.out.mono ?_
  rintro e w1 ⟨hq, B1⟩
  have HB1 := hid B1
  clear H0 B1
  rcases hq with rfl | ⟨rfl, hbrf⟩
  · have H1 := hid (HAL.out w1 HB1.out)
    go_wp2_with fail
    refine H1.out.mono ?_
    rintro e w2 ⟨rfl, B2⟩
    have HE := hid (HB1.out.trans (B2.mono HB1.out.size))
    clear H1 B2 HB1 HA HK HG HAL
    go_wp2
    go_ret
    exact ⟨rfl, HE.out⟩
  by_cases hs4 : s.size ≤ 8192
  rotate_left
  · have hsg : (8192 : Int) < (s.size : Int) := by omega
    have H1 := hid (HAL.out w1 HB1.out)
    go_wp2_with fail
    refine H1.out.mono ?_
    rintro e w2 ⟨rfl, B2⟩
    have HE := hid (HB1.out.trans (B2.mono HB1.out.size))
    clear H1 B2 HB1 HA HK HG HAL
    go_wp2
    go_ret
    exact ⟨rfl, HE.out⟩
  have hsg : ¬ (8192 : Int) < (s.size : Int) := by omega
  have hll : l.length ≤ 2048 := hbrf.1
  have hll2 : l.length ≤ 1000000 := by omega
  have HSM : Hid (Sml l) := fun t ht => ⟨HK.out t ht, Nat.le_trans (hbrf.2 t ht) (by decide)⟩
  have HS8 : Hid (Sml8 l) := fun t ht => ⟨HK.out t ht, hbrf.2 t ht⟩
  clear hbrf HK
  have HO0 : Hid (TokOwn (w1.alloc (.cells #[] 40)) w.heap.size (.slice (some ⟨w1.heap.size, 0, none⟩) 0 0) []) := own_empty w1 HB1.out.size
  have HBa : Hid (Below w.heap.size w (w1.alloc (.cells #[] 40))) := HB1.out.alloc HB1.out.size _
  have HAa : Hid (TokAt (w1.alloc (.cells #[] 40)) (.slice a l.length c) l) := HA.out.below HBa.out
  have hze : ([] : List Tb).length + l.length ≤ 1000000000 := by simp; omega
  have hsz6 : w.heap.size ≤ (w1.alloc (.cells #[] 40)).heap.size := HBa.out.size
  go_wp2_with (at_builtin; refine wpList_append_toks rfl _ _ rfl w.heap.size _ [] rfl HO0.out _ l rfl HAa.out hze hsz6 ?_; intro v' w' r' g'; have HR := hid r'; have HBb := hid (below_grow HBa.out hsz6 HO0.out g'); obtain ⟨ia, ic, rfl⟩ := r'.form; clear r' g')
  have HIN : Hid (TokAt w' (.slice ia l.length ic) l) := TokOwn.at (l := l) HR.out
  have HLW : Hid (TokAt w' (.slice a l.length c) l) := HA.out.below HBb.out
  have H2 := hid (write_any ia l.length ic l w' HIN.out hll2 HSM.out (HG.out w' HBb.out))
  clear HO0 HBa HAa HR HB1 hze hsz6
  go_wp2_with fail
  refine H2.out.mono ?_
  rintro e w2 ⟨hq2, B2⟩
  have H3 := hid (rwrite_any a l.length c l w2 (HLW.out.below B2) hll HS8.out)
  have HC2 : Hid (Below w'.heap.size w' w2) := B2
  have HQ2 := hid hq2
  obtain ⟨u, cc, rfl, hnext⟩ : ∃ (u : ByteArray) (cc : Int), e = .returned (.tuple #[.string u, .int .i64 cc]) ∧ ∀ e', WrtR (l.map Tb.tk) e' → e' = .returned (.tuple #[.string u, .int .i64 cc]) := by
    rcases hq2 with ⟨n, rfl⟩ | ⟨y, b, rfl⟩ | ⟨y, b, u, hu, rfl⟩
    · exact ⟨_, _, rfl, fun e' h => by obtain ⟨u, c, h1, h2⟩ := wrt_same (.inl ⟨n, rfl⟩) h; rw [h2, h1]⟩
    · exact ⟨_, _, rfl, fun e' h => by obtain ⟨u, c, h1, h2⟩ := wrt_same (.inr (.inl ⟨y, b, rfl⟩)) h; rw [h2, h1]⟩
    · exact ⟨_, _, rfl, fun e' h => by obtain ⟨u, c, h1, h2⟩ := wrt_same (.inr (.inr ⟨y, b, u, hu, rfl⟩)) h; rw [h2, h1]⟩
  have HN := hid hnext
  clear hnext H2 HQ2 B2
  go_wp2_with fail
  refine H3.out.mono ?_
  rintro e w3 ⟨hq3, B3⟩
  obtain rfl := HN.out e hq3
  have HC3 : Hid (Below w'.heap.size w' w3) := HC2.out.trans (B3.mono HC2.out.size)
  have H4 := hid (quote_any s (by omega) w3 (HG.out w3 (HBb.out.trans (HC3.out.mono HBb.out.size))))
  clear H3 HN hq3 B3 HC2
  go_wp2_with fail
  refine H4.out.mono ?_
  rintro e w4 ⟨hq4, B4⟩
  obtain ⟨x, hx, rfl⟩ := hq4
  have HX := hid hx
  have HC4 : Hid (Below w'.heap.size w' w4) := HC3.out.trans (B4.mono HC3.out.size)
  have H5 := hid (rquote_any s (by omega) w4)
  clear H4 B4 HC3 hx
  go_wp2_with fail
  refine H5.out.mono ?_
  rintro e w5 ⟨hq5, B5⟩
  obtain ⟨y, hy, rfl⟩ := hq5
  obtain rfl : x = y := bn_inj (HX.out.trans hy.symm)
  have HC5 : Hid (Below w'.heap.size w' w5) := HC4.out.trans (B5.mono HC4.out.size)
  have H6 := hid (rsame_any ia a l.length l.length ic c l l false w5 (HIN.out.below HC5.out) (HLW.out.below HC5.out) (by omega) (by omega))
  rw [sm_self] at H6
  obtain ⟨g, hg⟩ : ∃ g, (quote (bn s)).2 = g := ⟨_, rfl⟩
  have hxx := str_self x
  have huu := str_self u
  clear H5 B5 HC4 hy HX HIN HLW
  go_wp2_with fail
  refine H6.out.mono ?_
  rintro e w6 ⟨rfl, B6⟩
  have HB6 : Hid (Below w.heap.size w w6) := HBb.out.trans ((HC5.out.trans (B6.mono HC5.out.size)).mono HBb.out.size)
  have H7 := hid (HAL.out w6 HB6.out)
  clear H6 B6 HC5 HBb HG HAL
  go_wp2_with fail
  refine H7.out.mono ?_
  rintro e w7 ⟨rfl, B7⟩
  have HE := hid (HB6.out.trans (B7.mono HB6.out.size))
  clear H7 B7 HB6
  go_wp2
  go_ret
  exact ⟨rfl, HE.out⟩
end Go.Proofs.YtphkdagapoonjaaGreatDoor.Lx
