/- The document's word; The document's Quote. -/
import Derived.Test.YtphkdagapoonjaaGreatDoorLRG
import Derived.Test.YtphkdagapoonjaaGreatDoorLRV
import Derived.Test.YtphkdagapoonjaaGreatDoorZLPT
import Derived.Test.YtphkdagapoonjaaGreatDoorZLRB
namespace Go.Proofs.YtphkdagapoonjaaGreatDoor.Lx
open Go.RowKit
open Go.Proofs.YtphkdagapoonjaaGreatDoor.F (bn bn_length bn_append bn_inj bn_get byte_bd hid bn_extract isEmpty_false isEmpty_true str_eq same_eq)
open Go.Proofs.YtphkdagapoonjaaGreatDoor.U (nx enc encs scal Bytes)
set_option linter.unusedVariables false

set_option maxRecDepth 100000 in
set_option maxHeartbeats 8000000 in
theorem rword_any (s : ByteArray) (hs : s.size ≤ 1000000) (w : World) : Calls Tryz.prog 26 #[.string s] w fun e W' => (∃ b : Bool, e = .returned (.bool b) ∧ (b = true ↔ wd (bn s))) ∧ Below w.heap.size w W' := by
  have HL := hid (rline_any s hs 1 (by omega) w)
  have HY : Hid (wd (bn s) → line (bn s) 1 = ([⟨1, bn s, 1, 0⟩, ⟨5, [], 1, (bn s).length⟩], 0, 0, 0)) := wd_line (bytes_bn s)
  have HZ : Hid (∀ t u : Tk, (line (bn s) 1).2.1 = 0 → (line (bn s) 1).1 = [t, u] → t.k = 1 → t.x = bn s → wd (bn s)) := fun t u h0 h hk hx => line_wd (bytes_bn s) h0 h hk hx
  go_enter Tryz.func26, Tryz.ntmps26
  go_wp2_with fail
  refine HL.out.mono ?_
  rintro e w1 ⟨⟨v, ts, hown, hts, hnn, rfl⟩, B⟩
  obtain ⟨r, e0, e1, e2, hR⟩ : ∃ r e0 e1 e2, line (bn s) 1 = (r, e0, e1, e2) := ⟨_, _, _, _, rfl⟩
  rw [hR] at hts HY HZ
  simp only [hR]
  simp only at hts HZ
  clear hR HL
  obtain ⟨a, c, rfl⟩ := hown.form
  have HAT := hid hown.at
  have HB := hid B
  clear hown B hnn
  have HF : Hid (Below w.heap.size w (w1.alloc (.cells #[.int .i64 e0, .int .i64 e1, .int .i64 e2] 26))) := HB.out.alloc HB.out.size _
  have HO : Hid (Below w1.heap.size w1 (w1.alloc (.cells #[.int .i64 e0, .int .i64 e1, .int .i64 e2] 26))) := (Below.refl _ _).alloc (Nat.le_refl _) _
  have hc0 : (w1.alloc (.cells #[.int .i64 e0, .int .i64 e1, .int .i64 e2] 26)).cell? ⟨w1.heap.size, 0, none⟩ = some (.int .i64 e0) := World.cell?_alloc_new w1 _ _ 0
  have no : ∀ (h : ¬ wd (bn s)), Hid (∃ b : Bool, Ending.returned (.bool false) = .returned (.bool b) ∧ (b = true ↔ wd (bn s))) := fun h => ⟨false, rfl, by simp [h]⟩
  by_cases he : e0 = 0
  rotate_left
  · have HN := no (fun h => he (by have := HY.out h; simp at this; exact this.2.1))
    have q0 : (((e0 : Nat) : Int) == 0) = false := by simp; omega
    clear no HY HZ HAT hts he
    go_wp2
    go_ret
    exact ⟨HN.out, HF.out⟩
  have q0 : (((e0 : Nat) : Int) == 0) = true := by simp; omega
  by_cases hl : ts.length = 2
  rotate_left
  · have HN := no (fun h => hl (by have := HY.out h; simp at this; have := congrArg List.length (hts.trans this.1); simpa using this))
    have q1 : ((ts.length : Int) == 2) = false := by simp; omega
    clear no HY HZ HAT hts hl he
    go_wp2
    go_ret
    exact ⟨HN.out, HF.out⟩
  obtain ⟨t, u, rfl⟩ : ∃ t u, ts = [t, u] := by
    rcases ts with _ | ⟨t, _ | ⟨u, _ | ⟨v, r⟩⟩⟩
    · simp at hl
    · simp at hl
    · exact ⟨t, u, rfl⟩
    · simp at hl
  obtain ⟨b, off, rfl, c0, c1, _, _⟩ := (HAT.out.below HO.out).cell (i := 0) (by simp)
  simp only [Nat.zero_mul, Nat.add_zero, List.getElem?_cons_zero, Option.getD_some] at c0 c1
  have hK : Hid (∀ h : wd (bn s), t.k = 1 ∧ bn t.x = bn s) := fun h => by
    have := HY.out h
    simp at this
    have := hts.trans this.1
    unfold Tb.tk at this
    simp at this
    exact ⟨this.1.1, this.1.2.1⟩
  clear HY hl HO HAT
  by_cases hk : t.k = 1
  rotate_left
  · have HN := no (fun h => hk (hK.out h).1)
    have q1 : ((t.k : Int) == 1) = false := by simp; omega
    clear no HZ hts he hK hk
    go_wp2
    go_ret
    exact ⟨HN.out, HF.out⟩
  have q1 : ((t.k : Int) == 1) = true := by simp; omega
  have HN : Hid (∃ b : Bool, Ending.returned (.bool (t.x.toList == s.toList)) = .returned (.bool b) ∧ (b = true ↔ wd (bn s))) := by
    refine ⟨_, rfl, ?_⟩
    rw [str_eq, decide_eq_true_iff]
    constructor
    · exact fun h => HZ.out _ _ he hts.symm hk h
    · exact fun h => (hK.out h).2
  clear no HZ hts he hK hk
  go_wp2
  go_ret
  exact ⟨HN.out, HF.out⟩
end Go.Proofs.YtphkdagapoonjaaGreatDoor.Lx
namespace Go.Proofs.YtphkdagapoonjaaGreatDoor.Lx
open Go.RowKit
open Go.Proofs.YtphkdagapoonjaaGreatDoor.F (bn bn_length bn_append bn_inj bn_get byte_bd hid bn_extract isEmpty_false isEmpty_true str_eq same_eq)
open Go.Proofs.YtphkdagapoonjaaGreatDoor.U (nx enc encs scal Bytes)
set_option linter.unusedVariables false

/-- What Quote answers. -/
def QuR (l : List Int) (e : Ending) : Prop := ∃ t : ByteArray, bn t = (quote l).1 ∧ e = .returned (.tuple #[.string t, .int .i64 (quote l).2])
abbrev hexs : ByteArray := ⟨#[48, 49, 50, 51, 52, 53, 54, 55, 56, 57, 97, 98, 99, 100, 101, 102]⟩
theorem hex_one : ∀ k : Fin 16, bn (hexs.extract k.val (k.val + 1)) = [hd k.val] := by decide +kernel
theorem opt_neg {o : Option Nat} : (0 : Int) ≤ opt o ↔ o ≠ none := by
  cases o with
  | none => simp [opt]
  | some k => simp [opt]
/-- What has been written behind i bytes. -/
def Qd (s : ByteArray) (i : Nat) (T : ByteArray) : Prop := bn T = 34 :: ((bn s).take i).flatMap qb
theorem Qd.step {s T q : ByteArray} {i : Nat} {y : Int} (h : Qd s i T) (hi : i < s.size) (hy : (bn s)[i]?.getD 0 = y) (hq : bn q = qb y) : Qd s (i + 1) (T ++ q) := by
  unfold Qd at h ⊢
  rw [bn_append, h, take_snoc (by rw [bn_length]; exact hi), hy, List.flatMap_append, hq]
  simp
set_option maxRecDepth 100000 in
set_option maxHeartbeats 8000000 in
theorem rquote_any (s : ByteArray) (hs : s.size ≤ 1000000) (w : World) : Calls Tryz.prog 13 #[.string s] w fun e W' => QuR (bn s) e ∧ Below w.heap.size w W' := by
  have HBD := hid (rbad_any s hs w)
  have HV : Hid (bd (bn s) ≠ none ↔ U.val (bn s) = false) := by
    have := bd_none (bytes_bn s)
    show _ ↔ _
    rw [ne_eq, this]; simp
  by_cases hv : U.val (bn s) = false
  · have h0 : (0 : Int) ≤ opt (bd (bn s)) := opt_neg.2 (HV.out.2 hv)
    have HE : Hid (QuR (bn s) (.returned (.tuple #[.string ⟨#[]⟩, .int .i64 152]))) := by
      have e : quote (bn s) = ([], 152) := by unfold quote; rw [if_pos hv]
      exact ⟨⟨#[]⟩, by rw [e]; rfl, by rw [e]; rfl⟩
    obtain ⟨b, hb⟩ : ∃ b, opt (bd (bn s)) = b := ⟨_, rfl⟩
    rw [hb] at HBD h0
    clear hb HV hv
    go_enter Tryz.func13, Tryz.ntmps13
    go_wp2_with (go_at_call 31; refine HBD.out.mono ?_; rintro e w2 ⟨rfl, B2⟩)
    go_ret2
    exact ⟨HE.out, B2⟩
  have h0 : ¬ (0 : Int) ≤ opt (bd (bn s)) := fun h => hv (HV.out.1 (opt_neg.1 h))
  obtain ⟨b, hb⟩ : ∃ b, opt (bd (bn s)) = b := ⟨_, rfl⟩
  rw [hb] at HBD h0
  by_cases hl : 65536 < s.size
  · have a1 : (65536 : Int) < (s.size : Int) := by omega
    have HE : Hid (QuR (bn s) (.returned (.tuple #[.string ⟨#[]⟩, .int .i64 4]))) := by
      have e : quote (bn s) = ([], 4) := by unfold quote; rw [if_neg hv, if_pos (by rw [bn_length]; exact hl)]
      exact ⟨⟨#[]⟩, by rw [e]; rfl, by rw [e]; rfl⟩
    clear hb HV hv
    go_enter Tryz.func13, Tryz.ntmps13
    go_wp2_with (go_at_call 31; refine HBD.out.mono ?_; rintro e w2 ⟨rfl, B2⟩)
    go_ret2
    exact ⟨HE.out, B2⟩
  have a1 : ¬ (65536 : Int) < (s.size : Int) := by omega
  have HE : Hid (∀ T : ByteArray, Qd s s.size T → QuR (bn s) (.returned (.tuple #[.string (T ++ ⟨#[34]⟩), .int .i64 0]))) := fun T h => by
    have e : quote (bn s) = (qt (bn s), 0) := by unfold quote; rw [if_neg hv, if_neg (by rw [bn_length]; exact hl)]
    refine ⟨_, ?_, by rw [e]; rfl⟩
    unfold Qd at h
    rw [List.take_of_length_le (by rw [bn_length]; exact Nat.le_refl _)] at h
    rw [e, bn_append, h]
    rfl
  have HGT := hid (bn_get s)
  have HBY := hid (fun j (h : j < s.size) => byte_bd (s := s) h)
  have HB1 := hid (bn_one s)
  have hsz : s.size ≤ 65536 := by omega
  clear hb HV hv hl
  go_enter Tryz.func13, Tryz.ntmps13
  go_wp2_with (go_at_call 31; refine HBD.out.mono ?_; rintro e w2 ⟨rfl, B2⟩; have HB2 := hid B2; clear B2)
  go_loopw [4, 5] (fun vt vi wr => ∃ (i : Nat) (T : ByteArray), i ≤ s.size ∧ vt = .string T ∧ vi = .int .i64 (i : Int) ∧ T.size ≤ 1 + 6 * i ∧ Hid (Qd s i T) ∧ Hid (Below w.heap.size w wr)) (fun _ vi _ => s.size - (intOf vi).toNat)
  case atStart => exact ⟨0, ⟨#[34]⟩, Nat.zero_le _, rfl, rfl, Nat.le_refl _, rfl, HB2⟩
  case round =>
    obtain ⟨i, T, hi, rfl, rfl, hT, HQ, HB⟩ := hrel
    by_cases hlt : i < s.size
    rotate_left
    · have hltz : ¬ (i : Int) < (s.size : Int) := by omega
      obtain rfl : i = s.size := by omega
      have HF := hid (HE.out T HQ.out)
      clear HE HQ HGT HBY HB1
      go_wp2
      go_ret2
      exact ⟨HF.out, HB.out⟩
    have hltz : (i : Int) < (s.size : Int) := by omega
    have gy := (HGT.out i hlt).symm
    obtain ⟨z0, z1⟩ := HBY.out i hlt
    have HO := hid (HB1.out i hlt)
    have HST := hid (fun (q : ByteArray) y hy hq => HQ.out.step (q := q) (y := y) hlt hy hq)
    obtain ⟨y, hy⟩ : ∃ y, (bn s)[i]?.getD 0 = y := ⟨_, rfl⟩
    rw [hy] at gy z0 z1 HO
    have HS2 : Hid (∀ q : ByteArray, bn q = qb y → Qd s (i + 1) (T ++ q)) := fun q hq => HST.out q y hy hq
    have hx1 : (s.extract i (i + 1)).size = 1 := by simp; omega
    clear hy HST HGT HBY HB1 HQ HE
    have hc : (y = 34 ∨ y = 92) ∨ ¬ (y = 34 ∨ y = 92) ∧ y < 16 ∨ ¬ (y = 34 ∨ y = 92) ∧ (16 ≤ y ∧ y < 32 ∨ y = 127) ∨ ¬ (y = 34 ∨ y = 92) ∧ 32 ≤ y ∧ y ≠ 127 := by omega
    rcases hc with h | ⟨h, h2⟩ | ⟨h, h2⟩ | ⟨h, h2, h3⟩
    · have HN : Hid (Qd s (i + 1) (T ++ ⟨#[92]⟩ ++ s.extract i (i + 1))) := by
        have := HS2.out (⟨#[92]⟩ ++ s.extract i (i + 1)) (by rw [bn_append, HO.out]; unfold qb; rw [if_pos h]; rfl)
        rw [← ByteArray.append_assoc] at this
        exact this
      have hq : (y == 34) = true ∨ (y == 34) = false ∧ (y == 92) = true := by rcases h with h | h <;> subst h <;> simp
      clear h HS2
      rcases hq with q | ⟨q, q2⟩
      all_goals
        go_wp2
        go_roundw
        case rel => exact ⟨i + 1, _, by omega, rfl, by go_num, by rw [ByteArray.size_append, ByteArray.size_append, hx1]; show T.size + 1 + 1 ≤ _; omega, HN, HB⟩
        case measure => simp [intOf]; omega
    · have q1 : (y == 34) = false := by simp; omega
      have q2 : (y == 92) = false := by simp; omega
      have b1 : y < 32 := by omega
      have b2 : ¬ (16 : Int) ≤ y := by omega
      obtain ⟨k, hk⟩ : ∃ k : Nat, y = (k : Int) := ⟨y.toNat, by omega⟩
      have hk16 : k < 16 := by omega
      have HX := hid (hex_one ⟨k, hk16⟩)
      have hxs : (hexs.extract k (k + 1)).size = 1 := by have := congrArg List.length HX.out; rw [bn_length] at this; exact this
      have hm : y % 16 = (k : Int) := by omega
      have HN : Hid (Qd s (i + 1) (T ++ ⟨#[92, 117, 123]⟩ ++ hexs.extract k (k + 1) ++ ⟨#[125]⟩)) := by
        have := HS2.out (⟨#[92, 117, 123]⟩ ++ hexs.extract k (k + 1) ++ ⟨#[125]⟩) (by rw [bn_append, bn_append, HX.out]; unfold qb; rw [if_neg h, if_pos h2, hk]; rfl)
        rw [← ByteArray.append_assoc, ← ByteArray.append_assoc] at this
        exact this
      clear h h2 HS2 hk
      go_wp2
      go_roundw
      case rel => exact ⟨i + 1, _, by omega, rfl, by go_num, by rw [ByteArray.size_append, ByteArray.size_append, ByteArray.size_append, hxs]; show T.size + 3 + 1 + 1 ≤ _; omega, HN, HB⟩
      case measure => simp [intOf]; omega
    · have q1 : (y == 34) = false := by simp; omega
      have q2 : (y == 92) = false := by simp; omega
      have b2 : (16 : Int) ≤ y := by omega
      obtain ⟨k1, hk1⟩ : ∃ k : Nat, y / 16 = (k : Int) := ⟨(y / 16).toNat, by omega⟩
      obtain ⟨k2, hk2⟩ : ∃ k : Nat, y % 16 = (k : Int) := ⟨(y % 16).toNat, by omega⟩
      have h16 : k1 < 16 := by omega
      have h17 : k2 < 16 := by omega
      have HX := hid (hex_one ⟨k1, h16⟩)
      have HY := hid (hex_one ⟨k2, h17⟩)
      have hxs : (hexs.extract k1 (k1 + 1)).size = 1 := by have := congrArg List.length HX.out; rw [bn_length] at this; exact this
      have hys : (hexs.extract k2 (k2 + 1)).size = 1 := by have := congrArg List.length HY.out; rw [bn_length] at this; exact this
      have HN : Hid (Qd s (i + 1) (T ++ ⟨#[92, 117, 123]⟩ ++ hexs.extract k1 (k1 + 1) ++ hexs.extract k2 (k2 + 1) ++ ⟨#[125]⟩)) := by
        have := HS2.out (⟨#[92, 117, 123]⟩ ++ hexs.extract k1 (k1 + 1) ++ hexs.extract k2 (k2 + 1) ++ ⟨#[125]⟩) (by rw [bn_append, bn_append, bn_append, HX.out, HY.out]; unfold qb; rw [if_neg h, if_neg (by omega), if_pos (by omega), hk1, hk2]; rfl)
        rw [← ByteArray.append_assoc, ← ByteArray.append_assoc, ← ByteArray.append_assoc] at this
        exact this
      have hq : y < 32 ∨ ¬ y < 32 ∧ (y == 127) = true := by
        rcases h2 with h2 | h2
        · exact .inl h2.2
        · exact .inr ⟨by omega, by simpa using h2⟩
      clear h h2 HS2
      rcases hq with b1 | ⟨b1, b3⟩
      all_goals
        go_wp2
        go_roundw
        case rel => exact ⟨i + 1, _, by omega, rfl, by go_num, by rw [ByteArray.size_append, ByteArray.size_append, ByteArray.size_append, ByteArray.size_append, hxs, hys]; show T.size + 3 + 1 + 1 + 1 ≤ _; omega, HN, HB⟩
        case measure => simp [intOf]; omega
    · have q1 : (y == 34) = false := by simp; omega
      have q2 : (y == 92) = false := by simp; omega
      have b1 : ¬ y < 32 := by omega
      have b2 : (y == 127) = false := by simpa using h3
      have HN := hid (HS2.out (s.extract i (i + 1)) (by rw [HO.out]; unfold qb; rw [if_neg h, if_neg (by omega), if_neg (by omega)]))
      clear h h2 h3 HS2
      go_wp2
      go_roundw
      case rel => exact ⟨i + 1, _, by omega, rfl, by go_num, by rw [ByteArray.size_append, hx1]; omega, HN, HB⟩
      case measure => simp [intOf]; omega
end Go.Proofs.YtphkdagapoonjaaGreatDoor.Lx
