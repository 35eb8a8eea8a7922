/- Texts of one layer, one behind the other: UY UZ UU UO. -/
import Derived.Test.YtpkegjbmnilmdaaDoorZU3
import Derived.RegionTactic
import Derived.Deep.QuietTactic
import Derived.BigQuiet
/- Plain facts on the document's own answer: its whole, its begins, its value, against what stands at the front. -/
namespace Go.Proofs.YtpkegjbmnilmdaaDoor.U
open Go.RowKit

def valR : List Int → Int
  | [a] => a
  | [a, b] => (a - 192) * 64 + b - 128
  | [a, b, c] => ((a - 224) * 64 + b - 128) * 64 + c - 128
  | [a, b, c, d] => (((a - 240) * 64 + b - 128) * 64 + c - 128) * 64 + d - 128
  | _ => 0
def wholeR (l : List Int) : Bool := scal (valR l) && decide (enc (valR l) = l)
def begL : List Int → Bool
  | [a, b] => decide ((194 ≤ a ∧ a ≤ 223 ∧ 128 ≤ b ∧ b ≤ 191) ∨ (224 ≤ a ∧ a ≤ 244 ∧ lowOf a ≤ b ∧ b ≤ highOf a))
  | [a, b, c] => decide (224 ≤ a ∧ a ≤ 244 ∧ lowOf a ≤ b ∧ b ≤ highOf a ∧ 128 ≤ c ∧ c ≤ 191)
  | _ => false

theorem val_enc (c : Int) : valR (enc c) = c := by
  unfold enc
  by_cases q1 : c < 128
  · rw [if_pos q1]; rfl
  · rw [if_neg q1]
    by_cases q2 : c < 2048
    · rw [if_pos q2]; simp only [valR]; omega
    · rw [if_neg q2]
      by_cases q3 : c < 65536
      · rw [if_pos q3]; simp only [valR]; omega
      · rw [if_neg q3]; simp only [valR]; omega

/-- The document's whole is what is whole at the front, of just its bytes. -/
theorem whole_iff (l : List Int) (hne : l ≠ []) (hl : Bytes l) (n : Nat) (_h1 : 1 ≤ n) (hn : n ≤ l.length) :
    (wholeR (l.take n) = true → nx l = (valR (l.take n), n, true)) ∧ ((nx l).2.2 = true → (nx l).2.1 = n → wholeR (l.take n) = true) := by
  constructor
  · intro h
    unfold wholeR at h
    rw [Bool.and_eq_true, decide_eq_true_eq] at h
    have hx := nx_enc _ h.1 (l.drop n)
    rw [h.2, List.take_append_drop] at hx
    rw [hx, List.length_take]
    congr 2
    omega
  · intro hw hn'
    have he := (nx_whole l hne hl hw).2.1
    have hs := nx_scal l hne hl
    rw [hn'] at he
    unfold wholeR
    rw [← he, val_enc, hs]
    simp

/-- Where nothing is whole: how many bytes the sign stands for, told by the document's begins. -/
theorem nx_fail (l : List Int) (hne : l ≠ []) (hl : Bytes l) (hw : (nx l).2.2 = false) :
    nx l = (65533, (nx l).2.1, false) ∧ (nx l).2.1 ≤ 3 ∧ (∀ k, 1 ≤ k → k < (nx l).2.1 → begL (l.take (k + 1)) = true) ∧ ((nx l).2.1 < l.length → (nx l).2.1 < 3 → begL (l.take ((nx l).2.1 + 1)) = false) := by
  match l with
  | [] => exact absurd rfl hne
  | a :: t =>
    have ha := hl a (by simp)
    by_cases h8 : a < 128
    · rw [nx_w1 a t h8] at hw; cases hw
    rcases follow_cases a with hf | ⟨hf, h1, h2⟩ | ⟨hf, h1, h2⟩ | ⟨hf, h1, h2⟩
    · have e : nx (a :: t) = (65533, 1, false) := by rw [nx, if_neg h8, if_pos hf]
      rw [e]
      refine ⟨rfl, by decide, fun k g1 g2 => by simp only at g2; omega, fun g1 _ => ?_⟩
      match t with
      | [] => simp at g1
      | b :: t =>
        show begL [a, b] = false
        have hout : ¬ (194 ≤ a ∧ a ≤ 244) := by
          unfold follow at hf
          by_cases q3 : 240 ≤ a ∧ a ≤ 244
          · rw [if_pos q3] at hf; cases hf
          · rw [if_neg q3] at hf
            by_cases q2 : 224 ≤ a ∧ a ≤ 239
            · rw [if_pos q2] at hf; cases hf
            · rw [if_neg q2] at hf
              by_cases q1 : 194 ≤ a ∧ a ≤ 223
              · rw [if_pos q1] at hf; cases hf
              · omega
        simp only [begL, decide_eq_false_iff_not]; omega
    · have hl1 : lowOf a = 128 := by unfold lowOf; rw [if_neg (by omega), if_neg (by omega)]
      have hh1 : highOf a = 191 := by unfold highOf; rw [if_neg (by omega), if_neg (by omega)]
      have e : nx (a :: t) = nxl 1 t 1 (a % 32) 128 191 := by rw [nx, if_neg h8, hf, hl1, hh1]; rfl
      match t with
      | [] =>
        have e2 : nx [a] = (65533, 1, false) := by rw [e]; rfl
        rw [e2]
        exact ⟨rfl, by decide, fun k g1 g2 => by simp only at g2; omega, fun g1 _ => by simp at g1⟩
      | b :: t =>
        by_cases hb : b < 128 ∨ 191 < b
        · have e2 : nx (a :: b :: t) = (65533, 1, false) := by rw [e, nxl, if_pos hb]
          rw [e2]
          refine ⟨rfl, by decide, fun k g1 g2 => by simp only at g2; omega, fun _ _ => ?_⟩
          show begL [a, b] = false
          simp only [begL, decide_eq_false_iff_not]; omega
        · rw [nx_w2 a b t h1 h2 (by omega) (by omega)] at hw; cases hw
    · have q1 := low_ge a
      have q2 := high_le a
      have e := fun t => nx_e3 a t h1 h2
      match t with
      | [] =>
        have e2 : nx [a] = (65533, 1, false) := by rw [e]; rfl
        rw [e2]
        exact ⟨rfl, by decide, fun k g1 g2 => by simp only at g2; omega, fun g1 _ => by simp at g1⟩
      | b :: t =>
        by_cases hb : b < lowOf a ∨ highOf a < b
        · have e2 : nx (a :: b :: t) = (65533, 1, false) := by rw [e, nxl, if_pos hb]
          rw [e2]
          refine ⟨rfl, by decide, fun k g1 g2 => by simp only at g2; omega, fun _ _ => ?_⟩
          show begL [a, b] = false
          simp only [begL, decide_eq_false_iff_not]; omega
        · have hb1 : begL [a, b] = true := by simp only [begL, decide_eq_true_eq]; omega
          match t with
          | [] =>
            have e2 : nx [a, b] = (65533, 2, false) := by rw [e, nxl, if_neg hb]; rfl
            rw [e2]
            refine ⟨rfl, by decide, fun k g1 g2 => ?_, fun g1 _ => by simp at g1⟩
            obtain rfl : k = 1 := by simp only at g2; omega
            exact hb1
          | c :: t =>
            by_cases hc : c < 128 ∨ 191 < c
            · have e2 : nx (a :: b :: c :: t) = (65533, 2, false) := by rw [e, nxl, if_neg hb, nxl, if_pos hc]
              rw [e2]
              refine ⟨rfl, by decide, fun k g1 g2 => ?_, fun _ _ => ?_⟩
              · obtain rfl : k = 1 := by simp only at g2; omega
                exact hb1
              · show begL [a, b, c] = false
                simp only [begL, decide_eq_false_iff_not]; omega
            · rw [nx_w3 a b c t h1 h2 (by omega) (by omega) (by omega) (by omega)] at hw; cases hw
    · have q1 := low_ge a
      have q2 := high_le a
      have e := fun t => nx_e4 a t h1 h2
      match t with
      | [] =>
        have e2 : nx [a] = (65533, 1, false) := by rw [e]; rfl
        rw [e2]
        exact ⟨rfl, by decide, fun k g1 g2 => by simp only at g2; omega, fun g1 _ => by simp at g1⟩
      | b :: t =>
        by_cases hb : b < lowOf a ∨ highOf a < b
        · have e2 : nx (a :: b :: t) = (65533, 1, false) := by rw [e, nxl, if_pos hb]
          rw [e2]
          refine ⟨rfl, by decide, fun k g1 g2 => by simp only at g2; omega, fun _ _ => ?_⟩
          show begL [a, b] = false
          simp only [begL, decide_eq_false_iff_not]; omega
        · have hb1 : begL [a, b] = true := by simp only [begL, decide_eq_true_eq]; omega
          match t with
          | [] =>
            have e2 : nx [a, b] = (65533, 2, false) := by rw [e, nxl, if_neg hb]; rfl
            rw [e2]
            refine ⟨rfl, by decide, fun k g1 g2 => ?_, fun g1 _ => by simp at g1⟩
            obtain rfl : k = 1 := by simp only at g2; omega
            exact hb1
          | c :: t =>
            by_cases hc : c < 128 ∨ 191 < c
            · have e2 : nx (a :: b :: c :: t) = (65533, 2, false) := by rw [e, nxl, if_neg hb, nxl, if_pos hc]
              rw [e2]
              refine ⟨rfl, by decide, fun k g1 g2 => ?_, fun _ _ => ?_⟩
              · obtain rfl : k = 1 := by simp only at g2; omega
                exact hb1
              · show begL [a, b, c] = false
                simp only [begL, decide_eq_false_iff_not]; omega
            · have hc1 : begL [a, b, c] = true := by simp only [begL, decide_eq_true_eq]; omega
              have hk : ∀ r k, 1 ≤ k → k < 3 → begL ((a :: b :: c :: r).take (k + 1)) = true := fun r k g1 g2 => by
                have : k = 1 ∨ k = 2 := by omega
                rcases this with rfl | rfl
                · exact hb1
                · exact hc1
              match t with
              | [] =>
                have e2 : nx [a, b, c] = (65533, 3, false) := by rw [e, nxl, if_neg hb, nxl, if_neg hc]; rfl
                rw [e2]
                exact ⟨rfl, by decide, fun k g1 g2 => hk [] k g1 g2, fun g1 _ => by simp at g1⟩
              | d :: t =>
                by_cases hd : d < 128 ∨ 191 < d
                · have e2 : nx (a :: b :: c :: d :: t) = (65533, 3, false) := by rw [e, nxl, if_neg hb, nxl, if_neg hc, nxl, if_pos hd]
                  rw [e2]
                  exact ⟨rfl, by decide, fun k g1 g2 => hk _ k g1 g2, fun _ g2 => by simp at g2⟩
                · rw [nx_w4 a b c d t h1 h2 (by omega) (by omega) (by omega) (by omega) (by omega) (by omega)] at hw; cases hw
end Go.Proofs.YtpkegjbmnilmdaaDoor.U
/- The contracts of the document's own answer (package portcullisref01): value, whole, begins. -/
namespace Go.Proofs.YtpkegjbmnilmdaaDoor.U
open Go.RowKit

/-- The bytes behind the first, one by one. -/
def valF (z : Int) (l : List Int) : Int := l.foldl (fun c b => c * 64 + b - 128) z
theorem valF_snoc (z : Int) (l : List Int) (b : Int) : valF z (l ++ [b]) = valF z l * 64 + b - 128 := by simp [valF]
theorem bn_take_snoc (s : ByteArray) (k : Nat) (h : k < s.size) : ((bn s).drop 1).take k = ((bn s).drop 1).take (k - 1) ++ (if 1 ≤ k then [(s[k].toNat : Int)] else []) := by
  by_cases hk : 1 ≤ k
  · rw [if_pos hk]
    obtain ⟨m, rfl⟩ : ∃ m, k = m + 1 := ⟨k - 1, by omega⟩
    have hm : m < ((bn s).drop 1).length := by rw [List.length_drop, bn_length]; omega
    rw [List.take_succ_eq_append_getElem hm, Nat.add_sub_cancel]
    congr 2
    rw [List.getElem_drop]
    simp only [bn, List.getElem_map, Nat.add_comm 1 m]
    rfl
  · have : k = 0 := by omega
    subst this; simp
theorem four (s : ByteArray) (m : Nat) (hm : s.size = m) (h0 : 0 < s.size) : bn s = (s[0].toNat : Int) :: ((bn s).drop 1).take (m - 1) := by
  rw [List.take_of_length_le (by rw [List.length_drop, bn_length]; omega)]
  exact bn_cons s h0

set_option maxRecDepth 100000 in
set_option maxHeartbeats 1000000 in
theorem value1 (s : ByteArray) (hm : s.size = 1) (w : World) :
    Calls Tryd.prog 56 #[.string s] w fun e w' => e = .returned (.int .i32 (valR (bn s))) ∧ w' = w := by
  have hp : 0 < s.size := by omega
  have HM : Hid (s.size = 1) := hm
  have hV : Hid (valR (bn s) = valF ((s[0].toNat : Int) - 0) (((bn s).drop 1).take (1 - 1))) := by
    show _ = _
    have hl : (((bn s).drop 1).take (1 - 1)).length = 1 - 1 := by rw [List.length_take, List.length_drop, bn_length]; omega
    rw [four s 1 hm hp]
    simp only [List.drop_succ_cons, List.drop_zero]
    generalize ((bn s).drop 1).take (1 - 1) = r at hl ⊢
    obtain rfl := List.length_eq_zero_iff.1 hl
    simp [valR, valF]
  have hz1 : 1 ≤ s.size := by omega
  have hz2 : s.size ≤ 1 := by omega
  have hb0 : (s[0].toNat : Int) ≤ 255 := by have := s[0].toNat_lt; omega
  clear hm
  have g2 : ((s.size : Int) == 2) = false := by simp; omega
  have g3 : ((s.size : Int) == 3) = false := by simp; omega
  have g4 : ((s.size : Int) == 4) = false := by simp; omega
  go_enter Tryd.func56, Tryd.ntmps56
  go_wp2_with fail
  go_loop [3, 4] (fun c i => ∃ (k : Nat) (C : Int), 1 ≤ k ∧ k ≤ s.size ∧ i = .int .i64 k ∧ c = .int .i32 C ∧ Hid (C = valF ((s[0].toNat : Int) - 0) (((bn s).drop 1).take (k - 1))) ∧ (k = 1 ∧ -240 ≤ C ∧ C ≤ 255 ∨ k = 2 ∧ -15488 ≤ C ∧ C ≤ 16447 ∨ k = 3 ∧ -991360 ≤ C ∧ C ≤ 1052735 ∨ k = 4)) (fun _ i => s.size - (intOf i).toNat)
  case atStart => exact ⟨1, _, Nat.le_refl _, by omega, rfl, rfl, by show _ = _; simp [valF], by omega⟩
  case round =>
    obtain ⟨k, C, hk1, hk2, rfl, rfl, HC, hbd⟩ := hrel
    by_cases hlt : k < s.size
    · have hbk : (s[k].toNat : Int) ≤ 255 := by have := s[k].toNat_lt; omega
      have HT : Hid (((bn s).drop 1).take k = ((bn s).drop 1).take (k - 1) ++ [(s[k].toNat : Int)]) := by
        show _ = _; rw [bn_take_snoc s k hlt, if_pos hk1]
      go_wp2
      go_round
      case rel => exact ⟨k + 1, _, by omega, by omega, by go_num, rfl, by show _ = _; rw [Nat.add_sub_cancel, HT.out, valF_snoc, HC.out], by omega⟩
      case measure => simp [intOf]; omega
    · have hkm : k = 1 := by omega
      have HK : Hid (k = 1) := hkm
      clear hkm
      go_wp2
      go_ret
      exact ⟨ret_int (by rw [hV.out, HC.out, HK.out]), rfl⟩

set_option maxRecDepth 100000 in
set_option maxHeartbeats 1000000 in
theorem value2 (s : ByteArray) (hm : s.size = 2) (w : World) :
    Calls Tryd.prog 56 #[.string s] w fun e w' => e = .returned (.int .i32 (valR (bn s))) ∧ w' = w := by
  have hp : 0 < s.size := by omega
  have HM : Hid (s.size = 2) := hm
  have hV : Hid (valR (bn s) = valF ((s[0].toNat : Int) - 192) (((bn s).drop 1).take (2 - 1))) := by
    show _ = _
    have hl : (((bn s).drop 1).take (2 - 1)).length = 2 - 1 := by rw [List.length_take, List.length_drop, bn_length]; omega
    rw [four s 2 hm hp]
    simp only [List.drop_succ_cons, List.drop_zero]
    generalize ((bn s).drop 1).take (2 - 1) = r at hl ⊢
    match r, hl with
    | [x], _ => simp [valR, valF]
  have hz1 : 2 ≤ s.size := by omega
  have hz2 : s.size ≤ 2 := by omega
  have hb0 : (s[0].toNat : Int) ≤ 255 := by have := s[0].toNat_lt; omega
  clear hm
  have g2 : ((s.size : Int) == 2) = true := by simp; omega
  have g3 : ((s.size : Int) == 3) = false := by simp; omega
  have g4 : ((s.size : Int) == 4) = false := by simp; omega
  go_enter Tryd.func56, Tryd.ntmps56
  go_wp2_with fail
  go_loop [3, 4] (fun c i => ∃ (k : Nat) (C : Int), 1 ≤ k ∧ k ≤ s.size ∧ i = .int .i64 k ∧ c = .int .i32 C ∧ Hid (C = valF ((s[0].toNat : Int) - 192) (((bn s).drop 1).take (k - 1))) ∧ (k = 1 ∧ -240 ≤ C ∧ C ≤ 255 ∨ k = 2 ∧ -15488 ≤ C ∧ C ≤ 16447 ∨ k = 3 ∧ -991360 ≤ C ∧ C ≤ 1052735 ∨ k = 4)) (fun _ i => s.size - (intOf i).toNat)
  case atStart => exact ⟨1, _, Nat.le_refl _, by omega, rfl, rfl, by show _ = _; simp [valF], by omega⟩
  case round =>
    obtain ⟨k, C, hk1, hk2, rfl, rfl, HC, hbd⟩ := hrel
    by_cases hlt : k < s.size
    · have hbk : (s[k].toNat : Int) ≤ 255 := by have := s[k].toNat_lt; omega
      have HT : Hid (((bn s).drop 1).take k = ((bn s).drop 1).take (k - 1) ++ [(s[k].toNat : Int)]) := by
        show _ = _; rw [bn_take_snoc s k hlt, if_pos hk1]
      go_wp2
      go_round
      case rel => exact ⟨k + 1, _, by omega, by omega, by go_num, rfl, by show _ = _; rw [Nat.add_sub_cancel, HT.out, valF_snoc, HC.out], by omega⟩
      case measure => simp [intOf]; omega
    · have hkm : k = 2 := by omega
      have HK : Hid (k = 2) := hkm
      clear hkm
      go_wp2
      go_ret
      exact ⟨ret_int (by rw [hV.out, HC.out, HK.out]), rfl⟩

set_option maxRecDepth 100000 in
set_option maxHeartbeats 1000000 in
theorem value3 (s : ByteArray) (hm : s.size = 3) (w : World) :
    Calls Tryd.prog 56 #[.string s] w fun e w' => e = .returned (.int .i32 (valR (bn s))) ∧ w' = w := by
  have hp : 0 < s.size := by omega
  have HM : Hid (s.size = 3) := hm
  have hV : Hid (valR (bn s) = valF ((s[0].toNat : Int) - 224) (((bn s).drop 1).take (3 - 1))) := by
    show _ = _
    have hl : (((bn s).drop 1).take (3 - 1)).length = 3 - 1 := by rw [List.length_take, List.length_drop, bn_length]; omega
    rw [four s 3 hm hp]
    simp only [List.drop_succ_cons, List.drop_zero]
    generalize ((bn s).drop 1).take (3 - 1) = r at hl ⊢
    match r, hl with
    | [x, y], _ => simp [valR, valF]
  have hz1 : 3 ≤ s.size := by omega
  have hz2 : s.size ≤ 3 := by omega
  have hb0 : (s[0].toNat : Int) ≤ 255 := by have := s[0].toNat_lt; omega
  clear hm
  have g2 : ((s.size : Int) == 2) = false := by simp; omega
  have g3 : ((s.size : Int) == 3) = true := by simp; omega
  have g4 : ((s.size : Int) == 4) = false := by simp; omega
  go_enter Tryd.func56, Tryd.ntmps56
  go_wp2_with fail
  go_loop [3, 4] (fun c i => ∃ (k : Nat) (C : Int), 1 ≤ k ∧ k ≤ s.size ∧ i = .int .i64 k ∧ c = .int .i32 C ∧ Hid (C = valF ((s[0].toNat : Int) - 224) (((bn s).drop 1).take (k - 1))) ∧ (k = 1 ∧ -240 ≤ C ∧ C ≤ 255 ∨ k = 2 ∧ -15488 ≤ C ∧ C ≤ 16447 ∨ k = 3 ∧ -991360 ≤ C ∧ C ≤ 1052735 ∨ k = 4)) (fun _ i => s.size - (intOf i).toNat)
  case atStart => exact ⟨1, _, Nat.le_refl _, by omega, rfl, rfl, by show _ = _; simp [valF], by omega⟩
  case round =>
    obtain ⟨k, C, hk1, hk2, rfl, rfl, HC, hbd⟩ := hrel
    by_cases hlt : k < s.size
    · have hbk : (s[k].toNat : Int) ≤ 255 := by have := s[k].toNat_lt; omega
      have HT : Hid (((bn s).drop 1).take k = ((bn s).drop 1).take (k - 1) ++ [(s[k].toNat : Int)]) := by
        show _ = _; rw [bn_take_snoc s k hlt, if_pos hk1]
      go_wp2
      go_round
      case rel => exact ⟨k + 1, _, by omega, by omega, by go_num, rfl, by show _ = _; rw [Nat.add_sub_cancel, HT.out, valF_snoc, HC.out], by omega⟩
      case measure => simp [intOf]; omega
    · have hkm : k = 3 := by omega
      have HK : Hid (k = 3) := hkm
      clear hkm
      go_wp2
      go_ret
      exact ⟨ret_int (by rw [hV.out, HC.out, HK.out]), rfl⟩

set_option maxRecDepth 100000 in
set_option maxHeartbeats 1000000 in
theorem value4 (s : ByteArray) (hm : s.size = 4) (w : World) :
    Calls Tryd.prog 56 #[.string s] w fun e w' => e = .returned (.int .i32 (valR (bn s))) ∧ w' = w := by
  have hp : 0 < s.size := by omega
  have HM : Hid (s.size = 4) := hm
  have hV : Hid (valR (bn s) = valF ((s[0].toNat : Int) - 240) (((bn s).drop 1).take (4 - 1))) := by
    show _ = _
    have hl : (((bn s).drop 1).take (4 - 1)).length = 4 - 1 := by rw [List.length_take, List.length_drop, bn_length]; omega
    rw [four s 4 hm hp]
    simp only [List.drop_succ_cons, List.drop_zero]
    generalize ((bn s).drop 1).take (4 - 1) = r at hl ⊢
    match r, hl with
    | [x, y, z], _ => simp [valR, valF]
  have hz1 : 4 ≤ s.size := by omega
  have hz2 : s.size ≤ 4 := by omega
  have hb0 : (s[0].toNat : Int) ≤ 255 := by have := s[0].toNat_lt; omega
  clear hm
  have g2 : ((s.size : Int) == 2) = false := by simp; omega
  have g3 : ((s.size : Int) == 3) = false := by simp; omega
  have g4 : ((s.size : Int) == 4) = true := by simp; omega
  go_enter Tryd.func56, Tryd.ntmps56
  go_wp2_with fail
  go_loop [3, 4] (fun c i => ∃ (k : Nat) (C : Int), 1 ≤ k ∧ k ≤ s.size ∧ i = .int .i64 k ∧ c = .int .i32 C ∧ Hid (C = valF ((s[0].toNat : Int) - 240) (((bn s).drop 1).take (k - 1))) ∧ (k = 1 ∧ -240 ≤ C ∧ C ≤ 255 ∨ k = 2 ∧ -15488 ≤ C ∧ C ≤ 16447 ∨ k = 3 ∧ -991360 ≤ C ∧ C ≤ 1052735 ∨ k = 4)) (fun _ i => s.size - (intOf i).toNat)
  case atStart => exact ⟨1, _, Nat.le_refl _, by omega, rfl, rfl, by show _ = _; simp [valF], by omega⟩
  case round =>
    obtain ⟨k, C, hk1, hk2, rfl, rfl, HC, hbd⟩ := hrel
    by_cases hlt : k < s.size
    · have hbk : (s[k].toNat : Int) ≤ 255 := by have := s[k].toNat_lt; omega
      have HT : Hid (((bn s).drop 1).take k = ((bn s).drop 1).take (k - 1) ++ [(s[k].toNat : Int)]) := by
        show _ = _; rw [bn_take_snoc s k hlt, if_pos hk1]
      go_wp2
      go_round
      case rel => exact ⟨k + 1, _, by omega, by omega, by go_num, rfl, by show _ = _; rw [Nat.add_sub_cancel, HT.out, valF_snoc, HC.out], by omega⟩
      case measure => simp [intOf]; omega
    · have hkm : k = 4 := by omega
      have HK : Hid (k = 4) := hkm
      clear hkm
      go_wp2
      go_ret
      exact ⟨ret_int (by rw [hV.out, HC.out, HK.out]), rfl⟩

theorem value_any (s : ByteArray) (h0 : 1 ≤ s.size) (h1 : s.size ≤ 4) (w : World) :
    Calls Tryd.prog 56 #[.string s] w fun e w' => e = .returned (.int .i32 (valR (bn s))) ∧ w' = w := by
  rcases (show s.size = 1 ∨ s.size = 2 ∨ s.size = 3 ∨ s.size = 4 by omega) with h | h | h | h
  · exact value1 s h w
  · exact value2 s h w
  · exact value3 s h w
  · exact value4 s h w

theorem str_eq_bn (t s : ByteArray) : (t.toList == s.toList) = decide (bn t = bn s) := by
  rw [Bool.eq_iff_iff, beq_iff_eq, decide_eq_true_eq, ByteArray.toList_eq, ByteArray.toList_eq]
  constructor
  · intro h; unfold bn; rw [h]
  · intro h; rw [bn_inj h]

set_option maxRecDepth 100000 in
set_option maxHeartbeats 1000000 in
theorem whole_any (s : ByteArray) (h0 : 1 ≤ s.size) (h1 : s.size ≤ 4) (w : World) :
    Calls Tryd.prog 55 #[.string s] w fun e w' => e = .returned (.bool (wholeR (bn s))) ∧ Below w.heap.size w w' := by
  obtain ⟨c, hc⟩ : ∃ c, c = valR (bn s) := ⟨_, rfl⟩
  have HC : Hid (c = valR (bn s)) := hc
  clear hc
  cases hs : scal c with
  | false =>
    have HS : Hid (scal c = false) := hs
    clear hs
    go_enter Tryd.func55, Tryd.ntmps55
    go_wp2_with fail
    refine (value_any _ h0 h1 _).mono ?_
    rw [← HC.out]
    rintro e w' ⟨rfl, rfl⟩
    go_wp2_with fail
    refine (refScalar_any _ _).mono ?_
    rw [HS.out]
    rintro e w' ⟨rfl, rfl⟩
    go_wp2
    go_ret
    exact ⟨ret_bool (by unfold wholeR; rw [← HC.out, HS.out]; rfl), Below.refl _ _⟩
  | true =>
    have hbd := scal_bd hs
    have HS : Hid (scal c = true) := hs
    clear hs
    go_enter Tryd.func55, Tryd.ntmps55
    go_wp2_with fail
    refine (value_any _ h0 h1 _).mono ?_
    rw [← HC.out]
    rintro e w' ⟨rfl, rfl⟩
    go_wp2_with fail
    refine (refScalar_any _ _).mono ?_
    rw [HS.out]
    rintro e w' ⟨rfl, rfl⟩
    go_wp2_with fail
    refine (refBytes_any _ hbd.1 hbd.2 _).mono ?_
    rintro e w1 ⟨⟨t, rfl, ht⟩, hB⟩
    have HT : Hid (bn t = enc c) := ht
    clear ht
    go_wp2
    go_ret
    exact ⟨ret_bool (by unfold wholeR; rw [← HC.out, HS.out, ← HT.out, ← str_eq_bn]; rfl), hB⟩
end Go.Proofs.YtpkegjbmnilmdaaDoor.U
/- The contract of the document's own begins. -/
namespace Go.Proofs.YtpkegjbmnilmdaaDoor.U
open Go.RowKit

theorem bn_two (s : ByteArray) (hm : s.size = 2) : bn s = [((s[0]'(by omega)).toNat : Int), ((s[1]'(by omega)).toNat : Int)] := by
  rw [bn_cons s (by omega), bn_drop s 1 (by omega), bn_drop_nil s 2 (by omega)]
theorem bn_three (s : ByteArray) (hm : s.size = 3) : bn s = [((s[0]'(by omega)).toNat : Int), ((s[1]'(by omega)).toNat : Int), ((s[2]'(by omega)).toNat : Int)] := by
  rw [bn_cons s (by omega), bn_drop s 1 (by omega), bn_drop s 2 (by omega), bn_drop_nil s 3 (by omega)]

/-- What begins finds of the second byte, at a first one. -/
def secB (n : Int) (a b : Int) : Bool := if 194 ≤ a ∧ a ≤ 223 then decide (n = 2 ∧ 128 ≤ b ∧ b ≤ 191) else decide (224 ≤ a ∧ a ≤ 244 ∧ lowOf a ≤ b ∧ b ≤ highOf a)
theorem beg_two (a b : Int) : begL [a, b] = secB 2 a b := by
  unfold secB
  by_cases h : 194 ≤ a ∧ a ≤ 223
  · rw [if_pos h, Bool.eq_iff_iff]; simp only [begL, decide_eq_true_eq]
    exact ⟨fun hh => ⟨trivial, by omega⟩, fun hh => by omega⟩
  · rw [if_neg h, Bool.eq_iff_iff]; simp only [begL, decide_eq_true_eq]; omega
theorem beg_three (a b c : Int) : begL [a, b, c] = (secB 3 a b && decide (128 ≤ c ∧ c ≤ 191)) := by
  unfold secB
  by_cases h : 194 ≤ a ∧ a ≤ 223
  · rw [if_pos h, Bool.eq_iff_iff]; simp only [begL, decide_eq_true_eq, Bool.and_eq_true]; omega
  · rw [if_neg h, Bool.eq_iff_iff]; simp only [begL, decide_eq_true_eq, Bool.and_eq_true]; omega

set_option maxRecDepth 100000 in
set_option maxHeartbeats 2000000 in
theorem begins2 (s : ByteArray) (hm : s.size = 2) (w : World) :
    Calls Tryd.prog 57 #[.string s] w fun e w' => e = .returned (.bool (begL (bn s))) ∧ ∃ n, w' = w.drewN n := by
  have hp0 : 0 < s.size := by omega
  have hp1 : 1 < s.size := by omega
  have HB : Hid (bn s = [(s[0].toNat : Int), (s[1].toNat : Int)]) := bn_two s hm
  have g2 : ((s.size : Int) == 2) = true := by simp; omega
  have b0 : (s[0].toNat : Int) ≤ 255 := by have := s[0].toNat_lt; omega
  have b1 : (s[1].toNat : Int) ≤ 255 := by have := s[1].toNat_lt; omega
  have z1 : (1 : Int) < (s.size : Int) := by omega
  clear hm
  go_enter Tryd.func57, Tryd.ntmps57
  go_wp2_with fail
  go_quiet (fail)
  go_wp2
  all_goals (go_ret; refine ⟨ret_bool ?_, _, rfl⟩; rw [HB.out, beg_two]; clear HB; simp only [beq_iff_eq, beq_eq_false_iff_ne] at *; unfold secB lowOf highOf; (repeat' split) <;> first | (simp; omega) | (simp; done) | (rw [Bool.eq_iff_iff]; simp; omega) | omega)

set_option maxRecDepth 100000 in
set_option maxHeartbeats 4000000 in
theorem begins3 (s : ByteArray) (hm : s.size = 3) (w : World) :
    Calls Tryd.prog 57 #[.string s] w fun e w' => e = .returned (.bool (begL (bn s))) ∧ ∃ n, w' = w.drewN n := by
  have hp0 : 0 < s.size := by omega
  have hp1 : 1 < s.size := by omega
  have hp2 : 2 < s.size := by omega
  have HB : Hid (bn s = [(s[0].toNat : Int), (s[1].toNat : Int), (s[2].toNat : Int)]) := bn_three s hm
  have g2 : ((s.size : Int) == 2) = false := by simp; omega
  have b0 : (s[0].toNat : Int) ≤ 255 := by have := s[0].toNat_lt; omega
  have b1 : (s[1].toNat : Int) ≤ 255 := by have := s[1].toNat_lt; omega
  have z1 : (1 : Int) < (s.size : Int) := by omega
  have z2 : (2 : Int) < (s.size : Int) := by omega
  clear hm
  go_enter Tryd.func57, Tryd.ntmps57
  go_wp2_with fail
  go_quiet (fail)
  go_wp2
  all_goals (go_ret; refine ⟨ret_bool ?_, _, rfl⟩; rw [HB.out, beg_three]; clear HB; simp only [beq_iff_eq, beq_eq_false_iff_ne] at *; unfold secB lowOf highOf; (repeat' split) <;> first | (simp; omega) | (simp; done) | (rw [Bool.eq_iff_iff]; simp; omega) | omega)

theorem begins_any (s : ByteArray) (h0 : 2 ≤ s.size) (h1 : s.size ≤ 3) (w : World) :
    Calls Tryd.prog 57 #[.string s] w fun e w' => e = .returned (.bool (begL (bn s))) ∧ ∃ n, w' = w.drewN n := by
  by_cases h : s.size = 2
  · exact begins2 s h w
  · exact begins3 s (by omega) w
end Go.Proofs.YtpkegjbmnilmdaaDoor.U
/- The contract of the document's own Next: it answers what stands at the front. -/
namespace Go.Proofs.YtpkegjbmnilmdaaDoor.U
open Go.RowKit

theorem bn_first (s : ByteArray) (n : Nat) : bn (s.extract 0 n) = (bn s).take n := by
  unfold bn
  rw [Lib.extract_data]
  simp [List.map_take]
theorem nx_four (l : List Int) (h : l ≠ []) (hl : Bytes l) : (nx l).2.1 ≤ 4 := by
  rcases nx_inv l h hl with ⟨a, t, _, h0, h1, e⟩ | ⟨a, b, t, _, h1, h2, h3, h4, e⟩ | ⟨a, b, c, t, _, h1, h2, h3, h4, h5, h6, e⟩ | ⟨a, b, c, d, t, _, h1, h2, h3, h4, h5, h6, h7, h8, e⟩ | ⟨n, _, _, e⟩
  all_goals (rw [e]; simp only; omega)
/-- No beginning is whole: then nothing is. -/
theorem not_whole (l : List Int) (hne : l ≠ []) (hl : Bytes l) (k : Nat) (hk : ¬ (k ≤ 4 ∧ k ≤ l.length)) (h : ∀ j, 1 ≤ j → j < k → wholeR (l.take j) = false) : (nx l).2.2 = false := by
  cases hw : (nx l).2.2 with
  | false => rfl
  | true =>
    have hn := nx_n l hne
    have h4 := nx_four l hne hl
    have := (whole_iff l hne hl (nx l).2.1 hn.1 hn.2).2 hw rfl
    rw [h _ hn.1 (by omega)] at this
    cases this

set_option maxRecDepth 100000 in
set_option maxHeartbeats 2000000 in
theorem refNext_any (s : ByteArray) (w : World) (hs : s.size ≤ 9223372036854775807) :
    Calls Tryd.prog 37 #[.string s] w fun e w' => e = .returned (.tuple #[.int .i32 (nx (bn s)).1, .int .i64 (nx (bn s)).2.1, .bool (nx (bn s)).2.2]) ∧ Below w.heap.size w w' := by
  by_cases hp : 0 < s.size
  · have he : s.toList.isEmpty = false := isEmpty_false s hp
    have hne : Hid (bn s ≠ []) := fun h => by have := congrArg List.length h; rw [bn_length, List.length_nil] at this; omega
    have hlen : Hid ((bn s).length = s.size) := bn_length s
    go_enter Tryd.func37, Tryd.ntmps37
    go_wp2_with fail
    go_loopw [5] (fun i wr => ∃ k : Nat, 1 ≤ k ∧ k ≤ 5 ∧ k ≤ s.size + 1 ∧ i = .int .i64 k ∧ Hid (∀ j, 1 ≤ j → j < k → wholeR ((bn s).take j) = false) ∧ Below w.heap.size w wr) (fun i _ => 5 - (intOf i).toNat)
    case atStart => exact ⟨1, by omega, by omega, by omega, rfl, fun j h1 h2 => by omega, Below.refl _ _⟩
    case round =>
      obtain ⟨k, hk1, hk5, hks, rfl, HW, hB⟩ := hrel
      by_cases hin : k ≤ 4 ∧ k ≤ s.size
      · obtain ⟨hk4, hkl⟩ := hin
        have hsz : (s.extract 0 k).size = k := by simp; omega
        have h1' : Hid (1 ≤ (s.extract 0 k).size ∧ (s.extract 0 k).size ≤ 4) := by constructor <;> omega
        clear hsz
        cases hw : wholeR ((bn s).take k) with
        | true =>
          have HX : Hid (nx (bn s) = (valR ((bn s).take k), k, true)) := (whole_iff _ hne.out (bn_bytes s) k hk1 (by rw [hlen.out]; exact hkl)).1 hw
          have HK : Hid (wholeR ((bn s).take k) = true) := hw
          clear hw
          go_wp2_with fail
          refine (whole_any _ h1'.out.1 h1'.out.2 _).mono ?_
          rw [bn_first, HK.out]
          rintro e w1 ⟨rfl, hB1⟩
          go_wp2_with fail
          refine (value_any _ h1'.out.1 h1'.out.2 _).mono ?_
          rw [bn_first]
          rintro e w2 ⟨rfl, rfl⟩
          go_wp2
          go_ret3
          exact ⟨by rw [HX.out]; rfl, hB.trans (hB1.mono hB.size)⟩
        | false =>
          have HK : Hid (wholeR ((bn s).take k) = false) := hw
          clear hw
          go_wp2_with fail
          refine (whole_any _ h1'.out.1 h1'.out.2 _).mono ?_
          rw [bn_first, HK.out]
          rintro e w1 ⟨rfl, hB1⟩
          have B1 := hB.trans (hB1.mono hB.size)
          clear hB hB1
          go_wp2
          go_roundw
          case rel => exact ⟨k + 1, by omega, by omega, by omega, by go_num, fun j g1 g2 => by
            by_cases hj : j < k
            · exact HW.out j g1 hj
            · obtain rfl : j = k := by omega
              exact HK.out, B1⟩
          case measure => simp [intOf]; omega
      · have hnw := not_whole _ hne.out (bn_bytes s) k (by rw [hlen.out]; exact hin) HW.out
        have hF := nx_fail _ hne.out (bn_bytes s) hnw
        have hnn := nx_n _ hne.out
        rw [hlen.out] at hF hnn
        clear HW hnw
        obtain ⟨N, hN⟩ : ∃ N, N = (nx (bn s)).2.1 := ⟨_, rfl⟩
        rw [← hN] at hF hnn
        obtain ⟨hX, hN3, hbeg, hend⟩ := hF
        have HX : Hid (nx (bn s) = (65533, N, false)) := hX
        have HBG : Hid (∀ k, 1 ≤ k → k < N → begL ((bn s).take (k + 1)) = true) := hbeg
        have HED : Hid (N < s.size → N < 3 → begL ((bn s).take (N + 1)) = false) := hend
        clear hX hbeg hend hN
        have hor : (k ≤ 4 ∧ decide (k ≤ s.size) = false ∧ decide ((k : Int) ≤ (s.size : Int)) = false) ∨ (¬ k ≤ 4 ∧ decide ((k : Int) ≤ 4) = false ∧ decide (k ≤ 4) = false) := by
          by_cases hk4 : k ≤ 4
          · exact .inl ⟨hk4, decide_eq_false (by omega), decide_eq_false (by omega)⟩
          · exact .inr ⟨hk4, decide_eq_false (by omega), decide_eq_false (by omega)⟩
        rcases hor with ⟨hk4, hq1, hq2⟩ | ⟨hk4, hq1, hq2⟩
        all_goals
          go_wp2_with fail
          go_loopw [6] (fun i wr => ∃ k : Nat, 1 ≤ k ∧ k ≤ N ∧ i = .int .i64 k ∧ Below w.heap.size w wr) (fun i _ => N - (intOf i).toNat)
          case atStart => exact ⟨1, by omega, by omega, rfl, hB⟩
          case round =>
            rename_i wr2 _
            clear hB
            obtain ⟨m, hm1, hm2, rfl, hB⟩ := hrel
            by_cases hlt : m < N
            · have hsz : Hid (2 ≤ (s.extract 0 (m + 1)).size ∧ (s.extract 0 (m + 1)).size ≤ 3) := by
                have : (s.extract 0 (m + 1)).size = m + 1 := by simp; omega
                constructor <;> omega
              have hml : m < s.size := by omega
              have hm3 : m < 3 := by omega
              go_wp2_with fail
              refine (begins_any _ hsz.out.1 hsz.out.2 _).mono ?_
              rw [bn_first, HBG.out m hm1 hlt]
              rintro e w1 ⟨rfl, n, rfl⟩
              go_wp2
              go_roundw
              case rel => exact ⟨m + 1, by omega, by omega, by go_num, hB.trans (below_drewN _ _ _)⟩
              case measure => simp [intOf]; omega
            · have hmN : m = N := by omega
              rw [← hmN] at HX HED
              clear hmN
              by_cases hml : m < s.size
              · by_cases hm3 : m < 3
                · have hsz : Hid (2 ≤ (s.extract 0 (m + 1)).size ∧ (s.extract 0 (m + 1)).size ≤ 3) := by
                    have : (s.extract 0 (m + 1)).size = m + 1 := by simp; omega
                    constructor <;> omega
                  go_wp2_with fail
                  refine (begins_any _ hsz.out.1 hsz.out.2 _).mono ?_
                  rw [bn_first, HED.out hml hm3]
                  rintro e w1 ⟨rfl, n, rfl⟩
                  go_wp2
                  go_ret3
                  exact ⟨by rw [HX.out]; rfl, hB.trans (below_drewN _ _ _)⟩
                · try (exfalso; simp only [decide_eq_false_iff_not] at hq1; omega)
                  all_goals
                    go_wp2
                    go_ret3
                    exact ⟨by rw [HX.out]; rfl, hB⟩
              · go_wp2
                go_ret3
                exact ⟨by rw [HX.out]; rfl, hB⟩
  · have he : s.toList.isEmpty = true := isEmpty_true s (by omega)
    have hx : Hid (nx (bn s) = (0, 0, false)) := nx_nil s (by omega)
    go_enter Tryd.func37, Tryd.ntmps37
    go_wp2
    go_ret3
    exact ⟨by rw [hx.out]; rfl, Below.refl _ _⟩
end Go.Proofs.YtpkegjbmnilmdaaDoor.U
