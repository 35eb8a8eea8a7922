/- The contracts of the document's digit and Hex. -/
import Derived.Test.YtlgnnljleooenaaDoorV
namespace Go.Proofs.YtlgnnljleooenaaDoor
open Go.RowKit
set_option linter.unusedVariables false

set_option maxRecDepth 100000 in
theorem rdigit_any (d : Nat) (hd : d < 16) (w : World) : Calls Tryd.prog 45 #[.int .i32 (d : Int)] w fun e W' => e = .returned (.int .u8 (hexd d)) ∧ W' = w := by
  by_cases h : d < 10
  · have H : Hid (hexd d = 48 + (d : Int)) := by show _ = _; unfold hexd; rw [if_pos h]
    have h' : (d : Int) < 10 := by omega
    go_enter Tryd.func45, Tryd.ntmps45
    go_wp2
    go_ret
    exact ⟨by rw [H.out]; rfl, rfl⟩
  · have H : Hid (hexd d = 87 + (d : Int)) := by show _ = _; unfold hexd; rw [if_neg h]
    have h' : ¬ (d : Int) < 10 := by omega
    have h9 : (d : Int) < 16 := by omega
    go_enter Tryd.func45, Tryd.ntmps45
    go_wp2
    go_ret
    refine ⟨?_, rfl⟩
    rw [H.out]
    show Ending.returned (.int .u8 _) = .returned (.int .u8 _)
    congr 2
    omega
theorem bn_append (a b : ByteArray) : bn (a ++ b) = bn a ++ bn b := by
  unfold bn
  rw [← List.map_append]
  congr 1
theorem conv_one (w : World) (c : Int) (h0 : 0 ≤ c) (h1 : c ≤ 255) (H : Nat) (hH : w.heap.size = H) : ∃ t : ByteArray, (convert 51 9 (.slice (some ⟨H, 0, none⟩) 1 1)).run Tryd.prog (w.alloc (.cells #[.int .u8 c] 5)) = .ok (.string t) (w.alloc (.cells #[.int .u8 c] 5)) ∧ bn t = [c] := by
  subst hH
  exact conv_string _ 0 _ 1 [c] rfl (fun x hx => by simp at hx; omega) (World.ownsRow_lit w #[.int .u8 c] 1 (Nat.zero_le _) (by decide) rfl)
def pre (f m : Nat) : List Int := if m < 16 then [] else hxf f (m / 16)

def hexRel (n : Nat) (w1 : World) (a t : Value) (wr : World) : Prop := ∃ (m f : Nat) (T : ByteArray), a = .int .i32 (m : Int) ∧ t = .string T ∧ m ≤ 1114111 ∧ m < 16 ^ (f + 1) ∧ T.size + f ≤ 8 ∧ Hid (hx n = pre f m ++ bn T) ∧ Below w1.heap.size w1 wr
set_option maxRecDepth 100000 in
set_option maxHeartbeats 1600000 in
theorem rhex_any (n : Nat) (hn : n ≤ 1114111) (w : World) :
    Calls Tryd.prog 38 #[.int .i32 (n : Int)] w fun e W' => (∃ t, e = .returned (.string t) ∧ bn t = hx n) ∧ Below w.heap.size w W' := by
  have hb0 := hexd_bd (n % 16) (by omega)
  obtain ⟨t0, hc0, ht0⟩ := conv_one w (hexd (n % 16)) hb0.1 hb0.2 _ rfl
  have HT0 := hid' ht0
  have hx0 : Hid (hx n = pre 7 n ++ [hexd (n % 16)]) := by
    show _ = _
    unfold hx pre
    rw [hxf_succ]
    split
    · rw [show n % 16 = n by omega]; rfl
    · rfl
  have hal : Below w.heap.size w (w.alloc (.cells #[.int .u8 (hexd (n % 16))] 5)) := (Below.refl _ w).alloc (Nat.le_refl _) _
  clear ht0
  go_enter Tryd.func38, Tryd.ntmps38
  go_wp2_with fail
  rw [show ((n : Int) % 16) = ((n % 16 : Nat) : Int) by omega]
  refine (rdigit_any (n % 16) (by omega) w).mono ?_
  rintro e w1 ⟨rfl, rfl⟩
  go_wp2_with fail
  go_loopw [0, 3] (fun a t wr => hexRel n w1 a t wr)
    (fun a _ _ => (intOf a).toNat)
  case atStart => exact ⟨n, 7, t0, rfl, rfl, hn, Nat.lt_of_le_of_lt hn (by decide), by have := congrArg List.length HT0.out; rw [bn_length] at this; simp at this; omega, by show _ = _; rw [HT0.out]; exact hx0.out, hal⟩
  case round =>
    obtain ⟨m, f, T, rfl, rfl, hm, hmf, hTf, HH, hB⟩ := hrel
    clear hc0 hal
    by_cases h16 : 16 ≤ m
    · have h16' : (16 : Int) ≤ (m : Int) := by omega
      have hb1 := hexd_bd (m / 16 % 16) (by omega)
      obtain ⟨t1, hc1, ht1⟩ := conv_one wr (hexd (m / 16 % 16)) hb1.1 hb1.2 _ rfl
      obtain ⟨f', rfl⟩ : ∃ f', f = f' + 1 := ⟨f - 1, by
        rcases f with _ | f
        · simp at hmf; omega
        · omega⟩
      have HS : Hid (hx n = pre f' (m / 16) ++ bn (t1 ++ T)) := by
        show _ = _
        rw [HH.out, bn_append, ht1]
        unfold pre
        rw [if_neg (by omega), hxf_succ]
        by_cases h2 : m / 16 < 16
        · rw [if_pos h2, if_pos h2, show m / 16 % 16 = m / 16 by omega]; rfl
        · rw [if_neg h2, if_neg h2, List.append_assoc]
      have hs1 : t1.size ≤ 1 := by have := congrArg List.length ht1; rw [bn_length] at this; simp at this; omega
      have hsT : T.size ≤ 8 := by omega
      have hmf2 : m / 16 < 16 ^ (f' + 1) := by rw [Nat.pow_succ] at hmf; omega
      have HM2 := hid' hmf2
      have e1 : (m : Int) / 16 = ((m / 16 : Nat) : Int) := by omega
      have HE1 := hid' e1
      clear ht1 HH hmf hmf2 e1
      go_wp2_with fail
      rw [show ((m : Int) / 16 % 16) = ((m / 16 % 16 : Nat) : Int) by omega]
      refine (rdigit_any (m / 16 % 16) (by omega) _).mono ?_
      rintro e w2 ⟨rfl, rfl⟩
      go_wp2_with fail
      go_roundw
      case rel => exact ⟨m / 16, f', t1 ++ T, by rw [HE1.out], rfl, by omega, HM2.out, by rw [ByteArray.size_append]; omega, HS, hB.alloc hB.size _⟩
      case measure => simp [intOf]; omega
    · have h16' : ¬ (16 : Int) ≤ (m : Int) := by omega
      have HF : Hid (bn T = hx n) := by show _ = _; rw [HH.out]; unfold pre; rw [if_pos (by omega)]; rfl
      go_wp2
      go_ret
      exact ⟨⟨T, rfl, HF.out⟩, hB⟩
end Go.Proofs.YtlgnnljleooenaaDoor
