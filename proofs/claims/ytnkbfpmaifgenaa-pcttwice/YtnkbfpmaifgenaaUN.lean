/- The contract of utf.Next: what it answers is what stands at the front. -/
import Derived.Test.YtnkbfpmaifgenaaUA
import Derived.Deep.QuietTactic
import Derived.BigQuiet
import Derived.RegionTactic
namespace Go.Proofs.Ytnkbfpmaifgenaa.U
open Go.RowKit

theorem ret_next {a b : Int} {n m : Int} {x y : Bool} (h : a = b) (g : n = m) (k : x = y) : Ending.returned (.tuple #[.int .i32 a, .int .i64 n, .bool x]) = .returned (.tuple #[.int .i32 b, .int .i64 m, .bool y]) := by rw [h, g, k]
theorem ret_nx {p q : Int × Nat × Bool} (h : p = q) : Ending.returned (.tuple #[.int .i32 p.1, .int .i64 p.2.1, .bool p.2.2]) = .returned (.tuple #[.int .i32 q.1, .int .i64 q.2.1, .bool q.2.2]) := by rw [h]
theorem toList_data (s : ByteArray) : s.toList = s.data.toList := ByteArray.toList_eq s
theorem isEmpty_false (s : ByteArray) (h : 0 < s.size) : s.toList.isEmpty = false := by
  rw [toList_data, ← Bool.not_eq_true, List.isEmpty_iff]; intro hh; have h2 := congrArg List.length hh; rw [Array.length_toList] at h2; have h3 : s.data.size = s.size := rfl; simp only [List.length_nil] at h2; omega
theorem isEmpty_true (s : ByteArray) (h : s.size = 0) : s.toList.isEmpty = true := by
  rw [toList_data, List.isEmpty_iff]; exact List.length_eq_zero_iff.1 (by simpa using h)
theorem low_bd (c : Int) : 128 ≤ lowOf c ∧ lowOf c ≤ 160 := by unfold lowOf; (repeat' split) <;> omega
theorem high_bd (c : Int) : 143 ≤ highOf c ∧ highOf c ≤ 191 := by unfold highOf; (repeat' split) <;> omega

set_option maxRecDepth 100000 in
set_option maxHeartbeats 1000000 in
theorem next_more1 (s : ByteArray) (w : World) (hs : s.size ≤ 9223372036854775807) (hp : 0 < s.size) (he : s.toList.isEmpty = false) (h1 : 194 ≤ (s[0].toNat : Int)) (h2 : (s[0].toNat : Int) ≤ 223) (hf0 : follow (s[0].toNat : Int) = 1) :
    Calls Try.prog 17 #[.string s] w fun e w' => e = .returned (.tuple #[.int .i32 (nx (bn s)).1, .int .i64 (nx (bn s)).2.1, .bool (nx (bn s)).2.2]) ∧ ∃ n, w' = w.drewN n := by
  have hx0 := nx_some s hp (by omega) 1 32 hf0 (by omega)
  have hf : Hid (follow (s[0].toNat : Int) = 1) := hf0
  have hx : Hid (nx (bn s) = nxl 1 ((bn s).drop 1) 1 ((s[0].toNat : Int) % 32) (lowOf (s[0].toNat : Int)) (highOf (s[0].toNat : Int))) := hx0
  clear hf0 hx0
  go_enter Try.func17, Try.ntmps17
  go_wp2_with fail
  refine (follow_any _ (by omega) (by omega) _).mono ?_
  rw [hf.out]
  rintro e w' ⟨rfl, rfl⟩
  go_wp2_with fail
  refine (second_any _ _).mono ?_
  rintro e w' ⟨rfl, rfl⟩
  go_wp2_with fail
  go_quiet (fail)
  go_wp2_with fail
  have hl := low_bd (s[0].toNat : Int)
  have hh := high_bd (s[0].toNat : Int)
  generalize hL : lowOf (s[0].toNat : Int) = L0 at *
  generalize hH : highOf (s[0].toNat : Int) = H0 at *
  clear hL hH
  go_loop [2, 3, 6, 7] (fun r n lo hi => ∃ (k : Nat) (R L H : Int), r = .int .i32 R ∧ n = .int .i64 k ∧ lo = .int .u8 L ∧ hi = .int .u8 H ∧ 1 ≤ k ∧ k ≤ 2 ∧ k ≤ s.size ∧ 0 ≤ R ∧ 128 ≤ L ∧ L ≤ 160 ∧ 143 ≤ H ∧ H ≤ 191 ∧ (k = 1 ∧ R < 32 ∨ k = 2 ∧ R < 2048 ∨ k = 3 ∧ R < 131072 ∨ k = 4 ∧ R < 8388608) ∧ Hid (nx (bn s) = nxl (2 - k) ((bn s).drop k) k R L H)) (fun _ n _ _ => 2 - (intOf n).toNat)
  case atStart => exact ⟨1, _, _, _, rfl, rfl, rfl, rfl, by omega, by omega, by omega, by omega, by omega, by omega, by omega, by omega, by omega, hx⟩
  case round =>
    obtain ⟨k, R, L, H, rfl, rfl, rfl, rfl, hk1, hk2, hk3, hR, hL1, hL2, hH1, hH2, hRb, hrest⟩ := hrel
    clear hx
    by_cases hlt : k ≤ 1
    · by_cases hsz : k < s.size
      · have hne : ((k : Int) == (s.size : Int)) = false := by simp; omega
        by_cases hlo : (s[k].toNat : Int) < L
        · go_wp2
          go_ret3
          refine ⟨?_, _, rfl⟩
          rw [hrest.out, show 2 - k = (1 - k) + 1 from by omega, nxl_bad s _ k R L H hsz (Or.inl hlo)]
          rfl
        · by_cases hhi : H < (s[k].toNat : Int)
          · go_wp2
            go_ret3
            refine ⟨?_, _, rfl⟩
            rw [hrest.out, show 2 - k = (1 - k) + 1 from by omega, nxl_bad s _ k R L H hsz (Or.inr hhi)]
            rfl
          · go_wp2
            go_round
            case rel =>
              refine ⟨k + 1, _, _, _, rfl, by go_num, rfl, rfl, by omega, by omega, by omega, by omega, by omega, by omega, by omega, by omega, by omega, ?_⟩
              show nx (bn s) = _
              rw [hrest.out, show 2 - k = (2 - (k + 1)) + 1 from by omega, nxl_good s _ k R L H hsz (by omega) (by omega)]
            case measure => simp [intOf]; omega
      · have hne : ((k : Int) == (s.size : Int)) = true := by simp; omega
        go_wp2
        go_ret3
        refine ⟨?_, _, rfl⟩
        rw [hrest.out, show 2 - k = (1 - k) + 1 from by omega, nxl_stop s _ k R L H (by omega)]
        rfl
    · go_wp2
      go_ret3
      refine ⟨?_, _, rfl⟩
      rw [hrest.out, show 2 - k = 0 from by omega]
      rfl

set_option maxRecDepth 100000 in
set_option maxHeartbeats 1000000 in
theorem next_more2 (s : ByteArray) (w : World) (hs : s.size ≤ 9223372036854775807) (hp : 0 < s.size) (he : s.toList.isEmpty = false) (h1 : 224 ≤ (s[0].toNat : Int)) (h2 : (s[0].toNat : Int) ≤ 239) (hf0 : follow (s[0].toNat : Int) = 2) :
    Calls Try.prog 17 #[.string s] w fun e w' => e = .returned (.tuple #[.int .i32 (nx (bn s)).1, .int .i64 (nx (bn s)).2.1, .bool (nx (bn s)).2.2]) ∧ ∃ n, w' = w.drewN n := by
  have hx0 := nx_some s hp (by omega) 2 16 hf0 (by omega)
  have hf : Hid (follow (s[0].toNat : Int) = 2) := hf0
  have hx : Hid (nx (bn s) = nxl 2 ((bn s).drop 1) 1 ((s[0].toNat : Int) % 16) (lowOf (s[0].toNat : Int)) (highOf (s[0].toNat : Int))) := hx0
  clear hf0 hx0
  go_enter Try.func17, Try.ntmps17
  go_wp2_with fail
  refine (follow_any _ (by omega) (by omega) _).mono ?_
  rw [hf.out]
  rintro e w' ⟨rfl, rfl⟩
  go_wp2_with fail
  refine (second_any _ _).mono ?_
  rintro e w' ⟨rfl, rfl⟩
  go_wp2_with fail
  go_quiet (fail)
  go_wp2_with fail
  have hl := low_bd (s[0].toNat : Int)
  have hh := high_bd (s[0].toNat : Int)
  generalize hL : lowOf (s[0].toNat : Int) = L0 at *
  generalize hH : highOf (s[0].toNat : Int) = H0 at *
  clear hL hH
  go_loop [2, 3, 6, 7] (fun r n lo hi => ∃ (k : Nat) (R L H : Int), r = .int .i32 R ∧ n = .int .i64 k ∧ lo = .int .u8 L ∧ hi = .int .u8 H ∧ 1 ≤ k ∧ k ≤ 3 ∧ k ≤ s.size ∧ 0 ≤ R ∧ 128 ≤ L ∧ L ≤ 160 ∧ 143 ≤ H ∧ H ≤ 191 ∧ (k = 1 ∧ R < 32 ∨ k = 2 ∧ R < 2048 ∨ k = 3 ∧ R < 131072 ∨ k = 4 ∧ R < 8388608) ∧ Hid (nx (bn s) = nxl (3 - k) ((bn s).drop k) k R L H)) (fun _ n _ _ => 3 - (intOf n).toNat)
  case atStart => exact ⟨1, _, _, _, rfl, rfl, rfl, rfl, by omega, by omega, by omega, by omega, by omega, by omega, by omega, by omega, by omega, hx⟩
  case round =>
    obtain ⟨k, R, L, H, rfl, rfl, rfl, rfl, hk1, hk2, hk3, hR, hL1, hL2, hH1, hH2, hRb, hrest⟩ := hrel
    clear hx
    by_cases hlt : k ≤ 2
    · by_cases hsz : k < s.size
      · have hne : ((k : Int) == (s.size : Int)) = false := by simp; omega
        by_cases hlo : (s[k].toNat : Int) < L
        · go_wp2
          go_ret3
          refine ⟨?_, _, rfl⟩
          rw [hrest.out, show 3 - k = (2 - k) + 1 from by omega, nxl_bad s _ k R L H hsz (Or.inl hlo)]
          rfl
        · by_cases hhi : H < (s[k].toNat : Int)
          · go_wp2
            go_ret3
            refine ⟨?_, _, rfl⟩
            rw [hrest.out, show 3 - k = (2 - k) + 1 from by omega, nxl_bad s _ k R L H hsz (Or.inr hhi)]
            rfl
          · go_wp2
            go_round
            case rel =>
              refine ⟨k + 1, _, _, _, rfl, by go_num, rfl, rfl, by omega, by omega, by omega, by omega, by omega, by omega, by omega, by omega, by omega, ?_⟩
              show nx (bn s) = _
              rw [hrest.out, show 3 - k = (3 - (k + 1)) + 1 from by omega, nxl_good s _ k R L H hsz (by omega) (by omega)]
            case measure => simp [intOf]; omega
      · have hne : ((k : Int) == (s.size : Int)) = true := by simp; omega
        go_wp2
        go_ret3
        refine ⟨?_, _, rfl⟩
        rw [hrest.out, show 3 - k = (2 - k) + 1 from by omega, nxl_stop s _ k R L H (by omega)]
        rfl
    · go_wp2
      go_ret3
      refine ⟨?_, _, rfl⟩
      rw [hrest.out, show 3 - k = 0 from by omega]
      rfl

set_option maxRecDepth 100000 in
set_option maxHeartbeats 1000000 in
theorem next_more3 (s : ByteArray) (w : World) (hs : s.size ≤ 9223372036854775807) (hp : 0 < s.size) (he : s.toList.isEmpty = false) (h1 : 240 ≤ (s[0].toNat : Int)) (h2 : (s[0].toNat : Int) ≤ 244) (hf0 : follow (s[0].toNat : Int) = 3) :
    Calls Try.prog 17 #[.string s] w fun e w' => e = .returned (.tuple #[.int .i32 (nx (bn s)).1, .int .i64 (nx (bn s)).2.1, .bool (nx (bn s)).2.2]) ∧ ∃ n, w' = w.drewN n := by
  have hx0 := nx_some s hp (by omega) 3 8 hf0 (by omega)
  have hf : Hid (follow (s[0].toNat : Int) = 3) := hf0
  have hx : Hid (nx (bn s) = nxl 3 ((bn s).drop 1) 1 ((s[0].toNat : Int) % 8) (lowOf (s[0].toNat : Int)) (highOf (s[0].toNat : Int))) := hx0
  clear hf0 hx0
  go_enter Try.func17, Try.ntmps17
  go_wp2_with fail
  refine (follow_any _ (by omega) (by omega) _).mono ?_
  rw [hf.out]
  rintro e w' ⟨rfl, rfl⟩
  go_wp2_with fail
  refine (second_any _ _).mono ?_
  rintro e w' ⟨rfl, rfl⟩
  go_wp2_with fail
  go_quiet (fail)
  go_wp2_with fail
  have hl := low_bd (s[0].toNat : Int)
  have hh := high_bd (s[0].toNat : Int)
  generalize hL : lowOf (s[0].toNat : Int) = L0 at *
  generalize hH : highOf (s[0].toNat : Int) = H0 at *
  clear hL hH
  go_loop [2, 3, 6, 7] (fun r n lo hi => ∃ (k : Nat) (R L H : Int), r = .int .i32 R ∧ n = .int .i64 k ∧ lo = .int .u8 L ∧ hi = .int .u8 H ∧ 1 ≤ k ∧ k ≤ 4 ∧ k ≤ s.size ∧ 0 ≤ R ∧ 128 ≤ L ∧ L ≤ 160 ∧ 143 ≤ H ∧ H ≤ 191 ∧ (k = 1 ∧ R < 32 ∨ k = 2 ∧ R < 2048 ∨ k = 3 ∧ R < 131072 ∨ k = 4 ∧ R < 8388608) ∧ Hid (nx (bn s) = nxl (4 - k) ((bn s).drop k) k R L H)) (fun _ n _ _ => 4 - (intOf n).toNat)
  case atStart => exact ⟨1, _, _, _, rfl, rfl, rfl, rfl, by omega, by omega, by omega, by omega, by omega, by omega, by omega, by omega, by omega, hx⟩
  case round =>
    obtain ⟨k, R, L, H, rfl, rfl, rfl, rfl, hk1, hk2, hk3, hR, hL1, hL2, hH1, hH2, hRb, hrest⟩ := hrel
    clear hx
    by_cases hlt : k ≤ 3
    · by_cases hsz : k < s.size
      · have hne : ((k : Int) == (s.size : Int)) = false := by simp; omega
        by_cases hlo : (s[k].toNat : Int) < L
        · go_wp2
          go_ret3
          refine ⟨?_, _, rfl⟩
          rw [hrest.out, show 4 - k = (3 - k) + 1 from by omega, nxl_bad s _ k R L H hsz (Or.inl hlo)]
          rfl
        · by_cases hhi : H < (s[k].toNat : Int)
          · go_wp2
            go_ret3
            refine ⟨?_, _, rfl⟩
            rw [hrest.out, show 4 - k = (3 - k) + 1 from by omega, nxl_bad s _ k R L H hsz (Or.inr hhi)]
            rfl
          · go_wp2
            go_round
            case rel =>
              refine ⟨k + 1, _, _, _, rfl, by go_num, rfl, rfl, by omega, by omega, by omega, by omega, by omega, by omega, by omega, by omega, by omega, ?_⟩
              show nx (bn s) = _
              rw [hrest.out, show 4 - k = (4 - (k + 1)) + 1 from by omega, nxl_good s _ k R L H hsz (by omega) (by omega)]
            case measure => simp [intOf]; omega
      · have hne : ((k : Int) == (s.size : Int)) = true := by simp; omega
        go_wp2
        go_ret3
        refine ⟨?_, _, rfl⟩
        rw [hrest.out, show 4 - k = (3 - k) + 1 from by omega, nxl_stop s _ k R L H (by omega)]
        rfl
    · go_wp2
      go_ret3
      refine ⟨?_, _, rfl⟩
      rw [hrest.out, show 4 - k = 0 from by omega]
      rfl

set_option maxRecDepth 100000 in
set_option maxHeartbeats 1000000 in
/-- utf.Next answers what stands at the front of its bytes, whatever they are. -/
theorem next_any (s : ByteArray) (w : World) (hs : s.size ≤ 9223372036854775807) :
    Calls Try.prog 17 #[.string s] w fun e w' => e = .returned (.tuple #[.int .i32 (nx (bn s)).1, .int .i64 (nx (bn s)).2.1, .bool (nx (bn s)).2.2]) ∧ ∃ n, w' = w.drewN n := by
  by_cases hp : 0 < s.size
  · have he : s.toList.isEmpty = false := isEmpty_false s hp
    by_cases ha : (s[0].toNat : Int) < 128
    · have hx : Hid (nx (bn s) = ((s[0].toNat : Int), 1, true)) := nx_ascii s hp ha
      go_enter Try.func17, Try.ntmps17
      go_wp2
      go_ret3
      exact ⟨by rw [hx.out]; rfl, 0, rfl⟩
    · rcases follow_cases (s[0].toNat : Int) with hf | ⟨hf, h1, h2⟩ | ⟨hf, h1, h2⟩ | ⟨hf, h1, h2⟩
      · have hx : Hid (nx (bn s) = (65533, 1, false)) := nx_none s hp (by omega) hf
        have hf' : Hid (follow (s[0].toNat : Int) = 0) := hf
        clear hf
        go_enter Try.func17, Try.ntmps17
        go_wp2_with fail
        refine (follow_any _ (by omega) (by have := s[0].toNat_lt; omega) _).mono ?_
        rw [hf'.out]
        rintro e w' ⟨rfl, rfl⟩
        go_wp2
        go_ret3
        exact ⟨by rw [hx.out]; rfl, 0, rfl⟩
      · exact next_more1 s w hs hp he h1 h2 hf
      · exact next_more2 s w hs hp he h1 h2 hf
      · exact next_more3 s w hs hp he h1 h2 hf
  · have he : s.toList.isEmpty = true := isEmpty_true s (by omega)
    have hx : Hid (nx (bn s) = (0, 0, false)) := nx_nil s (by omega)
    go_enter Try.func17, Try.ntmps17
    go_wp2
    go_ret3
    exact ⟨by rw [hx.out]; rfl, 0, rfl⟩
end Go.Proofs.Ytnkbfpmaifgenaa.U
