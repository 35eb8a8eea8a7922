/- The contracts of the document's own answer (package portcullisref01): Scalar, Bytes, Encode. -/
import Derived.Test.YtnkbfpmaifgenaaUG
namespace Go.Proofs.Ytnkbfpmaifgenaa.U
open Go.RowKit

set_option maxHeartbeats 400000 in
theorem refScalar_any (c : Int) (w : World) :
    Calls Try.prog 13 #[.int .i32 c] w fun e w' => e = .returned (.bool (scal c)) ∧ w' = w := by
  go_enter Try.func13, Try.ntmps13
  go_wp2
  all_goals (go_ret; exact ⟨ret_bool (by unfold scal; rw [Bool.eq_iff_iff]; simp; try omega), rfl⟩)

set_option maxRecDepth 100000 in
set_option maxHeartbeats 1000000 in
theorem bytes1 (c : Int) (h0 : 0 ≤ c) (h1 : c < 128) (w : World) :
    Calls Try.prog 14 #[.int .i32 c] w fun e W' => (∃ t, e = .returned (.string t) ∧ bn t = [c]) ∧ Below w.heap.size w W' := by
  obtain ⟨i0, hi, hz0, hz1, hz2⟩ := info_parts Try.info5
  have HB : Hid (Bytes [c]) := fun b hb => by simp at hb; omega
  go_enter Try.func14, Try.ntmps14
  go_wp2_with (at_builtin; refine wpList_append_own _ rfl _ _ 37 rfl w.heap.size 5 i0 (.int .u8 0) 1 1 Try.underlying37 hi hz0 hz1 hz2 rfl (by decide) _ 0 [] rfl (World.ownsRow_nil _ _ _ _) ⟨w.heap.size, 0, none⟩ 1 1 [.int .u8 (c)] rfl rfl (news_at _ _ _) (by simp [Value.oneCell']) (by unfold maxLen; omega) (by omega) (by simp) ?_; intro v' w1 hown' hgrow _; obtain ⟨t, hcv, ht⟩ := conv_string w1 w.heap.size v' 1 [c] rfl HB.out (by simpa using hown'))
  go_ret
  exact ⟨⟨t, rfl, ht⟩, below_grow (v := .slice none 0 0) (n := 0) (xs := []) ((Below.refl w.heap.size w).alloc (Nat.le_refl _) _) (by simp) (World.ownsRow_nil _ _ 5 1) hgrow⟩

set_option maxRecDepth 100000 in
set_option maxHeartbeats 1000000 in
theorem bytes2 (c : Int) (h0 : 128 ≤ c) (h1 : c < 2048) (w : World) :
    Calls Try.prog 14 #[.int .i32 c] w fun e W' => (∃ t, e = .returned (.string t) ∧ bn t = [192 + c / 64, 128 + c % 64]) ∧ Below w.heap.size w W' := by
  obtain ⟨i0, hi, hz0, hz1, hz2⟩ := info_parts Try.info5
  have HB : Hid (Bytes [192 + c / 64, 128 + c % 64]) := fun b hb => by simp at hb; omega
  go_enter Try.func14, Try.ntmps14
  go_wp2_with (at_builtin; refine wpList_append_own _ rfl _ _ 37 rfl w.heap.size 5 i0 (.int .u8 0) 1 1 Try.underlying37 hi hz0 hz1 hz2 rfl (by decide) _ 0 [] rfl (World.ownsRow_nil _ _ _ _) ⟨w.heap.size, 0, none⟩ 2 2 [.int .u8 (192 + c / 64), .int .u8 (128 + c % 64)] rfl rfl (news_at _ _ _) (by simp [Value.oneCell']) (by unfold maxLen; omega) (by omega) (by simp) ?_; intro v' w1 hown' hgrow _; obtain ⟨t, hcv, ht⟩ := conv_string w1 w.heap.size v' 2 [192 + c / 64, 128 + c % 64] rfl HB.out (by simpa using hown'))
  go_ret
  exact ⟨⟨t, rfl, ht⟩, below_grow (v := .slice none 0 0) (n := 0) (xs := []) ((Below.refl w.heap.size w).alloc (Nat.le_refl _) _) (by simp) (World.ownsRow_nil _ _ 5 1) hgrow⟩

set_option maxRecDepth 100000 in
set_option maxHeartbeats 1000000 in
theorem bytes3 (c : Int) (h0 : 2048 ≤ c) (h1 : c < 65536) (w : World) :
    Calls Try.prog 14 #[.int .i32 c] w fun e W' => (∃ t, e = .returned (.string t) ∧ bn t = [224 + c / 4096, 128 + c / 64 % 64, 128 + c % 64]) ∧ Below w.heap.size w W' := by
  obtain ⟨i0, hi, hz0, hz1, hz2⟩ := info_parts Try.info5
  have HB : Hid (Bytes [224 + c / 4096, 128 + c / 64 % 64, 128 + c % 64]) := fun b hb => by simp at hb; omega
  go_enter Try.func14, Try.ntmps14
  go_wp2_with (at_builtin; refine wpList_append_own _ rfl _ _ 37 rfl w.heap.size 5 i0 (.int .u8 0) 1 1 Try.underlying37 hi hz0 hz1 hz2 rfl (by decide) _ 0 [] rfl (World.ownsRow_nil _ _ _ _) ⟨w.heap.size, 0, none⟩ 3 3 [.int .u8 (224 + c / 4096), .int .u8 (128 + c / 64 % 64), .int .u8 (128 + c % 64)] rfl rfl (news_at _ _ _) (by simp [Value.oneCell']) (by unfold maxLen; omega) (by omega) (by simp) ?_; intro v' w1 hown' hgrow _; obtain ⟨t, hcv, ht⟩ := conv_string w1 w.heap.size v' 3 [224 + c / 4096, 128 + c / 64 % 64, 128 + c % 64] rfl HB.out (by simpa using hown'))
  go_ret
  exact ⟨⟨t, rfl, ht⟩, below_grow (v := .slice none 0 0) (n := 0) (xs := []) ((Below.refl w.heap.size w).alloc (Nat.le_refl _) _) (by simp) (World.ownsRow_nil _ _ 5 1) hgrow⟩

set_option maxRecDepth 100000 in
set_option maxHeartbeats 1000000 in
theorem bytes4 (c : Int) (h0 : 65536 ≤ c) (h1 : c < 1114112) (w : World) :
    Calls Try.prog 14 #[.int .i32 c] w fun e W' => (∃ t, e = .returned (.string t) ∧ bn t = [240 + c / 262144, 128 + c / 4096 % 64, 128 + c / 64 % 64, 128 + c % 64]) ∧ Below w.heap.size w W' := by
  obtain ⟨i0, hi, hz0, hz1, hz2⟩ := info_parts Try.info5
  have HB : Hid (Bytes [240 + c / 262144, 128 + c / 4096 % 64, 128 + c / 64 % 64, 128 + c % 64]) := fun b hb => by simp at hb; omega
  go_enter Try.func14, Try.ntmps14
  go_wp2_with (at_builtin; refine wpList_append_own _ rfl _ _ 37 rfl w.heap.size 5 i0 (.int .u8 0) 1 1 Try.underlying37 hi hz0 hz1 hz2 rfl (by decide) _ 0 [] rfl (World.ownsRow_nil _ _ _ _) ⟨w.heap.size, 0, none⟩ 4 4 [.int .u8 (240 + c / 262144), .int .u8 (128 + c / 4096 % 64), .int .u8 (128 + c / 64 % 64), .int .u8 (128 + c % 64)] rfl rfl (news_at _ _ _) (by simp [Value.oneCell']) (by unfold maxLen; omega) (by omega) (by simp) ?_; intro v' w1 hown' hgrow _; obtain ⟨t, hcv, ht⟩ := conv_string w1 w.heap.size v' 4 [240 + c / 262144, 128 + c / 4096 % 64, 128 + c / 64 % 64, 128 + c % 64] rfl HB.out (by simpa using hown'))
  go_ret
  exact ⟨⟨t, rfl, ht⟩, below_grow (v := .slice none 0 0) (n := 0) (xs := []) ((Below.refl w.heap.size w).alloc (Nat.le_refl _) _) (by simp) (World.ownsRow_nil _ _ 5 1) hgrow⟩

theorem refBytes_any (c : Int) (h0 : 0 ≤ c) (h1 : c ≤ 1114111) (w : World) :
    Calls Try.prog 14 #[.int .i32 c] w fun e W' => (∃ t, e = .returned (.string t) ∧ bn t = enc c) ∧ Below w.heap.size w W' := by
  unfold enc
  by_cases q1 : c < 128
  · rw [if_pos q1]; exact bytes1 c h0 q1 w
  · rw [if_neg q1]
    by_cases q2 : c < 2048
    · rw [if_pos q2]; exact bytes2 c (by omega) q2 w
    · rw [if_neg q2]
      by_cases q3 : c < 65536
      · rw [if_pos q3]; exact bytes3 c (by omega) q3 w
      · rw [if_neg q3]; exact bytes4 c (by omega) (by omega) w

/-- What the document's Encode answers. -/
def encQ (zs : List Int) (t : ByteArray) (e : Bool) : Prop := (zs.all scal = true ∧ e = true ∧ bn t = encs zs) ∨ (zs.all scal = false ∧ e = false ∧ t = ⟨#[]⟩)

set_option maxRecDepth 100000 in
set_option maxHeartbeats 2000000 in
theorem refEncode_some (b off cap : Nat) (zs : List Int) (hlen : zs.length ≤ 17179869184) (w : World) (hp : 0 < zs.length) (hc : ∀ j, j < zs.length → w.cell? ⟨b, off + j, none⟩ = some (.int .i32 (zs[j]?.getD 0))) :
    Calls Try.prog 7 #[.slice (some ⟨b, off, none⟩) zs.length cap] w fun e W' => (∃ t r, e = .returned (.tuple #[.string t, .bool r]) ∧ encQ zs t r) ∧ Below w.heap.size w W' := by
  have hb : b < w.heap.size := lt_of_cell (hc 0 hp)
  go_enter Try.func7, Try.ntmps7
  go_wp2_with fail
  go_loopw [4, 5] (fun v i wr => ∃ (k : Nat) (t : ByteArray), k ≤ zs.length ∧ i = .int .i64 k ∧ v = .string t ∧ Hid ((zs.take k).all scal = true) ∧ Hid (bn t = encs (zs.take k)) ∧ Below w.heap.size w wr)
    (fun _ i _ => zs.length - (intOf i).toNat)
  case atStart => exact ⟨0, ⟨#[]⟩, Nat.zero_le _, rfl, rfl, by show _ = _; simp, by show _ = _; simp; rfl, Below.refl _ _⟩
  case round =>
    obtain ⟨k, t, hk, rfl, rfl, H1, H0, hB⟩ := hrel
    by_cases hlt : k < zs.length
    · have hck : wr.cell? ⟨b, off + k, none⟩ = some (.int .i32 (zs[k]?.getD 0)) := (hB.cell (p := ⟨b, off + k, none⟩) hb).trans (hc k hlt)
      have hel := encs_len (zs.take k)
      rw [← H0.out, bn_length] at hel
      have htl : (zs.take k).length ≤ k := List.length_take_le _ _
      have H2 : Hid (encs (zs.take (k + 1)) = encs (zs.take k) ++ enc (zs[k]?.getD 0)) := encs_take_snoc zs k hlt
      obtain ⟨c, hcc⟩ : ∃ c, c = zs[k]?.getD 0 := ⟨_, rfl⟩
      rw [← hcc] at hck
      have HC : Hid (c = zs[k]?.getD 0) := hcc
      clear hcc
      cases hsc : scal c with
      | true =>
        have HS : Hid (scal c = true) := hsc
        clear hsc
        have hbd := scal_bd HS.out
        go_wp2_with fail
        refine (refScalar_any _ _).mono ?_
        rw [HS.out]
        rintro e w' ⟨rfl, rfl⟩
        go_wp2_with fail
        refine (refBytes_any _ hbd.1 hbd.2 _).mono ?_
        rintro e w1 ⟨⟨u, rfl, hu⟩, hB1⟩
        have HU : Hid (bn u = enc c) := hu
        have hus : u.size ≤ 4 := by have := enc_len c; rw [← hu, bn_length] at this; omega
        have B1 := hB.trans (hB1.mono hB.size)
        clear hu hB hB1 hck
        go_wp2
        go_roundw
        case rel => exact ⟨k + 1, t ++ u, by omega, by go_num, rfl, all_take_snoc zs k hlt H1.out (by rw [← HC.out]; exact HS.out), by show _ = _; rw [bn_append, H0.out, HU.out, H2.out, HC.out], B1⟩
        case measure => simp [intOf]; omega
      | false =>
        have HS : Hid (scal c = false) := hsc
        clear hsc
        go_wp2_with fail
        refine (refScalar_any _ _).mono ?_
        rw [HS.out]
        rintro e w' ⟨rfl, rfl⟩
        go_wp2
        go_ret2
        exact ⟨⟨_, _, rfl, .inr ⟨all_false zs k hlt (by rw [← HC.out]; exact HS.out), rfl, rfl⟩⟩, hB⟩
    · have hkk : k = zs.length := by omega
      rw [hkk, List.take_length] at H1 H0
      clear hkk
      go_wp2
      go_ret2
      exact ⟨⟨_, _, rfl, .inl ⟨H1.out, rfl, H0.out⟩⟩, hB⟩

set_option maxRecDepth 100000 in
set_option maxHeartbeats 1000000 in
theorem refEncode_none (a : Option Addr) (cap : Nat) (w : World) :
    Calls Try.prog 7 #[.slice a 0 cap] w fun e W' => (∃ t r, e = .returned (.tuple #[.string t, .bool r]) ∧ encQ [] t r) ∧ Below w.heap.size w W' := by
  go_enter Try.func7, Try.ntmps7
  go_wp2_with fail
  refine wp_loop_rounds 1 ?_
  rw [rounds_succ]
  go_wp2
  go_ret2
  exact ⟨⟨_, _, rfl, .inl ⟨rfl, rfl, rfl⟩⟩, Below.refl _ _⟩

theorem refEncode_any (v : Value) (zs : List Int) (hlen : zs.length ≤ 17179869184) (w : World) (hv : IntsAt w v zs) :
    Calls Try.prog 7 #[v] w fun e W' => (∃ t r, e = .returned (.tuple #[.string t, .bool r]) ∧ encQ zs t r) ∧ Below w.heap.size w W' := by
  rcases hv with ⟨rfl, a, cap, rfl⟩ | ⟨hp, b, off, cap, rfl, hc⟩
  · exact refEncode_none a cap w
  · exact refEncode_some b off cap zs hlen w hp hc
end Go.Proofs.Ytnkbfpmaifgenaa.U
