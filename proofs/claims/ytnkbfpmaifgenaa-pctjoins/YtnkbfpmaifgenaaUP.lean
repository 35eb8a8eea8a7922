/- The contract of utf.appendScalar: the bytes of a code point, behind those that there are. -/
import Derived.Test.YtnkbfpmaifgenaaUA
import Derived.OwnWalk
import Derived.Maps.AppendAt
namespace Go.Proofs.Ytnkbfpmaifgenaa.U
open Go.RowKit

/-- The bytes of a code point. -/
def enc (c : Int) : List Int :=
  if c < 128 then [c] else if c < 2048 then [192 + c / 64, 128 + c % 64] else if c < 65536 then [224 + c / 4096, 128 + c / 64 % 64, 128 + c % 64]
  else [240 + c / 262144, 128 + c / 4096 % 64, 128 + c / 64 % 64, 128 + c % 64]
theorem enc_len (c : Int) : 1 ≤ (enc c).length ∧ (enc c).length ≤ 4 := by unfold enc; (repeat' split) <;> simp
theorem Try.info5 : (Try.prog.info? 5).map (fun i => (i.zero, i.size, i.bytes)) = some (some (.int .u8 0), 1, 1) := by kernel_rfl

theorem news_at (w : World) (t : TypeId) (l : List Value) : ∀ (j : Nat) (u : Value), l[j]? = some u → (w.alloc (.cells l.toArray t)).cell? ((⟨w.heap.size, 0, none⟩ : Addr).add j) = some u := by
  intro j u h
  have hb : (w.alloc (.cells l.toArray t)).heap[w.heap.size]? = some (.cells l.toArray t) := heap_alloc_new w _
  generalize w.alloc (.cells l.toArray t) = W at hb ⊢
  generalize w.heap.size = g at hb ⊢
  by_cases hj : j = 0
  · subst hj; simp [World.cell?, Addr.add, hb, h]
  · simp [World.cell?, Addr.add, hj, hb, h]
theorem grown_trans {a b c : World} {row : Option Nat} (h : a.grownBy b none) (k : b.grownBy c row) : a.grownBy c row :=
  ⟨k.os.trans h.os, k.tape.trans h.tape, k.output.trans h.output, Nat.le_trans h.size k.size, fun i hi hr => (k.block i (Nat.lt_of_lt_of_le hi h.size) hr).trans (h.block i hi (by simp))⟩

set_option maxRecDepth 100000 in
set_option maxHeartbeats 1000000 in
theorem append1 (base : Nat) (v : Value) (k : Nat) (xs : List Value) (c : Int) (h0 : 0 ≤ c) (h1 : c < 128) (w : World) (hb : base ≤ w.heap.size) (hk : k ≤ 1099511627776) (hrow : w.ownsRow base 5 1 v k xs) :
    Calls Try.prog 25 #[v, .int .i32 c] w fun e W' => ∃ v', e = .returned v' ∧ W'.ownsRow base 5 1 v' (k + 1) (xs ++ [.int .u8 c]) ∧ w.grownBy W' v.ownBlock := by
  obtain ⟨i0, hi, hz0, hz1, hz2⟩ := info_parts Try.info5
  go_enter Try.func25, Try.ntmps25
  go_wp2_with (at_builtin; refine wpList_append_own _ rfl _ _ 37 rfl base 5 i0 (.int .u8 0) 1 1 Try.underlying37 hi hz0 hz1 hz2 rfl (by decide) _ _ _ rfl (hrow.alloc _) ⟨w.heap.size, 0, none⟩ 1 1 [.int .u8 c] rfl rfl (news_at _ _ _) (by simp [Value.oneCell']) (by unfold maxLen; omega) (by omega) (by simp; omega) ?_; intro v' w1 hown' hgrow _)
  go_ret
  exact ⟨v', rfl, hown', grown_trans (World.grownBy_alloc _ _ none) hgrow⟩

set_option maxRecDepth 100000 in
set_option maxHeartbeats 1000000 in
theorem append2 (base : Nat) (v : Value) (k : Nat) (xs : List Value) (c : Int) (h0 : 128 ≤ c) (h1 : c < 2048) (w : World) (hb : base ≤ w.heap.size) (hk : k ≤ 1099511627776) (hrow : w.ownsRow base 5 1 v k xs) :
    Calls Try.prog 25 #[v, .int .i32 c] w fun e W' => ∃ v', e = .returned v' ∧ W'.ownsRow base 5 1 v' (k + 2) (xs ++ [.int .u8 (192 + c / 64), .int .u8 (128 + c % 64)]) ∧ w.grownBy W' v.ownBlock := by
  obtain ⟨i0, hi, hz0, hz1, hz2⟩ := info_parts Try.info5
  go_enter Try.func25, Try.ntmps25
  go_wp2_with fail
  refine (tail_any _ (by omega) (by omega) _).mono ?_
  rintro e w' ⟨rfl, rfl⟩
  go_wp2_with (at_builtin; refine wpList_append_own _ rfl _ _ 37 rfl base 5 i0 (.int .u8 0) 1 1 Try.underlying37 hi hz0 hz1 hz2 rfl (by decide) _ _ _ rfl (hrow.alloc _) ⟨w'.heap.size, 0, none⟩ 2 2 [.int .u8 (192 + c / 64), .int .u8 (128 + c % 64)] rfl rfl (news_at _ _ _) (by simp [Value.oneCell']) (by unfold maxLen; omega) (by omega) (by simp; omega) ?_; intro v' w1 hown' hgrow _)
  go_ret
  exact ⟨v', rfl, hown', grown_trans (World.grownBy_alloc _ _ none) hgrow⟩

set_option maxRecDepth 100000 in
set_option maxHeartbeats 1000000 in
theorem append3 (base : Nat) (v : Value) (k : Nat) (xs : List Value) (c : Int) (h0 : 2048 ≤ c) (h1 : c < 65536) (w : World) (hb : base ≤ w.heap.size) (hk : k ≤ 1099511627776) (hrow : w.ownsRow base 5 1 v k xs) :
    Calls Try.prog 25 #[v, .int .i32 c] w fun e W' => ∃ v', e = .returned v' ∧ W'.ownsRow base 5 1 v' (k + 3) (xs ++ [.int .u8 (224 + c / 4096), .int .u8 (128 + c / 64 % 64), .int .u8 (128 + c % 64)]) ∧ w.grownBy W' v.ownBlock := by
  obtain ⟨i0, hi, hz0, hz1, hz2⟩ := info_parts Try.info5
  go_enter Try.func25, Try.ntmps25
  go_wp2_with fail
  refine (tail_any _ (by omega) (by omega) _).mono ?_
  rintro e w' ⟨rfl, rfl⟩
  go_wp2_with fail
  refine (tail_any _ (by omega) (by omega) _).mono ?_
  rintro e w' ⟨rfl, rfl⟩
  go_wp2_with (at_builtin; refine wpList_append_own _ rfl _ _ 37 rfl base 5 i0 (.int .u8 0) 1 1 Try.underlying37 hi hz0 hz1 hz2 rfl (by decide) _ _ _ rfl (hrow.alloc _) ⟨w'.heap.size, 0, none⟩ 3 3 [.int .u8 (224 + c / 4096), .int .u8 (128 + c / 64 % 64), .int .u8 (128 + c % 64)] rfl rfl (news_at _ _ _) (by simp [Value.oneCell']) (by unfold maxLen; omega) (by omega) (by simp; omega) ?_; intro v' w1 hown' hgrow _)
  go_ret
  exact ⟨v', rfl, hown', grown_trans (World.grownBy_alloc _ _ none) hgrow⟩

set_option maxRecDepth 100000 in
set_option maxHeartbeats 1000000 in
theorem append4 (base : Nat) (v : Value) (k : Nat) (xs : List Value) (c : Int) (h0 : 65536 ≤ c) (h1 : c < 1114112) (w : World) (hb : base ≤ w.heap.size) (hk : k ≤ 1099511627776) (hrow : w.ownsRow base 5 1 v k xs) :
    Calls Try.prog 25 #[v, .int .i32 c] w fun e W' => ∃ v', e = .returned v' ∧ W'.ownsRow base 5 1 v' (k + 4) (xs ++ [.int .u8 (240 + c / 262144), .int .u8 (128 + c / 4096 % 64), .int .u8 (128 + c / 64 % 64), .int .u8 (128 + c % 64)]) ∧ w.grownBy W' v.ownBlock := by
  obtain ⟨i0, hi, hz0, hz1, hz2⟩ := info_parts Try.info5
  go_enter Try.func25, Try.ntmps25
  go_wp2_with fail
  refine (tail_any _ (by omega) (by omega) _).mono ?_
  rintro e w' ⟨rfl, rfl⟩
  go_wp2_with fail
  refine (tail_any _ (by omega) (by omega) _).mono ?_
  rintro e w' ⟨rfl, rfl⟩
  go_wp2_with fail
  refine (tail_any _ (by omega) (by omega) _).mono ?_
  rintro e w' ⟨rfl, rfl⟩
  go_wp2_with (at_builtin; refine wpList_append_own _ rfl _ _ 37 rfl base 5 i0 (.int .u8 0) 1 1 Try.underlying37 hi hz0 hz1 hz2 rfl (by decide) _ _ _ rfl (hrow.alloc _) ⟨w'.heap.size, 0, none⟩ 4 4 [.int .u8 (240 + c / 262144), .int .u8 (128 + c / 4096 % 64), .int .u8 (128 + c / 64 % 64), .int .u8 (128 + c % 64)] rfl rfl (news_at _ _ _) (by simp [Value.oneCell']) (by unfold maxLen; omega) (by omega) (by simp; omega) ?_; intro v' w1 hown' hgrow _)
  go_ret
  exact ⟨v', rfl, hown', grown_trans (World.grownBy_alloc _ _ none) hgrow⟩

/-- utf.appendScalar puts the bytes of a code point behind what there is. -/
theorem append_any (base : Nat) (v : Value) (k : Nat) (xs : List Value) (c : Int) (h0 : 0 ≤ c) (h1 : c ≤ 1114111) (w : World) (hb : base ≤ w.heap.size) (hk : k ≤ 1099511627776) (hrow : w.ownsRow base 5 1 v k xs) :
    Calls Try.prog 25 #[v, .int .i32 c] w fun e W' => ∃ v', e = .returned v' ∧ W'.ownsRow base 5 1 v' (k + (enc c).length) (xs ++ (enc c).map (Value.int .u8)) ∧ w.grownBy W' v.ownBlock := by
  unfold enc
  by_cases q1 : c < 128
  · rw [if_pos q1]; exact append1 base v k xs c h0 q1 w hb hk hrow
  · rw [if_neg q1]
    by_cases q2 : c < 2048
    · rw [if_pos q2]; exact append2 base v k xs c (by omega) q2 w hb hk hrow
    · rw [if_neg q2]
      by_cases q3 : c < 65536
      · rw [if_pos q3]; exact append3 base v k xs c (by omega) q3 w hb hk hrow
      · rw [if_neg q3]; exact append4 base v k xs c (by omega) (by omega) w hb hk hrow
end Go.Proofs.Ytnkbfpmaifgenaa.U
