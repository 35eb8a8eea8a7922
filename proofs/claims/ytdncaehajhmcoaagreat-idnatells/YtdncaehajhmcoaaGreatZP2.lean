/- Texts of one layer, one behind the other: PAA PBA. -/
import Derived.Test.YtdncaehajhmcoaaGreatZP1
import Derived.Test.YtdncaehajhmcoaaGreatZU1
import Derived.Test.YtdncaehajhmcoaaGreatZU3
/- The small functions of package puny, and of the document's: to adapt, thresholds, signs, digits. -/
namespace Go.Proofs.YtdncaehajhmcoaaGreat.P
open Go.RowKit U
set_option linter.unusedVariables false

theorem loopA_more (A K : Nat) (h : 455 < A) : loopA A K = loopA (A / 35) (K + 36) := by rw [loopA_at, if_pos h]
theorem loopA_less (A K : Nat) (h : ¬ 455 < A) : loopA A K = K + 36 * A / (A + 38) := by rw [loopA_at, if_neg h]
theorem quo_quo (d p k : Nat) : (d : Int) / (k : Int) / (p : Int) = ((d / k / p : Nat) : Int) := by push_cast; rfl

set_option maxHeartbeats 1000000 in
theorem adapt_any (d p : Nat) (first : Bool) (hd : d ≤ 1099511627776) (hp : 1 ≤ p) (hp2 : p ≤ 9223372036854775807) (w : World) :
    Calls Tryz.prog 143 #[.int .i64 d, .int .i64 p, .bool first] w fun e w' => e = .returned (.int .i64 (adapt d p first)) ∧ w' = w := by
  go_enter Tryz.func143, Tryz.ntmps143
  cases first
  · have H : Hid (adapt d p false = loopA (d / 2 + d / 2 / p) 0) := rfl
    have b1 : d / 2 / p ≤ d / 2 := Nat.div_le_self _ _
    have q : (d : Int) / 2 / (p : Int) = ((d / 2 / p : Nat) : Int) := quo_quo d p 2
    have q0 : 0 ≤ (d : Int) / 2 / (p : Int) := by rw [q]; exact Int.natCast_nonneg _
    have q1 : (d : Int) / 2 / (p : Int) ≤ 1099511627776 := by rw [q]; generalize d / 2 / p = z at *; omega
    clear q
    have Q : Hid ((d : Int) / 2 / (p : Int) = ((d / 2 / p : Nat) : Int)) := quo_quo d p 2
    go_wp2
    go_loop [0, 7] (fun a k => ∃ (A K : Nat), a = .int .i64 A ∧ k = .int .i64 K ∧ A ≤ 2199023255552 ∧ K + A ≤ 2199023255552 ∧ Hid (adapt d p false = loopA A K)) (fun a _ => (intOf a).toNat)
    case atStart => exact ⟨d / 2 + d / 2 / p, 0, by first | rfl | (congr 1; done) | (congr 1; have := Q.out; push_cast; omega), rfl, by omega, by omega, H⟩
    case round =>
      obtain ⟨A, K, rfl, rfl, h1, h2, h3⟩ := hrel
      have c1 := Nat.div_le_self (36 * A) (A + 38)
      have c0 : 0 ≤ 36 * (A : Int) / ((A : Int) + 38) := Int.ediv_nonneg (by omega) (by omega)
      have c2 : 36 * (A : Int) / ((A : Int) + 38) ≤ 36 * 2199023255552 := by
        have : 36 * (A : Int) / ((A : Int) + 38) = ((36 * A / (A + 38) : Nat) : Int) := by push_cast; rfl
        omega
      by_cases hA : 455 < A
      · go_wp2
        refine ⟨⟨A / 35, K + 36, by go_num, by go_num, by omega, by omega, h3.out.trans (loopA_more A K hA)⟩, ?_⟩
        simp [intOf]; omega
      · go_wp2
        go_ret
        refine ⟨ret_int ?_, rfl⟩
        rw [h3.out, loopA_less A K hA]
        push_cast; rfl
  · have H : Hid (adapt d p true = loopA (d / 700 + d / 700 / p) 0) := rfl
    have b1 : d / 700 / p ≤ d / 700 := Nat.div_le_self _ _
    have q : (d : Int) / 700 / (p : Int) = ((d / 700 / p : Nat) : Int) := quo_quo d p 700
    have q0 : 0 ≤ (d : Int) / 700 / (p : Int) := by rw [q]; exact Int.natCast_nonneg _
    have q1 : (d : Int) / 700 / (p : Int) ≤ 1099511627776 := by rw [q]; generalize d / 700 / p = z at *; omega
    clear q
    have Q : Hid ((d : Int) / 700 / (p : Int) = ((d / 700 / p : Nat) : Int)) := quo_quo d p 700
    go_wp2
    go_loop [0, 7] (fun a k => ∃ (A K : Nat), a = .int .i64 A ∧ k = .int .i64 K ∧ A ≤ 2199023255552 ∧ K + A ≤ 2199023255552 ∧ Hid (adapt d p true = loopA A K)) (fun a _ => (intOf a).toNat)
    case atStart => exact ⟨d / 700 + d / 700 / p, 0, by first | rfl | (congr 1; done) | (congr 1; have := Q.out; push_cast; omega), rfl, by omega, by omega, H⟩
    case round =>
      obtain ⟨A, K, rfl, rfl, h1, h2, h3⟩ := hrel
      have c1 := Nat.div_le_self (36 * A) (A + 38)
      have c0 : 0 ≤ 36 * (A : Int) / ((A : Int) + 38) := Int.ediv_nonneg (by omega) (by omega)
      have c2 : 36 * (A : Int) / ((A : Int) + 38) ≤ 36 * 2199023255552 := by
        have : 36 * (A : Int) / ((A : Int) + 38) = ((36 * A / (A + 38) : Nat) : Int) := by push_cast; rfl
        omega
      by_cases hA : 455 < A
      · go_wp2
        refine ⟨⟨A / 35, K + 36, by go_num, by go_num, by omega, by omega, h3.out.trans (loopA_more A K hA)⟩, ?_⟩
        simp [intOf]; omega
      · go_wp2
        go_ret
        refine ⟨ret_int ?_, rfl⟩
        rw [h3.out, loopA_less A K hA]
        push_cast; rfl

set_option maxHeartbeats 1000000 in
theorem radapt_any (d p : Nat) (first : Bool) (hd : d ≤ 1099511627776) (hp : 1 ≤ p) (hp2 : p ≤ 9223372036854775807) (w : World) :
    Calls Tryz.prog 56 #[.int .i64 d, .int .i64 p, .bool first] w fun e w' => e = .returned (.int .i64 (adapt d p first)) ∧ w' = w := by
  go_enter Tryz.func56, Tryz.ntmps56
  cases first
  · have H : Hid (adapt d p false = loopA (d / 2 + d / 2 / p) 0) := rfl
    have b1 : d / 2 / p ≤ d / 2 := Nat.div_le_self _ _
    have q : (d : Int) / 2 / (p : Int) = ((d / 2 / p : Nat) : Int) := quo_quo d p 2
    have q0 : 0 ≤ (d : Int) / 2 / (p : Int) := by rw [q]; exact Int.natCast_nonneg _
    have q1 : (d : Int) / 2 / (p : Int) ≤ 1099511627776 := by rw [q]; generalize d / 2 / p = z at *; omega
    clear q
    have Q : Hid ((d : Int) / 2 / (p : Int) = ((d / 2 / p : Nat) : Int)) := quo_quo d p 2
    go_wp2
    go_loop [0, 7] (fun a k => ∃ (A K : Nat), a = .int .i64 A ∧ k = .int .i64 K ∧ A ≤ 2199023255552 ∧ K + A ≤ 2199023255552 ∧ Hid (adapt d p false = loopA A K)) (fun a _ => (intOf a).toNat)
    case atStart => exact ⟨d / 2 + d / 2 / p, 0, by first | rfl | (congr 1; done) | (congr 1; have := Q.out; push_cast; omega), rfl, by omega, by omega, H⟩
    case round =>
      obtain ⟨A, K, rfl, rfl, h1, h2, h3⟩ := hrel
      have c1 := Nat.div_le_self (36 * A) (A + 38)
      have c0 : 0 ≤ 36 * (A : Int) / ((A : Int) + 38) := Int.ediv_nonneg (by omega) (by omega)
      have c2 : 36 * (A : Int) / ((A : Int) + 38) ≤ 36 * 2199023255552 := by
        have : 36 * (A : Int) / ((A : Int) + 38) = ((36 * A / (A + 38) : Nat) : Int) := by push_cast; rfl
        omega
      by_cases hA : 455 < A
      · go_wp2
        refine ⟨⟨A / 35, K + 36, by go_num, by go_num, by omega, by omega, h3.out.trans (loopA_more A K hA)⟩, ?_⟩
        simp [intOf]; omega
      · go_wp2
        go_ret
        refine ⟨ret_int ?_, rfl⟩
        rw [h3.out, loopA_less A K hA]
        push_cast; rfl
  · have H : Hid (adapt d p true = loopA (d / 700 + d / 700 / p) 0) := rfl
    have b1 : d / 700 / p ≤ d / 700 := Nat.div_le_self _ _
    have q : (d : Int) / 700 / (p : Int) = ((d / 700 / p : Nat) : Int) := quo_quo d p 700
    have q0 : 0 ≤ (d : Int) / 700 / (p : Int) := by rw [q]; exact Int.natCast_nonneg _
    have q1 : (d : Int) / 700 / (p : Int) ≤ 1099511627776 := by rw [q]; generalize d / 700 / p = z at *; omega
    clear q
    have Q : Hid ((d : Int) / 700 / (p : Int) = ((d / 700 / p : Nat) : Int)) := quo_quo d p 700
    go_wp2
    go_loop [0, 7] (fun a k => ∃ (A K : Nat), a = .int .i64 A ∧ k = .int .i64 K ∧ A ≤ 2199023255552 ∧ K + A ≤ 2199023255552 ∧ Hid (adapt d p true = loopA A K)) (fun a _ => (intOf a).toNat)
    case atStart => exact ⟨d / 700 + d / 700 / p, 0, by first | rfl | (congr 1; done) | (congr 1; have := Q.out; push_cast; omega), rfl, by omega, by omega, H⟩
    case round =>
      obtain ⟨A, K, rfl, rfl, h1, h2, h3⟩ := hrel
      have c1 := Nat.div_le_self (36 * A) (A + 38)
      have c0 : 0 ≤ 36 * (A : Int) / ((A : Int) + 38) := Int.ediv_nonneg (by omega) (by omega)
      have c2 : 36 * (A : Int) / ((A : Int) + 38) ≤ 36 * 2199023255552 := by
        have : 36 * (A : Int) / ((A : Int) + 38) = ((36 * A / (A + 38) : Nat) : Int) := by push_cast; rfl
        omega
      by_cases hA : 455 < A
      · go_wp2
        refine ⟨⟨A / 35, K + 36, by go_num, by go_num, by omega, by omega, h3.out.trans (loopA_more A K hA)⟩, ?_⟩
        simp [intOf]; omega
      · go_wp2
        go_ret
        refine ⟨ret_int ?_, rfl⟩
        rw [h3.out, loopA_less A K hA]
        push_cast; rfl

set_option maxHeartbeats 400000 in
theorem thr_any (k b : Nat) (hk : k ≤ 1099511627776) (hb : b ≤ 1099511627776) (w : World) :
    Calls Tryz.prog 173 #[.int .i64 k, .int .i64 b] w fun e w' => e = .returned (.int .i64 (thr k b)) ∧ w' = w := by
  go_enter Tryz.func173, Tryz.ntmps173
  go_wp2
  all_goals (go_ret; exact ⟨ret_int (by unfold thr; (repeat' split) <;> omega), rfl⟩)

set_option maxHeartbeats 400000 in
theorem rthr_any (k b : Nat) (hk : k ≤ 1099511627776) (hb : b ≤ 1099511627776) (w : World) :
    Calls Tryz.prog 54 #[.int .i64 k, .int .i64 b] w fun e w' => e = .returned (.int .i64 (thr k b)) ∧ w' = w := by
  go_enter Tryz.func54, Tryz.ntmps54
  go_wp2
  all_goals (go_ret; exact ⟨ret_int (by unfold thr; (repeat' split) <;> omega), rfl⟩)

set_option maxHeartbeats 400000 in
theorem sign_any (d : Nat) (hd : d < 36) (w : World) :
    Calls Tryz.prog 182 #[.int .i64 d] w fun e w' => e = .returned (.int .u8 (sgn d)) ∧ w' = w := by
  go_enter Tryz.func182, Tryz.ntmps182
  go_wp2
  all_goals (go_ret; exact ⟨ret_int (by unfold sgn; (repeat' split) <;> omega), rfl⟩)

set_option maxHeartbeats 400000 in
theorem letter_any (d : Nat) (hd : d < 36) (w : World) :
    Calls Tryz.prog 55 #[.int .i64 d] w fun e w' => e = .returned (.int .u8 (sgn d)) ∧ w' = w := by
  go_enter Tryz.func55, Tryz.ntmps55
  go_wp2
  all_goals (go_ret; exact ⟨ret_int (by unfold sgn; (repeat' split) <;> omega), rfl⟩)

/-- What a digit is read as: where it is none, 0 and no. -/
theorem dg_none (c : Int) (h : dg c = none) : ¬ (97 ≤ c ∧ c ≤ 122) ∧ ¬ (65 ≤ c ∧ c ≤ 90) ∧ ¬ (48 ≤ c ∧ c ≤ 57) := by
  unfold dg at h; (repeat' split at h) <;> first | (cases h; done) | exact ⟨by assumption, by assumption, by assumption⟩
theorem dg_some (c : Int) (d : Nat) (h : dg c = some d) : (97 ≤ c ∧ c ≤ 122 ∧ (d : Int) = c - 97) ∨ (65 ≤ c ∧ c ≤ 90 ∧ (d : Int) = c - 65) ∨ (48 ≤ c ∧ c ≤ 57 ∧ (d : Int) = c - 22) := by
  unfold dg at h; (repeat' split at h) <;> first | (cases h; done) | (obtain rfl := Option.some.inj h; omega)
set_option maxHeartbeats 400000 in
theorem digit_none (c : Int) (h0 : 0 ≤ c) (h1 : c ≤ 255) (h : dg c = none) (w : World) :
    Calls Tryz.prog 172 #[.int .u8 c] w fun e w' => e = .returned (.tuple #[.int .i64 0, .bool false]) ∧ w' = w := by
  obtain ⟨a1, a2, a3⟩ := dg_none c h
  go_enter Tryz.func172, Tryz.ntmps172
  go_wp2
  all_goals first | (exfalso; omega) | (go_ret2; exact ⟨rfl, rfl⟩)
set_option maxHeartbeats 400000 in
theorem digit_some (c : Int) (d : Nat) (h : dg c = some d) (w : World) :
    Calls Tryz.prog 172 #[.int .u8 c] w fun e w' => e = .returned (.tuple #[.int .i64 d, .bool true]) ∧ w' = w := by
  have H := dg_some c d h
  have e : Hid (c - 48 + 26 = c - 22) := by show c - 48 + 26 = c - 22; omega
  clear h
  go_enter Tryz.func172, Tryz.ntmps172
  rcases H with ⟨a1, a2, a3⟩ | ⟨a1, a2, a3⟩ | ⟨a1, a2, a3⟩
  all_goals (rw [a3]; clear a3; go_wp2; go_ret2; first | exact ⟨rfl, rfl⟩ | (rw [e.out]; exact ⟨rfl, rfl⟩))
set_option maxHeartbeats 400000 in
theorem rdigit_none (c : Int) (h0 : 0 ≤ c) (h1 : c ≤ 255) (h : dg c = none) (w : World) :
    Calls Tryz.prog 98 #[.int .u8 c] w fun e w' => e = .returned (.int .i64 (-1)) ∧ w' = w := by
  obtain ⟨a1, a2, a3⟩ := dg_none c h
  go_enter Tryz.func98, Tryz.ntmps98
  go_wp2
  all_goals first | (exfalso; omega) | (go_ret; exact ⟨rfl, rfl⟩)
set_option maxHeartbeats 400000 in
theorem rdigit_some (c : Int) (d : Nat) (h : dg c = some d) (w : World) :
    Calls Tryz.prog 98 #[.int .u8 c] w fun e w' => e = .returned (.int .i64 d) ∧ w' = w := by
  have H := dg_some c d h
  have e : Hid (c - 48 + 26 = c - 22) := by show c - 48 + 26 = c - 22; omega
  clear h
  go_enter Tryz.func98, Tryz.ntmps98
  rcases H with ⟨a1, a2, a3⟩ | ⟨a1, a2, a3⟩ | ⟨a1, a2, a3⟩
  all_goals (rw [a3]; clear a3; go_wp2; go_ret; first | exact ⟨rfl, rfl⟩ | (rw [e.out]; exact ⟨rfl, rfl⟩))
end Go.Proofs.YtdncaehajhmcoaaGreat.P
/- What is written: the code points below 128, the least one from n on. -/
namespace Go.Proofs.YtdncaehajhmcoaaGreat.P
open Go.RowKit U
set_option linter.unusedVariables false

theorem hid {p : Prop} (h : p) : Hid p := h
/-- One more byte of the call's own, and what it leaves. -/
theorem plain_snoc (l : List Int) (k : Nat) (h : k < l.length) : plain (l.take (k + 1)) = plain (l.take k) ++ (if l[k]?.getD 0 < 128 then [l[k]?.getD 0] else []) := by
  unfold plain
  rw [take_snoc l k h, List.filter_append]
  congr 1
  by_cases hx : l[k]?.getD 0 < 128 <;> simp [hx]
theorem plain_len (l : List Int) : (plain l).length ≤ l.length := List.length_filter_le _ _

set_option maxRecDepth 100000 in
set_option maxHeartbeats 2000000 in
theorem plainOf_any (v : Value) (l : List Int) (hlen : l.length ≤ 1024) (hnn : ∀ x ∈ l, 0 ≤ x) (w : World) (hv : IntsAt w v l) :
    Calls Tryz.prog 163 #[v] w fun e W' => ∃ v', e = .returned v' ∧ W'.ownsRow w.heap.size 5 1 v' (plain l).length ((plain l).map (Value.int .u8)) ∧ Below w.heap.size w W' := by
  obtain ⟨i0, hi, hz0, hz1, hz2⟩ := info_parts Tryz.info5
  rcases hv with ⟨rfl, a, cap, rfl⟩ | ⟨hp, b, off, cap, rfl, hc⟩
  · go_enter Tryz.func163, Tryz.ntmps163
    go_wp2_with fail
    refine wp_loop_rounds 1 ?_
    rw [rounds_succ]
    go_wp2
    go_ret
    exact ⟨_, rfl, World.ownsRow_nil _ _ _ _, Below.refl _ _⟩
  · have hb : b < w.heap.size := lt_of_cell (hc 0 hp)
    go_enter Tryz.func163, Tryz.ntmps163
    go_wp2_with fail
    go_loopw [3, 8] (fun v i wr => ∃ k : Nat, k ≤ l.length ∧ i = .int .i64 k ∧ wr.ownsRow w.heap.size 5 1 v (plain (l.take k)).length ((plain (l.take k)).map (Value.int .u8)) ∧ Below w.heap.size w wr)
      (fun _ i _ => l.length - (intOf i).toNat)
    case atStart => exact ⟨0, Nat.zero_le _, rfl, World.ownsRow_nil _ _ _ _, Below.refl _ _⟩
    case round =>
      obtain ⟨k, hk, rfl, hrow, hB⟩ := hrel
      by_cases hlt : k < l.length
      · have hck : wr.cell? ⟨b, off + k, none⟩ = some (.int .i32 (l[k]?.getD 0)) := (hB.cell (p := ⟨b, off + k, none⟩) hb).trans (hc k hlt)
        have hpl := plain_len (l.take k)
        have htl : (l.take k).length ≤ k := List.length_take_le _ _
        have hx0 := hnn (l[k]?.getD 0) (by rw [List.getElem?_eq_getElem hlt]; exact List.getElem_mem _)
        have HP := hid (plain_snoc l k hlt)
        obtain ⟨m, hm⟩ : ∃ m, m = (plain (l.take k)).length := ⟨_, rfl⟩
        have HM := hid hm
        have hm2 : m ≤ 1024 := by omega
        rw [← hm] at hrow
        clear hm hpl htl hc hnn
        obtain ⟨c, hcc⟩ : ∃ c, c = l[k]?.getD 0 := ⟨_, rfl⟩
        rw [← hcc] at hck hx0 HP
        clear hcc
        by_cases hx : c < 128
        · go_wp2_with (at_builtin; refine wpList_append_own _ rfl _ _ 39 rfl w.heap.size 5 i0 (.int .u8 0) 1 1 Tryz.underlying39 hi hz0 hz1 hz2 rfl (by decide) _ _ _ rfl (hrow.alloc _) ⟨wr.heap.size, 0, none⟩ 1 1 [.int .u8 c] rfl rfl (news_at _ _ _) (by simp [Value.oneCell']) (by unfold maxLen; omega) (by omega) (by have := hB.size; simp; omega) ?_; intro v' w1 hown' hgrow _)
          go_roundw
          case rel =>
            have e : plain (l.take (k + 1)) = plain (l.take k) ++ [c] := by rw [HP.out, if_pos hx]
            refine ⟨k + 1, by omega, by go_num, ?_, ?_⟩
            · rw [e, List.length_append, ← HM.out, List.map_append]; exact hown'
            · exact below_grow (w1 := wr.alloc (.cells #[.int .u8 c] 5)) (hB.alloc hB.size _) (Nat.le_trans hB.size (by simp)) (hrow.alloc _) hgrow
          case measure => simp [intOf]; omega
        · go_wp2
          go_roundw
          case rel =>
            have e : plain (l.take (k + 1)) = plain (l.take k) := by rw [HP.out, if_neg hx, List.append_nil]
            refine ⟨k + 1, by omega, by go_num, ?_, hB⟩
            rw [e, ← HM.out]; exact hrow
          case measure => simp [intOf]; omega
      · have hkk : k = l.length := by omega
        rw [hkk, List.take_length] at hrow
        go_wp2
        go_ret
        exact ⟨_, rfl, hrow, hB⟩

/-- The least from n on. -/
def IsLeast (l : List Int) (n m : Int) : Prop := m ∈ l ∧ n ≤ m ∧ ∀ x ∈ l, ¬ (n ≤ x ∧ x < m)
def lst (l : List Int) (n : Int) : Int := (l.filter fun x => decide (n ≤ x)).foldl min 1114111
theorem foldl_min (l : List Int) : ∀ a : Int, l.foldl min a ≤ a ∧ (∀ x ∈ l, l.foldl min a ≤ x) ∧ (l.foldl min a = a ∨ l.foldl min a ∈ l) := by
  induction l with
  | nil => intro a; simp
  | cons b l ih =>
    intro a
    obtain ⟨h1, h2, h3⟩ := ih (min a b)
    rw [List.foldl_cons]
    refine ⟨by omega, fun x hx => ?_, ?_⟩
    · rcases List.mem_cons.mp hx with rfl | hx
      · omega
      · exact h2 x hx
    · rcases h3 with h3 | h3
      · by_cases hab : a ≤ b
        · left; omega
        · right; rw [h3, show min a b = b by omega]; simp
      · right; simp [h3]
theorem lst_least (l : List Int) (n : Int) (hl : ∀ x ∈ l, x ≤ 1114111) (hex : ∃ x ∈ l, n ≤ x) : IsLeast l n (lst l n) := by
  obtain ⟨h1, h2, h3⟩ := foldl_min (l.filter fun x => decide (n ≤ x)) 1114111
  change lst l n ≤ 1114111 at h1
  have mem : lst l n ∈ l.filter fun x => decide (n ≤ x) := by
    rcases h3 with h3 | h3
    · obtain ⟨x, hx, hnx⟩ := hex
      have hxm : x ∈ l.filter fun x => decide (n ≤ x) := List.mem_filter.mpr ⟨hx, by simpa using hnx⟩
      have := h2 x hxm
      have := hl x hx
      have e : lst l n = x := by unfold lst; omega
      rw [e]; exact hxm
    · exact h3
  obtain ⟨m1, m2⟩ := List.mem_filter.mp mem
  refine ⟨m1, by simpa using m2, fun x hx hb => ?_⟩
  have := h2 x (List.mem_filter.mpr ⟨hx, by simpa using hb.1⟩)
  have e : lst l n = (l.filter fun x => decide (n ≤ x)).foldl min 1114111 := rfl
  omega
theorem lst_snoc (l : List Int) (n : Int) (k : Nat) (h : k < l.length) : lst (l.take (k + 1)) n = if n ≤ l[k]?.getD 0 then min (lst (l.take k) n) (l[k]?.getD 0) else lst (l.take k) n := by
  unfold lst
  rw [take_snoc l k h, List.filter_append, List.foldl_append]
  by_cases hx : n ≤ l[k]?.getD 0 <;> simp [hx]

set_option maxRecDepth 100000 in
set_option maxHeartbeats 2000000 in
theorem least_any (b off cap : Nat) (l : List Int) (n : Int) (hlen : l.length ≤ 1024) (hp : 0 < l.length) (w : World) (hc : ∀ j, j < l.length → w.cell? ⟨b, off + j, none⟩ = some (.int .i32 (l[j]?.getD 0))) :
    Calls Tryz.prog 165 #[.slice (some ⟨b, off, none⟩) l.length cap, .int .i32 n] w fun e w' => e = .returned (.int .i32 (lst l n)) ∧ w' = w := by
  go_enter Tryz.func165, Tryz.ntmps165
  go_wp2_with fail
  go_loop [5, 10] (fun m i => ∃ k : Nat, k ≤ l.length ∧ i = .int .i64 k ∧ m = .int .i32 (lst (l.take k) n)) (fun _ i => l.length - (intOf i).toNat)
  case atStart => exact ⟨0, Nat.zero_le _, rfl, rfl⟩
  case round =>
    obtain ⟨k, hk, rfl, rfl⟩ := hrel
    by_cases hlt : k < l.length
    · have hck := hc k hlt
      have HP := hid (lst_snoc l n k hlt)
      obtain ⟨c, hcc⟩ : ∃ c, c = l[k]?.getD 0 := ⟨_, rfl⟩
      rw [← hcc] at hck HP
      clear hcc hc
      by_cases hx : n ≤ c
      · go_wp2
        refine ⟨⟨k + 1, by omega, by go_num, ?_⟩, by simp [intOf]; omega⟩
        rw [HP.out, if_pos hx]
        congr 1; split <;> omega
      · go_wp2
        refine ⟨⟨k + 1, by omega, by go_num, ?_⟩, by simp [intOf]; omega⟩
        rw [HP.out, if_neg hx]
    · have hkk : k = l.length := by omega
      subst hkk
      go_wp2
      go_ret
      first | exact ⟨rfl, rfl⟩ | (rw [List.take_length]; exact ⟨rfl, rfl⟩)
end Go.Proofs.YtdncaehajhmcoaaGreat.P
