/- Texts of one layer, one behind the other: UI UP UD UC UE UV UR. -/
import Derived.Test.YtpkegjbmnilmdaaDoorZU1
import Derived.RangeFuncNested
import Derived.RangeFuncBound
import Derived.RangeFuncCalls
import Derived.RangeFuncLeaves
import Derived.RangeFuncBox
import Derived.Shelf.Abstract
import Derived.OwnWalkIn
import Derived.TacticsInMore
import Derived.LoopNIn
import Derived.LoopIn
import Derived.Maps.AppendAt
import Derived.Lib.IndexBytes
import Derived.OwnWalk
import Derived.Laws.IdiomStrings
import Derived.Laws.OwnMore
import Derived.Deep.QuietTactic
import Derived.BigQuiet
/- The contract of the iterator that utf.scalars hands back. -/
namespace Go.Proofs.YtpkegjbmnilmdaaDoor.U
open Go.RowKit Go.Shelf
attribute [local go_sem] Oper.semAt_some

abbrev encS (x : Sc) : Array Value := #[.int .i32 x.1.1, .bool x.1.2]
/-- What a round keeps: the box of the text. -/
def KeepsBox (B : Nat) (s : ByteArray) (W W' : World) : Prop := Boxed W B 9 (.string s) → Boxed W' B 9 (.string s)

theorem boxed_drewN {W : World} {B : Nat} {t : TypeId} {v : Value} (h : Boxed W B t v) (n : Nat) : Boxed (W.drewN n) B t v := h
theorem grownBy_drewN (W : World) (n : Nat) : W.grownBy (W.drewN n) none := ⟨rfl, rfl, rfl, Nat.le_refl _, fun _ _ _ => rfl⟩

theorem bn_extract (s : ByteArray) (k : Nat) : bn (s.extract k s.size) = (bn s).drop k := by
  unfold bn
  rw [Lib.extract_to_end, List.map_drop]

set_option maxRecDepth 100000 in
set_option maxHeartbeats 1000000 in
theorem iter_in (n : Nat) (hn : 1 ≤ n) (l Bs : Nat) (s : ByteArray) (hs : s.size ≤ 9223372036854775807) (J Jx : List Sc → World → Prop)
    (hJ : ∀ (W : World) (pre : List Sc) (m : Nat), J pre W → J pre (W.drewN m))
    (hY : ∀ pre x W, J pre W → pre.length < s.size → YieldAt Fence.wide (n - 1) Tryd.prog l #[.int .i32 x.1.1, .bool x.1.2] W fun e W' =>
      (e = .returned (.bool true) ∧ J (pre ++ [x]) W' ∧ KeepsBox Bs s W W') ∨ (e = .returned (.bool false) ∧ Jx (pre ++ [x]) W'))
    (W : World) (hBs : Boxed W Bs 9 (.string s)) (h0 : J [] W) :
    CallsIn Fence.wide n Tryd.prog 60 #[.func (.yield l) #[] #[], .pointer (some ⟨Bs, 0, none⟩)] W fun e W' => (∃ v, e = .returned v) ∧
      ((∃ ys, ys = scl (bn s) ∧ J ys W') ∨ (∃ pre, pre <+: scl (bn s) ∧ Jx pre W')) := by
  refine callsIn_of_wp Tryd.func60 rfl trivial ?_ rfl
  simp only [Tryd.ntmps60, List.size_toArray, List.length_cons, List.length_nil, Nat.reduceAdd, Nat.reduceSub, Array.replicate_succ, Array.replicate_zero, List.push_toArray, List.append_toArray, List.nil_append, List.cons_append]
  gi_wp2
  gi_loopw [3] (fun i wr => ∃ (k : Nat) (pre : List Sc), k ≤ s.size ∧ pre.length ≤ k ∧ i = .int .i64 k ∧ Boxed wr Bs 9 (.string s) ∧ J pre wr ∧ Hid (scl (bn s) = pre ++ scl ((bn s).drop k)))
    (fun i _ => s.size - (intOf i).toNat)
  case atStart => exact ⟨0, [], Nat.zero_le _, by simp, rfl, hBs, h0, by show scl (bn s) = _; simp⟩
  case round =>
    obtain ⟨k, pre, hk, hpk, rfl, hbx, hJs, hrest⟩ := hrel
    have hcs := hbx.cell
    by_cases hlt : k < s.size
    · obtain ⟨x, hx⟩ : ∃ x : Sc, x = toSc (nx ((bn s).drop k)) := ⟨_, rfl⟩
      have hxv : Hid (((nx ((bn s).drop k)).1, (nx ((bn s).drop k)).2.2) = x.1) := by
        show _ = _
        rw [hx, toSc_nx _ ((bn_bytes s).drop k)]
      have hne : (bn s).drop k ≠ [] := fun h => by have := congrArg List.length h; rw [List.length_drop, bn_length] at this; simp at this; omega
      have hnn := nx_n _ hne
      rw [List.length_drop, bn_length] at hnn
      have hstep : Hid (scl ((bn s).drop k) = x :: scl ((bn s).drop (k + (nx ((bn s).drop k)).2.1))) := by
        show _ = _
        rw [scl_cons _ hne, ← hx, List.drop_drop]
      clear hx
      gi_wp2_with fail
      refine ⟨trivial, ?_⟩
      refine (callsIn_wide.2 (next_any _ _ (by simp; omega))).mono ?_
      rintro e w' ⟨rfl, m, rfl⟩
      rw [bn_extract]
      rw [show (nx ((bn s).drop k)).1 = x.1.1 from congrArg Prod.fst hxv.out, show (nx ((bn s).drop k)).2.2 = x.1.2 from congrArg Prod.snd hxv.out]
      generalize hN : (nx ((bn s).drop k)).2.1 = N at *
      clear hN hxv
      obtain ⟨fn, tmps, assign, body, hy, hR⟩ := hY pre x (wr.drewN m) (hJ _ _ _ hJs) (by omega)
      gi_wp2
      refine hR.mono ?_
      rintro e W3 (⟨rfl, hJ3, hk3⟩ | ⟨rfl, hJx3⟩)
      · have hbx3 := hk3 (boxed_drewN hbx m)
        have hcs3 := hbx3.cell
        gi_wp2
        go_roundw
        case rel => exact ⟨k + N, pre ++ [x], by omega, by simp; omega, by go_num, hbx3, hJ3, by show _ = _; rw [hrest.out, hstep.out]; simp⟩
        case measure => simp [intOf]; omega
      · gi_wp2
        refine bodyPost_ret (results_none rfl _ _ _) rfl ?_
        exact ⟨⟨_, rfl⟩, .inr ⟨pre ++ [x], ⟨scl ((bn s).drop (k + N)), by rw [hrest.out, hstep.out]; simp⟩, hJx3⟩⟩
    · gi_wp2
      go_end0
      refine ⟨⟨_, rfl⟩, .inl ⟨pre, ?_, hJs⟩⟩
      rw [hrest.out, bn_drop_nil s k (by omega), scl_nil, List.append_nil]

set_option maxHeartbeats 1000000 in
/-- utf.scalars: its text is boxed; the function value captures the box. -/
theorem scalars_in (n : Nat) (s : ByteArray) (w : World) :
    CallsIn Fence.wide n Tryd.prog 43 #[.string s] w fun e w' => e = .returned (.func (.func 60) #[] #[.pointer (some ⟨w.heap.size, 0, none⟩)]) ∧ w' = w.alloc (.cells #[.string s] 9) := by
  refine callsIn_of_wp Tryd.func43 rfl trivial ?_ rfl
  simp only [Tryd.ntmps43, List.size_toArray, List.length_cons, List.length_nil, Nat.reduceAdd, Nat.reduceSub, Array.replicate_succ, Array.replicate_zero, List.push_toArray, List.append_toArray, List.nil_append, List.cons_append]
  gi_wp2
  go_ret
  exact ⟨rfl, rfl⟩

theorem iter_stops (n : Nat) (hn : 1 ≤ n) (Bs : Nat) (s : ByteArray) (hs : s.size ≤ 9223372036854775807) (w : World) (hc : Boxed w Bs 9 (.string s)) :
    SeqStopsK Fence.wide n Tryd.prog 60 #[.pointer (some ⟨Bs, 0, none⟩)] encS (KeepsBox Bs s) (fun ys => ys = scl (bn s)) (fun pre => pre <+: scl (bn s)) s.size w := fun l J Jx W hW hJ _ hY h0 =>
  iter_in n hn l Bs s hs J Jx (fun W pre m h => hJ pre W _ none h (grownBy_drewN W m) (fun r e => by cases e)) hY W ((hW.block Bs hc.lt).trans hc) h0

theorem keepsBox_t {Bs : Nat} {s : ByteArray} {A B C : World} (h : KeepsBox Bs s A B) (k : KeepsBox Bs s B C) : KeepsBox Bs s A C := fun x => k (h x)
theorem keepsBox_b {Bs : Nat} {s : ByteArray} {w : World} (hB : Bs < w.heap.size) (W : World) (l : Nat) (o o' : Obj) (hl : w.heap.size ≤ l) (_ : W.heap[l]? = some o) (_ : o.isCells = false) (_ : o.isWalk = false) : KeepsBox Bs s W (W.putObj l o') :=
  fun x => (World.putObj_heap_other (by omega)).trans x
end Go.Proofs.YtpkegjbmnilmdaaDoor.U
/- The contract of utf.appendScalar: the bytes of a code point, behind those that there are. -/
namespace Go.Proofs.YtpkegjbmnilmdaaDoor.U
open Go.RowKit

/-- The bytes of a code point. -/
def enc (c : Int) : List Int :=
  if c < 128 then [c] else if c < 2048 then [192 + c / 64, 128 + c % 64] else if c < 65536 then [224 + c / 4096, 128 + c / 64 % 64, 128 + c % 64]
  else [240 + c / 262144, 128 + c / 4096 % 64, 128 + c / 64 % 64, 128 + c % 64]
theorem enc_len (c : Int) : 1 ≤ (enc c).length ∧ (enc c).length ≤ 4 := by unfold enc; (repeat' split) <;> simp
theorem Tryd.info5 : (Tryd.prog.info? 5).map (fun i => (i.zero, i.size, i.bytes)) = some (some (.int .u8 0), 1, 1) := by kernel_rfl

theorem news_at (w : World) (t : TypeId) (l : List Value) : ∀ (j : Nat) (u : Value), l[j]? = some u → (w.alloc (.cells l.toArray t)).cell? ((⟨w.heap.size, 0, none⟩ : Addr).add j) = some u := by
  intro j u h
  have hb : (w.alloc (.cells l.toArray t)).heap[w.heap.size]? = some (.cells l.toArray t) := heap_alloc_new w _
  generalize w.alloc (.cells l.toArray t) = W at hb ⊢
  generalize w.heap.size = g at hb ⊢
  by_cases hj : j = 0
  · subst hj; simp [World.cell?, Addr.add, hb, h]
  · simp [World.cell?, Addr.add, hj, hb, h]
theorem grown_trans {a b c : World} {row : Option Nat} (h : a.grownBy b none) (k : b.grownBy c row) : a.grownBy c row :=
  ⟨k.os.trans h.os, k.tape.trans h.tape, k.output.trans h.output, Nat.le_trans h.size k.size, fun i hi hr => (k.block i (Nat.lt_of_lt_of_le hi h.size) hr).trans (h.block i hi (by simp))⟩

set_option maxRecDepth 100000 in
set_option maxHeartbeats 1000000 in
theorem append1 (base : Nat) (v : Value) (k : Nat) (xs : List Value) (c : Int) (h0 : 0 ≤ c) (h1 : c < 128) (w : World) (hb : base ≤ w.heap.size) (hk : k ≤ 1099511627776) (hrow : w.ownsRow base 5 1 v k xs) :
    Calls Tryd.prog 50 #[v, .int .i32 c] w fun e W' => ∃ v', e = .returned v' ∧ W'.ownsRow base 5 1 v' (k + 1) (xs ++ [.int .u8 c]) ∧ w.grownBy W' v.ownBlock := by
  obtain ⟨i0, hi, hz0, hz1, hz2⟩ := info_parts Tryd.info5
  go_enter Tryd.func50, Tryd.ntmps50
  go_wp2_with (at_builtin; refine wpList_append_own _ rfl _ _ 24 rfl base 5 i0 (.int .u8 0) 1 1 Tryd.underlying24 hi hz0 hz1 hz2 rfl (by decide) _ _ _ rfl (hrow.alloc _) ⟨w.heap.size, 0, none⟩ 1 1 [.int .u8 c] rfl rfl (news_at _ _ _) (by simp [Value.oneCell']) (by unfold maxLen; omega) (by omega) (by simp; omega) ?_; intro v' w1 hown' hgrow _)
  go_ret
  exact ⟨v', rfl, hown', grown_trans (World.grownBy_alloc _ _ none) hgrow⟩

set_option maxRecDepth 100000 in
set_option maxHeartbeats 1000000 in
theorem append2 (base : Nat) (v : Value) (k : Nat) (xs : List Value) (c : Int) (h0 : 128 ≤ c) (h1 : c < 2048) (w : World) (hb : base ≤ w.heap.size) (hk : k ≤ 1099511627776) (hrow : w.ownsRow base 5 1 v k xs) :
    Calls Tryd.prog 50 #[v, .int .i32 c] w fun e W' => ∃ v', e = .returned v' ∧ W'.ownsRow base 5 1 v' (k + 2) (xs ++ [.int .u8 (192 + c / 64), .int .u8 (128 + c % 64)]) ∧ w.grownBy W' v.ownBlock := by
  obtain ⟨i0, hi, hz0, hz1, hz2⟩ := info_parts Tryd.info5
  go_enter Tryd.func50, Tryd.ntmps50
  go_wp2_with fail
  refine (tail_any _ (by omega) (by omega) _).mono ?_
  rintro e w' ⟨rfl, rfl⟩
  go_wp2_with (at_builtin; refine wpList_append_own _ rfl _ _ 24 rfl base 5 i0 (.int .u8 0) 1 1 Tryd.underlying24 hi hz0 hz1 hz2 rfl (by decide) _ _ _ rfl (hrow.alloc _) ⟨w'.heap.size, 0, none⟩ 2 2 [.int .u8 (192 + c / 64), .int .u8 (128 + c % 64)] rfl rfl (news_at _ _ _) (by simp [Value.oneCell']) (by unfold maxLen; omega) (by omega) (by simp; omega) ?_; intro v' w1 hown' hgrow _)
  go_ret
  exact ⟨v', rfl, hown', grown_trans (World.grownBy_alloc _ _ none) hgrow⟩

set_option maxRecDepth 100000 in
set_option maxHeartbeats 1000000 in
theorem append3 (base : Nat) (v : Value) (k : Nat) (xs : List Value) (c : Int) (h0 : 2048 ≤ c) (h1 : c < 65536) (w : World) (hb : base ≤ w.heap.size) (hk : k ≤ 1099511627776) (hrow : w.ownsRow base 5 1 v k xs) :
    Calls Tryd.prog 50 #[v, .int .i32 c] w fun e W' => ∃ v', e = .returned v' ∧ W'.ownsRow base 5 1 v' (k + 3) (xs ++ [.int .u8 (224 + c / 4096), .int .u8 (128 + c / 64 % 64), .int .u8 (128 + c % 64)]) ∧ w.grownBy W' v.ownBlock := by
  obtain ⟨i0, hi, hz0, hz1, hz2⟩ := info_parts Tryd.info5
  go_enter Tryd.func50, Tryd.ntmps50
  go_wp2_with fail
  refine (tail_any _ (by omega) (by omega) _).mono ?_
  rintro e w' ⟨rfl, rfl⟩
  go_wp2_with fail
  refine (tail_any _ (by omega) (by omega) _).mono ?_
  rintro e w' ⟨rfl, rfl⟩
  go_wp2_with (at_builtin; refine wpList_append_own _ rfl _ _ 24 rfl base 5 i0 (.int .u8 0) 1 1 Tryd.underlying24 hi hz0 hz1 hz2 rfl (by decide) _ _ _ rfl (hrow.alloc _) ⟨w'.heap.size, 0, none⟩ 3 3 [.int .u8 (224 + c / 4096), .int .u8 (128 + c / 64 % 64), .int .u8 (128 + c % 64)] rfl rfl (news_at _ _ _) (by simp [Value.oneCell']) (by unfold maxLen; omega) (by omega) (by simp; omega) ?_; intro v' w1 hown' hgrow _)
  go_ret
  exact ⟨v', rfl, hown', grown_trans (World.grownBy_alloc _ _ none) hgrow⟩

set_option maxRecDepth 100000 in
set_option maxHeartbeats 1000000 in
theorem append4 (base : Nat) (v : Value) (k : Nat) (xs : List Value) (c : Int) (h0 : 65536 ≤ c) (h1 : c < 1114112) (w : World) (hb : base ≤ w.heap.size) (hk : k ≤ 1099511627776) (hrow : w.ownsRow base 5 1 v k xs) :
    Calls Tryd.prog 50 #[v, .int .i32 c] w fun e W' => ∃ v', e = .returned v' ∧ W'.ownsRow base 5 1 v' (k + 4) (xs ++ [.int .u8 (240 + c / 262144), .int .u8 (128 + c / 4096 % 64), .int .u8 (128 + c / 64 % 64), .int .u8 (128 + c % 64)]) ∧ w.grownBy W' v.ownBlock := by
  obtain ⟨i0, hi, hz0, hz1, hz2⟩ := info_parts Tryd.info5
  go_enter Tryd.func50, Tryd.ntmps50
  go_wp2_with fail
  refine (tail_any _ (by omega) (by omega) _).mono ?_
  rintro e w' ⟨rfl, rfl⟩
  go_wp2_with fail
  refine (tail_any _ (by omega) (by omega) _).mono ?_
  rintro e w' ⟨rfl, rfl⟩
  go_wp2_with fail
  refine (tail_any _ (by omega) (by omega) _).mono ?_
  rintro e w' ⟨rfl, rfl⟩
  go_wp2_with (at_builtin; refine wpList_append_own _ rfl _ _ 24 rfl base 5 i0 (.int .u8 0) 1 1 Tryd.underlying24 hi hz0 hz1 hz2 rfl (by decide) _ _ _ rfl (hrow.alloc _) ⟨w'.heap.size, 0, none⟩ 4 4 [.int .u8 (240 + c / 262144), .int .u8 (128 + c / 4096 % 64), .int .u8 (128 + c / 64 % 64), .int .u8 (128 + c % 64)] rfl rfl (news_at _ _ _) (by simp [Value.oneCell']) (by unfold maxLen; omega) (by omega) (by simp; omega) ?_; intro v' w1 hown' hgrow _)
  go_ret
  exact ⟨v', rfl, hown', grown_trans (World.grownBy_alloc _ _ none) hgrow⟩

/-- utf.appendScalar puts the bytes of a code point behind what there is. -/
theorem append_any (base : Nat) (v : Value) (k : Nat) (xs : List Value) (c : Int) (h0 : 0 ≤ c) (h1 : c ≤ 1114111) (w : World) (hb : base ≤ w.heap.size) (hk : k ≤ 1099511627776) (hrow : w.ownsRow base 5 1 v k xs) :
    Calls Tryd.prog 50 #[v, .int .i32 c] w fun e W' => ∃ v', e = .returned v' ∧ W'.ownsRow base 5 1 v' (k + (enc c).length) (xs ++ (enc c).map (Value.int .u8)) ∧ w.grownBy W' v.ownBlock := by
  unfold enc
  by_cases q1 : c < 128
  · rw [if_pos q1]; exact append1 base v k xs c h0 q1 w hb hk hrow
  · rw [if_neg q1]
    by_cases q2 : c < 2048
    · rw [if_pos q2]; exact append2 base v k xs c (by omega) q2 w hb hk hrow
    · rw [if_neg q2]
      by_cases q3 : c < 65536
      · rw [if_pos q3]; exact append3 base v k xs c (by omega) q3 w hb hk hrow
      · rw [if_neg q3]; exact append4 base v k xs c (by omega) (by omega) w hb hk hrow
end Go.Proofs.YtpkegjbmnilmdaaDoor.U
/- The contract of utf.Decode: what it answers is what stands in its bytes, in new memory. -/
namespace Go.Proofs.YtpkegjbmnilmdaaDoor.U
open Go.RowKit Go.Shelf
attribute [local go_sem] Oper.semAt_some

/-- The code points that stand in bytes. -/
def dec (l : List Int) : List Int := (scl l).map fun x => x.1.1
def fsts (l : List Sc) : List Int := l.map fun x => x.1.1
theorem fsts_snoc (l : List Sc) (x : Sc) : fsts (l ++ [x]) = fsts l ++ [x.1.1] := by simp [fsts]
theorem fsts_len (l : List Sc) : (fsts l).length = l.length := by simp [fsts]
theorem Tryd.info21 : (Tryd.prog.info? 21).map (fun i => (i.zero, i.size, i.bytes)) = some (some (.int .i32 0), 1, 4) := by kernel_rfl

set_option maxRecDepth 100000 in
set_option maxHeartbeats 2000000 in
theorem decode_any (s : ByteArray) (hs : s.size ≤ 1099511627776) (w : World) :
    Calls Tryd.prog 26 #[.string s] w fun e W' => ∃ v, e = .returned v ∧ W'.ownsRow w.heap.size 21 1 v (dec (bn s)).length ((dec (bn s)).map (Value.int .i32)) ∧ Below w.heap.size w W' := by
  refine (callsIn_wide (n := 3)).1 ?_
  obtain ⟨i0, hi, hz0, hz1, hz2⟩ := info_parts Tryd.info21
  refine callsIn_of_wp_marks Tryd.func26 rfl trivial ?_ rfl
  simp only [Tryd.ntmps26, List.size_toArray, List.length_cons, List.length_nil, Nat.reduceAdd, Nat.reduceSub, Array.replicate_succ, Array.replicate_zero, List.push_toArray, List.append_toArray, List.nil_append, List.cons_append]
  gi_wp2_with fail
  refine ⟨trivial, ?_⟩
  refine (scalars_in _ s _).mono ?_
  rintro e w' ⟨rfl, rfl⟩
  gi_wp2_with fail
  have bO := Boxed.new w 38 (.slice none 0 0)
  have bN := Boxed.new (w.alloc (.cells #[.slice none 0 0] 38)) 9 (.string s)
  rw [World.size_alloc] at bN
  have hB0 : Below w.heap.size w ((w.alloc (.cells #[.slice none 0 0] 38)).alloc (.cells #[.string s] 9)) := ((Below.refl _ w).alloc (Nat.le_refl _) _).alloc (by simp) _
  refine wpIn_rangeFunc_ownG rfl (by omega) (gf := 60) (lb := #[.pointer (some ⟨w.heap.size + 1, 0, none⟩)]) rfl trivial (enters_of Tryd.func60 (by kernel_rfl) rfl)
    (iter_stops 2 (by omega) (w.heap.size + 1) s (by omega) _ bN) keepsBox_t (keepsBox_b (by simp)) (Below.refl _ _) (fun _ => rfl)
    (fun pre W => ((∃ v, Boxed W w.heap.size 38 v ∧ W.ownsRow w.heap.size 21 1 v (fsts pre).length ((fsts pre).map (Value.int .i32)) ∧ True) ∧ Boxed W (w.heap.size + 1) 9 (.string s)) ∧ Below w.heap.size w W)
    (fun _ _ _ => False)
    (OwnFrom.and (OwnFrom.and (Own.from (holdsRow_own w.heap.size w.heap.size 38 21 1 (fun pre => (fsts pre).length) (fun pre => (fsts pre).map (Value.int .i32)) (fun pre v => True)) _) (Own.from (boxed_own _ _ _) _)) (ownFrom_below (Nat.le_refl _) (by simp; omega)))
    (fun _ _ _ _ _ hs _ _ => hs)
    ⟨⟨⟨_, bO.alloc _, World.ownsRow_nil _ _ _ _, trivial⟩, bN⟩, hB0⟩
    (fun x => { tmps := #[.string s, undef, .slice none 0 0, .pointer (some ⟨w.heap.size, 0, none⟩), .int .i32 x.1.1, .string s, .func (.func 60) #[] #[.pointer (some ⟨w.heap.size + 1, 0, none⟩)], .int .i32 x.1.1, .bool x.1.2, undef, undef, undef, undef, undef], defers := [] }) ?assign ?body ?done ?stop
  case assign =>
    intro l x W K hK
    gi_wp2
    exact hK
  case body =>
    rintro l pre x W ⟨⟨⟨v, hv, hrow, _⟩, hbs⟩, hB⟩ hlt
    have hc := hv.cell
    have hpl : (fsts pre).length ≤ pre.length := Nat.le_of_eq (fsts_len pre)
    gi_wp2_with (gi_at_builtin; refine wpListIn_append_own _ rfl _ _ 38 rfl w.heap.size 21 i0 (.int .i32 0) 1 4 Tryd.underlying38 hi hz0 hz1 hz2 rfl (by decide) _ _ _ rfl (hrow.alloc _) ⟨W.heap.size, 0, none⟩ 1 1 [.int .i32 x.1.1] rfl rfl (cell_one_new _ _ _) (by simp [Value.oneCell']) (by unfold maxLen; omega) (by omega) (by have := hB.size; simp; omega) ?_; intro v' w1 hown' hgrow _; obtain ⟨g', cap', rfl⟩ := ownsRow_succ hown'; obtain ⟨hv1, hv2, hr2, hk2, hb2⟩ := hv.appended (by decide) hrow hB.size (Nat.le_refl _) hown' hgrow; have hc1 := hv1.cell; have hf1 := hv1.frozen)
    have hbs1 := ((hbs.alloc _).kept hgrow (hbs.not_row (by decide) hrow)).other (B' := w.heap.size) (by omega) (.slice (some ⟨g', 0, none⟩) ((fsts pre).length + 1) cap')
    exact ⟨hk2.from _, fun _ => hbs1, ⟨⟨_, hv2, by rw [fsts_snoc]; simpa using hr2, trivial⟩, hbs1⟩, hB.trans hb2⟩
  case done =>
    rintro D ys W hD rfl ⟨⟨⟨v, hv, hrow, _⟩, hbs⟩, hB⟩ hK
    have hc := hv.cell
    gi_wp2
    refine ⟨by simp, .inl ⟨_, _, rfl, run_takeDeferred hK, ?_⟩⟩
    exact ⟨_, results_tmp rfl _ _ _, v, rfl, ownsRow_putObj hrow _ hK rfl, hB.trans (belowK_b (w := w) (Nat.le_refl _) W D _ _ (by simp at hD; omega) hK rfl rfl)⟩
  case stop =>
    rintro D c pre W _ _ h _
    exact h.elim
end Go.Proofs.YtpkegjbmnilmdaaDoor.U
/- The contract of utf.Clean: the bytes of what stands in its bytes. -/
namespace Go.Proofs.YtpkegjbmnilmdaaDoor.U
open Go.RowKit Go.Shelf
attribute [local go_sem] Oper.semAt_some

/-- The bytes of code points, one behind the other. -/
def encs (l : List Int) : List Int := l.flatMap enc
theorem encs_snoc (l : List Int) (x : Int) : encs (l ++ [x]) = encs l ++ enc x := by simp [encs]
theorem encs_len (l : List Int) : (encs l).length ≤ 4 * l.length := by
  induction l with
  | nil => simp [encs]
  | cons a t ih =>
    have := enc_len a
    simp only [encs, List.flatMap_cons, List.length_append, List.length_cons] at *
    omega

theorem enc_bytes (c : Int) (h0 : 0 ≤ c) (h1 : c ≤ 1114111) : Bytes (enc c) := by
  intro b hb
  unfold enc at hb
  by_cases q1 : c < 128
  · rw [if_pos q1] at hb; simp at hb; omega
  · rw [if_neg q1] at hb
    by_cases q2 : c < 2048
    · rw [if_pos q2] at hb; simp at hb; omega
    · rw [if_neg q2] at hb
      by_cases q3 : c < 65536
      · rw [if_pos q3] at hb; simp at hb; omega
      · rw [if_neg q3] at hb; simp at hb; omega
theorem encs_bytes (l : List Int) (h : ∀ c ∈ l, 0 ≤ c ∧ c ≤ 1114111) : Bytes (encs l) := by
  intro b hb
  obtain ⟨c, hc, hbc⟩ := List.mem_flatMap.1 hb
  exact enc_bytes c (h c hc).1 (h c hc).2 b hbc
theorem fsts_bd (l : List Sc) : ∀ c ∈ fsts l, 0 ≤ c ∧ c ≤ 1114111 := by
  intro c hc
  obtain ⟨x, _, rfl⟩ := List.mem_map.1 hc
  exact x.2
theorem bytes_back (ns : List Int) (h : Bytes ns) : (ns.map fun n => UInt8.ofNat n.toNat).map (fun c => (c.toNat : Int)) = ns := by
  rw [List.map_map]
  conv => rhs; rw [← List.map_id ns]
  apply List.map_congr_left
  intro a ha
  have := h a ha
  simp only [Function.comp, id, UInt8.toNat_ofNat']
  omega
theorem addr_add0 (g j : Nat) : ((⟨g, 0, none⟩ : Addr).add j) = ⟨g, j, none⟩ := by
  simp [Addr.add]; exact fun h => h.symm

/-- A conversion of owned bytes to a string. -/
theorem conv_string (w : World) (base : Nat) (v : Value) (n : Nat) (ns : List Int) (hn : n = ns.length) (hb : Bytes ns) (hrow : w.ownsRow base 5 1 v n (ns.map (Value.int .u8))) :
    ∃ t : ByteArray, (convert 24 9 v).run Tryd.prog w = .ok (.string t) w ∧ bn t = ns := by
  subst hn
  rcases id hrow.2 with ⟨rfl, h0⟩ | ⟨g, cap, cur, rfl, _⟩
  · refine ⟨⟨#[]⟩, ?_, ?_⟩
    · rw [run_convert_bytes_string w 24 9 5 none 0 0 Tryd.underlying24 Tryd.underlying5 Tryd.underlying9]
      simp [Conv.bytesToString]
      rfl
    · rw [List.length_eq_zero_iff.1 h0]; rfl
  · refine ⟨⟨(ns.map fun n => UInt8.ofNat n.toNat).toArray⟩, ?_, ?_⟩
    · have := run_convert_bytes_back (P := Tryd.prog) w 24 9 5 ⟨g, 0, none⟩ cap (ns.map fun n => UInt8.ofNat n.toNat) Tryd.underlying24 Tryd.underlying5 Tryd.underlying9 (by
        intro j hj
        rw [addr_add0, hrow.cellAt j (by simpa using hj)]
        have hj' : j < ns.length := by simpa using hj
        have hbj := hb ns[j] (List.getElem_mem hj')
        rw [List.getElem?_map, List.getElem?_eq_getElem hj']
        simp only [Option.map_some, List.getElem_map, UInt8.toNat_ofNat']
        congr 2
        omega)
      rw [List.length_map] at this
      exact this
    · unfold bn
      simp only
      exact bytes_back ns hb

theorem boxed_called {W w1 : World} {n₀ B : Nat} {t e : TypeId} {size : Nat} {v v' : Value} {k m : Nat} {xs ys : List Value}
    (hv : Boxed W B t v) (hte : t ≠ e) (hrow : W.ownsRow n₀ e size v k xs) (hn₀ : n₀ ≤ W.heap.size) (hB : n₀ ≤ B)
    (hown' : w1.ownsRow n₀ e size v' m ys) (hgrow : W.grownBy w1 v.ownBlock) :
    Boxed w1 B t v ∧ Boxed (w1.setCell ⟨B, 0, none⟩ v') B t v' ∧ (w1.setCell ⟨B, 0, none⟩ v').ownsRow n₀ e size v' m ys ∧ KeepsOthers W (w1.setCell ⟨B, 0, none⟩ v') ∧ Below n₀ W (w1.setCell ⟨B, 0, none⟩ v') := by
  have hv1 : Boxed w1 B t v := hv.kept hgrow (hv.not_row hte hrow)
  refine ⟨hv1, hv1.set v', hown'.kept (grownBy_setCell' w1 B v') (.inr (hv1.not_row hte hown').symm), ?_, ?_⟩
  · refine (KeepsOthers.of_grownBy hgrow fun j o ej hj => ?_).trans (KeepsOthers.setCell _ _ _)
    rcases hrow.2 with ⟨rfl, _⟩ | ⟨g, cap, cur, rfl, _, hgb, _⟩
    · simp [Value.ownBlock] at ej
    · obtain rfl : g = j := by simpa [Value.ownBlock] using ej
      rw [hgb] at hj; cases hj; rfl
  · refine ((Below.refl n₀ W).grown hgrow hn₀ fun j ej => ?_).setCell (p := ⟨B, 0, none⟩) hB v'
    rcases hrow.2 with ⟨rfl, _⟩ | ⟨g, cap, cur, rfl, hb, _, _⟩
    · simp [Value.ownBlock] at ej
    · obtain rfl : g = j := by simpa [Value.ownBlock] using ej
      exact hb

end Go.Proofs.YtpkegjbmnilmdaaDoor.U
/- The contract of utf.Encode: the bytes of its code points, or an error where one is no scalar. -/
namespace Go.Proofs.YtpkegjbmnilmdaaDoor.U
open Go.RowKit

/-- The slice value v leads to the numbers zs (of kind int32). -/
def IntsAt (w : World) (v : Value) (zs : List Int) : Prop :=
  (zs = [] ∧ ∃ a cap, v = .slice a 0 cap) ∨ (0 < zs.length ∧ ∃ b off cap, v = .slice (some ⟨b, off, none⟩) zs.length cap ∧ ∀ j, j < zs.length → w.cell? ⟨b, off + j, none⟩ = some (.int .i32 (zs[j]?.getD 0)))
theorem lt_of_cell {w : World} {a : Addr} {v : Value} (h : w.cell? a = some v) : a.block < w.heap.size := by
  by_cases hb : a.block < w.heap.size
  · exact hb
  · simp [World.cell?, Array.getElem?_eq_none (Nat.le_of_not_lt hb)] at h
theorem IntsAt.below {A B : World} {n : Nat} (h : Below n A B) (hn : A.heap.size ≤ n) {v : Value} {zs : List Int} : IntsAt A v zs → IntsAt B v zs
  | .inl e => .inl e
  | .inr ⟨hp, b, off, cap, e, hc⟩ => .inr ⟨hp, b, off, cap, e, fun j hj => (h.cell (p := ⟨b, off + j, none⟩) (Nat.lt_of_lt_of_le (lt_of_cell (hc j hj)) hn)).trans (hc j hj)⟩
theorem IntsAt.own {w : World} {base : Nat} {v : Value} {n : Nat} {zs : List Int} (hn : n = zs.length) (h : w.ownsRow base 21 1 v n (zs.map (Value.int .i32))) : IntsAt w v zs := by
  subst hn
  rcases id h.2 with ⟨rfl, h0⟩ | ⟨g, cap, cur, rfl, _⟩
  · exact .inl ⟨List.length_eq_zero_iff.1 h0, _, _, rfl⟩
  · by_cases hz : zs.length = 0
    · exact .inl ⟨List.length_eq_zero_iff.1 hz, _, _, by rw [hz]⟩
    · refine .inr ⟨by omega, g, 0, cap, rfl, fun j hj => ?_⟩
      rw [Nat.zero_add, h.cellAt j (by omega), List.getElem?_map, List.getElem?_eq_getElem hj]
      rfl

theorem take_snoc_int (zs : List Int) (k : Nat) (h : k < zs.length) : zs.take (k + 1) = zs.take k ++ [zs[k]?.getD 0] := by
  rw [List.take_succ_eq_append_getElem h, List.getElem?_eq_getElem h]; rfl
theorem encs_take_snoc (zs : List Int) (k : Nat) (h : k < zs.length) : encs (zs.take (k + 1)) = encs (zs.take k) ++ enc (zs[k]?.getD 0) := by
  rw [take_snoc_int zs k h, encs_snoc]
theorem all_take_snoc (zs : List Int) (k : Nat) (h : k < zs.length) (ha : (zs.take k).all scal = true) (hs : scal (zs[k]?.getD 0) = true) : (zs.take (k + 1)).all scal = true := by
  rw [take_snoc_int zs k h, List.all_append, ha]; simp [hs]
theorem all_false (zs : List Int) (k : Nat) (h : k < zs.length) (hs : scal (zs[k]?.getD 0) = false) : zs.all scal = false := by
  rw [← List.take_append_drop (k + 1) zs, take_snoc_int zs k h, List.all_append, List.all_append]
  simp [hs]
theorem scal_bd {c : Int} (h : scal c = true) : 0 ≤ c ∧ c ≤ 1114111 := by
  unfold scal at h; rw [decide_eq_true_eq] at h; omega
theorem all_bd {zs : List Int} (h : zs.all scal = true) : ∀ c ∈ zs, 0 ≤ c ∧ c ≤ 1114111 := fun c hc => scal_bd (List.all_eq_true.1 h c hc)

/-- What utf.Encode answers. -/
def encR (zs : List Int) (t : ByteArray) (e : Int) : Prop := (zs.all scal = true ∧ e = 0 ∧ bn t = encs zs) ∨ (zs.all scal = false ∧ e = 2 ∧ t = ⟨#[]⟩)

set_option maxRecDepth 100000 in
set_option maxHeartbeats 2000000 in
theorem encode_some (b off cap : Nat) (zs : List Int) (hlen : zs.length ≤ 17179869184) (w : World) (hp : 0 < zs.length) (hc : ∀ j, j < zs.length → w.cell? ⟨b, off + j, none⟩ = some (.int .i32 (zs[j]?.getD 0))) :
    Calls Tryd.prog 32 #[.slice (some ⟨b, off, none⟩) zs.length cap] w fun e W' => (∃ t r, e = .returned (.tuple #[.string t, .int .i64 r]) ∧ encR zs t r) ∧ Below w.heap.size w W' := by
  have hb : b < w.heap.size := lt_of_cell (hc 0 hp)
  go_enter Tryd.func32, Tryd.ntmps32
  go_wp2_with fail
  go_loopw [4, 9] (fun v i wr => ∃ k : Nat, k ≤ zs.length ∧ i = .int .i64 k ∧ (zs.take k).all scal = true ∧ wr.ownsRow w.heap.size 5 1 v (encs (zs.take k)).length ((encs (zs.take k)).map (Value.int .u8)) ∧ Below w.heap.size w wr)
    (fun _ i _ => zs.length - (intOf i).toNat)
  case atStart => exact ⟨0, Nat.zero_le _, rfl, by simp, World.ownsRow_nil _ _ _ _, Below.refl _ _⟩
  case round =>
    obtain ⟨k, hk, rfl, hall, hrow, hB⟩ := hrel
    by_cases hlt : k < zs.length
    · have hck : wr.cell? ⟨b, off + k, none⟩ = some (.int .i32 (zs[k]?.getD 0)) := (hB.cell (p := ⟨b, off + k, none⟩) hb).trans (hc k hlt)
      have hel := encs_len (zs.take k)
      have htl : (zs.take k).length ≤ k := List.length_take_le _ _
      have H1 : Hid ((zs.take k).all scal = true) := hall
      have H2 : Hid (encs (zs.take (k + 1)) = encs (zs.take k) ++ enc (zs[k]?.getD 0)) := encs_take_snoc zs k hlt
      clear hall
      obtain ⟨c, hcc⟩ : ∃ c, c = zs[k]?.getD 0 := ⟨_, rfl⟩
      rw [← hcc] at hck
      have HC : Hid (c = zs[k]?.getD 0) := hcc
      clear hcc
      cases hsc : scal c with
      | true =>
        have HS : Hid (scal c = true) := hsc
        clear hsc
        have hbd := scal_bd HS.out
        go_wp2_with fail
        refine (isScalar_any _ _).mono ?_
        rw [HS.out]
        rintro e w' ⟨rfl, rfl⟩
        go_wp2_with fail
        refine (append_any w.heap.size _ _ _ _ hbd.1 hbd.2 _ hB.size (by omega) hrow).mono ?_
        rintro e w1 ⟨v', rfl, hown', hgrow⟩
        have R : Hid (w1.ownsRow w.heap.size 5 1 v' (encs (zs.take (k + 1))).length ((encs (zs.take (k + 1))).map (Value.int .u8))) := by
          show w1.ownsRow _ _ _ _ _ _
          rw [H2.out, ← HC.out, List.length_append, List.map_append]; exact hown'
        have hB1 : Below w.heap.size w w1 := hB.grown hgrow hB.size (fun j ej => by
          rcases hrow.2 with ⟨rfl, _⟩ | ⟨g, cap, cur, rfl, hbg, _, _⟩
          · simp [Value.ownBlock] at ej
          · obtain rfl : g = j := by simpa [Value.ownBlock] using ej
            exact hbg)
        clear hown' hgrow hrow hB hck
        go_wp2
        go_roundw
        case rel => exact ⟨k + 1, by omega, by go_num, all_take_snoc zs k hlt H1.out (by rw [← HC.out]; exact HS.out), R.out, hB1⟩
        case measure => simp [intOf]; omega
      | false =>
        have HS : Hid (scal c = false) := hsc
        clear hsc
        go_wp2_with fail
        refine (isScalar_any _ _).mono ?_
        rw [HS.out]
        rintro e w' ⟨rfl, rfl⟩
        go_wp2
        go_ret2
        exact ⟨⟨_, _, rfl, .inr ⟨all_false zs k hlt (by rw [← HC.out]; exact HS.out), rfl, rfl⟩⟩, hB⟩
    · have hkk : k = zs.length := by omega
      rw [hkk, List.take_length] at hall hrow
      obtain ⟨t, hcv, ht⟩ := conv_string wr w.heap.size _ _ (encs zs) rfl (encs_bytes _ (all_bd hall)) hrow
      have H1 : Hid (zs.all scal = true) := hall
      have HT : Hid (bn t = encs zs) := ht
      clear hall ht hkk
      go_wp2
      go_ret2
      exact ⟨⟨_, _, rfl, .inl ⟨H1.out, rfl, HT.out⟩⟩, hB⟩

set_option maxRecDepth 100000 in
set_option maxHeartbeats 1000000 in
theorem encode_none (a : Option Addr) (cap : Nat) (w : World) :
    Calls Tryd.prog 32 #[.slice a 0 cap] w fun e W' => (∃ t r, e = .returned (.tuple #[.string t, .int .i64 r]) ∧ encR [] t r) ∧ Below w.heap.size w W' := by
  obtain ⟨t, hcv, ht⟩ := conv_string w w.heap.size (.slice none 0 0) 0 [] rfl (fun b hb => by cases hb) (World.ownsRow_nil _ _ _ _)
  have HT : Hid (bn t = encs []) := ht
  clear ht
  go_enter Tryd.func32, Tryd.ntmps32
  go_wp2_with fail
  refine wp_loop_rounds 1 ?_
  rw [rounds_succ]
  go_wp2
  go_ret2
  exact ⟨⟨_, _, rfl, .inl ⟨rfl, rfl, HT.out⟩⟩, Below.refl _ _⟩

/-- utf.Encode, whatever numbers its slice leads to. -/
theorem encode_any (v : Value) (zs : List Int) (hlen : zs.length ≤ 17179869184) (w : World) (hv : IntsAt w v zs) :
    Calls Tryd.prog 32 #[v] w fun e W' => (∃ t r, e = .returned (.tuple #[.string t, .int .i64 r]) ∧ encR zs t r) ∧ Below w.heap.size w W' := by
  rcases hv with ⟨rfl, a, cap, rfl⟩ | ⟨hp, b, off, cap, rfl, hc⟩
  · exact encode_none a cap w
  · exact encode_some b off cap zs hlen w hp hc
end Go.Proofs.YtpkegjbmnilmdaaDoor.U
/- The contract of utf.Valid: it answers whether all that stands in its bytes is whole. -/
namespace Go.Proofs.YtpkegjbmnilmdaaDoor.U
open Go.RowKit Go.Shelf
attribute [local go_sem] Oper.semAt_some

/-- Is all that stands in bytes whole? -/
def val (l : List Int) : Bool := (scl l).all fun x => x.1.2

end Go.Proofs.YtpkegjbmnilmdaaDoor.U
/- The contracts of the statements' own helpers: runes (two like lists), works. -/
namespace Go.Proofs.YtpkegjbmnilmdaaDoor.U
open Go.RowKit

theorem bn_inj {s t : ByteArray} (h : bn s = bn t) : s = t := by
  unfold bn at h
  have h2 : s.data.toList = t.data.toList := by
    have : ∀ (a b : List UInt8), a.map (fun c => (c.toNat : Int)) = b.map (fun c => (c.toNat : Int)) → a = b := by
      intro a
      induction a with
      | nil => intro b hb; cases b with
        | nil => rfl
        | cons _ _ => simp at hb
      | cons x a ih => intro b hb; cases b with
        | nil => simp at hb
        | cons y b =>
          simp only [List.map_cons, List.cons.injEq] at hb
          have hxy : x = y := UInt8.toNat_inj.1 (by have := hb.1; omega)
          rw [ih b hb.2, hxy]
    exact this _ _ h
  cases s; cases t
  congr 1
  exact Array.toList_inj.1 h2
theorem drewN_drewN (w : World) (a b : Nat) : (w.drewN a).drewN b = w.drewN (a + b) := by simp [World.drewN, Nat.add_assoc]
theorem below_drewN (B : Nat) (w : World) (n : Nat) : Below B w (w.drewN n) := ⟨rfl, rfl, rfl, Nat.le_refl _, fun _ _ => rfl⟩

theorem ints_new (W : World) (zs : List Int) (hp : 0 < zs.length) (cap : Nat) : IntsAt (W.alloc (.cells (zs.map (Value.int .i32)).toArray 21)) (.slice (some ⟨W.heap.size, 0, none⟩) zs.length cap) zs := by
  refine .inr ⟨hp, W.heap.size, 0, cap, rfl, fun j hj => ?_⟩
  have := news_at W 21 (zs.map (Value.int .i32)) j (.int .i32 (zs[j]?.getD 0)) (by rw [List.getElem?_map, List.getElem?_eq_getElem hj]; rfl)
  rw [addr_add0] at this
  rw [Nat.zero_add]; exact this

end Go.Proofs.YtpkegjbmnilmdaaDoor.U
