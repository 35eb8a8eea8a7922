/- The contract of the iterator that utf.scalars hands back. -/
import Derived.Test.YtnkbfpmaifgenaaUN
import Derived.Test.YtnkbfpmaifgenaaUS
import Derived.RangeFuncNested
import Derived.RangeFuncBound
import Derived.RangeFuncCalls
import Derived.RangeFuncLeaves
import Derived.RangeFuncBox
import Derived.Shelf.Abstract
import Derived.OwnWalkIn
import Derived.TacticsInMore
import Derived.LoopNIn
import Derived.LoopIn
import Derived.Maps.AppendAt
import Derived.Lib.IndexBytes
namespace Go.Proofs.Ytnkbfpmaifgenaa.U
open Go.RowKit Go.Shelf
attribute [local go_sem] Oper.semAt_some

abbrev encS (x : Sc) : Array Value := #[.int .i32 x.1.1, .bool x.1.2]
/-- What a round keeps: the box of the text. -/
def KeepsBox (B : Nat) (s : ByteArray) (W W' : World) : Prop := Boxed W B 9 (.string s) → Boxed W' B 9 (.string s)

theorem boxed_drewN {W : World} {B : Nat} {t : TypeId} {v : Value} (h : Boxed W B t v) (n : Nat) : Boxed (W.drewN n) B t v := h
theorem grownBy_drewN (W : World) (n : Nat) : W.grownBy (W.drewN n) none := ⟨rfl, rfl, rfl, Nat.le_refl _, fun _ _ _ => rfl⟩

theorem bn_extract (s : ByteArray) (k : Nat) : bn (s.extract k s.size) = (bn s).drop k := by
  unfold bn
  rw [Lib.extract_to_end, List.map_drop]

set_option maxRecDepth 100000 in
set_option maxHeartbeats 1000000 in
theorem iter_in (n : Nat) (hn : 1 ≤ n) (l Bs : Nat) (s : ByteArray) (hs : s.size ≤ 9223372036854775807) (J Jx : List Sc → World → Prop)
    (hJ : ∀ (W : World) (pre : List Sc) (m : Nat), J pre W → J pre (W.drewN m))
    (hY : ∀ pre x W, J pre W → pre.length < s.size → YieldAt Fence.wide (n - 1) Try.prog l #[.int .i32 x.1.1, .bool x.1.2] W fun e W' =>
      (e = .returned (.bool true) ∧ J (pre ++ [x]) W' ∧ KeepsBox Bs s W W') ∨ (e = .returned (.bool false) ∧ Jx (pre ++ [x]) W'))
    (W : World) (hBs : Boxed W Bs 9 (.string s)) (h0 : J [] W) :
    CallsIn Fence.wide n Try.prog 30 #[.func (.yield l) #[] #[], .pointer (some ⟨Bs, 0, none⟩)] W fun e W' => (∃ v, e = .returned v) ∧
      ((∃ ys, ys = scl (bn s) ∧ J ys W') ∨ (∃ pre, pre <+: scl (bn s) ∧ Jx pre W')) := by
  refine callsIn_of_wp Try.func30 rfl trivial ?_ rfl
  simp only [Try.ntmps30, List.size_toArray, List.length_cons, List.length_nil, Nat.reduceAdd, Nat.reduceSub, Array.replicate_succ, Array.replicate_zero, List.push_toArray, List.append_toArray, List.nil_append, List.cons_append]
  gi_wp2
  gi_loopw [3] (fun i wr => ∃ (k : Nat) (pre : List Sc), k ≤ s.size ∧ pre.length ≤ k ∧ i = .int .i64 k ∧ Boxed wr Bs 9 (.string s) ∧ J pre wr ∧ Hid (scl (bn s) = pre ++ scl ((bn s).drop k)))
    (fun i _ => s.size - (intOf i).toNat)
  case atStart => exact ⟨0, [], Nat.zero_le _, by simp, rfl, hBs, h0, by show scl (bn s) = _; simp⟩
  case round =>
    obtain ⟨k, pre, hk, hpk, rfl, hbx, hJs, hrest⟩ := hrel
    have hcs := hbx.cell
    by_cases hlt : k < s.size
    · obtain ⟨x, hx⟩ : ∃ x : Sc, x = toSc (nx ((bn s).drop k)) := ⟨_, rfl⟩
      have hxv : Hid (((nx ((bn s).drop k)).1, (nx ((bn s).drop k)).2.2) = x.1) := by
        show _ = _
        rw [hx, toSc_nx _ ((bn_bytes s).drop k)]
      have hne : (bn s).drop k ≠ [] := fun h => by have := congrArg List.length h; rw [List.length_drop, bn_length] at this; simp at this; omega
      have hnn := nx_n _ hne
      rw [List.length_drop, bn_length] at hnn
      have hstep : Hid (scl ((bn s).drop k) = x :: scl ((bn s).drop (k + (nx ((bn s).drop k)).2.1))) := by
        show _ = _
        rw [scl_cons _ hne, ← hx, List.drop_drop]
      clear hx
      gi_wp2_with fail
      refine ⟨trivial, ?_⟩
      refine (callsIn_wide.2 (next_any _ _ (by simp; omega))).mono ?_
      rintro e w' ⟨rfl, m, rfl⟩
      rw [bn_extract]
      rw [show (nx ((bn s).drop k)).1 = x.1.1 from congrArg Prod.fst hxv.out, show (nx ((bn s).drop k)).2.2 = x.1.2 from congrArg Prod.snd hxv.out]
      generalize hN : (nx ((bn s).drop k)).2.1 = N at *
      clear hN hxv
      obtain ⟨fn, tmps, assign, body, hy, hR⟩ := hY pre x (wr.drewN m) (hJ _ _ _ hJs) (by omega)
      gi_wp2
      refine hR.mono ?_
      rintro e W3 (⟨rfl, hJ3, hk3⟩ | ⟨rfl, hJx3⟩)
      · have hbx3 := hk3 (boxed_drewN hbx m)
        have hcs3 := hbx3.cell
        gi_wp2
        go_roundw
        case rel => exact ⟨k + N, pre ++ [x], by omega, by simp; omega, by go_num, hbx3, hJ3, by show _ = _; rw [hrest.out, hstep.out]; simp⟩
        case measure => simp [intOf]; omega
      · gi_wp2
        refine bodyPost_ret (results_none rfl _ _ _) rfl ?_
        exact ⟨⟨_, rfl⟩, .inr ⟨pre ++ [x], ⟨scl ((bn s).drop (k + N)), by rw [hrest.out, hstep.out]; simp⟩, hJx3⟩⟩
    · gi_wp2
      go_end0
      refine ⟨⟨_, rfl⟩, .inl ⟨pre, ?_, hJs⟩⟩
      rw [hrest.out, bn_drop_nil s k (by omega), scl_nil, List.append_nil]

set_option maxHeartbeats 1000000 in
/-- utf.scalars: its text is boxed; the function value captures the box. -/
theorem scalars_in (n : Nat) (s : ByteArray) (w : World) :
    CallsIn Fence.wide n Try.prog 24 #[.string s] w fun e w' => e = .returned (.func (.func 30) #[] #[.pointer (some ⟨w.heap.size, 0, none⟩)]) ∧ w' = w.alloc (.cells #[.string s] 9) := by
  refine callsIn_of_wp Try.func24 rfl trivial ?_ rfl
  simp only [Try.ntmps24, List.size_toArray, List.length_cons, List.length_nil, Nat.reduceAdd, Nat.reduceSub, Array.replicate_succ, Array.replicate_zero, List.push_toArray, List.append_toArray, List.nil_append, List.cons_append]
  gi_wp2
  go_ret
  exact ⟨rfl, rfl⟩

theorem iter_stops (n : Nat) (hn : 1 ≤ n) (Bs : Nat) (s : ByteArray) (hs : s.size ≤ 9223372036854775807) (w : World) (hc : Boxed w Bs 9 (.string s)) :
    SeqStopsK Fence.wide n Try.prog 30 #[.pointer (some ⟨Bs, 0, none⟩)] encS (KeepsBox Bs s) (fun ys => ys = scl (bn s)) (fun pre => pre <+: scl (bn s)) s.size w := fun l J Jx W hW hJ _ hY h0 =>
  iter_in n hn l Bs s hs J Jx (fun W pre m h => hJ pre W _ none h (grownBy_drewN W m) (fun r e => by cases e)) hY W ((hW.block Bs hc.lt).trans hc) h0

theorem keepsBox_t {Bs : Nat} {s : ByteArray} {A B C : World} (h : KeepsBox Bs s A B) (k : KeepsBox Bs s B C) : KeepsBox Bs s A C := fun x => k (h x)
theorem keepsBox_b {Bs : Nat} {s : ByteArray} {w : World} (hB : Bs < w.heap.size) (W : World) (l : Nat) (o o' : Obj) (hl : w.heap.size ≤ l) (_ : W.heap[l]? = some o) (_ : o.isCells = false) (_ : o.isWalk = false) : KeepsBox Bs s W (W.putObj l o') :=
  fun x => (World.putObj_heap_other (by omega)).trans x
end Go.Proofs.Ytnkbfpmaifgenaa.U
