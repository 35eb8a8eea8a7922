/- The contracts of the document's own Decode and Valid. -/
import Derived.Test.YtnkbfpmaifgenaaUO
namespace Go.Proofs.Ytnkbfpmaifgenaa.U
open Go.RowKit

def strLen : Value → Nat
  | .string t => t.size
  | _ => 0
theorem bn_ne (t : ByteArray) (h : 0 < t.size) : bn t ≠ [] := fun hh => by
  have := congrArg List.length hh; rw [bn_length, List.length_nil] at this; omega

set_option maxRecDepth 100000 in
set_option maxHeartbeats 2000000 in
theorem refDecode_any (s : ByteArray) (hs : s.size ≤ 17179869184) (w : World) :
    Calls Try.prog 8 #[.string s] w fun e W' => ∃ v, e = .returned v ∧ W'.ownsRow w.heap.size 21 1 v (dec (bn s)).length ((dec (bn s)).map (Value.int .i32)) ∧ Below w.heap.size w W' := by
  obtain ⟨i0, hi, hz0, hz1, hz2⟩ := info_parts Try.info21
  go_enter Try.func8, Try.ntmps8
  go_wp2_with fail
  go_loopw [0, 3] (fun sv v wr => ∃ (t : ByteArray) (pre : List Int), sv = .string t ∧ pre.length + t.size ≤ s.size ∧ Hid (dec (bn s) = pre ++ dec (bn t)) ∧ wr.ownsRow w.heap.size 21 1 v pre.length (pre.map (Value.int .i32)) ∧ Below w.heap.size w wr) (fun sv _ _ => strLen sv)
  case atStart => exact ⟨s, [], rfl, by simp, by show _ = _; simp, World.ownsRow_nil _ _ _ _, Below.refl _ _⟩
  case round =>
    obtain ⟨t, pre, rfl, hsz, HD, hrow, hB⟩ := hrel
    by_cases hp : 0 < t.size
    · have he : t.toList.isEmpty = false := isEmpty_false t hp
      have hnn := nx_n (bn t) (bn_ne t hp)
      rw [bn_length] at hnn
      have HC : Hid (dec (bn t) = (nx (bn t)).1 :: dec (bn (t.extract (nx (bn t)).2.1 t.size))) := by
        show _ = _
        rw [dec_cons _ (bn_ne t hp) (bn_bytes t), bn_extract]
      go_wp2_with fail
      refine (refNext_any _ _ (by omega)).mono ?_
      generalize nx (bn t) = x at hnn HC ⊢
      obtain ⟨r, n, b⟩ := x
      simp only at hnn HC ⊢
      rintro e w1 ⟨rfl, hB1⟩
      have r1 := ownsRow_below hrow hB1 (Nat.le_refl _)
      have B1 := hB.trans (hB1.mono hB.size)
      clear hrow hB1 hB
      go_wp2_with (at_builtin; refine wpList_append_own _ rfl _ _ 25 rfl w.heap.size 21 i0 (.int .i32 0) 1 4 Try.underlying25 hi hz0 hz1 hz2 rfl (by decide) _ _ _ rfl (r1.alloc _) ⟨w1.heap.size, 0, none⟩ 1 1 [.int .i32 r] rfl rfl (cell_one_new _ _ _) (by simp [Value.oneCell']) (by unfold maxLen; omega) (by omega) (by have := B1.size; simp; omega) ?_; intro v' w2 hown' hgrow _)
      have B2 : Below w.heap.size w w2 := below_grow (B1.alloc B1.size _) (by have := B1.size; simp; omega) (r1.alloc _) hgrow
      have R2 : Hid (w2.ownsRow w.heap.size 21 1 v' (pre ++ [r]).length ((pre ++ [r]).map (Value.int .i32))) := by
        show World.ownsRow _ _ _ _ _ _ _
        simpa using hown'
      clear hown' hgrow r1 B1
      go_wp2
      go_roundw
      case rel => exact ⟨t.extract n t.size, pre ++ [r], rfl, by simp; omega, by show _ = _; rw [HD.out, HC.out]; simp, R2.out, B2⟩
      case measure => simp [strLen]; omega
    · have he : t.toList.isEmpty = true := isEmpty_true t (by omega)
      have HE : Hid (dec (bn s) = pre) := by
        show _ = _
        rw [HD.out, List.length_eq_zero_iff.1 (show (bn t).length = 0 by rw [bn_length]; omega), dec_nil, List.append_nil]
      go_wp2
      go_ret
      exact ⟨_, rfl, by rw [HE.out]; exact hrow, hB⟩

end Go.Proofs.Ytnkbfpmaifgenaa.U
