/- Whether tokens are more than a statement looks at. (Stage 15.) -/
import Derived.Test.YtphkdagapoonjaaDoorLPT
namespace Go.Proofs.YtphkdagapoonjaaDoor.Lx
open Go.RowKit
open Go.Proofs.YtphkdagapoonjaaDoor.F (bn bn_length bn_append bn_inj bn_get byte_bd hid bn_extract isEmpty_false isEmpty_true str_eq same_eq)
open Go.Proofs.YtphkdagapoonjaaDoor.U (nx enc encs scal val Bytes)
set_option linter.unusedVariables false

/-- What is not too long. -/
def Brf (l : List Tb) : Prop := l.length ≤ 2048 ∧ ∀ t ∈ l, t.x.size ≤ 8192
set_option maxRecDepth 100000 in
set_option maxHeartbeats 4000000 in
theorem long_any (a : Option Addr) (n c : Nat) (l : List Tb) (w : World) (hat : TokAt w (.slice a n c) l) (hn : n ≤ maxLen) (hs : ∀ t ∈ l, t.x.size ≤ 140737488351232) :
    Calls Tryd.prog 5 #[.slice a n c] w fun e w' => (e = .returned (.bool true) ∨ (e = .returned (.bool false) ∧ Brf l)) ∧ Below w.heap.size w w' := by
  obtain rfl := hat.len
  have hn2 : l.length ≤ 9223372036854775807 := hn
  have HA := hid hat
  have HS := hid hs
  clear hat hs
  go_enter Tryd.func5, Tryd.ntmps5
  go_wp2
  go_loopw [3, 4] (fun v3 v4 wr => ∃ (i s : Nat), v3 = .int .i64 (s : Int) ∧ v4 = .int .i64 (i : Int) ∧ i ≤ l.length ∧ 4 * i ≤ s ∧ s ≤ 140737488363520 ∧ Hid (∀ j, j < i → (l[j]?.getD z4).x.size ≤ s) ∧ Hid (Below w.heap.size w wr)) (fun _ v4 _ => l.length - (intOf v4).toNat)
  case atStart => exact ⟨0, 0, rfl, rfl, by omega, by omega, by omega, fun j h => absurd h (by omega), Below.refl _ _⟩
  case round =>
    obtain ⟨i, s, rfl, rfl, hi, h4, hsb, HX, HB⟩ := hrel
    by_cases hlt : i < l.length
    · have hltz : (i : Int) < (l.length : Int) := by omega
      by_cases hs8 : s ≤ 8192
      · have hsz : (s : Int) ≤ 8192 := by omega
        obtain ⟨b, off, rfl, e0, e1, e2, e3⟩ := HA.out.cell hlt
        have f1 := keeps HB.out e1
        clear e0 e1 e2 e3
        obtain ⟨x, hxe⟩ : ∃ x, (l[i]?.getD z4).x = x := ⟨_, rfl⟩
        rw [hxe] at f1
        have hx : x.size ≤ 140737488351232 := by
          have hm : l[i]?.getD z4 ∈ l := by rw [List.getElem?_eq_getElem hlt]; exact List.getElem_mem hlt
          rw [← hxe]
          exact HS.out _ hm
        have HN : Hid (∀ j, j < i + 1 → (l[j]?.getD z4).x.size ≤ s + 4 + x.size) := by
          intro j hj
          rcases Nat.lt_or_ge j i with h | h
          · exact Nat.le_trans (HX.out j h) (by omega)
          · obtain rfl : j = i := by omega
            rw [hxe]; omega
        clear HX hxe
        go_wp2
        go_roundw
        case rel => exact ⟨i + 1, s + 4 + x.size, by go_num, by go_num, by omega, by omega, by omega, HN.out, HB.out⟩
        case measure => simp [intOf]; omega
      · have hsz : ¬ (s : Int) ≤ 8192 := by omega
        have hsg : (8192 : Int) < (s : Int) := by omega
        clear HX
        go_wp2
        go_ret
        exact ⟨.inl rfl, HB.out⟩
    · have hltz : ¬ (i : Int) < (l.length : Int) := by omega
      by_cases hs8 : s ≤ 8192
      · have hsg : ¬ (8192 : Int) < (s : Int) := by omega
        have HF : Hid (Brf l) := by
          refine ⟨by omega, fun t ht => ?_⟩
          obtain ⟨j, hj, rfl⟩ := List.mem_iff_getElem.1 ht
          have := HX.out j (by omega)
          rw [List.getElem?_eq_getElem hj] at this
          exact Nat.le_trans this hs8
        clear HX
        go_wp2
        go_ret
        exact ⟨.inr ⟨rfl, HF.out⟩, HB.out⟩
      · have hsg : (8192 : Int) < (s : Int) := by omega
        clear HX
        go_wp2
        go_ret
        exact ⟨.inl rfl, HB.out⟩
end Go.Proofs.YtphkdagapoonjaaDoor.Lx
