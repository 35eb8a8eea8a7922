/- strings.IndexRune of a few ASCII signs, at every code point that has bytes. (Stage 9's walk.) -/
import Derived.Test.YtphkdagapoonjaaDoorUT
import Derived.Test.YtphkdagapoonjaaDoorChecked
import Derived.Test.YtphkdagapoonjaaDoorFO
import Derived.Test.YtphkdagapoonjaaDoorGQ
import Derived.Laws.Runes
import Derived.Laws.RangeString
import Derived.Deep.LoopGhost
import Derived.BigQuiet
import Derived.WalkMore
import Derived.Shelf.Abstract
namespace Go.Proofs.YtphkdagapoonjaaDoor.E
open Go.RowKit
open Go.Proofs.YtphkdagapoonjaaDoor.F (hid)
set_option linter.unusedVariables false

theorem scal_bd {c : Int} (h : U.scal c = true) : 0 ≤ c ∧ c ≤ 1114111 := by
  unfold U.scal at h
  have := of_decide_eq_true h
  omega
set_option maxRecDepth 100000 in
set_option maxHeartbeats 1000000 in
theorem lite_any (s : ByteArray) (c : Int) (w : World) : Calls Tryd.prog 64 #[.string s, .int .u8 c] w fun e W' => e = .returned (.int .i64 (firstIdx s c.toNat.toUInt8)) ∧ W' = w := by
  go_enter Tryd.func64, Tryd.ntmps64
  go_wp2
  rw [run_callFunc_extern Tryd.func79 (by kernel_rfl) (by kernel_rfl) (by kernel_rfl) (e := Extern.BytealgIndexByte.indexByte) (by kernel_rfl), run_indexByte_string]
  simp only [Result.andThen]
  rw [Oper.upon_value]
  go_wp2
  go_ret
  exact ⟨rfl, rfl⟩
set_option maxRecDepth 100000 in
set_option maxHeartbeats 1000000 in
theorem indexByte_any (s : ByteArray) (c : Int) (w : World) : Calls Tryd.prog 72 #[.string s, .int .u8 c] w fun e W' => e = .returned (.int .i64 (firstIdx s c.toNat.toUInt8)) ∧ W' = w := by
  go_enter Tryd.func72, Tryd.ntmps72
  go_wp2_with (go_at_call 64; refine (lite_any _ _ _).mono ?_; rintro e w' ⟨rfl, rfl⟩)
  go_ret
  exact ⟨rfl, rfl⟩
set_option maxRecDepth 100000 in
set_option maxHeartbeats 1000000 in
theorem validRune_any (r : Int) (h : U.scal r = true) (w : World) : Calls Tryd.prog 71 #[.int .i32 r] w fun e W' => e = .returned (.bool true) ∧ W' = w := by
  have h' : (0 ≤ r ∧ r ≤ 1114111) ∧ ¬ (55296 ≤ r ∧ r ≤ 57343) := by
    unfold U.scal at h
    have := of_decide_eq_true h
    omega
  clear h
  obtain ⟨⟨h0, h1⟩, h2⟩ := h'
  by_cases h3 : r < 55296
  · clear h2
    go_enter Tryd.func71, Tryd.ntmps71
    go_wp2
    go_ret
    exact ⟨rfl, rfl⟩
  · have h4 : 57343 < r := by omega
    clear h2
    go_enter Tryd.func71, Tryd.ntmps71
    go_wp2
    go_ret
    exact ⟨rfl, rfl⟩
def Asc (t : ByteArray) : Prop := ∀ b ∈ t.data.toList, b.toNat < 128
set_option maxRecDepth 100000 in
set_option maxHeartbeats 2000000 in
theorem rune_low (t : ByteArray) (r : Int) (h0 : 0 ≤ r) (h1 : r < 128) (w : World) : Calls Tryd.prog 54 #[.string t, .int .i32 r] w fun e W' => e = .returned (.int .i64 (firstIdx t r.toNat.toUInt8)) ∧ W' = w := by
  have hw : IntKind.u8.wrap r = r := by rw [IntKind.wrap_u8]; omega
  go_enter Tryd.func54, Tryd.ntmps54
  go_wp2_with (go_at_call 72; refine (indexByte_any _ _ _).mono ?_; rintro e w' ⟨rfl, rfl⟩)
  go_ret
  exact ⟨rfl, rfl⟩
set_option maxRecDepth 100000 in
set_option maxHeartbeats 4000000 in
theorem rune_sign (t : ByteArray) (ha : Asc t) (hz : t.size ≤ 1000) (w : World) : Calls Tryd.prog 54 #[.string t, .int .i32 65533] w fun e W' => e = .returned (.int .i64 (-1)) ∧ Below w.heap.size w W' := by
  have HA := hid ha
  clear ha
  go_enter Tryd.func54, Tryd.ntmps54
  go_wp2_with fail
  go_loopg [5, 6] t.size (fun g _ _ wx => ∃ i : Nat, i + g = t.size ∧ wx = w.iter t i)
  case atStart => exact ⟨0, by omega, rfl⟩
  case round =>
    obtain ⟨i, hig, rfl⟩ := hrel
    cases gk with
    | zero =>
      obtain rfl : i = t.size := by omega
      have hnx := run_next_end (P := Tryd.prog) w t t.size
      go_wp2
      go_ret
      exact ⟨rfl, Below.alloc (Below.refl _ _) (Nat.le_refl _) _⟩
    | succ g =>
      have hi : i < t.size := by omega
      have hx : (t[i]'hi).toNat < 128 := HA.out _ (Array.getElem_mem_toList (xs := t.data) hi)
      have hnx := fun ty => run_next_ascii (P := Tryd.prog) w t i ty hi hx
      obtain ⟨x, hxe⟩ : ∃ x : Nat, (t[i]'hi).toNat = x := ⟨_, rfl⟩
      rw [hxe] at hx hnx
      clear hxe
      have hne : ((x : Int) == 65533) = false := by simp; omega
      go_wp2
      go_roundg g
      case rel => exact ⟨i + 1, by omega, rfl⟩
      case measure => omega
set_option maxRecDepth 100000 in
set_option maxHeartbeats 4000000 in
theorem rune_high (t : ByteArray) (ha : Asc t) (hz : t.size ≤ 1000) (r : Int) (hr : U.scal r = true) (h1 : 128 ≤ r) (h2 : r ≠ 65533) (w : World) : Calls Tryd.prog 54 #[.string t, .int .i32 r] w fun e W' => e = .returned (.int .i64 (-1)) ∧ Below w.heap.size w W' := by
  have h2b : (r == 65533) = false := by simpa using h2
  have HVR := hid (fun W => validRune_any r hr W)
  have hv : Utf8.valid r = true := by
    rw [validRune_eq]
    unfold U.scal at hr
    have := of_decide_eq_true hr
    unfold validRune
    exact decide_eq_true (by omega)
  obtain ⟨f1, f2, f3⟩ := encode_facts r hv h1
  have hr1 := scal_bd hr
  obtain ⟨hr0, hr2⟩ := hr1
  have HFI : Hid (∀ (a : Nat) (c : UInt8), 128 ≤ c.toNat → firstIdx (t.extract a t.size) c = -1) := fun a c hc => firstIdx_ascii t a t.size c ha hc
  have HA := hid ha
  clear h2 hr hv ha
  obtain ⟨E, hE⟩ : ∃ E, Utf8.encode r = E := ⟨_, rfl⟩
  rw [hE] at f1 f2 f3
  have hl : E.size - 1 < E.size := by omega
  have f4 := f3 hl
  obtain ⟨c, hc⟩ : ∃ c : UInt8, E[E.size - 1]'hl = c := ⟨_, rfl⟩
  rw [hc] at f4
  obtain ⟨m, hm⟩ : ∃ m : Nat, E.size = m + 1 := ⟨E.size - 1, by omega⟩
  have hi1 : ∀ h : m < E.size, E[m]'h = c := fun h => by
    have : E.size - 1 = m := by omega
    simp only [this] at hc
    exact hc
  have hmz : (E.size : Int) - 1 = (m : Int) := by omega
  clear f3 hl hc
  by_cases hlt : m < t.size
  · have hx : (t[m]'hlt).toNat < 128 := HA.out _ (Array.getElem_mem_toList (xs := t.data) hlt)
    go_enter Tryd.func54, Tryd.ntmps54
    go_wp2_with (go_at_call 71; refine (HVR.out _).mono ?_; rintro e w' ⟨rfl, hw1⟩; obtain rfl := hw1.symm)
    go_step3
    go_wp2_with fail
    go_loopw [9] (fun v9 wr => v9 = .int .i64 m ∧ wr = w) (fun _ _ => 0)
    case atStart => exact ⟨rfl, rfl⟩
    case round =>
      obtain ⟨rfl, rfl⟩ := hrel
      have hfi := HFI.out (m + 1) c f4
      obtain ⟨x, hxe⟩ : ∃ x : Nat, (t[m]'hlt).toNat = x := ⟨_, rfl⟩
      obtain ⟨y, hye⟩ : ∃ y : Nat, c.toNat = y := ⟨_, rfl⟩
      have hyc : ((y : Int)).toNat.toUInt8 = c := by rw [← hye]; simp
      rw [hxe] at hx
      rw [hye] at f4
      have hne : ((x : Int) != (y : Int)) = true := by simp; omega
      have hIB : Hid (∀ W, Calls Tryd.prog 72 #[.string (t.extract (m + 1) t.size), .int .u8 y] W fun e W' => e = .returned (.int .i64 (-1)) ∧ W' = W) := fun W => (indexByte_any _ _ W).mono (by rintro e W' ⟨rfl, h⟩; rw [hyc, hfi]; exact ⟨rfl, h⟩)
      have hlz : (m : Int) + 1 ≤ (t.size : Int) := by omega
      have hw1 : IntKind.i64.wrap ((m : Int) + 1) = (m : Int) + 1 := wrap_small _ (by omega) (by omega)
      go_wp2_with fail
      go_step3
      go_wp2_with fail
      go_quiet (fail)
      go_wp2_with fail
      have hen := enters_of Tryd.func72 (by kernel_rfl) rfl
      refine wp_region_free 8 (by kernel_rfl) (by kernel_rfl) ?_
      simp only [List.take_succ_cons, List.take_zero, List.drop_succ_cons, List.drop_zero]
      refine wpFree_val (.string t) rfl (fun W => by go_simp) ?_
      refine wpFree_val (.int .i64 m) rfl (fun W => by go_simp) ?_
      refine wpFree_val (.int .i64 ((m : Int) + 1)) rfl (fun W => by go_simp) ?_
      refine wpFree_val (.string (t.extract (m + 1) t.size)) rfl (fun W => by go_simp; intro h; omega) ?_
      refine wpFree_val (.string E) rfl (fun W => by go_simp) ?_
      refine wpFree_val (.int .i64 m) rfl (fun W => by go_simp) ?_
      refine wpFree_val (.int .u8 y) rfl (fun W => by go_simp; intro h; omega) ?_
      refine wpFree_call (.int .i64 (-1)) rfl (f := 72) (args := #[.string (t.extract (m + 1) t.size), .int .u8 y]) (fun W => by go_simp) hIB.out ?_
      refine wpFree_nil ?_
      show wpList _ _ _ _ _ (World.drewN _ _).drew
      go_wp2_with fail
      refine ⟨rfl, ?_⟩
      go_wp2
      show bodyPost Tryd.prog Tryd.f54 (fun e W' => e = .returned (.int .i64 (-1)) ∧ Below wr.heap.size wr W') Exit.ret _ _
      go_ret
      exact ⟨rfl, (fun h => ⟨h.os, h.tape, h.output, h.size, h.block⟩) (Below.refl wr.heap.size wr)⟩
  · go_enter Tryd.func54, Tryd.ntmps54
    go_wp2_with (go_at_call 71; refine (HVR.out _).mono ?_; rintro e w' ⟨rfl, hw1⟩; obtain rfl := hw1.symm)
    go_step3
    go_wp2_with fail
    go_loopw [9] (fun v9 wr => v9 = .int .i64 m ∧ wr = w) (fun _ _ => 0)
    case atStart => exact ⟨rfl, rfl⟩
    case round =>
      obtain ⟨rfl, rfl⟩ := hrel
      go_wp2
      rw [Exit.noGoto_ret]
      go_ret
      exact ⟨rfl, Below.refl _ _⟩
theorem first_has (t : ByteArray) (r : Int) (h0 : 0 ≤ r) (h1 : r < 128) : decide (0 ≤ firstIdx t r.toNat.toUInt8) = (U.bn t).contains r := by
  rw [firstIdx_nonneg]
  have hr : (r.toNat.toUInt8.toNat : Int) = r := by simp; omega
  rw [Bool.eq_iff_iff, List.any_eq_true, List.contains_iff_mem]
  unfold U.bn
  rw [List.mem_map]
  constructor
  · rintro ⟨b, hb, he⟩
    have := eq_of_beq he
    exact ⟨b, hb, by rw [this]; exact hr⟩
  · rintro ⟨b, hb, he⟩
    refine ⟨b, hb, beq_iff_eq.2 ?_⟩
    apply UInt8.toNat_inj.1
    omega
theorem high_has {t : ByteArray} (ha : Asc t) {r : Int} (h1 : 128 ≤ r) : (U.bn t).contains r = false := by
  rw [Bool.eq_false_iff]
  intro hc
  have hm := List.contains_iff_mem.1 hc
  unfold U.bn at hm
  obtain ⟨b, hb, he⟩ := List.mem_map.1 hm
  have := ha b hb
  omega
end Go.Proofs.YtphkdagapoonjaaDoor.E
