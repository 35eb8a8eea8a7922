/- strings.IndexRune of a few ASCII signs, at every code point that has bytes; strings.IndexAny of the signs that end a word; lex.wordAt; strings.Clone; the closure that adds a token. -/
import Derived.Test.YtphkdagapoonjaaGreatDoorZUT
import Derived.Test.YtphkdagapoonjaaGreatDoorChecked
import Derived.Test.YtphkdagapoonjaaGreatDoorZFO
import Derived.Test.YtphkdagapoonjaaGreatDoorZLXH
import Derived.Laws.Runes
import Derived.Laws.RangeString
import Derived.Deep.LoopGhost
import Derived.BigQuiet
import Derived.WalkMore
import Derived.Shelf.Abstract
import Derived.Test.YtphkdagapoonjaaGreatDoorZLPG
import Derived.RangeFuncBox
import Derived.RangeFuncNested
import Derived.Laws.NewBlocks
namespace Go.Proofs.YtphkdagapoonjaaGreatDoor.E
open Go.RowKit
open Go.Proofs.YtphkdagapoonjaaGreatDoor.F (hid)
set_option linter.unusedVariables false

theorem scal_bd {c : Int} (h : U.scal c = true) : 0 ≤ c ∧ c ≤ 1114111 := by
  unfold U.scal at h
  have := of_decide_eq_true h
  omega
set_option maxRecDepth 100000 in
set_option maxHeartbeats 1000000 in
theorem lite_any (s : ByteArray) (c : Int) (w : World) : Calls Tryz.prog 85 #[.string s, .int .u8 c] w fun e W' => e = .returned (.int .i64 (firstIdx s c.toNat.toUInt8)) ∧ W' = w := by
  go_enter Tryz.func85, Tryz.ntmps85
  go_wp2
  rw [run_callFunc_extern Tryz.func97 (by kernel_rfl) (by kernel_rfl) (by kernel_rfl) (e := Extern.BytealgIndexByte.indexByte) (by kernel_rfl), run_indexByte_string]
  simp only [Result.andThen]
  rw [Oper.upon_value]
  go_wp2
  go_ret
  exact ⟨rfl, rfl⟩
set_option maxRecDepth 100000 in
set_option maxHeartbeats 1000000 in
theorem indexByte_any (s : ByteArray) (c : Int) (w : World) : Calls Tryz.prog 93 #[.string s, .int .u8 c] w fun e W' => e = .returned (.int .i64 (firstIdx s c.toNat.toUInt8)) ∧ W' = w := by
  go_enter Tryz.func93, Tryz.ntmps93
  go_wp2_with (go_at_call 85; refine (lite_any _ _ _).mono ?_; rintro e w' ⟨rfl, rfl⟩)
  go_ret
  exact ⟨rfl, rfl⟩
set_option maxRecDepth 100000 in
set_option maxHeartbeats 1000000 in
theorem validRune_any (r : Int) (h : U.scal r = true) (w : World) : Calls Tryz.prog 92 #[.int .i32 r] w fun e W' => e = .returned (.bool true) ∧ W' = w := by
  have h' : (0 ≤ r ∧ r ≤ 1114111) ∧ ¬ (55296 ≤ r ∧ r ≤ 57343) := by
    unfold U.scal at h
    have := of_decide_eq_true h
    omega
  clear h
  obtain ⟨⟨h0, h1⟩, h2⟩ := h'
  by_cases h3 : r < 55296
  · clear h2
    go_enter Tryz.func92, Tryz.ntmps92
    go_wp2
    go_ret
    exact ⟨rfl, rfl⟩
  · have h4 : 57343 < r := by omega
    clear h2
    go_enter Tryz.func92, Tryz.ntmps92
    go_wp2
    go_ret
    exact ⟨rfl, rfl⟩
def Asc (t : ByteArray) : Prop := ∀ b ∈ t.data.toList, b.toNat < 128
set_option maxRecDepth 100000 in
set_option maxHeartbeats 2000000 in
theorem rune_low (t : ByteArray) (r : Int) (h0 : 0 ≤ r) (h1 : r < 128) (w : World) : Calls Tryz.prog 72 #[.string t, .int .i32 r] w fun e W' => e = .returned (.int .i64 (firstIdx t r.toNat.toUInt8)) ∧ W' = w := by
  have hw : IntKind.u8.wrap r = r := by rw [IntKind.wrap_u8]; omega
  go_enter Tryz.func72, Tryz.ntmps72
  go_wp2_with (go_at_call 93; refine (indexByte_any _ _ _).mono ?_; rintro e w' ⟨rfl, rfl⟩)
  go_ret
  exact ⟨rfl, rfl⟩
set_option maxRecDepth 100000 in
set_option maxHeartbeats 4000000 in
theorem rune_sign (t : ByteArray) (ha : Asc t) (hz : t.size ≤ 1000) (w : World) : Calls Tryz.prog 72 #[.string t, .int .i32 65533] w fun e W' => e = .returned (.int .i64 (-1)) ∧ Below w.heap.size w W' := by
  have HA := hid ha
  clear ha
  go_enter Tryz.func72, Tryz.ntmps72
  go_wp2_with fail
  go_loopg [5, 6] t.size (fun g _ _ wx => ∃ i : Nat, i + g = t.size ∧ wx = w.iter t i)
  case atStart => exact ⟨0, by omega, rfl⟩
  case round =>
    obtain ⟨i, hig, rfl⟩ := hrel
    cases gk with
    | zero =>
      obtain rfl : i = t.size := by omega
      have hnx := run_next_end (P := Tryz.prog) w t t.size
      go_wp2
      go_ret
      exact ⟨rfl, Below.alloc (Below.refl _ _) (Nat.le_refl _) _⟩
    | succ g =>
      have hi : i < t.size := by omega
      have hx : (t[i]'hi).toNat < 128 := HA.out _ (Array.getElem_mem_toList (xs := t.data) hi)
      have hnx := fun ty => run_next_ascii (P := Tryz.prog) w t i ty hi hx
      obtain ⟨x, hxe⟩ : ∃ x : Nat, (t[i]'hi).toNat = x := ⟨_, rfl⟩
      rw [hxe] at hx hnx
      clear hxe
      have hne : ((x : Int) == 65533) = false := by simp; omega
      go_wp2
      go_roundg g
      case rel => exact ⟨i + 1, by omega, rfl⟩
      case measure => omega
set_option maxRecDepth 100000 in
set_option maxHeartbeats 4000000 in
theorem rune_high (t : ByteArray) (ha : Asc t) (hz : t.size ≤ 1000) (r : Int) (hr : U.scal r = true) (h1 : 128 ≤ r) (h2 : r ≠ 65533) (w : World) : Calls Tryz.prog 72 #[.string t, .int .i32 r] w fun e W' => e = .returned (.int .i64 (-1)) ∧ Below w.heap.size w W' := by
  have h2b : (r == 65533) = false := by simpa using h2
  have HVR := hid (fun W => validRune_any r hr W)
  have hv : Utf8.valid r = true := by
    rw [validRune_eq]
    unfold U.scal at hr
    have := of_decide_eq_true hr
    unfold validRune
    exact decide_eq_true (by omega)
  obtain ⟨f1, f2, f3⟩ := encode_facts r hv h1
  have hr1 := scal_bd hr
  obtain ⟨hr0, hr2⟩ := hr1
  have HFI : Hid (∀ (a : Nat) (c : UInt8), 128 ≤ c.toNat → firstIdx (t.extract a t.size) c = -1) := fun a c hc => firstIdx_ascii t a t.size c ha hc
  have HA := hid ha
  clear h2 hr hv ha
  obtain ⟨E, hE⟩ : ∃ E, Utf8.encode r = E := ⟨_, rfl⟩
  rw [hE] at f1 f2 f3
  have hl : E.size - 1 < E.size := by omega
  have f4 := f3 hl
  obtain ⟨c, hc⟩ : ∃ c : UInt8, E[E.size - 1]'hl = c := ⟨_, rfl⟩
  rw [hc] at f4
  obtain ⟨m, hm⟩ : ∃ m : Nat, E.size = m + 1 := ⟨E.size - 1, by omega⟩
  have hi1 : ∀ h : m < E.size, E[m]'h = c := fun h => by
    have : E.size - 1 = m := by omega
    simp only [this] at hc
    exact hc
  have hmz : (E.size : Int) - 1 = (m : Int) := by omega
  clear f3 hl hc
  by_cases hlt : m < t.size
  · have hx : (t[m]'hlt).toNat < 128 := HA.out _ (Array.getElem_mem_toList (xs := t.data) hlt)
    go_enter Tryz.func72, Tryz.ntmps72
    go_wp2_with (go_at_call 92; refine (HVR.out _).mono ?_; rintro e w' ⟨rfl, hw1⟩; obtain rfl := hw1.symm)
    go_step3
    go_wp2_with fail
    go_loopw [9] (fun v9 wr => v9 = .int .i64 m ∧ wr = w) (fun _ _ => 0)
    case atStart => exact ⟨rfl, rfl⟩
    case round =>
      obtain ⟨rfl, rfl⟩ := hrel
      have hfi := HFI.out (m + 1) c f4
      obtain ⟨x, hxe⟩ : ∃ x : Nat, (t[m]'hlt).toNat = x := ⟨_, rfl⟩
      obtain ⟨y, hye⟩ : ∃ y : Nat, c.toNat = y := ⟨_, rfl⟩
      have hyc : ((y : Int)).toNat.toUInt8 = c := by rw [← hye]; simp
      rw [hxe] at hx
      rw [hye] at f4
      have hne : ((x : Int) != (y : Int)) = true := by simp; omega
      have hIB : Hid (∀ W, Calls Tryz.prog 93 #[.string (t.extract (m + 1) t.size), .int .u8 y] W fun e W' => e = .returned (.int .i64 (-1)) ∧ W' = W) := fun W => (indexByte_any _ _ W).mono (by rintro e W' ⟨rfl, h⟩; rw [hyc, hfi]; exact ⟨rfl, h⟩)
      have hlz : (m : Int) + 1 ≤ (t.size : Int) := by omega
      have hw1 : IntKind.i64.wrap ((m : Int) + 1) = (m : Int) + 1 := wrap_small _ (by omega) (by omega)
      go_wp2_with fail
      go_step3
      go_wp2_with fail
      go_quiet (fail)
      go_wp2_with fail
      have hen := enters_of Tryz.func93 (by kernel_rfl) rfl
      refine wp_region_free 8 (by kernel_rfl) (by kernel_rfl) ?_
      simp only [List.take_succ_cons, List.take_zero, List.drop_succ_cons, List.drop_zero]
      refine wpFree_val (.string t) rfl (fun W => by go_simp) ?_
      refine wpFree_val (.int .i64 m) rfl (fun W => by go_simp) ?_
      refine wpFree_val (.int .i64 ((m : Int) + 1)) rfl (fun W => by go_simp) ?_
      refine wpFree_val (.string (t.extract (m + 1) t.size)) rfl (fun W => by go_simp; intro h; omega) ?_
      refine wpFree_val (.string E) rfl (fun W => by go_simp) ?_
      refine wpFree_val (.int .i64 m) rfl (fun W => by go_simp) ?_
      refine wpFree_val (.int .u8 y) rfl (fun W => by go_simp; intro h; omega) ?_
      refine wpFree_call (.int .i64 (-1)) rfl (f := 93) (args := #[.string (t.extract (m + 1) t.size), .int .u8 y]) (fun W => by go_simp) hIB.out ?_
      refine wpFree_nil ?_
      show wpList _ _ _ _ _ (World.drewN _ _).drew
      go_wp2_with fail
      refine ⟨rfl, ?_⟩
      go_wp2
      show bodyPost Tryz.prog Tryz.f72 (fun e W' => e = .returned (.int .i64 (-1)) ∧ Below wr.heap.size wr W') Exit.ret _ _
      go_ret
      exact ⟨rfl, (fun h => ⟨h.os, h.tape, h.output, h.size, h.block⟩) (Below.refl wr.heap.size wr)⟩
  · go_enter Tryz.func72, Tryz.ntmps72
    go_wp2_with (go_at_call 92; refine (HVR.out _).mono ?_; rintro e w' ⟨rfl, hw1⟩; obtain rfl := hw1.symm)
    go_step3
    go_wp2_with fail
    go_loopw [9] (fun v9 wr => v9 = .int .i64 m ∧ wr = w) (fun _ _ => 0)
    case atStart => exact ⟨rfl, rfl⟩
    case round =>
      obtain ⟨rfl, rfl⟩ := hrel
      go_wp2
      rw [Exit.noGoto_ret]
      go_ret
      exact ⟨rfl, Below.refl _ _⟩
theorem first_has (t : ByteArray) (r : Int) (h0 : 0 ≤ r) (h1 : r < 128) : decide (0 ≤ firstIdx t r.toNat.toUInt8) = (U.bn t).contains r := by
  rw [firstIdx_nonneg]
  have hr : (r.toNat.toUInt8.toNat : Int) = r := by simp; omega
  rw [Bool.eq_iff_iff, List.any_eq_true, List.contains_iff_mem]
  unfold U.bn
  rw [List.mem_map]
  constructor
  · rintro ⟨b, hb, he⟩
    have := eq_of_beq he
    exact ⟨b, hb, by rw [this]; exact hr⟩
  · rintro ⟨b, hb, he⟩
    refine ⟨b, hb, beq_iff_eq.2 ?_⟩
    apply UInt8.toNat_inj.1
    omega
theorem high_has {t : ByteArray} (ha : Asc t) {r : Int} (h1 : 128 ≤ r) : (U.bn t).contains r = false := by
  rw [Bool.eq_false_iff]
  intro hc
  have hm := List.contains_iff_mem.1 hc
  unfold U.bn at hm
  obtain ⟨b, hb, he⟩ := List.mem_map.1 hm
  have := ha b hb
  omega
end Go.Proofs.YtphkdagapoonjaaGreatDoor.E
namespace Go.Proofs.YtphkdagapoonjaaGreatDoor.Lx
open Go.RowKit
open Go.Proofs.YtphkdagapoonjaaGreatDoor.F (bn bn_length bn_append bn_inj bn_get byte_bd hid bn_extract isEmpty_false isEmpty_true str_eq same_eq)
open Go.Proofs.YtphkdagapoonjaaGreatDoor.U (nx enc encs scal val Bytes)
set_option linter.unusedVariables false

/-- A rune of a text: one byte below 128, or one to four that are not. -/
theorem rn_step (s : ByteArray) (p : Nat) (hp : p < s.size) :
    ((Utf8.decode s p).1 < 128 ∧ (Utf8.decode s p).2 = 1 ∧ (bn s)[p]?.getD 0 = ((Utf8.decode s p).1 : Int)) ∨
    (128 ≤ (Utf8.decode s p).1 ∧ scal ((Utf8.decode s p).1 : Int) = true ∧ 1 ≤ (Utf8.decode s p).2 ∧ p + (Utf8.decode s p).2 ≤ s.size ∧ ∀ c ∈ ((bn s).drop p).take (Utf8.decode s p).2, 128 ≤ c) := by
  have hd := dec_nx s p hp
  have hl : ((bn s).drop p).length = s.size - p := by rw [List.length_drop, bn_length]
  have hne : (bn s).drop p ≠ [] := by intro e; rw [e] at hl; simp at hl; omega
  have hB : Bytes ((bn s).drop p) := fun b hb => U.bn_bytes s b (List.mem_of_mem_drop hb)
  have hat : (bn s)[p]?.getD 0 = ((bn s).drop p)[0]?.getD 0 := by rw [List.getElem?_drop]; rfl
  have hn := U.nx_n _ hne
  rw [hl] at hn
  have hinv := U.nx_inv _ hne hB
  rw [hat]
  obtain ⟨R, hR⟩ : ∃ R, (Utf8.decode s p).1 = R := ⟨_, rfl⟩
  obtain ⟨K, hK⟩ : ∃ K, (Utf8.decode s p).2 = K := ⟨_, rfl⟩
  rw [hR, hK] at hd ⊢
  rcases hinv with ⟨a, t, e, z0, z1, q⟩ | ⟨a, b, t, e, z0, z1, z2, z3, q⟩ | ⟨a, b, c, t, e, z0, z1, z2, z3, z4, z5, q⟩ | ⟨a, b, c, d, t, e, z0, z1, z2, z3, z4, z5, z6, z7, q⟩ | ⟨n, z0, z1, q⟩
  · rw [q] at hd
    rw [e]
    simp only [if_true] at hd
    exact .inl ⟨by omega, hd.2, by simp; omega⟩
  · rw [q] at hd hn
    rw [e]
    simp only [if_true] at hd hn
    obtain ⟨d1, d2⟩ := hd
    subst d2
    refine .inr ⟨by omega, by rw [scal_iff]; omega, by omega, by omega, fun c hc => ?_⟩
    simp at hc; omega
  · rw [q] at hd hn
    rw [e]
    simp only [if_true] at hd hn
    obtain ⟨d1, d2⟩ := hd
    subst d2
    have y0 := U.low_ge a
    have y1 : U.lowOf a = 160 ∨ a ≠ 224 := by unfold U.lowOf; (repeat' split) <;> omega
    have y2 : U.highOf a = 159 ∨ a ≠ 237 := by unfold U.highOf; (repeat' split) <;> omega
    have y3 := U.high_le a
    refine .inr ⟨by omega, by rw [scal_iff]; omega, by omega, by omega, fun c hc => ?_⟩
    simp at hc; omega
  · rw [q] at hd hn
    rw [e]
    simp only [if_true] at hd hn
    obtain ⟨d1, d2⟩ := hd
    subst d2
    have y0 := U.low_ge a
    have y1 : U.lowOf a = 144 ∨ a ≠ 240 := by unfold U.lowOf; (repeat' split) <;> omega
    have y2 : U.highOf a = 143 ∨ a ≠ 244 := by unfold U.highOf; (repeat' split) <;> omega
    have y3 := U.high_le a
    refine .inr ⟨by omega, by rw [scal_iff]; omega, by omega, by omega, fun c hc => ?_⟩
    simp at hc; omega
  · have hw : (nx ((bn s).drop p)).2.2 = false := by rw [q]
    rw [hw] at hd
    simp only [Bool.false_eq_true, if_false] at hd
    obtain ⟨d1, d2⟩ := hd
    subst d2
    refine .inr ⟨by omega, by rw [d1]; decide, by omega, by omega, fun c hc => ?_⟩
    rcases hq : (bn s).drop p with _ | ⟨a, t⟩
    · exact absurd hq hne
    · rw [hq] at hc q
      have : c = a := by simpa using hc
      subst this
      apply Classical.byContradiction
      intro h
      rw [nx, if_pos (by omega)] at q
      simp at q
/-- Where a word ends, as strings.IndexAny tells it. -/
def wix (l : List Int) : Int := if (l.takeWhile nen).length < l.length then ((l.takeWhile nen).length : Int) else -1
abbrev blk : ByteArray := ⟨#[32, 9, 44, 33, 34, 35]⟩
theorem blk_fin : ∀ n : Fin 256, ([32, 9, 44, 33, 34, 35] : List UInt8).contains (UInt8.ofNat n.val) = en (n.val : Int) := by decide +kernel
theorem blk_en (b : UInt8) : ([32, 9, 44, 33, 34, 35] : List UInt8).contains b = en (b.toNat : Int) := by
  have h := blk_fin ⟨b.toNat, b.toNat_lt⟩
  simp only [UInt8.ofNat_toNat] at h
  exact h
theorem idx_words : ∀ l : List UInt8, Lib.indexAny l [32, 9, 44, 33, 34, 35] = wix (nn l)
  | [] => rfl
  | b :: l => by
    have ih := idx_words l
    rw [Lib.indexAny, blk_en, ih]
    unfold wix
    show _ = if (((b.toNat : Int) :: nn l).takeWhile nen).length < ((b.toNat : Int) :: nn l).length then ((((b.toNat : Int) :: nn l).takeWhile nen).length : Int) else -1
    have hle : ((nn l).takeWhile nen).length ≤ (nn l).length := (List.takeWhile_sublist _).length_le
    cases h : en (b.toNat : Int) with
    | true =>
      have hn : nen (b.toNat : Int) = false := by unfold nen; rw [h]; rfl
      simp only [List.takeWhile_cons, hn]
      simp
    | false =>
      have hn : nen (b.toNat : Int) = true := by unfold nen; rw [h]; rfl
      simp only [List.takeWhile_cons, hn, if_true, List.length_cons]
      by_cases hh : ((nn l).takeWhile nen).length < (nn l).length
      · simp only [if_pos hh, if_pos (Nat.succ_lt_succ hh)]
        rw [if_neg (by simp), if_neg (by simp)]
        omega
      · simp only [if_neg hh, if_neg (show ¬ ((nn l).takeWhile nen).length + 1 < (nn l).length + 1 by omega)]
        simp
theorem asc_blk : E.Asc blk := by unfold E.Asc; decide
/-- IndexRune at these signs. -/
theorem ir_any (r : Int) (hr : scal r = true) (w : World) : Calls Tryz.prog 72 #[.string blk, .int .i32 r] w fun e w' => (∃ i : Int, decide (0 ≤ i) = (decide (r < 128) && en r) ∧ e = .returned (.int .i64 i)) ∧ Below w.heap.size w w' := by
  have hb := E.scal_bd hr
  by_cases h1 : r < 128
  · refine (E.rune_low blk r hb.1 h1 w).mono ?_
    rintro e w' ⟨rfl, rfl⟩
    refine ⟨⟨_, ?_, rfl⟩, Below.refl _ _⟩
    rw [E.first_has blk r hb.1 h1, decide_eq_true h1, Bool.true_and]
    show List.contains [32, 9, 44, 33, 34, 35] r = en r
    unfold en
    rw [Bool.eq_iff_iff]
    simp
  · have h2 : (decide (r < 128) && en r) = false := by rw [decide_eq_false h1]; rfl
    rw [h2]
    by_cases h3 : r = 65533
    · subst h3
      refine (E.rune_sign blk asc_blk (by decide) w).mono ?_
      rintro e w' ⟨rfl, B⟩
      exact ⟨⟨-1, by decide, rfl⟩, B⟩
    · refine (E.rune_high blk asc_blk (by decide) r hr (by omega) h3 w).mono ?_
      rintro e w' ⟨rfl, B⟩
      exact ⟨⟨-1, by decide, rfl⟩, B⟩
/-- No sign of these stands ahead of p. -/
def Ahd (l : List Int) (p : Nat) : Prop := ∀ c ∈ l.take p, nen c = true
theorem wix_hit {l : List Int} {p : Nat} (h : Ahd l p) (hp : p < l.length) (he : en (l[p]?.getD 0) = true) : wix l = p := by
  have e : l = l.take p ++ (l[p]?.getD 0) :: l.drop (p + 1) := by
    rw [List.getElem?_eq_getElem hp, Option.getD_some, ← List.drop_eq_getElem_cons hp, List.take_append_drop]
  have ht : l.takeWhile nen = l.take p := by
    conv => lhs; rw [e]
    have := (takeW_app (p := nen) (g := l.take p) ((l[p]?.getD 0) :: l.drop (p + 1)) h).1
    rw [this, List.takeWhile_cons, if_neg (by unfold nen; simp [he]), List.append_nil]
  unfold wix
  rw [ht, List.length_take, if_pos (by omega)]
  omega
theorem wix_end {l : List Int} (h : Ahd l l.length) : wix l = -1 := by
  unfold Ahd at h
  rw [List.take_length] at h
  have := (takeW_app (p := nen) (g := l) [] h).1
  rw [List.append_nil] at this
  unfold wix
  rw [this]
  simp
theorem Ahd.more {l : List Int} {p k : Nat} (h : Ahd l p) (h2 : ∀ c ∈ (l.drop p).take k, nen c = true) : Ahd l (p + k) := by
  intro c hc
  rw [List.take_add] at hc
  exact (List.mem_append.1 hc).elim (h c) (h2 c)
set_option maxRecDepth 100000 in
set_option maxHeartbeats 4000000 in
theorem ia_short (s : ByteArray) (h8 : s.size ≤ 8) (w : World) : Calls Tryz.prog 53 #[.string s, .string blk] w fun e w' => e = .returned (.int .i64 (wix (bn s))) ∧ Below w.heap.size w w' := by
  have HU : Hid (∀ W, Calls Tryz.prog 73 #[.int .i64 s.size] W fun e w' => e = .returned (.bool false) ∧ w' = W) := fun W => by
    refine Calls.mono (show Calls Tryz.prog 73 #[.int .i64 s.size] W _ from Any.strings_shouldUseASCIISet { Tryz.l153 with } s.size W) ?_
    rintro e w' ⟨rfl, rfl⟩
    rw [decide_eq_false (by omega)]
    exact ⟨rfl, rfl⟩
  go_enter Tryz.func53, Tryz.ntmps53
  go_wp2_with (go_at_call 73; refine (HU.out _).mono ?_; rintro e w2 ⟨rfl, hw2⟩; obtain rfl := hw2.symm)
  go_loopg [9, 10] s.size (fun gf _ _ wx => ∃ p : Nat, wx.heap[w.heap.size]? = some (.stringIter s p) ∧ Hid (Below w.heap.size w wx) ∧ Hid (Ahd (bn s) p) ∧ p ≤ s.size ∧ s.size ≤ p + gf)
  case atStart => exact ⟨0, World.iter_heap w s 0, (Below.refl _ w).alloc (Nat.le_refl _) _, fun c hc => (by simp at hc), by omega, by omega⟩
  case round =>
    obtain ⟨p, hit, HB, HA, hp, hfu⟩ := hrel
    by_cases hps : p < s.size
    · obtain ⟨g', rfl⟩ : ∃ g', gk = g' + 1 := ⟨gk - 1, by omega⟩
      have hnx : ∀ ty, (Instr.next (.pointer (some ⟨w.heap.size, 0, none⟩)) true ty).run Tryz.prog wr = _ := fun ty => Lib.run_next_any_at wr w.heap.size s p ty hit hps
      have hst := rn_step s p hps
      have hr32 := Lib.rune_le s p
      obtain ⟨R, hR⟩ : ∃ R, (Utf8.decode s p).1 = R := ⟨_, rfl⟩
      obtain ⟨K, hK⟩ : ∃ K, (Utf8.decode s p).2 = K := ⟨_, rfl⟩
      rw [hR, hK] at hnx hst
      rw [hR] at hr32
      clear hR hK
      have hit2 := Lib.iterAt_heap wr w.heap.size s p (p + K) hit
      have HB2 := hid (Lib.below_iterAt HB.out (k := w.heap.size) (Nat.le_refl _) s (p + K))
      obtain ⟨W, hWd⟩ : ∃ W, wr.iterAt w.heap.size s (p + K) = W := ⟨_, rfl⟩
      rw [hWd] at hnx hit2 HB2
      clear HB hWd hit
      have HSC : Hid (scal (R : Int) = true) := by
        show _ = _
        rcases hst with ⟨h1, _⟩ | ⟨_, h2, _⟩
        · rw [scal_iff]; omega
        · exact h2
      have HI := hid (ir_any (R : Int) HSC.out W)
      have HGO : Hid (∀ (W' : World), Below W.heap.size W W' → W'.heap[w.heap.size]? = some (.stringIter s (p + K)) ∧ Below w.heap.size w W') := fun W' B => ⟨(B.block _ (Array.getElem?_eq_some_iff.1 hit2).1).trans hit2, HB2.out.trans (B.mono HB2.out.size)⟩
      by_cases hen : (R : Int) < 128 ∧ en (R : Int) = true
      · have HF : Hid (wix (bn s) = p) := by
          show _ = _
          rcases hst with ⟨h1, h2, h3⟩ | ⟨h1, _⟩
          · exact wix_hit HA.out (by rw [bn_length]; exact hps) (by rw [h3]; exact hen.2)
          · omega
        rw [decide_eq_true hen.1, hen.2] at HI
        clear hst HSC HA hen
        go_wp2_with fail
        refine HI.out.mono ?_
        rintro e w2 ⟨⟨i, hi, rfl⟩, B⟩
        have hi0 : 0 ≤ i := of_decide_eq_true hi
        have HB3 := hid (HGO.out w2 B).2
        clear hi B HI
        go_wp2
        go_ret
        exact ⟨by rw [HF.out] <;> rfl, HB3.out⟩
      · have HA2 : Hid (Ahd (bn s) (p + K)) := by
          refine HA.out.more ?_
          rcases hst with ⟨h1, h2, h3⟩ | ⟨_, _, _, _, h5⟩
          · rw [h2]
            intro c hc
            have hd : (bn s).drop p = (R : Int) :: (bn s).drop (p + 1) := by
              have hp' : p < (bn s).length := by rw [bn_length]; exact hps
              rw [List.drop_eq_getElem_cons hp', ← h3, List.getElem?_eq_getElem hp']; rfl
            rw [hd] at hc
            have : c = R := by simpa using hc
            subst this
            unfold nen
            cases he : en (R : Int) with
            | false => rfl
            | true => exact absurd ⟨by omega, he⟩ hen
          · exact fun c hc => nen_high (h5 c hc)
        have hfl : (decide ((R : Int) < 128) && en (R : Int)) = false := by
          cases he : en (R : Int) with
          | false => simp
          | true => rw [decide_eq_false (fun h => hen ⟨h, he⟩)]; rfl
        rw [hfl] at HI
        have hpk : p + K ≤ s.size ∧ 1 ≤ K := by
          rcases hst with ⟨_, h2, _⟩ | ⟨_, _, h3, h4, _⟩ <;> omega
        obtain ⟨hpk, hK1⟩ := hpk
        clear hst HSC HA hen hfl
        go_wp2_with fail
        refine HI.out.mono ?_
        rintro e w2 ⟨⟨i, hi, rfl⟩, B⟩
        have hi0 : ¬ 0 ≤ i := of_decide_eq_false hi
        have hit3 := (HGO.out w2 B).1
        have HB3 := hid (HGO.out w2 B).2
        clear hi B HI
        go_wp2
        go_roundg g'
        case measure => omega
        case rel => exact ⟨p + K, hit3, HB3.out, HA2.out, hpk, by omega⟩
    · have hnx : ∀ ty, (Instr.next (.pointer (some ⟨w.heap.size, 0, none⟩)) true ty).run Tryz.prog wr = _ := fun ty => Lib.run_next_end_at wr w.heap.size s p ty hit hps
      have HF : Hid (wix (bn s) = -1) := by
        show _ = _
        have : p = (bn s).length := by rw [bn_length]; omega
        exact wix_end (this ▸ HA.out)
      go_wp2
      go_ret
      exact ⟨by rw [HF.out] <;> rfl, HB.out⟩
theorem set_info : (Tryz.prog.info? (Tryz.l153_ren.t 116)).map (fun i => (i.zero, i.size)) = some (some (.agg (Array.replicate 256 (.bool false))), 256) := by kernel_rfl
theorem ia_any (s : ByteArray) (hs : s.size ≤ 1000000000) (w : World) : Calls Tryz.prog 53 #[.string s, .string blk] w fun e w' => e = .returned (.int .i64 (wix (bn s))) ∧ Below w.heap.size w w' := by
  by_cases h8 : s.size ≤ 8
  · exact ia_short s h8 w
  · have hasc : ∀ (j : Nat) b, blk.data.toList[j]? = some b → b.toNat < 128 := fun j b h => asc_blk b (List.mem_of_getElem? h)
    refine Calls.mono (show Calls Tryz.prog 53 #[.string s, .string blk] w _ from Any.strings_IndexAny_long Tryz.l153 (zero_of_info set_info).1 (zero_of_info set_info).2 s blk w (by decide) (by omega) (by omega) (by decide) hasc) ?_
    rintro e w' ⟨rfl, rfl⟩
    refine ⟨?_, ((Below.refl _ _).alloc (Nat.le_refl _) _).alloc (by simp) _⟩
    show Ending.returned (.int .i64 (Lib.indexAny s.data.toList [32, 9, 44, 33, 34, 35])) = _
    rw [idx_words]; rfl
set_option maxRecDepth 100000 in
set_option maxHeartbeats 4000000 in
theorem word_any (s : ByteArray) (hs : s.size ≤ 1000000000) (w : World) : Calls Tryz.prog 38 #[.string s] w fun e w' => e = .returned (.string (s.extract 0 ((bn s).takeWhile nen).length)) ∧ Below w.heap.size w w' := by
  have HI := hid (ia_any s hs w)
  have hle : ((bn s).takeWhile nen).length ≤ s.size := by rw [← bn_length]; exact (List.takeWhile_sublist _).length_le
  unfold wix at HI
  rw [bn_length] at HI
  obtain ⟨k, hk⟩ : ∃ k, ((bn s).takeWhile nen).length = k := ⟨_, rfl⟩
  rw [hk] at HI hle ⊢
  clear hk
  by_cases h : k < s.size
  · rw [if_pos h] at HI
    go_enter Tryz.func38, Tryz.ntmps38
    go_wp2_with fail
    refine HI.out.mono ?_
    rintro e w2 ⟨rfl, B⟩
    go_wp2
    go_ret
    exact ⟨rfl, B⟩
  · rw [if_neg h] at HI
    have hx : s.extract 0 k = s := bn_inj (by
      unfold bn
      have : k = s.size := by omega
      subst this
      simp)
    rw [hx]
    go_enter Tryz.func38, Tryz.ntmps38
    go_wp2_with fail
    refine HI.out.mono ?_
    rintro e w2 ⟨rfl, B⟩
    go_wp2
    go_ret
    exact ⟨rfl, B⟩
end Go.Proofs.YtphkdagapoonjaaGreatDoor.Lx
namespace Go.Proofs.YtphkdagapoonjaaGreatDoor.Lx
open Go.RowKit
open Go.Proofs.YtphkdagapoonjaaGreatDoor.F (bn bn_length bn_append bn_inj bn_get byte_bd hid bn_extract isEmpty_false isEmpty_true str_eq same_eq)
open Go.Proofs.YtphkdagapoonjaaGreatDoor.U (nx enc encs scal val Bytes)
set_option linter.unusedVariables false

set_option maxRecDepth 100000 in
set_option maxHeartbeats 1000000 in
theorem clone_any (s : ByteArray) (hs : s.size ≤ 1000000000) (w : World) : Calls Tryz.prog 39 #[.string s] w fun e w' => e = .returned (.string s) ∧ Below w.heap.size w w' := by
  have HC := hid (show Calls Tryz.prog 54 #[.string s] w _ from AnyPu.stringslite_Clone Tryz.lClo s w (by omega))
  go_enter Tryz.func39, Tryz.ntmps39
  go_wp2_with fail
  refine HC.out.mono ?_
  rintro e w2 ⟨rfl, B⟩
  go_wp2
  go_ret
  exact ⟨rfl, B⟩
theorem tok_new (w : World) (t : Tb) : TokAt (w.alloc (.cells (tcs t) 40)) (.slice (some ⟨w.heap.size, 0, none⟩) 1 1) [t] := by
  refine ⟨_, 1, rfl, fun h => (by cases h), fun _ => ⟨w.heap.size, 0, rfl, fun j c hj hc => ?_⟩⟩
  obtain rfl : j = 0 := by simpa using hj
  rw [cell_of_row _ _ _ _ _ _ (heap_alloc_new w (.cells (tcs t) 40))]
  obtain rfl | rfl | rfl | rfl : c = 0 ∨ c = 1 ∨ c = 2 ∨ c = 3 := by omega
  all_goals rfl
theorem TokOwn.alloc {w : World} {base : Nat} {v : Value} {l : List Tb} (h : TokOwn w base v l) (o : Obj) : TokOwn (w.alloc o) base v l := World.ownsRow.alloc h o
theorem TokOwn.own {w : World} {base : Nat} {v : Value} {l : List Tb} (h : TokOwn w base v l) : ∀ g, v.ownBlock = some g → base ≤ g ∧ ∃ cur, w.heap[g]? = some (.cells cur 40 (0, 0)) := by
  intro g hg
  rcases h.2 with ⟨rfl, _⟩ | ⟨g', cap, cur, rfl, h1, h2, h3⟩
  · simp [Value.ownBlock] at hg
  · simp [Value.ownBlock] at hg
    subst hg
    exact ⟨h1, cur, h2⟩
theorem TokOwn.keep {w w' : World} {base : Nat} {v : Value} {l : List Tb} (h : TokOwn w base v l) (hk : ∀ (g : Nat) (cur : Array Value), w.heap[g]? = some (Obj.cells cur 40 (0, 0)) → w'.heap[g]? = some (Obj.cells cur 40 (0, 0))) : TokOwn w' base v l := by
  refine ⟨h.1, ?_⟩
  rcases h.2 with h | ⟨g, cap, cur, e, h1, h2, h3⟩
  · exact .inl h
  · exact .inr ⟨g, cap, cur, e, h1, hk g cur h2, h3⟩
theorem TokOwn.below {w W : World} {base : Nat} {v : Value} {l : List Tb} (h : TokOwn w base v l) (hb : Below w.heap.size w W) : TokOwn W base v l :=
  h.keep (fun g cur hg => (hb.block g (Array.getElem?_eq_some_iff.1 hg).1).trans hg)
/-- A box of another kind stays when tokens are appended. -/
theorem boxed_grown {w1 w2 : World} {base : Nat} {v : Value} {l : List Tb} {B : Nat} {T : TypeId} {x : Value} (hb : Boxed w1 B T x) (hT : T ≠ 40) (h : TokOwn w1 base v l) (hg : w1.grownBy w2 v.ownBlock) : Boxed w2 B T x := by
  have h1 : w1.heap[B]? = some (.cells #[x] T (0, 0)) := hb
  show w2.heap[B]? = _
  rw [hg.block B (Array.getElem?_eq_some_iff.1 h1).1 ?_]
  · exact h1
  · intro e
    obtain ⟨_, cur, hc⟩ := h.own B e.symm
    rw [h1] at hc
    exact hT (by injection hc with hc; injection hc)
theorem below_grow {B : Nat} {w w1 w2 : World} {v : Value} {l : List Tb} (hB : Below B w w1) (hb : B ≤ w1.heap.size) (hown : TokOwn w1 B v l) (hg : w1.grownBy w2 v.ownBlock) : Below B w w2 :=
  hB.grown hg hb (fun j ej => (hown.own j ej).1)
set_option maxRecDepth 100000 in
set_option maxHeartbeats 4000000 in
theorem add_any (k : Nat) (hk : k ≤ 255) (x : ByteArray) (a n : Int) (Bl Bn base : Nat) (v : Value) (l : List Tb) (w : World) (hl : Boxed w Bl 23 v) (hn : Boxed w Bn 3 (.int .i64 n)) (hown : TokOwn w base v l) (hlen : l.length ≤ 100000000) (hb : base ≤ Bl) (hsz : base ≤ w.heap.size) :
    Calls Tryz.prog 36 #[.int .u8 (k : Int), .string x, .int .i64 a, .pointer (some ⟨Bl, 0, none⟩), .pointer (some ⟨Bn, 0, none⟩)] w fun e w' => e = .returned (.tuple #[]) ∧
      (∃ v', Boxed w' Bl 23 v' ∧ TokOwn w' base v' (l ++ [⟨k, x, n, a⟩])) ∧ Boxed w' Bn 3 (.int .i64 n) ∧ Below base w w' := by
  obtain ⟨ao, cap, rfl⟩ := hown.form
  have c1 := hl.cell
  have f1 := hl.frozen
  have c2 := hn.cell
  have HO := hid hown
  have HL := hid hl
  have HN := hid hn
  have HB := hid ((Below.refl base w).alloc hsz (.cells (tcs ⟨k, x, n, a⟩) 40))
  have HT := hid (tok_new w ⟨k, x, n, a⟩)
  have HO2 := hid (hown.alloc (Obj.cells (tcs ⟨k, x, n, a⟩) 40))
  have hsz2 : base ≤ (w.alloc (Obj.cells (tcs ⟨k, x, n, a⟩) 40)).heap.size := by simp; omega
  have hll : l.length + [(⟨k, x, n, a⟩ : Tb)].length ≤ 1000000000 := by simp; omega
  clear hown hl hn
  go_enter Tryz.func36, Tryz.ntmps36
  go_wp2_with (at_builtin; refine wpList_append_toks rfl _ _ rfl base _ l rfl HO2.out _ [⟨k, x, n, a⟩] rfl HT.out hll hsz2 ?_; intro v' w' r' g'; obtain ⟨ao2, cap2, rfl⟩ := r'.form; have HR := hid r'; have HL2 := hid (boxed_grown (HL.out.alloc _) (by decide) HO2.out g'); have HN2 := hid (boxed_grown (HN.out.alloc _) (by decide) HO2.out g'); have HB2 := hid (below_grow HB.out hsz2 HO2.out g'); have c3 := HL2.out.cell; have f3 := HL2.out.frozen; clear r' g')
  go_end0
  refine ⟨rfl, ⟨_, Boxed.set _ HL2.out, TokOwn.keep (show TokOwn _ base (.slice ao2 (l.length + 1) cap2) _ from by have h := HR.out; rw [List.length_append] at h; exact h) (fun g cur hg => ?_)⟩, Boxed.other HN2.out (fun e => ?_) _, HB2.out.setCell (p := ⟨Bl, 0, none⟩) hb _⟩
  · have h1 : w'.heap[Bl]? = some (Obj.cells _ 23 (0, 0)) := HL2.out
    refine (Below.heap_setCell _ _ _ _ (fun e => ?_)).trans hg
    subst e
    rw [h1] at hg
    injection hg with hg; injection hg with _ hg; exact absurd hg (by decide)
  · have h1 : w'.heap[Bl]? = some (Obj.cells _ 23 (0, 0)) := HL2.out
    have h2 : w'.heap[Bn]? = some (Obj.cells _ 3 (0, 0)) := HN2.out
    rw [e, h1] at h2
    injection h2 with hg; injection hg with _ hg; exact absurd hg (by decide)
end Go.Proofs.YtphkdagapoonjaaGreatDoor.Lx
