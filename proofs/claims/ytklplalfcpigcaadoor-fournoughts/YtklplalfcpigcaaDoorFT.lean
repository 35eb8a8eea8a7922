/- strconv.Itoa by the shelf, for one byte; the document's Text. (Stage 10.) -/
import Derived.Test.YtklplalfcpigcaaDoorFW
import Derived.Test.YtklplalfcpigcaaDoorFG
import Derived.Test.YtklplalfcpigcaaDoorFR
import Derived.Laws.BitsLemmas
import Derived.Ground.NamesProg
import Derived.Shelf.Lay
import Derived.Shelf.Strconv.Itoa3
namespace Go.Proofs
open Go.Shelf Go.RowKit
shelf_lay LaysM.n171 Nm 171 at Tryd as Tryd.laysItoa
end Go.Proofs
namespace Go.Proofs.YtklplalfcpigcaaDoor.F
open Go.RowKit
set_option linter.unusedVariables false

/-- The library's table of powers of ten lies as the program's text lays it. -/
def Pow (w : World) : Prop := (match (w.heap[1]? : Option Obj) with | some (Obj.cells cs _ _) => some cs | _ => none) = some (Lib.pow10Tab.map fun z => Value.int .u64 z).toArray
theorem Pow.below {w w' : World} (h : Pow w) {B : Nat} (hB : 1 < B) (hb : Below B w w') : Pow w' := by
  unfold Pow at *
  rw [hb.block _ hB]; exact h
theorem Pow.size {w : World} (h : Pow w) : 1 < w.heap.size := by
  unfold Pow at h
  rcases Nat.lt_or_ge 1 w.heap.size with hb | hb
  · exact hb
  · rw [Array.getElem?_eq_none hb] at h; cases h
theorem dec_wr : ∀ n : Fin 256, ((Lib.decDigits n.val).map fun b => (b.toNat : Int)) = wr 10 n.val := by decide +kernel
theorem itoa_wr {n : Nat} (h : n < 256) : bn ⟨(Lib.itoa n).toArray⟩ = wr 10 n := by
  have e : Lib.itoa n = Lib.decDigits n := by
    unfold Lib.itoa
    rw [if_neg (by omega)]
    simp
  rw [e]
  exact dec_wr ⟨n, h⟩
theorem grow_below (w : World) (k : Nat) (os : Array Obj) : Below w.heap.size w (Sort.grow (w.drewN k) os) := by
  refine ⟨rfl, rfl, rfl, ?_, fun j hj => ?_⟩
  · show w.heap.size ≤ (w.heap ++ os).size
    simp
  · show (w.heap ++ os)[j]? = _
    rw [Array.getElem?_append_left hj]
theorem itoa_any (n : Nat) (hn : n < 256) (w : World) (hp : Pow w) : Calls Tryd.prog 27 #[.int .i64 n] w fun e W' => (∃ t, e = .returned (.string t) ∧ bn t = wr 10 n) ∧ Below w.heap.size w W' := by
  have h := Any.strconv_Itoa Tryd.laysItoa n (by omega) (by omega) w (by
    unfold Lib.TabIs World.var?
    rw [show Tryd.prog.globalNamed _ = some 1 from by kernel_rfl]
    exact hp)
  have hf : Tryd.laysItoa_ren.f 171 = 27 := by kernel_rfl
  rw [hf] at h
  refine h.mono ?_
  rintro e W' ⟨rfl, k, os, rfl⟩
  exact ⟨⟨_, rfl, itoa_wr hn⟩, grow_below _ _ _⟩
/-! ### Masks -/
theorem wraps_u32 (n : Int) (h0 : 0 ≤ n) (h1 : n < 2 ^ 32) : IntKind.u32.wrap n = n := by rw [IntKind.wrap_u32]; omega
theorem wraps_u64 (n : Int) (h0 : 0 ≤ n) (h1 : n < 2 ^ 64) : IntKind.u64.wrap n = n := by simp [IntKind.wrap, IntKind.bits, IntKind.signed]; omega
theorem u32_and255 {x : Int} (h0 : 0 ≤ x) (h1 : x < 4294967296) : bits .and .u32 x 255 = x % 256 := bits_mask .u32 32 (by decide) wraps_u32 8 (by decide) x h0 h1
theorem u64_and255 {x : Int} (h0 : 0 ≤ x) (h1 : x < 18446744073709551616) : bits .and .u64 x 255 = x % 256 := bits_mask .u64 64 (by decide) wraps_u64 8 (by decide) x h0 h1
theorem u64_and16 {x : Int} (h0 : 0 ≤ x) (h1 : x < 18446744073709551616) : bits .and .u64 x 65535 = x % 65536 := bits_mask .u64 64 (by decide) wraps_u64 16 (by decide) x h0 h1
theorem u64_and24 {x : Int} (h0 : 0 ≤ x) (h1 : x < 18446744073709551616) : bits .and .u64 x 16777215 = x % 16777216 := bits_mask .u64 64 (by decide) wraps_u64 24 (by decide) x h0 h1
theorem u64_and32 {x : Int} (h0 : 0 ≤ x) (h1 : x < 18446744073709551616) : bits .and .u64 x 4294967295 = x % 4294967296 := bits_mask .u64 64 (by decide) wraps_u64 32 (by decide) x h0 h1
/-! ### Text -/
def byt (a k : Nat) : Nat := a / 256 ^ (3 - k) % 256
/-- What has been written behind k bytes. -/
def pre (a : Nat) : Nat → List Int
  | 0 => []
  | k + 1 => pre a k ++ wr 10 (byt a k) ++ (if k < 3 then [46] else [])
/-- The text of an address. -/
def txt (a : Nat) : List Int := join (wrts (tens (cut a 4)))
theorem pre_txt {a : Nat} (ha : a < 4294967296) : pre a 4 = txt a := by
  have b0 : byt a 0 = a / 16777216 := by show a / 16777216 % 256 = _; omega
  have b1 : byt a 1 = a / 65536 % 256 := rfl
  have b2 : byt a 2 = a / 256 % 256 := rfl
  have b3 : byt a 3 = a % 256 := by show a / 1 % 256 = _; omega
  have e : pre a 4 = (([] ++ wr 10 (byt a 0) ++ [46] ++ wr 10 (byt a 1) ++ [46]) ++ wr 10 (byt a 2) ++ [46]) ++ wr 10 (byt a 3) ++ [] := rfl
  have f : txt a = wr 10 (a / 16777216) ++ 46 :: (wr 10 (a / 65536 % 256) ++ 46 :: (wr 10 (a / 256 % 256) ++ 46 :: wr 10 (a % 256))) := rfl
  rw [e, f, b0, b1, b2, b3]
  simp
theorem pre_next (a k : Nat) : pre a (k + 1) = pre a k ++ wr 10 (byt a k) ++ (if k < 3 then [46] else []) := rfl
def TxtR (a : Nat) (w : World) (e : Ending) (W' : World) : Prop := (∃ t, e = .returned (.string t) ∧ bn t = txt a) ∧ Below w.heap.size w W'
theorem dot_size : (⟨#[46]⟩ : ByteArray).size = 1 := rfl
theorem t_size {t : ByteArray} {n : Nat} (h : bn t = wr 10 n) : t.size ≤ 65 := by
  have := wr_len 10 n
  rw [← h, bn_length] at this
  exact this
set_option maxRecDepth 100000 in
set_option maxHeartbeats 4000000 in
theorem rtext_any (a : Nat) (ha : a < 4294967296) (w : World) (hp : Pow w) :
    Calls Tryd.prog 15 #[.int .u32 a] w fun e W' => TxtR a w e W' := by
  have HIT := hid itoa_any
  have HGS : Hid (∀ e W, ((∃ t, e = .returned (.string t) ∧ bn t = pre a 4) ∧ Below w.heap.size w W) → TxtR a w e W) := fun e W h => by rw [pre_txt ha] at h; exact h
  have hgs := hp.size
  have HPW : Hid (∀ W, Below w.heap.size w W → Pow W) := fun W h => hp.below hgs h
  clear hp
  go_enter Tryd.func15, Tryd.ntmps15
  go_wp2_with fail
  go_loopw [3, 4] (fun v3 v4 wr => ∃ (k : Nat) (T : ByteArray), k ≤ 4 ∧ v3 = .string T ∧ v4 = .int .i64 (3 - (k : Int)) ∧ T.size ≤ 70 * k ∧ Hid (bn T = pre a k) ∧ Hid (Below w.heap.size w wr)) (fun _ v4 _ => (intOf v4 + 1).toNat)
  case atStart => exact ⟨0, ⟨#[]⟩, by omega, rfl, rfl, by simp [ByteArray.size], rfl, Below.refl _ _⟩
  case round =>
    obtain ⟨k, T, hk, rfl, rfl, hT, HT, HB⟩ := hrel
    have HP := hid (HPW.out _ HB.out)
    have HPN := hid (pre_next a k)
    obtain rfl | rfl | rfl | rfl | rfl : k = 0 ∨ k = 1 ∨ k = 2 ∨ k = 3 ∨ k = 4 := by omega
    · have hb : byt a 0 < 256 := Nat.mod_lt _ (by decide)
      have hbz : ((byt a 0 : Nat) : Int) = ((a : Int) / 16777216) % 256 := by
        show ((a / 16777216 % 256 : Nat) : Int) = _
        omega
      have hand : bits BinOp.and IntKind.u32 ((a : Int) / 16777216) 255 = ((byt a 0 : Nat) : Int) := by rw [hbz]; exact u32_and255 (by omega) (by omega)
      have HI := hid (HIT.out (byt a 0) hb wr HP.out)
      clear hbz
      obtain ⟨y, hy⟩ : ∃ y, byt a 0 = y := ⟨_, rfl⟩
      rw [hy] at hb hand HI HPN
      clear hy
      go_wp2_with (go_at_call 27; refine HI.out.mono ?_; rintro e w2 ⟨⟨t, rfl, ht⟩, B2⟩; have hts := t_size ht; have HT2 := hid ht; have HB2 := hid (HB.out.trans (B2.mono HB.out.size)); clear ht B2)
      go_roundw
      case rel => exact ⟨1, T ++ t ++ ⟨#[46]⟩, by omega, rfl, by go_num, by simp [ByteArray.size_append, dot_size]; omega, by show _ = _; rw [HPN.out]; simp [bn_append, HT.out, HT2.out]; rfl, HB2⟩
      case measure => simp [intOf]
    · have hb : byt a 1 < 256 := Nat.mod_lt _ (by decide)
      have hbz : ((byt a 1 : Nat) : Int) = ((a : Int) / 65536) % 256 := by
        show ((a / 65536 % 256 : Nat) : Int) = _
        omega
      have hand : bits BinOp.and IntKind.u32 ((a : Int) / 65536) 255 = ((byt a 1 : Nat) : Int) := by rw [hbz]; exact u32_and255 (by omega) (by omega)
      have HI := hid (HIT.out (byt a 1) hb wr HP.out)
      clear hbz
      obtain ⟨y, hy⟩ : ∃ y, byt a 1 = y := ⟨_, rfl⟩
      rw [hy] at hb hand HI HPN
      clear hy
      go_wp2_with (go_at_call 27; refine HI.out.mono ?_; rintro e w2 ⟨⟨t, rfl, ht⟩, B2⟩; have hts := t_size ht; have HT2 := hid ht; have HB2 := hid (HB.out.trans (B2.mono HB.out.size)); clear ht B2)
      go_roundw
      case rel => exact ⟨2, T ++ t ++ ⟨#[46]⟩, by omega, rfl, by go_num, by simp [ByteArray.size_append, dot_size]; omega, by show _ = _; rw [HPN.out]; simp [bn_append, HT.out, HT2.out]; rfl, HB2⟩
      case measure => simp [intOf]
    · have hb : byt a 2 < 256 := Nat.mod_lt _ (by decide)
      have hbz : ((byt a 2 : Nat) : Int) = ((a : Int) / 256) % 256 := by
        show ((a / 256 % 256 : Nat) : Int) = _
        omega
      have hand : bits BinOp.and IntKind.u32 ((a : Int) / 256) 255 = ((byt a 2 : Nat) : Int) := by rw [hbz]; exact u32_and255 (by omega) (by omega)
      have HI := hid (HIT.out (byt a 2) hb wr HP.out)
      clear hbz
      obtain ⟨y, hy⟩ : ∃ y, byt a 2 = y := ⟨_, rfl⟩
      rw [hy] at hb hand HI HPN
      clear hy
      go_wp2_with (go_at_call 27; refine HI.out.mono ?_; rintro e w2 ⟨⟨t, rfl, ht⟩, B2⟩; have hts := t_size ht; have HT2 := hid ht; have HB2 := hid (HB.out.trans (B2.mono HB.out.size)); clear ht B2)
      go_roundw
      case rel => exact ⟨3, T ++ t ++ ⟨#[46]⟩, by omega, rfl, by go_num, by simp [ByteArray.size_append, dot_size]; omega, by show _ = _; rw [HPN.out]; simp [bn_append, HT.out, HT2.out]; rfl, HB2⟩
      case measure => simp [intOf]
    · have hb : byt a 3 < 256 := Nat.mod_lt _ (by decide)
      have hbz : ((byt a 3 : Nat) : Int) = ((a : Int)) % 256 := by
        show ((a / 1 % 256 : Nat) : Int) = _
        omega
      have hand : bits BinOp.and IntKind.u32 ((a : Int)) 255 = ((byt a 3 : Nat) : Int) := by rw [hbz]; exact u32_and255 (by omega) (by omega)
      have HI := hid (HIT.out (byt a 3) hb wr HP.out)
      clear hbz
      obtain ⟨y, hy⟩ : ∃ y, byt a 3 = y := ⟨_, rfl⟩
      rw [hy] at hb hand HI HPN
      clear hy
      go_wp2_with (go_at_call 27; refine HI.out.mono ?_; rintro e w2 ⟨⟨t, rfl, ht⟩, B2⟩; have hts := t_size ht; have HT2 := hid ht; have HB2 := hid (HB.out.trans (B2.mono HB.out.size)); clear ht B2)
      go_roundw
      case rel => exact ⟨4, T ++ t, by omega, rfl, by go_num, by simp [ByteArray.size_append]; omega, by show _ = _; rw [HPN.out]; simp [bn_append, HT.out, HT2.out], HB2⟩
      case measure => simp [intOf]
    · have HT4 := HT
      go_wp2
      go_ret
      exact HGS.out _ _ ⟨⟨T, rfl, HT4.out⟩, HB.out⟩
end Go.Proofs.YtklplalfcpigcaaDoor.F
