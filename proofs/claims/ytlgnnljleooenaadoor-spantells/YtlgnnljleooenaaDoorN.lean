/- The contract of strconv.AppendInt at base 16, for what is no less than 0 and no greater than MaxRune. -/
import Derived.Test.YtlgnnljleooenaaDoorC
import Derived.Laws.Bits64b
namespace Go.Proofs.YtlgnnljleooenaaDoor
open Go.RowKit
set_option linter.unusedVariables false

/-- What is read of a table of math/bits. -/
def Tab (w : World) : Prop := w.cell? ⟨2, 15, none⟩ = some (.int .u8 4)
theorem Tab.below {A B : World} {n : Nat} (h : Below n A B) (hn : A.heap.size ≤ n) (t : Tab A) : Tab B := by
  unfold Tab at *
  exact (h.cell (p := ⟨2, 15, none⟩) (Nat.lt_of_lt_of_le (lt_of_cell t) hn)).trans t

set_option maxRecDepth 100000 in
theorem zeros64 (w : World) (hT : w.cell? ⟨2, 15, none⟩ = some (.int .u8 4)) : Calls Tryd.prog 90 #[.int .u64 16] w fun e W' => e = .returned (.int .i64 4) ∧ W' = w := by
  have e1 : IntKind.u64.wrap (-16) = 18446744073709551600 := by decide
  have e2 : bits BinOp.and IntKind.u64 16 18446744073709551600 = 16 := by decide
  have e3 : IntKind.u64.wrap 4573923408821661840 = 4573923408821661840 := by decide
  go_enter Tryd.func90, Tryd.ntmps90
  go_wp2
  go_ret
  exact ⟨rfl, rfl⟩
set_option maxRecDepth 100000 in
theorem zeros_any (w : World) (hT : Tab w) : Calls Tryd.prog 87 #[.int .u64 16] w fun e W' => e = .returned (.int .i64 4) ∧ W' = w := by
  go_enter Tryd.func87, Tryd.ntmps87
  go_wp2_with fail
  refine (zeros64 w hT).mono ?_
  rintro e w1 ⟨rfl, rfl⟩
  go_wp2
  go_ret
  exact ⟨rfl, rfl⟩
set_option maxRecDepth 100000 in
theorem power_any (w : World) : Calls Tryd.prog 86 #[.int .i64 16] w fun e W' => e = .returned (.bool true) ∧ W' = w := by
  go_enter Tryd.func86, Tryd.ntmps86
  go_wp2
  go_ret
  exact ⟨rfl, rfl⟩

def hexd (n : Nat) : Int := if n < 10 then 48 + n else 87 + n
def hxf : Nat → Nat → List Int
  | 0, n => [hexd n]
  | f + 1, n => if n < 16 then [hexd n] else hxf f (n / 16) ++ [hexd (n % 16)]
/-- A number, in hexadecimal. -/
def hx (n : Nat) : List Int := hxf 8 n

theorem digits_at : ∀ (d : Nat) (h : d < 16), (((⟨#[48, 49, 50, 51, 52, 53, 54, 55, 56, 57, 97, 98, 99, 100, 101, 102, 103, 104, 105, 106, 107, 108, 109, 110, 111, 112, 113, 114, 115, 116, 117, 118, 119, 120, 121, 122]⟩ : ByteArray)[d]'(Nat.lt_of_lt_of_le h (by decide))).toNat : Int) = hexd d := by
  decide
theorem drop_set (ys : List Value) (I : Nat) (x : Int) (ds : List Int) (h : I < ys.length) (hd : ys.drop (I + 1) = ds.map (Value.int .u8)) : (ys.set I (.int .u8 x)).drop I = (x :: ds).map (Value.int .u8) := by
  rw [List.drop_eq_getElem_cons (by simpa using h), List.getElem_set_self, List.drop_set_of_lt (by omega), hd]; rfl
theorem grown_below {w w1 w2 : World} {row : Option Nat} (h : Below w.heap.size w w1) (g : w1.grownBy w2 row) : w.grownBy w2 row :=
  ⟨g.os.trans h.os, g.tape.trans h.tape, g.output.trans h.output, Nat.le_trans h.size g.size, fun k hk hr => (g.block k (Nat.lt_of_lt_of_le hk h.size) hr).trans (h.block k hk)⟩
def szU (k m : Nat) : Prop := (k = 0 ∧ m ≤ 1114111) ∨ (k = 1 ∧ m ≤ 69631) ∨ (k = 2 ∧ m ≤ 4351) ∨ (k = 3 ∧ m ≤ 271) ∨ (k = 4 ∧ m ≤ 16) ∨ (k = 5 ∧ m ≤ 1)
theorem szU_lt {k m : Nat} (h : szU k m) : m ≤ 1114111 ∧ k ≤ 5 := by unfold szU at h; omega
theorem szU_step {k m : Nat} (h : szU k m) (hm : 16 ≤ m) : szU (k + 1) (m / 16) ∧ k ≤ 4 := by
  rcases h with ⟨rfl, h⟩ | ⟨rfl, h⟩ | ⟨rfl, h⟩ | ⟨rfl, h⟩ | ⟨rfl, h⟩ | ⟨rfl, h⟩
  · exact ⟨.inr (.inl ⟨rfl, by omega⟩), by omega⟩
  · exact ⟨.inr (.inr (.inl ⟨rfl, by omega⟩)), by omega⟩
  · exact ⟨.inr (.inr (.inr (.inl ⟨rfl, by omega⟩))), by omega⟩
  · exact ⟨.inr (.inr (.inr (.inr (.inl ⟨rfl, by omega⟩)))), by omega⟩
  · exact ⟨.inr (.inr (.inr (.inr (.inr ⟨rfl, by omega⟩)))), by omega⟩
  · omega

theorem slice113 (g I : Nat) (hI : I < 65) (W : World) : (Instr.sliceAt 113 (.pointer (some ⟨g, 0, none⟩)) (some (.int .i64 (I : Int))) none none).run Tryd.prog W = .ok (.slice (some ⟨g, I, none⟩) (65 - I) (65 - I)) W := by
  have hl : Tryd.prog.arrayLen 113 = 65 := by kernel_rfl
  rw [run_sliceAt_array_l W 113 ⟨g, 0, none⟩ (by kernel_rfl) .i64 (I : Int) (by omega) (by rw [hl]; omega), hl]
  have hs : (sizeOf (Tryd.prog.elem 113)).run Tryd.prog W = .ok 1 W := by kernel_rfl
  rw [hs]
  simp only [Result.andThen, slicedAt, Int.toNat_natCast, Nat.mul_one]
  rw [if_neg (by omega), addr_add, Nat.zero_add]

set_option maxRecDepth 100000 in
set_option maxHeartbeats 1600000 in
theorem bits_any (base : Nat) (v : Value) (n : Nat) (xs : List Value) (u : Nat) (hu : u ≤ 1114111) (w : World) (hT : Tab w) (hn : n ≤ 1000000) (hrow : w.ownsRow base 5 1 v n xs) (hb : base ≤ w.heap.size) :
    Calls Tryd.prog 78 #[v, .int .u64 u, .int .i64 16, .bool false, .bool true] w fun e W' => ∃ v', e = .returned (.tuple #[v', .string ⟨#[]⟩]) ∧ W'.ownsRow base 5 1 v' (n + (hx u).length) (xs ++ (hx u).map (Value.int .u8)) ∧ w.grownBy W' v.ownBlock := by
  go_enter Tryd.func78, Tryd.ntmps78
  go_wp2_with fail
  refine (power_any _).mono ?_
  rintro e w1 ⟨rfl, rfl⟩
  go_wp2_with fail
  refine (zeros_any _ (hT.below ((Below.refl _ w).alloc (Nat.le_refl _) _) (Nat.le_refl _))).mono ?_
  rintro e w1 ⟨rfl, rfl⟩
  go_wp2_with fail
  have hz : (w.alloc (.cells Tryd.zeroCells113 113)).ownsRow w.heap.size 113 1 (.slice (some ⟨w.heap.size, 0, none⟩) 65 65) 65 (List.replicate 65 (.int .u8 0)) :=
    ⟨by simp, .inr ⟨w.heap.size, 65, Tryd.zeroCells113, rfl, Nat.le_refl _, heap_alloc_new w _, Nat.le_refl _, by decide, by kernel_rfl, by kernel_rfl⟩⟩
  go_loopw [1, 13] (fun a i wr => ∃ (k I m : Nat) (ds : List Int) (ys : List Value), a = .int .u64 (m : Int) ∧ i = .int .i64 (I : Int) ∧ I + k = 65 ∧ szU k m ∧ wr.ownsRow w.heap.size 113 1 (.slice (some ⟨w.heap.size, 0, none⟩) 65 65) 65 ys ∧ Hid (ys.drop I = ds.map (Value.int .u8)) ∧ Hid (hx u = hxf (8 - k) m ++ ds) ∧ Below w.heap.size w wr)
    (fun a _ _ => (intOf a).toNat)
  case atStart => exact ⟨0, 65, u, [], List.replicate 65 (.int .u8 0), rfl, rfl, rfl, .inl ⟨rfl, hu⟩, hz, by show _ = _; rw [List.drop_eq_nil_of_le (by simp)]; rfl, by show _ = _; simp [hx], (Below.refl _ w).alloc (Nat.le_refl _) _⟩
  case round =>
    obtain ⟨k, I, m, ds, ys, rfl, rfl, hIk, hsz, hr, HD, HH, hB⟩ := hrel
    have hm := szU_lt hsz
    have HI := hid' hIk
    have hI1 : 60 ≤ I := by omega
    have hI2 : I ≤ 65 := by omega
    clear hIk hz
    by_cases h16 : 16 ≤ m
    · have hand : bits BinOp.and IntKind.u64 (m : Int) 15 = ((m % 16 : Nat) : Int) := by
        have := u64_and_nat m 15 (by omega) (by omega)
        rw [show m &&& 15 = m % 16 from Nat.and_two_pow_sub_one_eq_mod m 4] at this
        exact this
      obtain ⟨I', rfl⟩ : ∃ I', I = I' + 1 := ⟨I - 1, by omega⟩
      have h16' : (16 : Int) ≤ (m : Int) := by omega
      obtain ⟨y, hy⟩ : ∃ y, wr.cell? ⟨w.heap.size, I', none⟩ = some y := ⟨_, by rw [hr.cellAt I' (by omega), List.getElem?_eq_getElem (by rw [hr.1]; omega)]⟩
      have hfz := hr.frozenAt I'
      have b1 : ((m % 16 : Nat) : Int) < 36 := by omega
      have b2 : (I' : Int) < 65 := by omega
      go_wp2_with fail
      go_roundw
      case rel =>
        have e := digits_at (m % 16) (by omega)
        rw [e]
        have hst := hr.stored I' (.int .u8 (hexd (m % 16)))
        have hsz2 := szU_step hsz h16
        refine ⟨k + 1, I', m / 16, hexd (m % 16) :: ds, ys.set I' (.int .u8 (hexd (m % 16))), by rw [Int.natCast_ediv]; rfl, rfl, by have := HI.out; omega, hsz2.1, hst.1, ?_, ?_, hB.setCell (p := ⟨w.heap.size, I', none⟩) (Nat.le_refl _) _⟩
        · show _ = _
          exact drop_set ys I' _ ds (by rw [hr.1]; omega) HD.out
        · show _ = _
          rw [HH.out, show 8 - k = (8 - (k + 1)) + 1 by omega, hxf, if_neg (by omega), List.append_assoc]; rfl
      case measure => simp [intOf]; omega
    · obtain ⟨I', rfl⟩ : ∃ I', I = I' + 1 := ⟨I - 1, by omega⟩
      have h16' : ¬ (16 : Int) ≤ (m : Int) := by omega
      obtain ⟨y, hy⟩ : ∃ y, wr.cell? ⟨w.heap.size, I', none⟩ = some y := ⟨_, by rw [hr.cellAt I' (by omega), List.getElem?_eq_getElem (by rw [hr.1]; omega)]⟩
      have hfz := hr.frozenAt I'
      have b1 : (m : Int) < 36 := by omega
      have b2 : (I' : Int) < 65 := by omega
      have hst := hr.stored I' (.int .u8 (hexd m))
      have hb3 : Below w.heap.size w (wr.setCell ⟨w.heap.size, I', none⟩ (.int .u8 (hexd m))) := hB.setCell (p := ⟨w.heap.size, I', none⟩) (Nat.le_refl _) _
      have hrow3 := ownsRow_below hrow hb3 (Nat.le_refl _)
      have hdrop : (ys.set I' (.int .u8 (hexd m))).drop I' = (hx u).map (Value.int .u8) := by
        rw [drop_set ys I' _ ds (by rw [hr.1]; omega) HD.out, HH.out]
        have : hxf (8 - k) m = [hexd m] := by
          cases h : 8 - k with
          | zero => rfl
          | succ f => rw [hxf, if_pos (by omega)]
        rw [this]; rfl
      have hlen : (hx u).length = 65 - I' := by
        have := congrArg List.length hdrop
        rw [List.length_drop, List.length_set, hr.1, List.length_map] at this
        omega
      have hnews : ∀ (j : Nat) (x : Value), ((hx u).map (Value.int .u8))[j]? = some x → (wr.setCell ⟨w.heap.size, I', none⟩ (.int .u8 (hexd m))).cell? ((⟨w.heap.size, I', none⟩ : Addr).add j) = some x := by
        intro j x hj
        have hj1 : j < 65 - I' := by rw [← hlen]; simpa using (List.getElem?_eq_some_iff.1 hj).1
        rw [addr_add, hst.1.cellAt (I' + j) (by omega), ← hj, ← hdrop, List.getElem?_drop]
      have hsb : base ≤ (wr.setCell ⟨w.heap.size, I', none⟩ (.int .u8 (hexd m))).heap.size := Nat.le_trans hb hb3.size
      obtain ⟨i0, hi, hz0, hz1, hz2⟩ := info_parts Tryd.info5
      have hdg := digits_at m (by omega)
      have HX : Hid ((hx u).length = 65 - I') := hlen
      have HDR := hid' hdrop
      clear hdrop hlen
      have hsl := slice113 w.heap.size I' (by omega)
      have hI9 : 1 ≤ 65 - I' := by omega
      obtain ⟨L, hL⟩ : ∃ L, L = 65 - I' := ⟨_, rfl⟩
      rw [← hL] at hsl HX
      have hL9 : L ≤ 65 := by omega
      clear hL hI9
      have HN := hid' hnews
      clear hnews hst
      go_wp2_with ((at_builtin; refine wpList_append_own _ rfl _ _ 51 rfl base 5 i0 (.int .u8 0) 1 1 Tryd.underlying51 hi hz0 hz1 hz2 rfl (by decide) _ _ _ rfl hrow3 ⟨w.heap.size, I', none⟩ L L ((hx u).map (Value.int .u8)) rfl (by rw [List.length_map, HX.out, Nat.mul_one]) HN.out (by intro y hy; obtain ⟨c, _, rfl⟩ := List.mem_map.1 hy; rfl) (by unfold maxLen; omega) (by omega) hsb ?_; intro v' w4 hown4 hgrow4 _))
      have hb4 : w.grownBy w4 v.ownBlock := grown_below hb3 hgrow4
      go_ret2
      exact ⟨v', rfl, by rw [HX.out]; exact hown4, hb4⟩
set_option maxRecDepth 100000 in
set_option maxHeartbeats 1600000 in
theorem appendU_any (base : Nat) (v : Value) (n : Nat) (xs : List Value) (u : Nat) (hu : u ≤ 1114111) (w : World) (hT : Tab w) (hn : n ≤ 1000000) (hrow : w.ownsRow base 5 1 v n xs) (hb : base ≤ w.heap.size) :
    Calls Tryd.prog 54 #[v, .int .u64 u, .int .i64 16] w fun e W' => ∃ v', e = .returned v' ∧ W'.ownsRow base 5 1 v' (n + (hx u).length) (xs ++ (hx u).map (Value.int .u8)) ∧ w.grownBy W' v.ownBlock := by
  go_enter Tryd.func54, Tryd.ntmps54
  go_wp2_with fail
  refine (bits_any base v n xs u hu w hT hn hrow hb).mono ?_
  rintro e w1 ⟨v', rfl, h1, h2⟩
  go_wp2
  go_ret
  exact ⟨v', rfl, h1, h2⟩
set_option maxRecDepth 100000 in
set_option maxHeartbeats 1600000 in
theorem appendI_any (base : Nat) (v : Value) (n : Nat) (xs : List Value) (u : Nat) (hu : u ≤ 1114111) (w : World) (hT : Tab w) (hn : n ≤ 1000000) (hrow : w.ownsRow base 5 1 v n xs) (hb : base ≤ w.heap.size) :
    Calls Tryd.prog 44 #[v, .int .i64 u, .int .i64 16] w fun e W' => ∃ v', e = .returned v' ∧ W'.ownsRow base 5 1 v' (n + (hx u).length) (xs ++ (hx u).map (Value.int .u8)) ∧ w.grownBy W' v.ownBlock := by
  have h0 : ¬ (u : Int) < 0 := by omega
  have hwr : IntKind.u64.wrap (u : Int) = (u : Int) := by simp [IntKind.wrap, IntKind.bits, IntKind.signed]; omega
  go_enter Tryd.func44, Tryd.ntmps44
  go_wp2_with fail
  refine (appendU_any base v n xs u hu w hT hn hrow hb).mono ?_
  rintro e w1 ⟨v', rfl, h1, h2⟩
  go_wp2
  go_ret
  exact ⟨v', rfl, h1, h2⟩
set_option maxRecDepth 100000 in
set_option maxHeartbeats 1600000 in
theorem append_any (base : Nat) (v : Value) (n : Nat) (xs : List Value) (u : Nat) (hu : u ≤ 1114111) (w : World) (hT : Tab w) (hn : n ≤ 1000000) (hrow : w.ownsRow base 5 1 v n xs) (hb : base ≤ w.heap.size) :
    Calls Tryd.prog 37 #[v, .int .i64 u, .int .i64 16] w fun e W' => ∃ v', e = .returned v' ∧ W'.ownsRow base 5 1 v' (n + (hx u).length) (xs ++ (hx u).map (Value.int .u8)) ∧ w.grownBy W' v.ownBlock := by
  go_enter Tryd.func37, Tryd.ntmps37
  go_wp2_with fail
  refine (appendI_any base v n xs u hu w hT hn hrow hb).mono ?_
  rintro e w1 ⟨v', rfl, h1, h2⟩
  go_wp2
  go_ret
  exact ⟨v', rfl, h1, h2⟩
end Go.Proofs.YtlgnnljleooenaaDoor
