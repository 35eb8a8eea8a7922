/- strconv.FormatInt at base 16, of a control. (Stage 15.) -/
import Derived.Test.YtphkdagapoonjaaDoorLPC
import Derived.Laws.Bits64b
import Derived.OwnWalk
import Derived.Deep.WholeRow
import Derived.Maps.AppendAt
import Derived.RegionTactic
import Derived.Laws.OwnMore
import Derived.Laws.IdiomStrings
namespace Go.Proofs.YtphkdagapoonjaaDoor.Lx
open Go.RowKit
open Go.Proofs.YtphkdagapoonjaaDoor.F (bn bn_length bn_append bn_inj bn_get byte_bd hid bn_extract isEmpty_false isEmpty_true str_eq same_eq)
set_option linter.unusedVariables false

set_option maxRecDepth 100000 in
theorem zeros64 (w : World) (hT : w.cell? ⟨5, 15, none⟩ = some (.int .u8 4)) : Calls Tryd.prog 84 #[.int .u64 16] w fun e W' => e = .returned (.int .i64 4) ∧ W' = w := by
  have e1 : IntKind.u64.wrap (-16) = 18446744073709551600 := by decide
  have e2 : bits BinOp.and IntKind.u64 16 18446744073709551600 = 16 := by decide
  have e3 : IntKind.u64.wrap 4573923408821661840 = 4573923408821661840 := by decide
  go_enter Tryd.func84, Tryd.ntmps84
  go_wp2
  go_ret
  exact ⟨rfl, rfl⟩
set_option maxRecDepth 100000 in
theorem zeros_any (w : World) (hT : w.cell? ⟨5, 15, none⟩ = some (.int .u8 4)) : Calls Tryd.prog 78 #[.int .u64 16] w fun e W' => e = .returned (.int .i64 4) ∧ W' = w := by
  go_enter Tryd.func78, Tryd.ntmps78
  go_wp2_with fail
  refine (zeros64 w hT).mono ?_
  rintro e w1 ⟨rfl, rfl⟩
  go_wp2
  go_ret
  exact ⟨rfl, rfl⟩
set_option maxRecDepth 100000 in
theorem power_any (w : World) : Calls Tryd.prog 77 #[.int .i64 16] w fun e W' => e = .returned (.bool true) ∧ W' = w := by
  go_enter Tryd.func77, Tryd.ntmps77
  go_wp2
  go_ret
  exact ⟨rfl, rfl⟩
theorem wpList_alloc_great {P : Program} {ops : Array Oper} {Q : Exit → Act → World → Prop} {a : Act} {w : World} {rest : List Oper} {o : Oper} (hg : o.guard = none) (ty : TypeId) (ho : o.op = .alloc ty) (z : Array Value)
    (hz : ∀ w, (zeroValue ty).run P w = .ok (.agg z) w)
    (h : wpList P ops Q rest (a.put o.dst (.pointer (some ⟨w.heap.size, 0, none⟩))) (w.alloc (.cells z ty))) : wpList P ops Q (o :: rest) a w := by
  refine wpList_plain hg fun K hK => ?_
  unfold Oper.wp execOp
  simp only [ho]
  simp [Instr.alloc, hz, go_sem]
  exact hK _ _ h
def hexd (n : Nat) : Int := if n < 10 then 48 + n else 87 + n
def hxf : Nat → Nat → List Int
  | 0, n => [hexd n]
  | f + 1, n => if n < 16 then [hexd n] else hxf f (n / 16) ++ [hexd (n % 16)]
/-- The digits of a control's number. -/
def hx2 (u : Nat) : List Int := if u < 16 then [hd u] else [hd ((u / 16 : Nat) : Int), hd ((u % 16 : Nat) : Int)]
theorem hexd_hd (n : Nat) : hexd n = hd (n : Int) := by unfold hexd hd; split <;> split <;> omega
theorem hxf_two {n : Nat} (h : n < 128) : hxf 8 n = hx2 n := by
  unfold hx2
  by_cases h1 : n < 16
  · rw [hxf, if_pos h1, if_pos h1, hexd_hd]
  · rw [hxf, if_neg h1, hxf, if_pos (by omega), if_neg h1, hexd_hd, hexd_hd]; rfl
theorem hx2_bytes {n : Nat} (h : n < 128) : ∀ x ∈ hx2 n, 0 ≤ x ∧ x ≤ 255 := by
  intro x hx
  unfold hx2 at hx
  split at hx
  · have : x = hd n := by simpa using hx
    subst this; unfold hd; split <;> omega
  · have h1 := List.mem_cons.1 hx
    rcases h1 with rfl | h1
    · unfold hd; split <;> omega
    · have : x = hd ((n % 16 : Nat) : Int) := by simpa using h1
      subst this; unfold hd; split <;> omega
theorem digits_at : ∀ (d : Nat) (h : d < 16), (((⟨#[48, 49, 50, 51, 52, 53, 54, 55, 56, 57, 97, 98, 99, 100, 101, 102, 103, 104, 105, 106, 107, 108, 109, 110, 111, 112, 113, 114, 115, 116, 117, 118, 119, 120, 121, 122]⟩ : ByteArray)[d]'(Nat.lt_of_lt_of_le h (by decide))).toNat : Int) = hexd d := by
  decide
theorem drop_set (ys : List Value) (I : Nat) (x : Int) (ds : List Int) (h : I < ys.length) (hd : ys.drop (I + 1) = ds.map (Value.int .u8)) : (ys.set I (.int .u8 x)).drop I = (x :: ds).map (Value.int .u8) := by
  rw [List.drop_eq_getElem_cons (by simpa using h), List.getElem_set_self, List.drop_set_of_lt (by omega), hd]; rfl
def szU (k m : Nat) : Prop := (k = 0 ∧ m ≤ 65535) ∨ (k = 1 ∧ m ≤ 4095) ∨ (k = 2 ∧ m ≤ 255) ∨ (k = 3 ∧ m ≤ 15)
theorem szU_lt {k m : Nat} (h : szU k m) : m ≤ 65535 ∧ k ≤ 3 := by unfold szU at h; omega
theorem szU_step {k m : Nat} (h : szU k m) (hm : 16 ≤ m) : szU (k + 1) (m / 16) ∧ k ≤ 2 := by
  rcases h with ⟨rfl, h⟩ | ⟨rfl, h⟩ | ⟨rfl, h⟩ | ⟨rfl, h⟩
  · exact ⟨.inr (.inl ⟨rfl, by omega⟩), by omega⟩
  · exact ⟨.inr (.inr (.inl ⟨rfl, by omega⟩)), by omega⟩
  · exact ⟨.inr (.inr (.inr ⟨rfl, by omega⟩)), by omega⟩
  · omega
theorem addr_plus (g i j : Nat) : (⟨g, i, none⟩ : Addr).add j = ⟨g, i + j, none⟩ := by unfold Addr.add; split <;> simp_all
theorem slice65 (g I : Nat) (hI : I < 65) (W : World) : (Instr.sliceAt 113 (.pointer (some ⟨g, 0, none⟩)) (some (.int .i64 (I : Int))) none none).run Tryd.prog W = .ok (.slice (some ⟨g, I, none⟩) (65 - I) (65 - I)) W := by
  have hl : Tryd.prog.arrayLen 113 = 65 := by kernel_rfl
  rw [run_sliceAt_array_l W 113 ⟨g, 0, none⟩ (by kernel_rfl) .i64 (I : Int) (by omega) (by rw [hl]; omega), hl]
  have hs : (sizeOf (Tryd.prog.elem 113)).run Tryd.prog W = .ok 1 W := by kernel_rfl
  rw [hs]
  simp only [Result.andThen, slicedAt, Int.toNat_natCast, Nat.mul_one]
  rw [if_neg (by omega), addr_plus, Nat.zero_add]
theorem bytes_back (ns : List Int) (h : ∀ x ∈ ns, 0 ≤ x ∧ x ≤ 255) : (ns.map fun n => UInt8.ofNat n.toNat).map (fun c => (c.toNat : Int)) = ns := by
  rw [List.map_map]
  conv => rhs; rw [← List.map_id ns]
  apply List.map_congr_left
  intro x hx
  have := h x hx
  simp; omega
/-- Bytes that lie somewhere, as a text. -/
theorem conv_at (W : World) (g I n c : Nat) (ns : List Int) (hn : ns.length = n) (hb : ∀ x ∈ ns, 0 ≤ x ∧ x ≤ 255) (hc : ∀ j, j < n → W.cell? ⟨g, I + j, none⟩ = some (.int .u8 (ns[j]?.getD 0))) : ∃ t : ByteArray, (convert 38 9 (.slice (some ⟨g, I, none⟩) n c)).run Tryd.prog W = .ok (.string t) W ∧ bn t = ns := by
  subst hn
  refine ⟨⟨(ns.map fun n => UInt8.ofNat n.toNat).toArray⟩, ?_, ?_⟩
  · have := run_convert_bytes_back (P := Tryd.prog) W 38 9 5 ⟨g, I, none⟩ c (ns.map fun n => UInt8.ofNat n.toNat) Tryd.underlying38 Tryd.underlying5 Tryd.underlying9 (by
      intro j hj
      have hj' : j < ns.length := by simpa using hj
      rw [addr_plus, hc j hj', List.getElem?_eq_getElem hj']
      have hbj := hb ns[j] (List.getElem_mem hj')
      simp only [Option.getD_some, List.getElem_map, UInt8.toNat_ofNat']
      congr 2
      omega)
    rw [List.length_map] at this
    exact this
  · unfold bn
    simp only
    exact bytes_back ns hb
set_option maxRecDepth 100000 in
set_option maxHeartbeats 1600000 in
theorem bits_any (u : Nat) (hu : u < 128) (w : World) (hT : w.cell? ⟨5, 15, none⟩ = some (.int .u8 4)) :
    Calls Tryd.prog 63 #[.slice none 0 0, .int .u64 u, .int .i64 16, .bool false, .bool false] w fun e W' => (∃ t, e = .returned (.tuple #[.slice none 0 0, .string t]) ∧ bn t = hx2 u) ∧ Below w.heap.size w W' := by
  have HHX := hid (hxf_two hu)
  have HBY := hid (hx2_bytes hu)
  obtain ⟨z, hzv, hzl⟩ : ∃ z : Array Value, (∀ w, (zeroValue 113).run Tryd.prog w = .ok (.agg z) w) ∧ z.toList = List.replicate 65 (.int .u8 0) := ⟨(List.replicate 65 (.int .u8 0)).toArray, (zero_of_info (P := Tryd.prog) (t := 113) (n := 65) (by kernel_rfl)).1, rfl⟩
  go_enter Tryd.func63, Tryd.ntmps63
  go_wp2_with ((refine wpList_alloc_great rfl 113 rfl z hzv ?_))
  refine (power_any _).mono ?_
  rintro e w1 ⟨rfl, rfl⟩
  go_wp2_with fail
  refine (zeros_any _ (keeps ((Below.refl _ w).alloc (Nat.le_refl _) _) hT)).mono ?_
  rintro e w1 ⟨rfl, rfl⟩
  go_wp2_with fail
  have hzs : z.size = 65 := by rw [← Array.length_toList, hzl]; simp
  have hz : (w.alloc (.cells z 113)).ownsRow w.heap.size 113 1 (.slice (some ⟨w.heap.size, 0, none⟩) 65 65) 65 (List.replicate 65 (.int .u8 0)) :=
    ⟨by simp, .inr ⟨w.heap.size, 65, z, rfl, Nat.le_refl _, heap_alloc_new w _, Nat.le_refl _, by decide, hzs, by rw [hzl]; rfl⟩⟩
  go_loopw [1, 13] (fun a i wr => ∃ (k I m : Nat) (ds : List Int) (ys : List Value), a = .int .u64 (m : Int) ∧ i = .int .i64 (I : Int) ∧ I + k = 65 ∧ szU k m ∧ wr.ownsRow w.heap.size 113 1 (.slice (some ⟨w.heap.size, 0, none⟩) 65 65) 65 ys ∧ Hid (ys.drop I = ds.map (Value.int .u8)) ∧ Hid (hxf 8 u = hxf (8 - k) m ++ ds) ∧ Below w.heap.size w wr)
    (fun a _ _ => (intOf a).toNat)
  case atStart => exact ⟨0, 65, u, [], List.replicate 65 (.int .u8 0), rfl, rfl, rfl, .inl ⟨rfl, by omega⟩, hz, by show _ = _; rw [List.drop_eq_nil_of_le (by simp)]; rfl, by show _ = _; simp, (Below.refl _ w).alloc (Nat.le_refl _) _⟩
  case round =>
    obtain ⟨k, I, m, ds, ys, rfl, rfl, hIk, hsz, hr, HD, HH, hB⟩ := hrel
    have hm := szU_lt hsz
    have HI := hid hIk
    have hI1 : 60 ≤ I := by omega
    have hI2 : I ≤ 65 := by omega
    clear hIk hz
    by_cases h16 : 16 ≤ m
    · have hand : bits BinOp.and IntKind.u64 (m : Int) 15 = ((m % 16 : Nat) : Int) := by
        have := u64_and_nat m 15 (by omega) (by omega)
        rw [show m &&& 15 = m % 16 from Nat.and_two_pow_sub_one_eq_mod m 4] at this
        exact this
      obtain ⟨I', rfl⟩ : ∃ I', I = I' + 1 := ⟨I - 1, by omega⟩
      have h16' : (16 : Int) ≤ (m : Int) := by omega
      obtain ⟨y, hy⟩ : ∃ y, wr.cell? ⟨w.heap.size, I', none⟩ = some y := ⟨_, by rw [hr.cellAt I' (by omega), List.getElem?_eq_getElem (by rw [hr.1]; omega)]⟩
      have hfz := hr.frozenAt I'
      have b1 : ((m % 16 : Nat) : Int) < 36 := by omega
      have b2 : (I' : Int) < 65 := by omega
      go_wp2_with fail
      go_roundw
      case rel =>
        have e := digits_at (m % 16) (by omega)
        rw [e]
        have hst := hr.stored I' (.int .u8 (hexd (m % 16)))
        have hsz2 := szU_step hsz h16
        refine ⟨k + 1, I', m / 16, hexd (m % 16) :: ds, ys.set I' (.int .u8 (hexd (m % 16))), by rw [Int.natCast_ediv]; rfl, rfl, by have := HI.out; omega, hsz2.1, hst.1, ?_, ?_, hB.setCell (p := ⟨w.heap.size, I', none⟩) (Nat.le_refl _) _⟩
        · show _ = _
          exact drop_set ys I' _ ds (by rw [hr.1]; omega) HD.out
        · show _ = _
          rw [HH.out, show 8 - k = (8 - (k + 1)) + 1 by omega, hxf, if_neg (by omega), List.append_assoc]; rfl
      case measure => simp [intOf]; omega
    · obtain ⟨I', rfl⟩ : ∃ I', I = I' + 1 := ⟨I - 1, by omega⟩
      have h16' : ¬ (16 : Int) ≤ (m : Int) := by omega
      obtain ⟨y, hy⟩ : ∃ y, wr.cell? ⟨w.heap.size, I', none⟩ = some y := ⟨_, by rw [hr.cellAt I' (by omega), List.getElem?_eq_getElem (by rw [hr.1]; omega)]⟩
      have hfz := hr.frozenAt I'
      have b1 : (m : Int) < 36 := by omega
      have b2 : (I' : Int) < 65 := by omega
      have hst := (hr.stored I' (.int .u8 (hexd m))).1
      have hb3 : Below w.heap.size w (wr.setCell ⟨w.heap.size, I', none⟩ (.int .u8 (hexd m))) := hB.setCell (p := ⟨w.heap.size, I', none⟩) (Nat.le_refl _) _
      have hdrop : (ys.set I' (.int .u8 (hexd m))).drop I' = (hxf 8 u).map (Value.int .u8) := by
        rw [drop_set ys I' _ ds (by rw [hr.1]; omega) HD.out, HH.out]
        have : hxf (8 - k) m = [hexd m] := by
          cases h : 8 - k with
          | zero => rfl
          | succ f => rw [hxf, if_pos (by omega)]
        rw [this]; rfl
      rw [HHX.out] at hdrop
      have hlen : (hx2 u).length = 65 - I' := by
        have := congrArg List.length hdrop
        rw [List.length_drop, List.length_set, hr.1, List.length_map] at this
        omega
      have hcell : ∀ j, j < 65 - I' → (wr.setCell ⟨w.heap.size, I', none⟩ (.int .u8 (hexd m))).cell? ⟨w.heap.size, I' + j, none⟩ = some (.int .u8 ((hx2 u)[j]?.getD 0)) := fun j hj => by
        rw [hst.cellAt (I' + j) (by omega)]
        have h1 := congrArg (·[j]?) hdrop
        simp only [List.getElem?_drop, List.getElem?_map] at h1
        rw [h1, List.getElem?_eq_getElem (by omega)]; rfl
      obtain ⟨t, hcv, htb⟩ := conv_at _ w.heap.size I' (65 - I') (65 - I') (hx2 u) hlen HBY.out hcell
      have HTB := hid htb
      have hdg := digits_at m (by omega)
      have hsl := slice65 w.heap.size I' (by omega)
      obtain ⟨L, hL⟩ : ∃ L, L = 65 - I' := ⟨_, rfl⟩
      rw [← hL] at hsl hcv
      have hL9 : L ≤ 65 := by omega
      have HB3 := hid hb3
      clear hL hdrop hlen hcell htb hst hb3
      go_wp2
      go_ret2
      exact ⟨⟨t, rfl, HTB.out⟩, HB3.out⟩
set_option maxRecDepth 100000 in
set_option maxHeartbeats 1600000 in
theorem formatI_any (u : Nat) (hu : u < 128) (w : World) (hT : w.cell? ⟨5, 15, none⟩ = some (.int .u8 4)) : Calls Tryd.prog 47 #[.int .i64 u, .int .i64 16] w fun e W' => (∃ t, e = .returned (.string t) ∧ bn t = hx2 u) ∧ Below w.heap.size w W' := by
  have hw : IntKind.u64.wrap (u : Int) = (u : Int) := by rw [IntKind.wrap_u64]; omega
  have HB := hid (bits_any u hu w hT)
  go_enter Tryd.func47, Tryd.ntmps47
  go_wp2_with fail
  refine HB.out.mono ?_
  rintro e w1 ⟨⟨t, rfl, ht⟩, hB⟩
  have HT := hid ht
  clear ht
  go_wp2
  go_ret
  exact ⟨⟨t, rfl, HT.out⟩, hB⟩
set_option maxRecDepth 100000 in
set_option maxHeartbeats 1600000 in
theorem format_any (u : Nat) (hu : u < 128) (w : World) (G : Gl w) : Calls Tryd.prog 37 #[.int .i64 u, .int .i64 16] w fun e W' => (∃ t, e = .returned (.string t) ∧ bn t = hx2 u) ∧ Below w.heap.size w W' := by
  have HB := hid (formatI_any u hu w G.brui)
  clear G
  go_enter Tryd.func37, Tryd.ntmps37
  go_wp2_with fail
  refine HB.out.mono ?_
  rintro e w1 ⟨⟨t, rfl, ht⟩, hB⟩
  have HT := hid ht
  clear ht
  go_wp2
  go_ret
  exact ⟨⟨t, rfl, HT.out⟩, hB⟩
end Go.Proofs.YtphkdagapoonjaaDoor.Lx
